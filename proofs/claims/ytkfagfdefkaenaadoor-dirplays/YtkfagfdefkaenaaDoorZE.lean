/-
  Mat, Fin: joined by program; no statement is proved here.
-/
import Derived.Test.YtkfagfdefkaenaaDoorZC
import Derived.Test.YtkfagfdefkaenaaDoorZD
/-
  The iterator over the slots in which a hash is found; no statement is proved here.
-/
namespace Go.Proofs.YtkfagfdefkaenaaDoor
open Go.RowKit Go.Shelf
open Pr (Gp sq pl)
attribute [local go_sem] Oper.semAt_some run_store_func wide_fn wide_depth

set_option maxRecDepth 100000 in
set_option maxHeartbeats 4000000 in
theorem matches_gives (n : Nat) (hn : 8 ≤ n) (Bt Bh b o c h G : Nat) (T : List Nat) (R : Obj) (hS : Shp T G) (hh : h < 18446744073709551616) (O : World → Nat → Prop) (w : World)
    (hBt : Boxed w Bt 22 (.slice (some ⟨b, o, none⟩) (3 + 17 * G) c)) (hBh : Boxed w Bh 37 (.int .u64 (h : Nat))) (hR : w.heap[b]? = some R) (hRc : R.isCells = true) (hT : Wd w (some ⟨b, o, none⟩) T) (hTb : Tb w)
    (hO : ∀ k ∈ [0, Bt, Bh, b], ¬ O w k) :
    GivesS Fence.wide n Tryd.prog 101 #[.pointer (some ⟨Bh, 0, none⟩), .pointer (some ⟨Bt, 0, none⟩)] penc O (fun p => p.1 < G ∧ p.2 < 8 ∧ hsw T p.1 p.2 = h) (fun ys => ys = mts T h G) (fun pre => pre <+: mts T h G) (8 * G) w := by
  intro l J Jx W1 hl hb hOb hJ hJx hY h0
  have hE1 := below_ext hb
  obtain ⟨tab, htab⟩ : ∃ tab, w.heap[0]? = some tab := ⟨_, Array.getElem?_eq_getElem hTb.lt⟩
  have htc : tab.isCells = true := by
    have := hTb 0 (by omega)
    cases tab with
    | cells cs t m => rfl
    | _ => simp [World.cell?, htab] at this
  have hMk : ∀ k ob, k ∈ [0, Bt, Bh, b] → w.heap[k]? = some ob → ob.isCells = true → Mine O k ob W1 := fun k ob hk hob hc => ⟨hE1.keep hob (by simp), hc, fun q => hO k hk (hOb k (lt_of_heap hob) q)⟩
  have hM0 : Mines O [(0, tab), (Bt, .cells #[.slice (some ⟨b, o, none⟩) (3 + 17 * G) c] 22 (0, 0)), (Bh, .cells #[.int .u64 (h : Nat)] 37 (0, 0)), (b, R)] W1 := by
    refine Mines.cons (hMk _ _ (by simp) htab htc) (Mines.cons (hMk _ _ (by simp) hBt rfl) (Mines.cons (hMk _ _ (by simp) hBh rfl) (Mines.cons (hMk _ _ (by simp) hR hRc) (Mines.nil _ _))))
  obtain ⟨hJ1, hM1⟩ := mines_new hJ h0 hM0 (.cells #[.func (.yield l) #[] #[]] 150) rfl
  obtain ⟨hJ2, hM2⟩ := mines_new hJ hJ1 hM1 (.cells #[.int .u8 (h % 128 : Nat)] 5) rfl
  obtain ⟨hJ3, hM3⟩ := mines_new hJ hJ2 hM2 (.cells #[.int .i64 (G : Nat)] 3) rfl
  obtain ⟨hJ4, hM4⟩ := mines_new hJ hJ3 hM3 (.cells #[.int .i64 (h / 128 % G : Nat)] 3) rfl
  simp only [World.size_alloc] at hM1 hM2 hM3 hM4
  have hE2 := hE1.trans (Ext.alloc [] W1 (.cells #[.func (.yield l) #[] #[]] 150))
  have hE3 := hE2.trans (Ext.alloc [] _ (.cells #[.int .u8 (h % 128 : Nat)] 5))
  have hE4 := hE3.trans ((Ext.alloc [] _ (.cells #[.int .i64 (G : Nat)] 3)).trans (Ext.alloc [] _ (.cells #[.int .i64 (h / 128 % G : Nat)] 3)))
  have cH := Boxed.cell (hE2.keep hBh (by simp))
  have cT := Boxed.cell (hE3.keep hBt (by simp))
  have K1 := fun u => split_any h hh u
  have hr8 : h % 128 < 128 := Nat.mod_lt _ (by omega)
  have K2 := groupsOf_any (some ⟨b, o, none⟩) (3 + 17 * G) c T _ (hT.keep0 hE3) hS.len (by omega) (by rw [hS.g0]; exact hS.gp.le)
  rw [hS.g0] at K2
  have K3 := Pr.seq_ok (h / 128) G hS.gp ((W1.alloc (.cells #[.func (.yield l) #[] #[]] 150)).alloc (.cells #[.int .u8 (h % 128 : Nat)] 5))
  simp only [World.size_alloc] at K3
  have HSt := hid (fun m (hm : 2 ≤ m) W hF hB => Pr.seq_stops m hm (W1.heap.size + 1 + 1 + 1) (W1.heap.size + 1 + 1) (h / 128) G hS.gp W hF hB)
  have hTW := hid (hT.keep0 hE4)
  have HE4 := hid hE4
  have HTb := hid (hTb.keep0 hE4)
  have HS := hid hS
  have HJ := hid hJ
  have HJx := hid hJx
  have HY := hid hY
  have HJ4 := hid hJ4
  have HM4 := hid hM4
  have HTlen := hid hS.len
  have hG1 := hS.gp.pos
  have hG2 := hS.gp.le
  refine callsIn_of_wp_marks Tryd.func101 rfl trivial ?_ rfl
  simp only [Tryd.ntmps101, List.size_toArray, List.length_cons, List.length_nil, Nat.reduceAdd, Nat.reduceSub, Array.replicate_succ, Array.replicate_zero, List.push_toArray, List.append_toArray, List.nil_append, List.cons_append]
  clear hE1 hE2 hE3 hE4 hMk hM0 hM1 hM2 hM3 hM4 hJ1 hJ2 hJ3 hJ4 hS hJ hJx hY h0 hOb hb hO hBt hBh hR hRc hT hTb htab htc
  generalize hq1 : h / 128 = h1 at *
  generalize hq2 : h % 128 = h2 at *
  gi_wp2_with fail
  refine wpIn_wide.2 (wp_scope_straight ((wpIn_wide (n := n)).1 ?_))
  gi_wp2_with (first | (gi_at_call 102; refine (callsIn_wide.2 (K1 _)).mono ?_; rintro _ _ ⟨rfl, rfl⟩) | (gi_at_call 94; refine (callsIn_wide.2 K2).mono ?_; rintro _ _ ⟨rfl, rfl⟩) | (gi_at_call 103; refine (callsIn_wide.2 K3).mono ?_; rintro _ _ ⟨rfl, rfl⟩))
  refine wpIn_label ?_
  obtain ⟨z, hz⟩ : ∃ z, z = W1.heap.size := ⟨_, rfl⟩
  obtain ⟨W4, hW4⟩ : ∃ W4, (((W1.alloc (.cells #[.func (.yield l) #[] #[]] 150)).alloc (.cells #[.int .u8 (h2 : Nat)] 5)).alloc (.cells #[.int .i64 (G : Nat)] 3)).alloc (.cells #[.int .i64 (h1 % G : Nat)] 3) = W4 := ⟨_, rfl⟩
  have hz4 : W4.heap.size = z + 4 := by rw [← hW4, hz]; simp
  simp only [Int.natCast_emod] at hW4
  have HM4' : Hid (Mines O [(z + 1 + 1 + 1, .cells #[.int .i64 (h1 % G : Nat)] 3), (z + 1 + 1, .cells #[.int .i64 (G : Nat)] 3), (z + 1, .cells #[.int .u8 (h2 : Nat)] 5), (z, .cells #[.func (.yield l) #[] #[]] 150), (0, tab), (Bt, .cells #[.slice (some ⟨b, o, none⟩) (3 + 17 * G) c] 22 (0, 0)), (Bh, .cells #[.int .u64 (h : Nat)] 37 (0, 0)), (b, R)] W4) := by
    show Mines _ _ _
    rw [hz, ← hW4]; exact HM4.out
  clear HM4
  simp only [Int.natCast_emod] at HJ4 HM4' hTW HE4 HTb
  rw [hW4] at HJ4 hTW HE4 HTb
  gi_wp2_with fail
  rw [hW4]
  rw [← hz] at HSt ⊢
  clear K1 K2 K3 cH cT
  have hcast : ((h1 : Int) % (G : Int)) = ((h1 % G : Nat) : Int) := by simp
  have hbF : Boxed W4 (z + 1 + 1 + 1) 3 (.int .i64 (h1 % G : Nat)) := by rw [← hcast]; exact (HM4'.out _ (List.mem_cons_self ..)).1
  have hbG : Boxed W4 (z + 1 + 1) 3 (.int .i64 (G : Nat)) := (HM4'.out (z + 1 + 1, _) (by simp)).1
  have HTW := hTW
  have HR4 := hid (HM4'.out (b, R) (by simp)).1
  have hJz := hid (show Cal O J W4.heap.size from HJ.out.up (by omega))
  have HZ := hid hz
  have hzl : z ≤ W1.heap.size ∧ W1.heap.size ≤ z := by omega
  clear hz hW4
  refine wpIn_rangeFunc_ownH rfl (by omega) (gf := 122) (lb := #[.pointer (some ⟨z + 1 + 1 + 1, 0, none⟩), .pointer (some ⟨z + 1 + 1, 0, none⟩)]) rfl trivial (enters_of Tryd.func122 (by kernel_rfl) rfl)
    (HSt.out (n - 1) (by omega) W4 hbF hbG) Pr.kq_t (Pr.kq_b (by simp; omega)) (Below.refl _ _) (fun _ => rfl)
    (fun pre W => (J (mtl T h (pre.map Subtype.val)) W ∧ Mines O [(z + 1 + 1 + 1, .cells #[.int .i64 ((h1 : Int) % (G : Int))] 3), (z + 1 + 1, .cells #[.int .i64 (G : Nat)] 3), (z + 1, .cells #[.int .u8 (h2 : Nat)] 5), (z, .cells #[.func (.yield l) #[] #[]] 150), (0, tab), (Bt, .cells #[.slice (some ⟨b, o, none⟩) (3 + 17 * G) c] 22 (0, 0)), (Bh, .cells #[.int .u64 (h : Nat)] 37 (0, 0)), (b, R)] W) ∧ ∀ g ∈ pre, hasE T g.val = false)
    (fun cd pre W => cd = .exit 0 ∧ ∃ A x, pre = A ++ [x] ∧ (∀ g ∈ A, hasE T g.val = false) ∧ ((∃ ps, ps <+: mtl T h (pre.map Subtype.val) ∧ Jx ps W) ∨ (hasE T x.val = true ∧ J (mtl T h (pre.map Subtype.val)) W)))
    (OwnFrom.and (hJz.out.mines (fun pre : List {x : Nat // x < G} => mtl T h (pre.map Subtype.val)) _) (ownFrom_pure _ _))
    (fun cd pre A B row hs hg hr => by
      obtain ⟨h1, A', x, h2, h3, h4⟩ := hs
      refine ⟨h1, A', x, h2, h3, ?_⟩
      rcases h4 with ⟨ps, hp, hj⟩ | ⟨hx, hj⟩
      · exact .inl ⟨ps, hp, HJx.out ps A B row hj hg (fun r e => ⟨by have := (hr r e).1; omega, (hr r e).2⟩)⟩
      · exact .inr ⟨hx, hJz.out.own _ A B row hj hg hr⟩)
    ⟨⟨HJ4.out, HM4'.out⟩, by simp⟩
    (fun x a' W => ∃ Bx, (∃ s, J s W ∧ Mines O [(Bx, .cells #[.int .i64 (x.val : Nat)] 3)] W) ∧ a' = { tmps := #[.func (.yield l) #[] #[], .pointer (some ⟨Bh, 0, none⟩), .pointer (some ⟨Bt, 0, none⟩), .pointer (some ⟨z, 0, none⟩), .int .u64 (h1 : Nat), .pointer (some ⟨z + 1, 0, none⟩), .func (.func 122) #[] #[.pointer (some ⟨z + 1 + 1 + 1, 0, none⟩), .pointer (some ⟨z + 1 + 1, 0, none⟩)], .int .i64 0, .pointer (some ⟨Bx, 0, none⟩), undef, undef, .tuple #[.int .u64 (h1 : Nat), .int .u8 (h2 : Nat)], .int .u64 (h : Nat), .tuple #[.int .u64 (h1 : Nat), .int .u8 (h2 : Nat)], .int .u64 (h1 : Nat), .int .u8 (h2 : Nat), .tuple #[.func (.func 122) #[] #[.pointer (some ⟨z + 1 + 1 + 1, 0, none⟩), .pointer (some ⟨z + 1 + 1, 0, none⟩)], .int .i64 0], .int .u64 (h1 : Nat), .slice (some ⟨b, o, none⟩) (3 + 17 * G) c, .int .i64 (G : Nat), .tuple #[.func (.func 122) #[] #[.pointer (some ⟨z + 1 + 1 + 1, 0, none⟩), .pointer (some ⟨z + 1 + 1, 0, none⟩)], .int .i64 0], .func (.func 122) #[] #[.pointer (some ⟨z + 1 + 1 + 1, 0, none⟩), .pointer (some ⟨z + 1 + 1, 0, none⟩)], .int .i64 0, .func (.func 122) #[] #[.pointer (some ⟨z + 1 + 1 + 1, 0, none⟩), .pointer (some ⟨z + 1 + 1, 0, none⟩)], .int .i64 (x.val : Nat), undef, undef, undef, undef, undef, undef, undef, undef, undef, undef, undef, undef, undef, undef, undef, undef, undef, undef, undef, undef, undef, undef, undef, undef, undef, undef, undef, undef], defers := [] })
    (fun x a' _ A B row hs hg hr => by
      obtain ⟨Bx, ⟨s, h1, h2⟩, h3⟩ := hs
      exact ⟨Bx, ⟨s, hJz.out.own s A B row h1 hg hr, h2.stp hJz.out h1 ⟨hg, hr⟩⟩, h3⟩)
    ?assign ?body ?done ?stop
  case assign =>
    rintro l2 pre x W K ⟨⟨hi, hm⟩, he⟩ hK
    have hn := mines_new hJz.out hi hm (.cells #[.int .i64 (x.val : Nat)] 3) rfl
    have HN := hid hn
    have HE := hid he
    clear hi hm he hn
    gi_wp2
    exact hK _ _ ((KeepsOthers.alloc _ _).from _) (Pr.Kq.of_ext (Ext.alloc [] _ _) (by simp)) ⟨⟨HN.out.1, HN.out.2.tail⟩, HE.out⟩ ⟨W.heap.size, ⟨_, HN.out.1, Mines.cons (HN.out.2 _ (List.mem_cons_self ..)) (Mines.nil _ _)⟩, rfl⟩
  case done =>
    rintro D zs W hD hzs ⟨⟨hi, _⟩, he⟩ hK
    have HR := hid (show J (mts T h G) W by rw [← hq1] at hzs; rw [← mts_done (by intro g hg; obtain ⟨y, hy, rfl⟩ := List.mem_map.1 hg; exact he y hy) hzs]; exact hi)
    clear hi he hzs
    gi_wp2_with fail
    try rw [Exit.noGoto_normal]
    refine ⟨by simp, .inl ⟨_, _, rfl, run_takeDeferred hK, _, results_none rfl _ _ _, ⟨_, rfl⟩, .inl ⟨_, rfl, ?_⟩⟩⟩
    exact hJz.out.own.putObj _ HR.out hD hK rfl
  case stop =>
    rintro D cd pre W hD hSp ⟨rfl, A, x, rfl, hA, hx⟩ hK
    have hA' : ∀ g ∈ A.map Subtype.val, hasE T g = false := by intro g hg; obtain ⟨y, hy, rfl⟩ := List.mem_map.1 hg; exact hA y hy
    have HR : Hid ((∃ xs, xs = mts T h G ∧ J xs W) ∨ (∃ ps, ps <+: mts T h G ∧ Jx ps W)) := by
      rw [← hq1] at hSp
      rw [List.map_append, List.map_cons, List.map_nil] at hSp hx
      rcases hx with ⟨ps, hp, hj⟩ | ⟨hx, hj⟩
      · exact .inr ⟨ps, hp.trans (mts_of hA' hSp), hj⟩
      · exact .inl ⟨_, mts_end hA' hx hSp, hj⟩
    clear hSp hA hA' hx
    gi_wp2_with fail
    try rw [Exit.noGoto_normal]
    refine ⟨by simp, .inl ⟨_, _, rfl, run_takeDeferred hK, _, results_none rfl _ _ _, ⟨_, rfl⟩, ?_⟩⟩
    rcases HR.out with ⟨xs, h1, h2⟩ | ⟨ps, h1, h2⟩
    · exact .inl ⟨xs, h1, hJz.out.own.putObj _ h2 hD hK rfl⟩
    · exact .inr ⟨ps, h1, HJx.out.putObj _ h2 (by omega) hK rfl⟩
  case body =>
    rintro l2 pre x a' W hl2 ⟨r2, hr2⟩ ⟨⟨hi, hm⟩, he⟩ ⟨Bx, ⟨s, _, hmx⟩, rfl⟩ hlt
    have hMM : Mines O ((Bx, .cells #[.int .i64 (x.val : Nat)] 3) :: [(z + 1 + 1 + 1, .cells #[.int .i64 ((h1 : Int) % (G : Int))] 3), (z + 1 + 1, .cells #[.int .i64 (G : Nat)] 3), (z + 1, .cells #[.int .u8 (h2 : Nat)] 5), (z, .cells #[.func (.yield l) #[] #[]] 150), (0, tab), (Bt, .cells #[.slice (some ⟨b, o, none⟩) (3 + 17 * G) c] 22 (0, 0)), (Bh, .cells #[.int .u64 (h : Nat)] 37 (0, 0)), (b, R)]) W := Mines.cons (hmx _ (List.mem_cons_self ..)) hm
    have cT := Boxed.cell (show Boxed W Bt 22 (.slice (some ⟨b, o, none⟩) (3 + 17 * G) c) from (hMM (Bt, _) (by simp)).1)
    have cX := Boxed.cell (show Boxed W Bx 3 _ from (hMM _ (List.mem_cons_self ..)).1)
    have hx := x.property
    have hRW : W.heap[b]? = some R := (hMM (b, R) (by simp)).1
    have hTW1 := wd_obj HTW.out HR4.out hRW
    obtain ⟨_, _, heq, hTc⟩ := hTW1.at_ (by intro e; have := HTlen.out; rw [e] at this; simp at this; omega)
    cases heq
    have cC := hTc (3 + 17 * x.val) (by rw [HTlen.out]; omega)
    have KC := fun u => controlAt_any x.val (by omega) u
    have HTC := hid hTc
    have HG0 := hid (show W.heap[z + 1 + 1]? = some (.cells #[.int .i64 (G : Nat)] 3) from (hMM (z + 1 + 1, _) (by simp)).1)
    have HMM := hid hMM
    have HI := hid hi
    have HE := hid he
    have HRW := hid hRW
    have HL := hid hr2
    clear hm hmx hMM hi he hTc hTW1 hRW hr2
    rw [show T.getD (3 + 17 * x.val) 0 = cw T x.val from rfl] at cC
    have hcw := HS.out.cw_lt x.val
    obtain ⟨xv, hxv⟩ : ∃ xv, x.val = xv := ⟨_, rfl⟩
    simp only [hxv] at cC hcw KC cX hx HMM ⊢
    obtain ⟨cx, hcx⟩ : ∃ cx, cw T xv = cx := ⟨_, rfl⟩
    rw [hcx] at cC hcw
    gi_wp2_with fail
    refine wpIn_region_quietR (by kernel_rfl) (by kernel_rfl) (by kernel_rfl) ?_
    repeat (gi_big_quiet_step (first | (gi_at_call 65; refine CallsIn.quiet_of_same ((callsIn_wide.2 (KC _)).inRound l2))))
    refine wpQuietIn_nil ?_
    rintro _ ⟨nq, rfl⟩
    have hst := stp_drewN W4.heap.size W nq
    have hM := HMM.out.stp hJz.out HI.out hst
    have hi := hJz.out.own _ W (W.drewN nq) none HI.out hst.1 hst.2
    have hr2 : (W.drewN nq).heap[l2]? = some (.loop r2) := HL.out
    have hkf : KeepsFrom W4.heap.size W (W.drewN nq) := ⟨Nat.le_refl _, fun _ _ _ h _ => h⟩
    have hRW : (W.drewN nq).heap[b]? = some R := HRW.out
    obtain ⟨V, hV⟩ : ∃ V, W.drewN nq = V := ⟨_, rfl⟩
    rw [hV] at hM hi hr2 hkf hRW ⊢
    clear cT cX cC HMM HI HL KC HTC HRW hst hV
    have c5 := Boxed.cell (show Boxed V (z + 1) 5 (.int .u8 (h2 : Nat)) from (hM (z + 1, _) (by simp)).1)
    have K1 := fun u => match_any cx h2 hcw (by omega) u
    have hm256 := mt_lt256 cx h2
    have K2 := fun m u => bits_any m u
    obtain ⟨hi1, hM1⟩ := mines_new hJz.out hi hM (.cells #[.int .u64 (mt cx h2 : Nat)] 37) rfl
    have hr2' := (Ext.alloc [] V (.cells #[.int .u64 (mt cx h2 : Nat)] 37)).keep hr2 (by simp)
    have hkf1 := hkf.trans ((KeepsOthers.alloc V (.cells #[.int .u64 (mt cx h2 : Nat)] 37)).from W4.heap.size)
    have hRW1 := (Ext.alloc [] V (.cells #[.int .u64 (mt cx h2 : Nat)] 37)).keep hRW (by simp)
    have HI1 := hid hi1
    have HM1 := hid hM1
    have HR2 := hid hr2'
    have HKF := hid hkf1
    have HRW := hid hRW1
    have HMsk := hid hm256
    obtain ⟨m, hm⟩ : ∃ m, mt cx h2 = m := ⟨_, rfl⟩
    rw [hm] at HI1 HM1 HR2 HKF HRW K1 HMsk
    clear hM hi hr2 hkf hRW hi1 hM1 hr2' hkf1 hRW1 hm256
    gi_wp2_with (first | (gi_at_call 105; refine ((callsIn_wide.2 (K1 _)).inRound l2).mono ?_; rintro _ _ ⟨rfl, hw2⟩; obtain rfl := hw2.symm; clear hw2) | (gi_at_call 104; refine ((callsIn_wide.2 (K2 _ _)).inRound l2).mono ?_; rintro _ _ ⟨rfl, hw2⟩; obtain rfl := hw2.symm; clear hw2))
    clear K1 K2 c5
    have hMx : Mines O ((V.heap.size, .cells #[.int .u64 (m : Nat)] 37) :: (Bx, .cells #[.int .i64 (xv : Nat)] 3) :: [(z + 1 + 1 + 1, .cells #[.int .i64 ((h1 : Int) % (G : Int))] 3), (z + 1 + 1, .cells #[.int .i64 (G : Nat)] 3), (z + 1, .cells #[.int .u8 (h2 : Nat)] 5), (z, .cells #[.func (.yield l) #[] #[]] 150), (0, tab), (Bt, .cells #[.slice (some ⟨b, o, none⟩) (3 + 17 * G) c] 22 (0, 0)), (Bh, .cells #[.int .u64 (h : Nat)] 37 (0, 0)), (b, R)]) (V.alloc (.cells #[.int .u64 (m : Nat)] 37)) := HM1.out
    obtain ⟨Mx, hMxe⟩ : ∃ Mx, Mx = (V.heap.size, Obj.cells #[.int .u64 (m : Nat)] 37) :: (Bx, Obj.cells #[.int .i64 (xv : Nat)] 3) :: [(z + 1 + 1 + 1, .cells #[.int .i64 ((h1 : Int) % (G : Int))] 3), (z + 1 + 1, .cells #[.int .i64 (G : Nat)] 3), (z + 1, .cells #[.int .u8 (h2 : Nat)] 5), (z, .cells #[.func (.yield l) #[] #[]] 150), (0, tab), (Bt, .cells #[.slice (some ⟨b, o, none⟩) (3 + 17 * G) c] 22 (0, 0)), (Bh, .cells #[.int .u64 (h : Nat)] 37 (0, 0)), (b, R)] := ⟨_, rfl⟩
    rw [← hMxe] at hMx
    have hbM : Boxed (V.alloc (.cells #[.int .u64 (m : Nat)] 37)) V.heap.size 37 (.int .u64 (m : Nat)) := Boxed.new _ _ _
    have htab4 : W4.heap[0]? = some tab := (HM4'.out (0, tab) (by simp)).1
    have htabV : (V.alloc (.cells #[.int .u64 (m : Nat)] 37)).heap[0]? = some tab := (HM1.out (0, tab) (by simp)).1
    have hTb2 := tb_obj HTb.out htab4 htabV
    have h0V : 0 < (V.alloc (.cells #[.int .u64 (m : Nat)] 37)).heap.size := lt_of_heap htabV
    have HKF2 := hid (show KeepsFrom W4.heap.size W (V.alloc (.cells #[.int .u64 (m : Nat)] 37)) from HKF.out)
    have hVs : (V.alloc (.cells #[.int .u64 (m : Nat)] 37)).heap.size = V.heap.size + 1 := by simp
    have hV4 : W4.heap.size ≤ V.heap.size := by
      have := lt_of_heap HR2.out
      omega
    have HHm := hid (show mt cx h2 = m from hm)
    have HHc := hid (show cw T xv = cx from hcx)
    have HHx := hid (show x.val = xv from hxv)
    obtain ⟨V2, hV2⟩ : ∃ V2, V.alloc (.cells #[.int .u64 (m : Nat)] 37) = V2 := ⟨_, rfl⟩
    rw [hV2] at hMx hbM htabV hTb2 h0V HKF2 hVs HI1 HR2 HRW ⊢
    obtain ⟨zm, hzm⟩ : ∃ zm, zm = V.heap.size := ⟨_, rfl⟩
    rw [← hzm] at hMxe hbM hVs hV4 ⊢
    clear HM1 HKF hV2 hzm hm hcx hxv
    have hJ2 := hid (show Cal O J V2.heap.size from hJz.out.up (by omega))
    refine wpIn_rangeFunc_ownN (l₀ := l2) (r₀ := r2) rfl HR2.out (by omega) (gf := 123) (lb := #[.pointer (some ⟨zm, 0, none⟩)]) rfl trivial (enters_of Tryd.func123 (by kernel_rfl) rfl)
      ((bits_stops (n - 1 - 1 - 1) (by omega) zm m HMsk.out V2 hbM hTb2).inRound l2) ktK_t (ktK_b h0V) (Below.refl _ _) (fun _ => rfl)
      (fun ps W' => (J (mtl T h (pre.map Subtype.val) ++ msl T h xv (ps.map Subtype.val)) W' ∧ Mines O Mx W') ∧ KeepsFrom W4.heap.size W W')
      (fun cd ps W' => cd = .exit 0 ∧ (∃ qs, qs <+: mtl T h (pre.map Subtype.val) ++ msl T h xv (ps.map Subtype.val) ∧ Jx qs W') ∧ KeepsFrom W4.heap.size W W')
      (OwnFrom.and (hJ2.out.mines (fun ps : List {i : Nat // i < 8} => mtl T h (pre.map Subtype.val) ++ msl T h xv (ps.map Subtype.val)) _) (ownFrom_keepsFrom HKF2.out.size))
      (fun cd ps A B row hs hg hr => by
        obtain ⟨h1, ⟨qs, h2, h3⟩, h4⟩ := hs
        exact ⟨h1, ⟨qs, h2, HJx.out qs A B row h3 hg (fun r e => ⟨by have := (hr r e).1; omega, (hr r e).2⟩)⟩, ownFrom_keepsFrom (β := Unit) HKF2.out.size () A B row h4 hg hr⟩)
      ⟨⟨by simpa [msl] using HI1.out, hMx⟩, HKF2.out⟩
      (fun y a' _ => a' = { tmps := #[.func (.yield l) #[] #[], .pointer (some ⟨Bh, 0, none⟩), .pointer (some ⟨Bt, 0, none⟩), .pointer (some ⟨z, 0, none⟩), .int .u64 (h1 : Nat), .pointer (some ⟨z + 1, 0, none⟩), .func (.func 122) #[] #[.pointer (some ⟨z + 1 + 1 + 1, 0, none⟩), .pointer (some ⟨z + 1 + 1, 0, none⟩)], .int .i64 0, .pointer (some ⟨Bx, 0, none⟩), .int .u64 (cx : Nat), .int .i64 (y.val : Nat), .tuple #[.int .u64 (h1 : Nat), .int .u8 (h2 : Nat)], .int .u64 (h : Nat), .tuple #[.int .u64 (h1 : Nat), .int .u8 (h2 : Nat)], .int .u64 (h1 : Nat), .int .u8 (h2 : Nat), .tuple #[.func (.func 122) #[] #[.pointer (some ⟨z + 1 + 1 + 1, 0, none⟩), .pointer (some ⟨z + 1 + 1, 0, none⟩)], .int .i64 0], .int .u64 (h1 : Nat), .slice (some ⟨b, o, none⟩) (3 + 17 * G) c, .int .i64 (G : Nat), .tuple #[.func (.func 122) #[] #[.pointer (some ⟨z + 1 + 1 + 1, 0, none⟩), .pointer (some ⟨z + 1 + 1, 0, none⟩)], .int .i64 0], .func (.func 122) #[] #[.pointer (some ⟨z + 1 + 1 + 1, 0, none⟩), .pointer (some ⟨z + 1 + 1, 0, none⟩)], .int .i64 0, .func (.func 122) #[] #[.pointer (some ⟨z + 1 + 1 + 1, 0, none⟩), .pointer (some ⟨z + 1 + 1, 0, none⟩)], .int .i64 (xv : Nat), .slice (some ⟨b, o, none⟩) (3 + 17 * G) c, .int .i64 (xv : Nat), .int .i64 (3 + 17 * (xv : Int)), .pointer (some ⟨b, o + (3 + 17 * xv), none⟩), .int .u64 (cx : Nat), .int .u64 (cx : Nat), .int .u8 (h2 : Nat), .int .u64 (m : Nat), itv zm, .int .i64 (y.val : Nat), undef, undef, undef, undef, undef, undef, undef, undef, undef, undef, undef, undef, undef, undef, undef, undef, undef, undef], defers := [] })
      (fun y a' _ A B row hs hg hr => hs)
      ?iassign ?ibody ?idone ?istop
    case iassign =>
      rintro l3 ps y W' K hI hK
      gi_wp2
      exact hK _ _ (KeepsFrom.refl _ _) (Kt.refl _) hI rfl
    case istop =>
      rintro cd ps W' hSp ⟨rfl, ⟨qs, hq, hj⟩, hkf⟩
      have HF : Hid (∃ A x', pre ++ [x] = A ++ [x'] ∧ (∀ g ∈ A, hasE T g.val = false) ∧ ((∃ qs, qs <+: mtl T h ((pre ++ [x]).map Subtype.val) ∧ Jx qs W') ∨ (hasE T x'.val = true ∧ J (mtl T h ((pre ++ [x]).map Subtype.val)) W'))) := by
        refine ⟨pre, x, rfl, HE.out, .inl ⟨qs, hq.trans ?_, hj⟩⟩
        rw [List.map_append, List.map_cons, List.map_nil, mtl_snoc, HHx.out]
        refine List.prefix_append_right_inj _ |>.2 ?_
        unfold mgr
        rw [HHc.out, hq2, HHm.out]
        exact msl_pre T h xv hSp
      have HK := hid hkf
      clear hq hj hkf hSp
      gi_wp2_with fail
      exact ⟨HK.out, rfl, HF.out⟩
    case idone =>
      rintro ps W' hS ⟨⟨hi, hM⟩, hkf⟩
      have hi2 : J (mtl T h ((pre ++ [x]).map Subtype.val)) W' := by
        rw [List.map_append, List.map_cons, List.map_nil, mtl_snoc, HHx.out]
        unfold mgr
        rw [HHc.out, hq2, HHm.out]
        rw [show ps.map Subtype.val = bsF m from hS] at hi
        exact hi
      have K3 := fun u => empty_any cx hcw u
      have HKF3 := hid hkf
      have HI3 := hid hi2
      have hMs : Mines O [(z + 1 + 1 + 1, .cells #[.int .i64 ((h1 : Int) % (G : Int))] 3), (z + 1 + 1, .cells #[.int .i64 (G : Nat)] 3), (z + 1, .cells #[.int .u8 (h2 : Nat)] 5), (z, .cells #[.func (.yield l) #[] #[]] 150), (0, tab), (Bt, .cells #[.slice (some ⟨b, o, none⟩) (3 + 17 * G) c] 22 (0, 0)), (Bh, .cells #[.int .u64 (h : Nat)] 37 (0, 0)), (b, R)] W' := by rw [hMxe] at hM; exact hM.tail.tail
      have HMs := hid hMs
      have HhE := hid (show hasE T xv = decide (mt cx 128 ≠ 0) by unfold hasE; rw [HHc.out])
      clear hi hM hkf hi2 hMs hS
      by_cases hE : mt cx 128 = 0
      · have hE1 : ((mt cx 128 : Int) != 0) = false := by simp [hE]
        have hno := HhE.out
        simp only [hE, ne_eq, not_true_eq_false, decide_false] at hno
        rw [hE] at K3
        have HNo := hid hno
        clear hno HhE
        gi_wp2_with (first | (gi_at_call 107; refine ((callsIn_wide.2 (K3 _)).inRound l2).mono ?_; rintro _ _ ⟨rfl, hw2⟩; obtain rfl := hw2.symm; clear hw2))
        refine ⟨HKF3.out, ?_, ⟨HI3.out, HMs.out⟩, ?_⟩
        · intro q hq o ho
          simp only [List.mem_singleton] at hq
          subst hq
          rw [HG0.out] at ho
          cases ho
          exact (HMs.out (z + 1 + 1, _) (by simp)).1
        · intro g hg
          rcases List.mem_append.1 hg with q | q
          · exact HE.out g q
          · simp only [List.mem_singleton] at q; subst q; rw [HHx.out]; exact HNo.out
      · have hE1 : ((mt cx 128 : Int) != 0) = true := by simpa using hE
        have hyes := HhE.out
        simp only [hE, ne_eq, not_false_eq_true, decide_true] at hyes
        have HYes := hid hyes
        clear hyes HhE
        generalize mt cx 128 = me at *
        gi_wp2_with (first | (gi_at_call 107; refine ((callsIn_wide.2 (K3 _)).inRound l2).mono ?_; rintro _ _ ⟨rfl, hw2⟩; obtain rfl := hw2.symm; clear hw2))
        exact ⟨HKF3.out, rfl, pre, x, rfl, HE.out, .inr ⟨by rw [HHx.out]; exact HYes.out, HI3.out⟩⟩
    case ibody =>
      rintro l3 ps y a' W' hl3 ⟨r3, hr3⟩ ⟨⟨hi, hM⟩, hkf⟩ rfl hlt3
      have hM' := hM
      rw [hMxe] at hM'
      have cT := Boxed.cell (show Boxed W' Bt 22 (.slice (some ⟨b, o, none⟩) (3 + 17 * G) c) from (hM' (Bt, _) (by simp)).1)
      have cX := Boxed.cell (show Boxed W' Bx 3 (.int .i64 (xv : Nat)) from (hM' (Bx, _) (by simp)).1)
      have cH := Boxed.cell (show Boxed W' Bh 37 (.int .u64 (h : Nat)) from (hM' (Bh, _) (by simp)).1)
      have cY := Boxed.cell (show Boxed W' z 150 (.func (.yield l) #[] #[]) from (hM' (z, _) (by simp)).1)
      have hRW' : W'.heap[b]? = some R := (hM' (b, R) (by simp)).1
      obtain ⟨_, _, heq, hTc⟩ := (wd_obj HTW.out HR4.out hRW').at_ (by intro e; have := HTlen.out; rw [e] at this; simp at this; omega)
      cases heq
      obtain ⟨yv, hyv⟩ : ∃ yv, y.val = yv := ⟨_, rfl⟩
      have hy8 := y.property
      rw [hyv] at hy8
      have cR := hTc (3 + 17 * xv + 1 + 2 * yv) (by rw [HTlen.out]; omega)
      rw [show T.getD (3 + 17 * xv + 1 + 2 * yv) 0 = hsw T xv yv from rfl] at cR
      have KH := fun u => hashAt_any xv yv (by omega) (by omega) u
      have hhs := HS.out.hs_lt xv yv
      have htab' : W'.heap[0]? = some tab := (hM' (0, tab) (by simp)).1
      have HT0 := hid htab'
      have HM := hid hM
      have HI := hid hi
      have HKF4 := hid hkf
      have Hyv := hid hyv
      clear hM hM' hi hkf hTc hRW' htab' hr3 hbM htabV hTb2 h0V hMx
      simp only [hyv]
      clear hyv
      by_cases heqh : hsw T xv yv = h
      · rw [heqh] at cR
        have HSof0 : Hid (∀ u, Mines O Mx u → u.heap[0]? = some tab) := fun u hu => by
          rw [hMxe] at hu
          exact (hu (0, tab) (by simp)).1
        have HSof : Hid (∀ u, Mines O Mx u → u.cell? ⟨Bt, 0, none⟩ = some (.slice (some ⟨b, o, none⟩) (3 + 17 * G) c) ∧ u.cell? ⟨Bx, 0, none⟩ = some (.int .i64 (xv : Nat)) ∧ u.cell? ⟨Bh, 0, none⟩ = some (.int .u64 (h : Nat)) ∧ u.cell? ⟨z, 0, none⟩ = some (.func (.yield l) #[] #[]) ∧ u.cell? ⟨b, o + (3 + 17 * xv + 1 + 2 * yv), none⟩ = some (.int .u64 (h : Nat))) := fun u hu => by
          rw [hMxe] at hu
          refine ⟨Boxed.cell (show Boxed u Bt 22 _ from (hu (Bt, _) (by simp)).1), Boxed.cell (show Boxed u Bx 3 _ from (hu (Bx, _) (by simp)).1), Boxed.cell (show Boxed u Bh 37 _ from (hu (Bh, _) (by simp)).1), Boxed.cell (show Boxed u z 150 _ from (hu (z, _) (by simp)).1), ?_⟩
          have hRu : u.heap[b]? = some R := (hu (b, R) (by simp)).1
          obtain ⟨_, _, heq, hTc⟩ := (wd_obj HTW.out HR4.out hRu).at_ (by intro e; have := HTlen.out; rw [e] at this; simp at this; omega)
          cases heq
          have := hTc (3 + 17 * xv + 1 + 2 * yv) (by rw [HTlen.out]; omega)
          rw [show T.getD (3 + 17 * xv + 1 + 2 * yv) 0 = hsw T xv yv from rfl, heqh] at this
          exact this
        have hdr := stp_drewN V2.heap.size W' 1
        have hYy := HY.out _ (xv, yv) W'.drew (hJ2.out.own _ _ _ none HI.out hdr.1 hdr.2) (by
          have e1 := mtl_len T h (pre.map Subtype.val)
          have e2 := msl_len T h xv (ps.map Subtype.val)
          have e3 := bsF_mt_len cx h2
          rw [HHm.out] at e3
          rw [List.length_map] at e1 e2
          rw [List.length_append]
          omega) ⟨hx, hy8, heqh⟩
        have HSy := hid (msl_snoc_yes (T := T) (ps.map Subtype.val) heqh)
        obtain ⟨fn, tmps, assign, body, hy, hR⟩ := yield_any (l' := l3) (m := n - 1 - 1 - 1 - 1 - 1) hYy
        have HR' := hid hR
        clear hYy hR
        gi_wp2_with fail
        refine wpIn_region_heldC (fun u => u.cell? ⟨Bt, 0, none⟩ = some (.slice (some ⟨b, o, none⟩) (3 + 17 * G) c) ∧ u.cell? ⟨Bx, 0, none⟩ = some (.int .i64 (xv : Nat)) ∧ u.cell? ⟨Bh, 0, none⟩ = some (.int .u64 (h : Nat)) ∧ u.cell? ⟨z, 0, none⟩ = some (.func (.yield l) #[] #[]) ∧ u.cell? ⟨b, o + (3 + 17 * xv + 1 + 2 * yv), none⟩ = some (.int .u64 (h : Nat))) 14 (by kernel_rfl) ?_
        have hS : (W'.drew).cell? ⟨Bt, 0, none⟩ = some (.slice (some ⟨b, o, none⟩) (3 + 17 * G) c) ∧ (W'.drew).cell? ⟨Bx, 0, none⟩ = some (.int .i64 (xv : Nat)) ∧ (W'.drew).cell? ⟨Bh, 0, none⟩ = some (.int .u64 (h : Nat)) ∧ (W'.drew).cell? ⟨z, 0, none⟩ = some (.func (.yield l) #[] #[]) ∧ (W'.drew).cell? ⟨b, o + (3 + 17 * xv + 1 + 2 * yv), none⟩ = some (.int .u64 (h : Nat)) := ⟨cT, cX, cH, cY, cR⟩
        refine wpAnyC_take (i := 0) (v := .slice (some ⟨b, o, none⟩) (3 + 17 * G) c) rfl (by kernel_rfl) (fun _ _ _ h => h) (yieldsR_run rfl rfl (fun _ => rfl) (fun u hu => by obtain ⟨u1, u2, u3, u4, u5⟩ := hu; go_simp)) hS ?_
        simp only [Act.put, List.setIfInBounds_toArray]
        refine wpAnyC_take (i := 1) (v := .int .i64 (xv : Nat)) rfl (by kernel_rfl) (fun _ _ _ h => h) (yieldsR_run rfl rfl (fun _ => rfl) (fun u hu => by obtain ⟨u1, u2, u3, u4, u5⟩ := hu; go_simp)) hS ?_
        simp only [Act.put]
        refine wpAnyC_take (i := 2) (v := .int .i64 (yv : Nat)) rfl (by kernel_rfl) (fun _ _ _ h => h) (yieldsR_run rfl rfl (fun _ => rfl) (fun u hu => by obtain ⟨u1, u2, u3, u4, u5⟩ := hu; go_simp)) hS ?_
        simp only [Act.put]
        refine wpAnyC_take (i := 6) (v := .int .u64 (h : Nat)) rfl (by kernel_rfl) (fun _ _ _ h => h) (yieldsR_run rfl rfl (fun _ => rfl) (fun u hu => by obtain ⟨u1, u2, u3, u4, u5⟩ := hu; go_simp)) hS ?_
        simp only [Act.put]
        refine wpAnyC_sole (i := 3) rfl (by kernel_rfl) (fun K1 hK1 => ?_)
        go_simp
        refine ((callsIn_wide.2 (KH _)).inRound l3).mono ?_
        rintro _ _ ⟨rfl, rfl⟩
        refine hK1 _ _ (.inr hS) ?_
        clear hK1 K1
        refine wpAnyC_take (i := 4) (v := .pointer (some ⟨b, o + (3 + 17 * xv + 1 + 2 * yv), none⟩)) rfl (by kernel_rfl) (fun _ _ _ h => h) (yieldsR_run rfl rfl (fun _ => rfl) (fun u hu => by clear hu; go_simp; rw [if_pos (by omega), show (3 + 17 * (xv : Int) + 1 + 2 * (yv : Int)).toNat = 3 + 17 * xv + 1 + 2 * yv by omega])) hS ?_
        simp only [Act.put, List.setIfInBounds_toArray]
        refine wpAnyC_take (i := 5) (v := .int .u64 (h : Nat)) rfl (by kernel_rfl) (fun _ _ _ h => h) (yieldsR_run rfl rfl (fun _ => rfl) (fun u hu => by obtain ⟨u1, u2, u3, u4, u5⟩ := hu; go_simp)) hS ?_
        simp only [Act.put]
        refine wpAnyC_take (i := 7) (v := .bool true) rfl (by kernel_rfl) (fun _ _ _ h => h) (yieldsR_run rfl rfl (fun _ => rfl) (fun u hu => by obtain ⟨u1, u2, u3, u4, u5⟩ := hu; go_simp)) hS ?_
        simp only [Act.put]
        refine wpAnyC_take (i := 8) (v := .bool true) rfl (by kernel_rfl) (fun _ _ _ h => h) (yieldsR_run rfl rfl (fun _ => rfl) (fun u hu => by obtain ⟨u1, u2, u3, u4, u5⟩ := hu; go_simp)) hS ?_
        simp only [Act.put]
        refine wpAnyC_take (i := 9) (v := .func (.yield l) #[] #[]) rfl (by kernel_rfl) (fun _ _ _ h => h) (yieldsR_run rfl rfl (fun _ => rfl) (fun u hu => by obtain ⟨u1, u2, u3, u4, u5⟩ := hu; go_simp)) hS ?_
        simp only [Act.put]
        refine wpAnyC_take (i := 10) (v := .int .i64 (xv : Nat)) rfl (by kernel_rfl) (fun _ _ _ h => h) (yieldsR_run rfl rfl (fun _ => rfl) (fun u hu => by obtain ⟨u1, u2, u3, u4, u5⟩ := hu; go_simp)) hS ?_
        simp only [Act.put]
        refine wpAnyC_take (i := 11) (v := .int .i64 (yv : Nat)) rfl (by kernel_rfl) (fun _ _ _ h => h) (yieldsR_run rfl rfl (fun _ => rfl) (fun u hu => by obtain ⟨u1, u2, u3, u4, u5⟩ := hu; go_simp)) hS ?_
        simp only [Act.put]
        refine wpAnyC_sole (i := 12) rfl (by kernel_rfl) (fun K1 hK1 => ?_)
        unfold penc at hy
        go_simp
        refine HR'.out.mono ?_
        rintro e W3 (⟨rfl, hJ3, hk3, hkp3⟩ | ⟨rfl, hJ3, hk3, hkp3⟩)
        · have hM3 := (HM.out.stp hJ2.out HI.out hdr).kc hkp3
          have hS3 := HSof.out W3 hM3
          have h03 : W3.heap[0]? = some tab := (HSof0.out W3 hM3)
          refine hK1 _ _ (.inr hS3) ?_
          clear hK1 K1
          refine wpAnyC_take (i := 13) (v := .bool false) rfl (by kernel_rfl) (fun _ _ _ h => h) (yieldsR_run rfl rfl (fun _ => rfl) (fun u hu => by obtain ⟨u1, u2, u3, u4, u5⟩ := hu; go_simp)) hS3 ?_
          simp only [Act.put, List.setIfInBounds_toArray]
          refine wpAnyC_sole (i := 14) rfl (by kernel_rfl) (fun K1 hK1 => ?_)
          go_simp
          refine hK1 _ _ (.inl rfl) ?_
          clear hK1 K1
          refine wpAnyC_done (by kernel_rfl) ?_
          have HF : Hid (KeepsFrom V2.heap.size W' W3 ∧ Kt W' W3 ∧ ((J (mtl T h (pre.map Subtype.val) ++ msl T h xv ((ps ++ [y]).map Subtype.val)) W3 ∧ Mines O Mx W3) ∧ KeepsFrom W4.heap.size W W3)) := by
            have hk : KeepsFrom W1.heap.size W' W3 := ⟨hk3.size, hk3.same⟩
            refine ⟨keepsFrom_up hk (by omega), fun o ho => ?_, ⟨?_, hM3⟩, HKF4.out.trans (keepsFrom_up hk (by omega))⟩
            · rw [HT0.out] at ho; cases ho; exact h03
            · rw [List.map_append, List.map_cons, List.map_nil, Hyv.out, HSy.out, ← List.append_assoc]; exact hJ3
          clear hJ3 hk3 hkp3 hM3 hS3 h03
          gi_wp2_with fail
          exact HF.out
        · have hM3 := (HM.out.stp hJ2.out HI.out hdr).kc hkp3
          have hS3 := HSof.out W3 hM3
          have h03 : W3.heap[0]? = some tab := (HSof0.out W3 hM3)
          refine hK1 _ _ (.inr hS3) ?_
          clear hK1 K1
          refine wpAnyC_take (i := 13) (v := .bool true) rfl (by kernel_rfl) (fun _ _ _ h => h) (yieldsR_run rfl rfl (fun _ => rfl) (fun u hu => by obtain ⟨u1, u2, u3, u4, u5⟩ := hu; go_simp)) hS3 ?_
          simp only [Act.put, List.setIfInBounds_toArray]
          refine wpAnyC_sole (i := 14) rfl (by kernel_rfl) (fun K1 hK1 => ?_)
          go_simp
          refine hK1 _ _ (.inl rfl) ?_
          clear hK1 K1
          refine wpAnyC_done (by kernel_rfl) ?_
          have HF : Hid (KeepsFrom V2.heap.size W' W3 ∧ (∃ qs, qs <+: mtl T h (pre.map Subtype.val) ++ msl T h xv ((ps ++ [y]).map Subtype.val) ∧ Jx qs W3) ∧ KeepsFrom W4.heap.size W W3) := by
            have hk : KeepsFrom W1.heap.size W' W3 := ⟨hk3.size, hk3.same⟩
            refine ⟨keepsFrom_up hk (by omega), ⟨_, ?_, hJ3⟩, HKF4.out.trans (keepsFrom_up hk (by omega))⟩
            rw [List.map_append, List.map_cons, List.map_nil, Hyv.out, HSy.out, ← List.append_assoc]
            exact List.prefix_rfl
          clear hJ3 hk3 hkp3 hM3 hS3 h03
          gi_wp2_with fail
          exact ⟨HF.out.1, rfl, HF.out.2⟩
      · have hne : ((hsw T xv yv : Int) == (h : Int)) = false := by simp; omega
        have HSn := hid (msl_snoc_no (T := T) (ps.map Subtype.val) heqh)
        generalize hsw T xv yv = hv at *
        gi_wp2_with fail
        refine wpIn_region_quietR (by kernel_rfl) (by kernel_rfl) (by kernel_rfl) ?_
        repeat (gi_big_quiet_step (first | (gi_at_call 106; refine CallsIn.quiet_of_same ((callsIn_wide.2 (KH _)).inRound l3))))
        refine wpQuietIn_nil ?_
        rintro _ ⟨nq, rfl⟩
        gi_wp2_with fail
        have hst := stp_drewN V2.heap.size W' nq
        refine ⟨⟨Nat.le_refl _, fun _ _ _ h _ => h⟩, fun _ h => h, ⟨?_, HM.out.stp hJ2.out HI.out hst⟩, HKF4.out.trans ⟨Nat.le_refl _, fun _ _ _ h _ => h⟩⟩
        rw [List.map_append, List.map_cons, List.map_nil, Hyv.out, HSn.out]
        exact hJ2.out.own _ _ _ none HI.out hst.1 hst.2
end Go.Proofs.YtkfagfdefkaenaaDoor

/-
  Find: the ids of a hash's entries; no statement is proved here.
-/
namespace Go.Proofs.YtkfagfdefkaenaaDoor
open Go.RowKit Go.Shelf
open Pr (Gp GpI sq pl)
attribute [local go_sem] Oper.semAt_some run_store_func wide_fn wide_depth

def fnd (T : List Nat) (h G : Nat) : List Nat := (mts T h G).map fun p => idw T p.1 p.2
/-- An iterator over the words L. -/
def FiPost (w : World) (L : List Nat) (e : Ending) (w' : World) : Prop := ∃ Bn v, e = .returned (.tuple #[.func (.func 131) #[] #[.pointer (some ⟨Bn, 0, none⟩)], .int .i64 0]) ∧ Boxed w' Bn 22 v ∧ w'.ownsRow w.heap.size 37 1 v L.length (vw L) ∧ w.heap.size ≤ Bn ∧ Ext [] w w'
theorem mts_len {T : List Nat} {h G : Nat} (_hG : Gp G) : (mts T h G).length ≤ 8 * G := by
  have h1 := mtl_len T h (wk T (sq (h / 128) G))
  have h2 := (wk_pre T (sq (h / 128) G)).length_le
  rw [Pr.sq_len] at h2
  unfold mts
  omega
theorem results_slots2 {P : Program} {fn : Func} {p q : Tmp} (h : fn.results = #[.tmp p, .tmp q]) (tmps : Array Value) (w : World) (v v' : Value)
    (hp : tmps.getD p undef = v) (hq : tmps.getD q undef = v') : (results fn tmps).run P w = .ok (.tuple #[v, v']) w := by
  have hp' : tmps[p]?.getD undef = v := by simpa using hp
  have hq' : tmps[q]?.getD undef = v' := by simpa using hq
  simp [results, h, hp', hq']

set_option maxRecDepth 100000 in
set_option maxHeartbeats 4000000 in
theorem find_any (a : Option Addr) (c : Nat) (T : List Nat) (G h : Nat) (hSd : Sd T G) (hh : h < 18446744073709551616) (w : World) (hT : Wd w a T) (hTb : Tb w) :
    Calls Tryd.prog 86 #[.slice a (3 + 17 * G) c, .int .u64 (h : Nat)] w (FiPost w (fnd T h G)) := by
  have hlen := hSd.shp.len
  have hG := hSd.shp.gp.le
  have hne : T ≠ [] := by rintro rfl; simp at hlen; omega
  obtain ⟨b, o, rfl, hcc⟩ := hT.at_ hne
  clear hcc
  refine (callsIn_wide (n := 14)).1 ?_
  refine callsIn_of_wp_marks Tryd.func86 rfl trivial ?_ rfl
  simp only [Tryd.ntmps86, List.size_toArray, List.length_cons, List.length_nil, Nat.reduceAdd, Nat.reduceSub, Array.replicate_succ, Array.replicate_zero, List.push_toArray, List.append_toArray, List.nil_append, List.cons_append]
  obtain ⟨z, hz⟩ : ∃ z, w.heap.size = z := ⟨_, rfl⟩
  have hE0 := Ext.alloc [] w (.cells #[.slice (some ⟨b, o, none⟩) (3 + 17 * G) c] 22)
  have bZ := Boxed.new w 22 (.slice (some ⟨b, o, none⟩) (3 + 17 * G) c)
  rw [hz] at bZ
  have cZ := bZ.cell
  have K0 := sound_true (some ⟨b, o, none⟩) c T G hSd _ (hT.keep0 hE0)
  have HE0 := hid hE0
  have HbZ := hid bZ
  have HT0 := hid (hT.keep0 hE0)
  have HTb0 := hid (hTb.keep0 hE0)
  have HSd := hid hSd
  have HL := hid hlen
  have hGp := hid hSd.shp.gp
  clear hE0 bZ hT hTb hSd hlen
  gi_wp2_with fail
  gi_at_call 68
  refine (callsIn_wide.2 K0).mono ?_
  clear K0 cZ
  rintro _ w1 ⟨rfl, hX1⟩
  obtain ⟨z1, hz1⟩ : ∃ z1, w1.heap.size = z1 := ⟨_, rfl⟩
  have hbZ1 : Boxed w1 z 22 (.slice (some ⟨b, o, none⟩) (3 + 17 * G) c) := hX1.keep HbZ.out (by simp)
  have hzz : z < z1 := by rw [← hz1]; exact hbZ1.lt
  have cZ := (hbZ1.alloc (.cells #[.slice none 0 0] 22)).cell
  have HT1 := hid (HT0.out.keep0 hX1)
  have HTb1 := hid (HTb0.out.keep0 hX1)
  have HE1 := hid (HE0.out.trans hX1)
  have HbZ1 := hid hbZ1
  have K1 := matches_any (some ⟨b, o, none⟩) (3 + 17 * G) c h (w1.alloc (.cells #[.slice none 0 0] 22))
  simp only [World.size_alloc, hz1] at K1
  have HZ1 := hid hz1
  clear hX1 HbZ HT0 HTb0 HE0 hbZ1
  gi_wp2_with (first | (gi_at_call 69; refine (callsIn_wide.2 K1).mono ?_; rintro _ _ ⟨rfl, rfl⟩))
  clear K1 cZ
  have hz1' := HZ1.out
  have b0 := ((Boxed.new w1 22 (.slice none 0 0)).alloc (.cells #[.slice (some ⟨b, o, none⟩) (3 + 17 * G) c] 22)).alloc (.cells #[.int .u64 (h : Nat)] 37)
  have b1 := (Boxed.new (w1.alloc (.cells #[.slice none 0 0] 22)) 22 (.slice (some ⟨b, o, none⟩) (3 + 17 * G) c)).alloc (.cells #[.int .u64 (h : Nat)] 37)
  have b2 := Boxed.new ((w1.alloc (.cells #[.slice none 0 0] 22)).alloc (.cells #[.slice (some ⟨b, o, none⟩) (3 + 17 * G) c] 22)) 37 (.int .u64 (h : Nat))
  have hX3 : Ext [] w1 (((w1.alloc (.cells #[.slice none 0 0] 22)).alloc (.cells #[.slice (some ⟨b, o, none⟩) (3 + 17 * G) c] 22)).alloc (.cells #[.int .u64 (h : Nat)] 37)) := ((Ext.alloc [] _ _).trans (Ext.alloc [] _ _)).trans (Ext.alloc [] _ _)
  obtain ⟨W3, hW3⟩ : ∃ W3, ((w1.alloc (.cells #[.slice none 0 0] 22)).alloc (.cells #[.slice (some ⟨b, o, none⟩) (3 + 17 * G) c] 22)).alloc (.cells #[.int .u64 (h : Nat)] 37) = W3 := ⟨_, rfl⟩
  have hs3 : W3.heap.size = z1 + 3 := by rw [← hW3]; simp [hz1']
  simp only [World.size_alloc, hz1'] at b0 b1 b2
  rw [hW3] at b0 b1 b2 hX3
  have hb1 : b < z1 := by
    obtain ⟨b', o', e, hc⟩ := HT1.out.at_ hne
    cases e
    have := block_lt_of_cell (hc 0 (by rw [HL.out]; omega))
    rw [hz1'] at this; exact this
  obtain ⟨R, hR1⟩ : ∃ R, w1.heap[b]? = some R := ⟨_, Array.getElem?_eq_getElem (by rw [hz1']; exact hb1)⟩
  have hRc : R.isCells = true := by
    obtain ⟨b', o', e, hc⟩ := HT1.out.at_ hne
    cases e
    have := hc 0 (by rw [HL.out]; omega)
    cases R with
    | cells cs t m => rfl
    | _ => simp [World.cell?, hR1] at this
  have h01 : 0 < z1 := by rw [← hz1']; exact HTb1.out.lt
  have hO3 : ∀ k ∈ [0, z1 + 1, z1 + 1 + 1, b], ¬ Obx z1 W3 k := by
    rintro k hk (rfl | ⟨v, hv, hvo⟩)
    · simp at hk; omega
    · have : v = .slice none 0 0 := boxed_inj hv b0
      subst this
      simp [Value.ownBlock] at hvo
  have hMat := matches_gives 13 (by omega) (z1 + 1) (z1 + 1 + 1) b o c h G T R HSd.out.shp hh (Obx z1) W3 b1 b2 (hX3.keep hR1 (by simp)) hRc (HT1.out.keep0 hX3) (HTb1.out.keep0 hX3) hO3
  have HMat := hid hMat
  have hG0 : Gat w1 z1 [] W3 := ⟨⟨_, b0, own_nil _ _ _ _, by simp [Value.ownBlock]⟩, by rw [← hz1']; exact hX3.below⟩
  have HG0 := hid hG0
  have HR1 := hid hR1
  clear b0 b1 b2 hX3 hMat hG0 hR1 hRc hO3
  rw [hW3]
  clear hW3
  have HCal := hid (cal_gat (α := Nat × Nat) (w1 := w1) (z1 := z1) (B := W3.heap.size) (fun pre => pre.map fun p => idw T p.1 p.2) hz1' (by omega))
  have hml := mts_len (T := T) (h := h) hGp.out
  clear hz1'
  refine loop_givesS rfl (by omega) (gf := 101) (lb := #[.pointer (some ⟨z1 + 1 + 1, 0, none⟩), .pointer (some ⟨z1 + 1, 0, none⟩)]) rfl trivial (enters_of Tryd.func101 (by kernel_rfl) rfl)
    HMat.out (fun _ => rfl)
    (fun pre W => Gat w1 z1 (pre.map fun p => idw T p.1 p.2) W) (fun _ _ _ => False) HCal.out
    (fun _ => ⟨fun _ _ _ _ h _ _ => h, fun _ _ _ h => h.elim, fun _ _ _ _ _ h => h.elim⟩)
    HG0.out
    (fun x a' _ => a' = { tmps := #[.slice (some ⟨b, o, none⟩) (3 + 17 * G) c, .int .u64 (h : Nat), .pointer (some ⟨z, 0, none⟩), undef, .nilFunc, .int .i64 0, .pointer (some ⟨z1, 0, none⟩), .int .i64 (x.1 : Nat), .int .i64 (x.2 : Nat), .slice (some ⟨b, o, none⟩) (3 + 17 * G) c, .bool true, .bool false, .slice (some ⟨b, o, none⟩) (3 + 17 * G) c, .int .u64 (h : Nat), .func (.func 101) #[] #[.pointer (some ⟨z1 + 1 + 1, 0, none⟩), .pointer (some ⟨z1 + 1, 0, none⟩)], .int .i64 (x.1 : Nat), .int .i64 (x.2 : Nat), undef, undef, undef, undef, undef, undef, undef, undef, undef, undef, undef], defers := [] }) (fun x a' _ X Y row hs hg hr => hs)
    ?assign ?body ?done ?stop
  case stop =>
    rintro D cd pre W _ _ h _
    exact h.elim
  case assign =>
    rintro l pre x W K _ hI hK
    unfold penc
    gi_wp2
    exact hK _ _ (KeepsFrom.refl _ _) (Kc.refl _ _) hI rfl
  case done =>
    rintro D zs W hD rfl ⟨⟨v, hb, ho, hvn⟩, hB⟩ hK
    obtain ⟨va, vc, rfl, _⟩ := own_slice ho
    have cI := hb.cell
    have KV := fun u => tvalues_any va ((mts T h G).map fun p => idw T p.1 p.2).length vc u
    have HO := hid ho
    have HB := hid hB
    have HK := hid hK
    have HD := hid hD
    have HVn := hid hvn
    have Hln := hid (show (fnd T h G).length = ((mts T h G).map fun p => idw T p.1 p.2).length from rfl)
    clear hb ho hvn hB hK hD
    generalize hln : ((mts T h G).map fun p => idw T p.1 p.2).length = ln at *
    clear hln
    gi_wp2_with (first | (gi_at_call 115; refine (callsIn_wide.2 (KV _)).mono ?_; rintro _ _ ⟨rfl, rfl⟩))
    have hK2 := (KeepsOthers.alloc W (.cells #[.slice va ln vc] 22)).same _ _ HK.out rfl
    have hP := grownBy_putObj' (W.alloc (.cells #[.slice va ln vc] 22)) D (.deferred none)
    have hx1 := Ext.alloc [] W (.cells #[.slice va ln vc] 22)
    have hx2 := Ext.grown (S := [D]) hP (by simp)
    have hx0 : Ext [] w1 W := by have h := HB.out; rw [← HZ1.out] at h; exact below_ext h
    have hDW := lt_of_heap HK.out
    have hzw : w.heap.size ≤ z1 := by omega
    have hDz := HD.out
    refine ⟨by simp, .inl ⟨_, _, rfl, run_takeDeferred hK2, _, results_slots2 rfl _ _ _ _ rfl rfl, W.heap.size, .slice va ln vc, rfl, ?_, ?_, ?_, ?_⟩⟩
    · exact hx2.keep (heap_alloc_new W _) (by simp; omega)
    · have h1 := own_keep0 HO.out hx1
      rw [Hln.out]
      refine own_base (own_keep h1 hx2 (fun q hq hv => ?_)) hzw
      simp only [List.mem_singleton] at hq
      subst hq
      rcases h1.2 with ⟨e, _⟩ | ⟨g, cap, cur, e, _, hg, _⟩
      · rw [e] at hv; simp [Value.ownBlock] at hv
      · rw [e] at hv; simp [Value.ownBlock] at hv; subst hv; rw [hK2] at hg; simp at hg
    · have := hx0.size; have := HZ1.out; omega
    · exact ((HE1.out.trans hx0).trans hx1).on hx2 (by simp; omega)
  case body =>
    rintro l pre x a' W hl ⟨r, hr⟩ ⟨⟨v, hb, ho, hvn⟩, hB⟩ rfl hlt ⟨hgx, hix, hhx⟩
    obtain ⟨gx, ix⟩ := x
    simp only at hgx hix hhx
    obtain ⟨va, vc, rfl, _⟩ := own_slice ho
    have hB1 := hB
    rw [← HZ1.out] at hB1
    have hX := below_ext hB1
    have hbZ : Boxed W z 22 (.slice (some ⟨b, o, none⟩) (3 + 17 * G) c) := hX.keep HbZ1.out (by simp)
    obtain ⟨_, _, heq, hTc⟩ := (HT1.out.keep0 hX).at_ hne
    cases heq
    have cR := hTc (3 + 17 * gx + 2 + 2 * ix) (by rw [HL.out]; omega)
    rw [show T.getD (3 + 17 * gx + 2 + 2 * ix) 0 = idw T gx ix from rfl] at cR
    have KI := fun u => idAt_any gx ix (by omega) (by omega) u
    have cB := hb.cell
    have cZ := hbZ.cell
    obtain ⟨dx, hdx⟩ : ∃ dx, idw T gx ix = dx := ⟨_, rfl⟩
    rw [hdx] at cR
    have hlp : (pre.map fun p => idw T p.1 p.2).length ≤ 1000000 := by rw [List.length_map]; omega
    have HSn := hid (show ((pre ++ [(gx, ix)]).map fun p => idw T p.1 p.2) = (pre.map fun p => idw T p.1 p.2) ++ [dx] by rw [List.map_append, List.map_cons, List.map_nil, hdx])
    obtain ⟨L, hL⟩ : ∃ L, (pre.map fun p => idw T p.1 p.2) = L := ⟨_, rfl⟩
    rw [hL] at ho hb hlp HSn cB
    simp only [hL] at hvn
    obtain ⟨ln, hln⟩ : ∃ ln, L.length = ln := ⟨_, rfl⟩
    rw [hln] at ho hb hlp cB
    simp only [hln] at hvn
    have HX := hid hX
    have Hb := hid hb
    have HO := hid ho
    have HVn := hid hvn
    have HB := hid hB
    have Hln := hid hln
    have HbZ := hid hbZ
    clear hX hb ho hvn hB hB1 hTc hr hdx hL hln hbZ
    gi_wp2_with fail
    refine wpIn_region_heldC (fun u => u.cell? ⟨z1, 0, none⟩ = some (.slice va ln vc) ∧ u.cell? ⟨z, 0, none⟩ = some (.slice (some ⟨b, o, none⟩) (3 + 17 * G) c) ∧ u.cell? ⟨b, o + (3 + 17 * gx + 2 + 2 * ix), none⟩ = some (.int .u64 (dx : Nat))) 9 (by kernel_rfl) ?_
    have hS : W.drew.cell? ⟨z1, 0, none⟩ = some (.slice va ln vc) ∧ W.drew.cell? ⟨z, 0, none⟩ = some (.slice (some ⟨b, o, none⟩) (3 + 17 * G) c) ∧ W.drew.cell? ⟨b, o + (3 + 17 * gx + 2 + 2 * ix), none⟩ = some (.int .u64 (dx : Nat)) := ⟨cB, cZ, cR⟩
    refine wpAnyC_take (i := 0) (v := .slice va ln vc) rfl (by kernel_rfl) (fun _ _ _ h => h) (yieldsR_run rfl rfl (fun _ => rfl) (fun u hu => by obtain ⟨u1, u2, u3⟩ := hu; go_simp)) hS ?_
    simp only [Act.put, List.setIfInBounds_toArray]
    refine wpAnyC_take (i := 1) (v := .slice (some ⟨b, o, none⟩) (3 + 17 * G) c) rfl (by kernel_rfl) (fun _ _ _ h => h) (yieldsR_run rfl rfl (fun _ => rfl) (fun u hu => by obtain ⟨u1, u2, u3⟩ := hu; go_simp)) hS ?_
    simp only [Act.put]
    refine wpAnyC_take (i := 2) (v := .int .i64 (gx : Nat)) rfl (by kernel_rfl) (fun _ _ _ h => h) (yieldsR_run rfl rfl (fun _ => rfl) (fun u hu => by obtain ⟨u1, u2, u3⟩ := hu; go_simp)) hS ?_
    simp only [Act.put]
    refine wpAnyC_take (i := 3) (v := .int .i64 (ix : Nat)) rfl (by kernel_rfl) (fun _ _ _ h => h) (yieldsR_run rfl rfl (fun _ => rfl) (fun u hu => by obtain ⟨u1, u2, u3⟩ := hu; go_simp)) hS ?_
    simp only [Act.put]
    refine wpAnyC_sole (i := 4) rfl (by kernel_rfl) (fun K1 hK1 => ?_)
    go_simp
    refine ((callsIn_wide.2 (KI _)).inRound l).mono ?_
    rintro _ _ ⟨rfl, rfl⟩
    refine hK1 _ _ (.inr hS) ?_
    clear hK1 K1
    refine wpAnyC_take (i := 5) (v := .pointer (some ⟨b, o + (3 + 17 * gx + 2 + 2 * ix), none⟩)) rfl (by kernel_rfl) (fun _ _ _ h => h) (yieldsR_run rfl rfl (fun _ => rfl) (fun u hu => by clear hu; go_simp; rw [if_pos (by omega), show (3 + 17 * (gx : Int) + 2 + 2 * (ix : Int)).toNat = 3 + 17 * gx + 2 + 2 * ix by omega])) hS ?_
    simp only [Act.put, List.setIfInBounds_toArray]
    refine wpAnyC_take (i := 6) (v := .int .u64 (dx : Nat)) rfl (by kernel_rfl) (fun _ _ _ h => h) (yieldsR_run rfl rfl (fun _ => rfl) (fun u hu => by obtain ⟨u1, u2, u3⟩ := hu; go_simp)) hS ?_
    simp only [Act.put]
    refine wpAnyC_sole (i := 7) rfl (by kernel_rfl) (fun K1 hK1 => ?_)
    go_simp
    have hxa := Ext.alloc [] W.drew (.cells #[.int .u64 (dx : Nat)] 37)
    have hU : Ext [] W (W.drew.alloc (.cells #[.int .u64 (dx : Nat)] 37)) := (Ext.drew [] W).trans hxa
    have hS2 : (W.drew.alloc (.cells #[.int .u64 (dx : Nat)] 37)).cell? ⟨z1, 0, none⟩ = some (.slice va ln vc) ∧ (W.drew.alloc (.cells #[.int .u64 (dx : Nat)] 37)).cell? ⟨z, 0, none⟩ = some (.slice (some ⟨b, o, none⟩) (3 + 17 * G) c) ∧ (W.drew.alloc (.cells #[.int .u64 (dx : Nat)] 37)).cell? ⟨b, o + (3 + 17 * gx + 2 + 2 * ix), none⟩ = some (.int .u64 (dx : Nat)) := ⟨hxa.cell hS.1 (by simp), hxa.cell hS.2.1 (by simp), hxa.cell hS.2.2 (by simp)⟩
    refine hK1 _ _ (.inr hS2) ?_
    clear hK1 K1
    obtain ⟨v', U', hrun, ⟨a', c', hv'⟩, hbU, hgat, hkc, hko, hxx, hx5⟩ := gat_push (w1 := w1) (L := L) (x := dx) Hln.out HZ1.out Hb.out HO.out HVn.out HB.out hU (Boxed.cell (Boxed.new W.drew 37 (.int .u64 (dx : Nat)))) hlp
    refine wpAnyC_sole (i := 8) rfl (by kernel_rfl) (fun K1 hK1 => ?_)
    refine stepR_append (fun _ => trivial) rfl _ _ 22 rfl (.slice va ln vc) (.slice (some ⟨W.heap.size, 0, none⟩) 1 1) v' rfl rfl hrun ?_
    have hownz : ∀ q, q ∈ (Value.slice va ln vc).ownBlock.toList → z1 < q := fun q hq => HVn.out q (by simpa using hq)
    have hS3 : U'.cell? ⟨z1, 0, none⟩ = some (.slice va ln vc) ∧ U'.cell? ⟨z, 0, none⟩ = some (.slice (some ⟨b, o, none⟩) (3 + 17 * G) c) ∧ U'.cell? ⟨b, o + (3 + 17 * gx + 2 + 2 * ix), none⟩ = some (.int .u64 (dx : Nat)) := by
      refine ⟨hbU.cell, hx5.cell cZ (fun q => by have := hownz _ q; simp at this; omega), hx5.cell cR (fun q => by have := hownz _ q; simp at this; omega)⟩
    refine hK1 _ _ (.inr hS3) ?_
    clear hK1 K1
    subst hv'
    have cU := hbU.cell
    have fU := hbU.frozen
    have HF : Hid (KeepsFrom W3.heap.size W (U'.setCell ⟨z1, 0, none⟩ (.slice a' (ln + 1) c')) ∧ Kc (Obx z1) W (U'.setCell ⟨z1, 0, none⟩ (.slice a' (ln + 1) c')) ∧ Gat w1 z1 ((pre ++ [(gx, ix)]).map fun p => idw T p.1 p.2) (U'.setCell ⟨z1, 0, none⟩ (.slice a' (ln + 1) c'))) := by
      rw [HSn.out]
      exact ⟨hko.from _, hkc, hgat⟩
    clear hrun hgat hkc hko hxx hx5 hU hxa hS hS2 hS3
    refine wpAnyC_sole (i := 9) rfl (by kernel_rfl) (fun K1 hK1 => ?_)
    go_simp
    refine hK1 _ _ (.inl rfl) ?_
    clear hK1 K1
    refine wpAnyC_done (by kernel_rfl) ?_
    gi_wp2_with fail
    exact HF.out
end Go.Proofs.YtkfagfdefkaenaaDoor

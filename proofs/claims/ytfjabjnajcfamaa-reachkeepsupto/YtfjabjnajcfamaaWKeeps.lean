/-
  The function ReachKeeps walked through; no statement is proved here.
-/
import Derived.Test.YtfjabjnajcfamaaKeepC
import Derived.Test.YtfjabjnajcfamaaKeepD
namespace Go.Proofs.Ytfjabjnajcfamaa.reachKeeps
open Go.RowKit Go.Shelf

attribute [local go_sem] Oper.semAt_some

/-- append in a loop's walk, met by what its run is known to be. -/
theorem wpListIn_append_run {F : Fence} {n : Nat} {P : Program} {w w' : World} {ops : Array Oper} {rest : List Oper} {o : Oper} {a : Act} {Q : Exit → Act → World → Prop} (hgd : o.guard = none) (s x : Operand) (t : TypeId)
    (ho : o.op = .call { callee := .builtin .append, args := #[s, x], argTypes := #[t, t] }) (vs vx v' : Value) (hs : a.eval s = vs) (hx : a.eval x = vx)
    (hr : (Builtin.append_ #[t, t] o.type #[vs, vx]).run P w = .ok v' w') (h : wpListIn F n P ops Q rest (a.put o.dst v') w') : wpListIn F n P ops Q (o :: rest) a w := by
  refine wpListIn_plain hgd fun K hK => ?_
  unfold Oper.wpIn
  refine ⟨by simp [Oper.about, ho, resolve, Target.leads, Sem.run_pure], ?_⟩
  rw [Oper.semAt_plain F _ _ (by rw [ho]; intro c hc'; cases hc')]
  simp [execOp, ho, resolve, invoke, builtin, hs, hx, hr, Result.andThen]
  exact hK _ _ h

/-- What the statement's own order tells, in a row of its own. -/
theorem told_o (a : Option Addr) (n c : Nat) (ra : Option Addr) (rn rc : Nat) (M : List (List Int)) (R : List Int) (w : World) (h : Arg w a n ra rn M R) : Calls Try.prog 21 #[.slice a n c, .slice ra rn rc] w fun e w' => ∃ L a c, PO M R L (errB M R []) ∧ e = .returned (.tuple #[.slice a L.length c, .bool true]) ∧ Lst w' (.slice a L.length c) L ∧ (∀ g, (Value.slice a L.length c).ownBlock = some g → w.heap.size ≤ g) ∧ L.length ≤ 65536 ∧ Ext [] w w' := by
  have hrb := h.rb
  by_cases he : errB M R [] = 0
  · obtain ⟨N, R', T', rfl, rfl, _, hG, _⟩ := err_good he
    have hl := h.len; rw [cn_len] at hl
    have hr := h.rlen; rw [ci_len] at hr
    obtain ⟨O, hO⟩ := ord_exists hG (-1)
    refine (told_ok hO a n c ra rn rc w h.net hl hG h.roots hr (by omega)).mono ?_
    rintro e w' ⟨v, rfl, hL, hg, hE⟩
    obtain ⟨av, cv, rfl, _⟩ := hL.slice
    exact ⟨ci O, av, cv, .inr ⟨N, R', rfl, rfl, hG, O, hO, rfl, good0 hG⟩, rfl, hL, hg, by rw [ci_len]; have := hO.len; have := hG.len; omega, hE⟩
  · refine (told_bad a n c ra rn rc M R w h.net h.len h.roots h.rlen (by omega) he).mono ?_
    rintro e w' ⟨v, rfl, hL, hg, hE⟩
    obtain ⟨av, cv, rfl, _⟩ := hL.slice
    exact ⟨[], av, cv, .inl ⟨he, rfl, rfl⟩, rfl, hL, hg, by simp, hE⟩

set_option maxRecDepth 100000 in
set_option maxHeartbeats 8000000 in
theorem walk (a : Option Addr) (n c : Nat) (M : List (List Int)) (ra : Option Addr) (rn rc : Nat) (R : List Int) (x y : Int) (w : World) (hA : Arg w a n ra rn M R) (hn6 : n ≤ 1048576) (hM6 : ∀ i, i < n → (lsAt M i).length ≤ 1048576) :
    Calls Try.prog 8 #[.slice a n c, .slice ra rn rc, .int .i64 x, .int .i64 y] w (SayPost w (.bool true)) := by
  refine (callsIn_wide (n := 8)).1 ?_
  refine callsIn_of_wp_marks Try.func8 rfl trivial ?_ rfl
  simp only [Try.ntmps8, List.size_toArray, List.length_cons, List.length_nil, Nat.reduceAdd, Nat.reduceSub, Array.replicate_succ, Array.replicate_zero, List.push_toArray, List.append_toArray, List.nil_append, List.cons_append]
  have hE0 : Ext [] w ((w.alloc (.cells #[.int .i64 y] 3)).alloc (.cells #[.bool false] 4)) := (Ext.alloc [] _ _).trans (Ext.alloc [] _ _)
  have bY := (Boxed.new w 3 (.int .i64 y)).alloc (.cells #[.bool false] 4)
  have bO := Boxed.new (w.alloc (.cells #[.int .i64 y] 3)) 4 (.bool false)
  simp only [World.size_alloc] at bO
  have K := awake_any ((w.alloc (.cells #[.int .i64 y] 3)).alloc (.cells #[.bool false] 4))
  have HA := hid hA
  have HE0 := hid hE0
  have HbY := hid bY
  have HbO := hid bO
  have HM6 := hid hM6
  clear hA hE0 bY bO hM6
  gi_wp2_with fail
  refine ⟨trivial, ?_⟩
  refine (callsIn_wide.2 K).mono ?_
  clear K
  rintro e w1 ⟨rfl, hE1⟩
  have HE1 := hid (HE0.out.trans hE1)
  have HY1 := hid (show Boxed w1 w.heap.size 3 (.int .i64 y) from hE1.keep HbY.out (by simp))
  have HO1 := hid (show Boxed w1 (w.heap.size + 1) 4 (.bool false) from hE1.keep HbO.out (by simp))
  have HA1 := hid (HA.out.keep0 HE1.out)
  clear hE1 HE0 HbY HbO
  gi_wp2_with fail
  gi_loopw [9, 10] (fun lv u wr => ∃ k : Nat, ∃ K, u = .int .i64 k ∧ k ≤ n ∧ Inn w1 wr lv k M K ∧ Ext [] w1 wr) (fun _ u _ => (n - (intOf u)).toNat)
  case atStart => exact ⟨0, fun _ => (0, 0), rfl, Nat.zero_le _, inn_nil _ _ _ _, Ext.refl _ _⟩
  case round =>
    obtain ⟨k, G, rfl, hkn, hI, hE⟩ := hrel
    have HI := hid hI
    have HE := hid hE
    clear hI hE
    by_cases hlt : k < n
    · have hA2 := HA1.out.keep0 HE.out
      obtain ⟨b, o, rfl, hta⟩ := hA2.net.addr (by rw [hA2.len]; omega)
      obtain ⟨fa, fc, c0, hF, _, _⟩ := hta k (by rw [hA2.len]; omega)
      have K := roomy_any fa (lsAt M k).length fc (lsAt M k) wr hF rfl (by have := HM6.out k hlt; omega)
      clear hta hA2 hF
      gi_wp2_with fail
      refine ⟨trivial, ?_⟩
      refine (callsIn_wide.2 K).mono ?_
      clear K
      rintro e w2 ⟨g, cap, rfl, hR, hE2⟩
      obtain ⟨v2, w3, hr, hI3, hE3⟩ := HI.out.step HE.out hR hE2 (by omega)
      have HI3 := hid hI3
      have HE3 := hid hE3
      clear hI3 hE3 hR hE2 c0
      gi_wp2_with (gi_at_builtin; refine wpListIn_append_run rfl _ _ 22 rfl _ _ _ rfl rfl hr ?_)
      go_roundw
      case rel => exact ⟨k + 1, _, by go_num, by omega, HI3.out, HE3.out⟩
      case measure => simp [intOf]; omega
    · obtain rfl : k = n := by omega
      have K := roomy_any ra rn rc R wr (HA1.out.keep0 HE.out).roots HA.out.rlen (by have := HA.out.rb; omega)
      have HRl := hid HA.out.rlen
      have HRb := hid HA.out.rb
      have HMl := hid HA.out.len
      obtain ⟨ai, ci', rfl, hic⟩ := own_slice HI.out.row
      gi_wp2_with fail
      refine ⟨trivial, ?_⟩
      refine (callsIn_wide.2 K).mono ?_
      clear K
      rintro e w2 ⟨gr, capr, rfl, hR2, hE2⟩
      have HI2 := hid (HI.out.keep0 hE2)
      have HR2 := hid (hR2.base HE.out.size)
      have HGl : Hid (∃ s1, w1.heap.size ≤ s1 ∧ (∀ j, j < k → (G j).1 < s1) ∧ s1 ≤ gr ∧ gr < w2.heap.size) := ⟨wr.heap.size, HE.out.size, fun j hj => (HI.out.each j hj).lt.2, hR2.lt.1, hR2.lt.2⟩
      have hgr := hR2.lt.1
      have HE2 := hid (HE.out.trans hE2)
      have HGa : Hid (∀ W, Ext [] w2 W → Arg W ai k (some ⟨gr, 0, none⟩) rn M R) := fun W hW => ⟨(HI2.out.keep0 hW).net HMl.out (by omega) (fun i hi => by have := HM6.out i hi; omega), HMl.out, ((HR2.out.keep hW (by simp)).cell HRl.out).1, HRl.out, HRb.out⟩
      have K := way_o ai k ci' (some ⟨gr, 0, none⟩) rn capr x M R w2 (HGa.out w2 (Ext.refl _ _))
      clear hR2 hE2 HE HI
      gi_wp2_with fail
      refine ⟨trivial, ?_⟩
      refine (callsIn_wide.2 K).mono ?_
      clear K
      rintro e w3 ⟨LA, eA, aA, cA, hPA, rfl, hOA, hlA, hE3⟩
      have HPA := hid hPA
      have HOA := hid hOA
      have HE3 := hid hE3
      have K := lost_o ai k ci' (some ⟨gr, 0, none⟩) rn capr x M R w3 (HGa.out w3 hE3)
      clear hPA hOA hE3
      gi_wp2_with fail
      refine ⟨trivial, ?_⟩
      refine (callsIn_wide.2 K).mono ?_
      clear K
      rintro e w4 ⟨LB, eB, aB, cB, _, rfl, hOB, hlB, hE4⟩
      have HOB := hid hOB
      have HE4 := hid hE4
      have HE24 := hid (HE3.out.trans hE4)
      have K := order_o ai k ci' (some ⟨gr, 0, none⟩) rn capr M R w4 (HGa.out w4 HE24.out)
      clear hOB hE4
      generalize errB M R [] = er at *
      gi_wp2_with fail
      refine ⟨trivial, ?_⟩
      refine (callsIn_wide.2 K).mono ?_
      clear K
      rintro e w5 ⟨LO, hPO, hlO, Bn, vO, rfl, hBn, hLO, hBs, hgs, hE5⟩
      have HPO := hid hPO
      have HBn := hid hBn
      have HLO := hid hLO
      have HE5 := hid hE5
      have HE25 := hid (HE24.out.trans hE5)
      have HGs := hid hgs
      have K := set_u ai k ci' (some ⟨gr, 0, none⟩) rn capr M R w5 (HGa.out w5 HE25.out)
      clear hPO hBn hLO hE5 hgs
      gi_wp2_with fail
      refine ⟨trivial, ?_⟩
      refine (callsIn_wide.2 K).mono ?_
      clear K
      rintro e w6 ⟨LS, eS, aS, cS, _, rfl, _, _, hE6⟩
      have HE6 := hid hE6
      have HE26 := hid (HE25.out.trans hE6)
      have K := way_o ai k ci' (some ⟨gr, 0, none⟩) rn capr x M R w6 (HGa.out w6 HE26.out)
      clear hE6
      gi_wp2_with fail
      refine ⟨trivial, ?_⟩
      refine (callsIn_wide.2 K).mono ?_
      clear K
      rintro e w7 ⟨LC, eC, aC, cC, hPC, rfl, hOC, hlC, hE7⟩
      obtain ⟨h1, h2⟩ := HPA.out.det hPC
      subst h1; subst h2
      have HOC := hid hOC
      have HE7 := hid hE7
      have HE27 := hid (HE26.out.trans hE7)
      clear hPC hOC hE7 HPA
      have K := sameInts_true aA aC LA.length cA cC LA w7 (own_vs (own_keep0 HOA.out (((HE4.out.trans HE5.out).trans HE6.out).trans HE7.out))) (own_vs HOC.out) rfl (by omega)
      have hee : (eA != eA) = false := by simp
      have hfn := fun W => eql_func_nil W Bn
      unfold itv
      gi_wp2_with fail
      refine ⟨trivial, ?_⟩
      refine (callsIn_wide.2 K).mono ?_
      clear K
      rintro e w8 ⟨rfl, hE8⟩
      have HE8 := hid hE8
      have HE28 := hid (HE27.out.trans hE8)
      have K := kept_true w1 w8 gr rn capr R ra rc (HR2.out.keep HE28.out (by simp)) (HA1.out.keep0 (HE2.out.trans HE28.out)).roots HRl.out (by have := HRb.out; omega)
      clear hE8
      gi_wp2_with fail
      refine ⟨trivial, ?_⟩
      refine (callsIn_wide.2 K).mono ?_
      clear K hfn
      rintro e w9 ⟨rfl, hE9⟩
      have HE9 := hid hE9
      have HE29 := hid (HE28.out.trans hE9)
      have K := told_o a k c ra rn rc M R w9 (HA1.out.keep0 (HE2.out.trans HE29.out))
      clear hE9
      gi_wp2_with fail
      refine ⟨trivial, ?_⟩
      refine (callsIn_wide.2 K).mono ?_
      clear K
      rintro e w10 ⟨LW, aW, cW, hPW, rfl, hLW, hgW, hlW, hE10⟩
      have HE10 := hid hE10
      have HE210 := hid (HE29.out.trans hE10)
      have HLW := hid hLW
      have HGW := hid hgW
      have HPW := hid hPW
      clear hE10 hLW hgW hPW
      gi_wp2_with fail
      have hEa := Ext.alloc [] w10 (.cells #[.slice aW LW.length cW] 23)
      have HZ0 := hid (HI2.out.keep0 (HE210.out.trans hEa)).zn
      have HEa := hid hEa
      have HbW := hid (Boxed.new w10 23 (.slice aW LW.length cW))
      obtain ⟨W0, hW0⟩ : ∃ W0, w10.alloc (.cells #[.slice aW LW.length cW] 23) = W0 := ⟨_, rfl⟩
      rw [hW0] at HZ0 HEa HbW ⊢
      clear hEa hW0
      gi_loopw [22] (fun u wr => ∃ i : Nat, u = .int .i64 i ∧ i ≤ k ∧ Zn w1 wr (.slice ai k ci') k i M G ∧ Ext ((List.range k).map fun j => (G j).1) W0 wr) (fun u _ => (k - (intOf u)).toNat)
      case atStart => exact ⟨0, rfl, Nat.zero_le _, HZ0.out, Ext.refl _ _⟩
      case round =>
        obtain ⟨i, rfl, hik, hZ, hEz⟩ := hrel
        have HZ := hid hZ
        have HEz := hid hEz
        clear hZ hEz
        by_cases hlt2 : i < k
        · obtain ⟨gi, rfl, ci0⟩ := HZ.out.cell hlt2
          have hX : Ext [] w1 wr := (HE2.out.trans (HE210.out.trans HEa.out)).on HEz.out (fun z hz => by
            simp only [List.mem_map, List.mem_range] at hz
            obtain ⟨j, hj, rfl⟩ := hz
            exact HZ.out.new j hj)
          have hA2 := HA1.out.keep0 hX
          obtain ⟨b, o, rfl, hta⟩ := hA2.net.addr (by rw [hA2.len]; omega)
          obtain ⟨fa, fc, c0, hF, _, _⟩ := hta i (by rw [hA2.len]; omega)
          have HK := hid (fun q => (show Calls Try.prog 26 _ (wr.drewN q) (fun e w' => e = .returned (.bool true) ∧ ∃ m, w' = (wr.drewN q).drewN m) from kept_dr w1 (wr.drewN q) (G i).1 (lsAt M i).length (G i).2 (lsAt M i) fa fc ((HZ.out.left i (Nat.le_refl _) hlt2).keep (Ext.drewN [] _ _) (by simp)) (hF.keep0 (Ext.drewN [] _ _)) rfl (by have := HM6.out i hlt2; omega)))
          have HX := hid hX
          have hmi := HM6.out i hlt2
          clear hta hA2 hF hX
          gi_wp2_with fail
          refine wpIn_region_quiet_lit rfl (by kernel_rfl) (by kernel_rfl) ?_
          repeat (gi_big_quiet_step (fail))
          refine wpQuietIn_step (fun _ _ _ _ => trivial) (fun KK hKK => ?_)
          go_simp
          apply Exists.intro
          refine ⟨fun _ => ?_, hKK _ ?_⟩
          · exact CallsIn.quiet_of (callsIn_wide.2 (HK.out _))
          clear hKK KK
          repeat (gi_big_quiet_step (fail))
          refine wpQuietIn_nil ?_
          intro _ hw'
          obtain ⟨nq, hw2⟩ := hw'
          subst hw2
          have HZq := hid (HZ.out.keep0 (Ext.drewN [] wr nq)).next
          have HEq := hid (HEz.out.trans (Ext.drewN _ wr nq))
          clear HK HX HZ HEz ci0 c0
          generalize wr.drewN nq = wq at *
          gi_wp2_with fail
          gi_loopw [23] (fun u wv => ∃ t : Nat, u = .int .i64 t ∧ t ≤ (lsAt M i).length ∧ Zn w1 wv (.slice (some ⟨gi, 0, none⟩) k ci') k (i + 1) M G ∧ Ext ((List.range k).map fun j => (G j).1) W0 wv) (fun u _ => ((lsAt M i).length - (intOf u)).toNat)
          case atStart => exact ⟨0, rfl, Nat.zero_le _, HZq.out, HEq.out⟩
          case round =>
            clear HZq HEq
            obtain ⟨t, rfl, htl, hZ, hEz⟩ := hrel
            obtain ⟨gi', hgi, ci0⟩ := hZ.cell hlt2
            simp only [Option.some.injEq, Addr.mk.injEq, and_true] at hgi
            subst hgi
            have HZ := hid hZ
            have HEz := hid hEz
            clear hZ hEz
            by_cases htt : t < (lsAt M i).length
            · obtain ⟨ys, hy1, hy2⟩ := HZ.out.mine i hlt2
              obtain ⟨yv, ct⟩ : ∃ yv, wr.cell? ⟨(G i).1, t, none⟩ = some yv := ⟨_, by rw [hy2.cell t (by omega)]; exact List.getElem?_eq_getElem (by omega)⟩
              have ft := hy2.frozen t
              obtain ⟨hZs, hXs⟩ := HZ.out.set (k := t) (x := .int .i64 0) hlt2
              have HZs := hid hZs
              have HEs := hid (HEz.out.trans (hXs.mono (T := (List.range k).map fun j => (G j).1) (fun z hz => by
                simp only [List.mem_singleton] at hz
                subst hz
                exact List.mem_map.2 ⟨i, by simpa using hlt2, rfl⟩)))
              clear hy1 hy2 hZs hXs HZ HEz
              generalize (lsAt M i).length = ml at *
              generalize G i = Gi at *
              gi_wp2_with fail
              go_roundw
              case rel => exact ⟨t + 1, by go_num, by omega, HZs.out, HEs.out⟩
              case measure => simp [intOf]; omega
            · obtain rfl : t = (lsAt M i).length := by omega
              generalize (lsAt M i).length = ml at *
              gi_wp2_with fail
              go_roundw
              case rel => exact ⟨i + 1, by go_num, by omega, HZ.out, HEz.out⟩
              case measure => simp [intOf]; omega
        · obtain rfl : i = k := by omega
          have hX : Ext [] w1 wr := (HE2.out.trans (HE210.out.trans HEa.out)).on HEz.out (fun z hz => by
            simp only [List.mem_map, List.mem_range] at hz
            obtain ⟨j, hj, rfl⟩ := hz
            exact HZ.out.new j hj)
          have HX := hid hX
          have HNb : Hid (∀ b, w2.heap.size ≤ b → b ∉ ((List.range i).map fun j => (G j).1)) := fun b hb hq => by
            simp only [List.mem_map, List.mem_range] at hq
            obtain ⟨j, hj, rfl⟩ := hq
            obtain ⟨s1, _, h2, h3, h4⟩ := HGl.out
            have := h2 j hj
            omega
          have z3 := HE3.out.size
          have z4 := HE4.out.size
          have z5 := HE5.out.size
          have z6 := HE6.out.size
          have z7 := HE7.out.size
          have z8 := HE8.out.size
          have z9 := HE9.out.size
          have z10 := HE10.out.size
          have X5 : Ext [] w5 W0 := ((((HE6.out.trans HE7.out).trans HE8.out).trans HE9.out).trans HE10.out).trans HEa.out
          have X4 : Ext [] w4 W0 := HE5.out.trans X5
          have X3 : Ext [] w3 W0 := HE4.out.trans X4
          have X7 : Ext [] w7 W0 := ((HE8.out.trans HE9.out).trans HE10.out).trans HEa.out
          have HF0 := hid (show Boxed wr w.heap.size 3 (.int .i64 y) from hX.keep HY1.out (by simp))
          have HF2 := hid (show Boxed wr (w.heap.size + 1) 4 (.bool false) from hX.keep HO1.out (by simp))
          have HF4 := hid (show Boxed wr w10.heap.size 23 (.slice aW LW.length cW) from HEz.out.keep HbW.out (HNb.out _ (by omega)))
          have HF5 := hid (show Boxed wr Bn 23 vO from HEz.out.keep (X5.keep HBn.out (by simp)) (HNb.out _ (by omega)))
          have HLi := hid ((HLO.out.keep0 X5).keep HEz.out (fun b hb hv => HNb.out b (by have := HGs.out b hv; omega) hb))
          have HLw := hid ((HLW.out.keep0 HEa.out).keep HEz.out (fun b hb hv => HNb.out b (by have := HGW.out b hv; omega) hb))
          have HA' := hid (own_base (own_keep (own_keep0 HOA.out X3) HEz.out (fun b hb hv => HNb.out b (own_lt HOA.out b hv).1 hb)) (Nat.zero_le _))
          have HB' := hid (own_base (own_keep (own_keep0 HOB.out X4) HEz.out (fun b hb hv => HNb.out b (by have := (own_lt HOB.out b hv).1; omega) hb)) (Nat.zero_le _))
          have HC' := hid (own_base (own_keep (own_keep0 HOC.out X7) HEz.out (fun b hb hv => HNb.out b (by have := (own_lt HOC.out b hv).1; omega) hb)) (Nat.zero_le _))
          have HR' := hid ((HR2.out.keep (HE210.out.trans HEa.out) (by simp)).keep HEz.out (fun hq => by
            simp only [List.mem_map, List.mem_range] at hq
            obtain ⟨j, hj, e⟩ := hq
            obtain ⟨s1, _, h2, h3, h4⟩ := HGl.out
            have := h2 j hj
            omega)).own1
          have HQa : Hid (∀ b, (Value.slice aA LA.length cA).ownBlock = some b → w2.heap.size ≤ b ∧ b < w3.heap.size) := fun b hb => own_lt HOA.out b hb
          have HQb : Hid (∀ b, (Value.slice aB LB.length cB).ownBlock = some b → w3.heap.size ≤ b ∧ b < w4.heap.size) := fun b hb => own_lt HOB.out b hb
          have HQc : Hid (∀ b, (Value.slice aC LA.length cC).ownBlock = some b → w4.heap.size ≤ b) := fun b hb => by have := (own_lt HOC.out b hb).1; omega
          have hLL := (HPO.out.det HPW.out).1
          subst hLL
          have hBl := HF5.out.lt
          have hW10 := HF4.out.lt
          have HVl : Hid (∀ g, vO.ownBlock = some g → g < wr.heap.size) := fun g hg => HLi.out.lt g hg
          have hzw : w1.heap.size ≤ wr.heap.size := hX.size
          have hzw1 : w.heap.size + 1 < w1.heap.size := HO1.out.lt
          clear HOA HOB HOC HLO HLW HBn HbW HY1 HEz X3 X4 X5 X7 HE3 HE4 HE5 HE6 HE7 HE8 HE9 HE10 HEa HE24 HE25 HE26 HE27 HE28 HE29 HE210 HPO HPW HGs HGW HGa HZ0 hX HNb HI2
          gi_wp2_with fail
          obtain ⟨Wz, hWz⟩ : ∃ Wz, Wz = wr := ⟨_, rfl⟩
          subst hWz
          refine wpIn_loop_two (fun r act W => ∃ (u25' u132' u133' u134' u135' u136' u155' u156' u157' u158' u159' u160' u161' u162' u163' : Value) (Ds : List Nat), act = { tmps := #[.slice a i c, .slice ra rn rc, .int .i64 x, .int .i64 y, undef, undef, undef, .pointer (some ⟨w.heap.size, 0, none⟩), .pointer (some ⟨w.heap.size + 1, 0, none⟩), .slice ai i ci', .int .i64 (i : Nat), .slice (some ⟨gr, 0, none⟩) rn capr, .slice aA LA.length cA, .int .i64 eA, .slice aB LB.length cB, .int .i64 eB, .func (.func 45) #[] #[.pointer (some ⟨Bn, 0, none⟩)], .int .i64 er, .slice aC LA.length cC, .int .i64 eA, .pointer (some ⟨w10.heap.size, 0, none⟩), .bool true, .int .i64 (i : Nat), u23, .int .i64 (r : Nat), u25', undef, undef, .bool true, .bool false, .int .i64 (i : Nat), .slice a i c, .int .i64 (i : Nat), .bool false, u34, u35, u36, u37, u38, u39, u40, u41, u42, u43, .slice ra rn rc, .slice (some ⟨gr, 0, none⟩) rn capr, .tuple #[.slice aA LA.length cA, .int .i64 eA], .slice ai i ci', .slice (some ⟨gr, 0, none⟩) rn capr, .int .i64 x, .tuple #[.slice aA LA.length cA, .int .i64 eA], .slice aA LA.length cA, .int .i64 eA, .tuple #[.slice aB LB.length cB, .int .i64 eB], .slice ai i ci', .slice (some ⟨gr, 0, none⟩) rn capr, .int .i64 x, .tuple #[.slice aB LB.length cB, .int .i64 eB], .slice aB LB.length cB, .int .i64 eB, .tuple #[.func (.func 45) #[] #[.pointer (some ⟨Bn, 0, none⟩)], .int .i64 er], .slice ai i ci', .slice (some ⟨gr, 0, none⟩) rn capr, .tuple #[.func (.func 45) #[] #[.pointer (some ⟨Bn, 0, none⟩)], .int .i64 er], .func (.func 45) #[] #[.pointer (some ⟨Bn, 0, none⟩)], .int .i64 er, .slice ai i ci', .slice (some ⟨gr, 0, none⟩) rn capr, .tuple #[.slice aS LS.length cS, .int .i64 eS], .tuple #[.slice aC LA.length cC, .int .i64 eA], .slice ai i ci', .slice (some ⟨gr, 0, none⟩) rn capr, .int .i64 x, .tuple #[.slice aC LA.length cC, .int .i64 eA], .slice aC LA.length cC, .int .i64 eA, .func (.func 45) #[] #[.pointer (some ⟨Bn, 0, none⟩)], .bool false, .bool false, .int .i64 eA, .int .i64 eA, .bool false, .bool false, .bool false, .slice aA LA.length cA, .slice aC LA.length cC, .bool true, .bool false, .bool false, .bool false, .slice (some ⟨gr, 0, none⟩) rn capr, .slice ra rn rc, .bool true, .bool false, .bool false, .tuple #[.slice aW LO.length cW, .bool true], .slice a i c, .slice ra rn rc, .tuple #[.slice aW LO.length cW, .bool true], .slice aW LO.length cW, .bool true, .int .i64 (i : Nat), .slice a i c, .int .i64 (i : Nat), .bool false, u105, u106, u107, u108, u109, u110, u111, u112, u113, u114, u115, u116, u117, u118, u119, u120, u121, u122, u123, u124, u125, u126, u127, u128, u129, u130, u131, u132', u133', u134', u135', u136', undef, undef, undef, undef, undef, undef, undef, undef, undef, undef, undef, undef, undef, undef, undef, undef, undef, undef, u155', u156', u157', u158', u159', u160', u161', u162', u163', undef, undef, undef, undef, undef, undef, undef, undef, undef, undef, undef, undef, undef, undef, undef], defers := Ds.map mk } ∧ Ext [] Wz W ∧ Marks Ds W ∧ Ds.Nodup ∧ ∀ D ∈ Ds, D < W.heap.size ∧ Wz.heap.size ≤ D) ?start ?step ?fin
          case start =>
            exact ⟨undef, undef, undef, undef, undef, undef, undef, undef, undef, undef, undef, undef, undef, undef, undef, [], rfl, Ext.refl _ _, (fun D hD => by simp at hD), List.nodup_nil, (fun D hD => by simp at hD)⟩
          case step =>
            rintro r act wr hr2 ⟨u25', u132', u133', u134', u135', u136', u155', u156', u157', u158', u159', u160', u161', u162', u163', Ds, rfl, hE, hM, hN, hDl⟩
            have HQr := hid hE
            have HMr := hid hM
            have HNr := hid hN
            have HDl := hid hDl
            have hzr : Wz.heap.size ≤ wr.heap.size := hE.size
            clear hE hM hN hDl
            have hrr : (r : Int) < 2 := by omega
            gi_wp2_with fail
            have hQ0 := HQr.out.trans (Ext.alloc [] wr (.cells #[.int .i64 0] 3))
            have bK := Boxed.new wr 3 (.int .i64 0)
            have hM0 : Marks Ds (wr.alloc (.cells #[.int .i64 0] 3)) := HMr.out.ext ((KeepsOthers.alloc _ _).from _)
            have hsz : (wr.alloc (.cells #[.int .i64 0] 3)).heap.size = wr.heap.size + 1 := by simp
            obtain ⟨W0', hW0⟩ : ∃ W0', wr.alloc (.cells #[.int .i64 0] 3) = W0' := ⟨_, rfl⟩
            rw [hW0] at hQ0 bK hM0 hsz ⊢
            clear hW0
            refine wpIn_rangeFunc_ownH rfl (by omega) (gf := 45) (lb := #[.pointer (some ⟨Bn, 0, none⟩)]) rfl trivial (enters_of Try.func45 (by kernel_rfl) rfl)
              (each_stops Fence.wide _ trivial rfl (by omega) Bn vO LO (by omega) W0' (hQ0.keep HF5.out (by simp)) (HLi.out.keep0 hQ0)) klK_t (klK_b (by omega) (fun g hg => by have := HVl.out g hg; omega)) (Below.refl _ _) (fun _ => rfl)
              (fun pre W => ((Ext [] Wz W ∧ Boxed W wr.heap.size 3 (.int .i64 (pre.length : Nat))) ∧ Marks Ds W) ∧ Gd LO y pre)
              (fun cd pre W => (((Ext [] Wz W ∧ Boxed W wr.heap.size 3 (.int .i64 (pre.length : Nat))) ∧ Marks Ds W) ∧ (pre.length : Int) = y ∧ cd = .exit 8) ∨ (cd = .ret ∧ NotPre LO pre))
              (OwnFrom.and (OwnFrom.and (OwnFrom.and (ext_own (by omega)) (Own.from (boxed_own _ _ _) _)) (marks_own (fun D hD => by have := (HDl.out D hD).1; omega))) (ownFrom_pure _ _))
              (fun cd pre X Y row hs hg hr => by
                rcases hs with ⟨⟨⟨h1, h2⟩, h3⟩, h4⟩ | h
                · exact .inl ⟨⟨⟨ext_own (β := Unit) (B := W0'.heap.size) (by omega) () X Y row h1 hg hr, boxed_own wr.heap.size 3 (fun _ : Unit => .int .i64 (pre.length : Nat)) () X Y row h2 hg (fun r e => (hr r e).2)⟩, marks_own (β := Unit) (B := W0'.heap.size) (fun D hD => by have := (HDl.out D hD).1; omega) () X Y row h3 hg hr⟩, h4⟩
                · exact .inr h)
              ⟨⟨⟨hQ0, bK⟩, hM0⟩, gd_nil _ _⟩
              (fun x1 a' _ => a' = { tmps := #[.slice a i c, .slice ra rn rc, .int .i64 x, .int .i64 y, undef, undef, undef, .pointer (some ⟨w.heap.size, 0, none⟩), .pointer (some ⟨w.heap.size + 1, 0, none⟩), .slice ai i ci', .int .i64 (i : Nat), .slice (some ⟨gr, 0, none⟩) rn capr, .slice aA LA.length cA, .int .i64 eA, .slice aB LB.length cB, .int .i64 eB, .func (.func 45) #[] #[.pointer (some ⟨Bn, 0, none⟩)], .int .i64 er, .slice aC LA.length cC, .int .i64 eA, .pointer (some ⟨w10.heap.size, 0, none⟩), .bool true, .int .i64 (i : Nat), u23, .int .i64 (r : Nat), .pointer (some ⟨wr.heap.size, 0, none⟩), .int .i64 x1, undef, .bool true, .bool false, .int .i64 (i : Nat), .slice a i c, .int .i64 (i : Nat), .bool false, u34, u35, u36, u37, u38, u39, u40, u41, u42, u43, .slice ra rn rc, .slice (some ⟨gr, 0, none⟩) rn capr, .tuple #[.slice aA LA.length cA, .int .i64 eA], .slice ai i ci', .slice (some ⟨gr, 0, none⟩) rn capr, .int .i64 x, .tuple #[.slice aA LA.length cA, .int .i64 eA], .slice aA LA.length cA, .int .i64 eA, .tuple #[.slice aB LB.length cB, .int .i64 eB], .slice ai i ci', .slice (some ⟨gr, 0, none⟩) rn capr, .int .i64 x, .tuple #[.slice aB LB.length cB, .int .i64 eB], .slice aB LB.length cB, .int .i64 eB, .tuple #[.func (.func 45) #[] #[.pointer (some ⟨Bn, 0, none⟩)], .int .i64 er], .slice ai i ci', .slice (some ⟨gr, 0, none⟩) rn capr, .tuple #[.func (.func 45) #[] #[.pointer (some ⟨Bn, 0, none⟩)], .int .i64 er], .func (.func 45) #[] #[.pointer (some ⟨Bn, 0, none⟩)], .int .i64 er, .slice ai i ci', .slice (some ⟨gr, 0, none⟩) rn capr, .tuple #[.slice aS LS.length cS, .int .i64 eS], .tuple #[.slice aC LA.length cC, .int .i64 eA], .slice ai i ci', .slice (some ⟨gr, 0, none⟩) rn capr, .int .i64 x, .tuple #[.slice aC LA.length cC, .int .i64 eA], .slice aC LA.length cC, .int .i64 eA, .func (.func 45) #[] #[.pointer (some ⟨Bn, 0, none⟩)], .bool false, .bool false, .int .i64 eA, .int .i64 eA, .bool false, .bool false, .bool false, .slice aA LA.length cA, .slice aC LA.length cC, .bool true, .bool false, .bool false, .bool false, .slice (some ⟨gr, 0, none⟩) rn capr, .slice ra rn rc, .bool true, .bool false, .bool false, .tuple #[.slice aW LO.length cW, .bool true], .slice a i c, .slice ra rn rc, .tuple #[.slice aW LO.length cW, .bool true], .slice aW LO.length cW, .bool true, .int .i64 (i : Nat), .slice a i c, .int .i64 (i : Nat), .bool false, u105, u106, u107, u108, u109, u110, u111, u112, u113, u114, u115, u116, u117, u118, u119, u120, u121, u122, u123, u124, u125, u126, u127, u128, u129, u130, u131, .int .i64 (r : Nat), .bool true, u134', u135', .func (.func 45) #[] #[.pointer (some ⟨Bn, 0, none⟩)], .int .i64 x1, undef, undef, undef, undef, undef, undef, undef, undef, undef, undef, undef, undef, undef, undef, undef, undef, undef, u155', u156', u157', u158', u159', u160', u161', u162', u163', undef, undef, undef, undef, undef, undef, undef, undef, undef, undef, undef, undef, undef, undef, undef], defers := [] })
              (fun x1 a' _ X Y row hs hg hr => hs)
              ?assign ?body ?done ?stop
            case assign =>
              rintro l pre x1 W K ⟨⟨⟨hE, bK1⟩, hM⟩, hG⟩ hK
              have HKx := hid hK
              have HX1 := hid (And.intro (And.intro (And.intro hE bK1) hM) hG)
              clear hK hE hM hG bK1
              gi_wp2
              exact HKx.out _ _ (KeepsFrom.refl _ _) (Kl.refl _ _ _) HX1.out rfl
            case body =>
              rintro l pre x1 a' W hl ⟨lr, hlr⟩ ⟨⟨⟨hE, bK1⟩, hM⟩, hG⟩ rfl hlt
              have cK := bK1.cell
              have fK := bK1.frozen
              have cW' := (show Boxed W w10.heap.size 23 _ from hE.keep HF4.out (by simp)).cell
              have cC' := (show Boxed W w.heap.size 3 _ from hE.keep HF0.out (by simp)).cell
              have b8 := (show Boxed W (w.heap.size + 1) 4 _ from hE.keep HF2.out (by simp))
              have c8 := b8.cell
              have f8 := b8.frozen
              obtain ⟨bw, ow, rfl, cw⟩ := Is.cell (show Is W aW LO from own_vs (HLw.out.keep0 hE)) hlt
              have HPn : Hid (x1 ≠ LO.getD pre.length 0 → NotPre LO (pre ++ [x1])) := fun h => not_prefix hlt h
              have HPy : Hid (x1 = LO.getD pre.length 0 → ((pre.length : Int) + 1) ≠ y → Gd LO y (pre ++ [x1])) := fun h1 h2 => gd_snoc hG hlt h1 h2
              have HPl : Hid ((pre ++ [x1]).length = pre.length + 1) := by show _ = _; simp
              have HQ1 := hid hE
              have HM1 := hid hM
              have HK1 := hid bK1
              have hbl := bK1.lt
              clear hlr hG hE hM bK1 b8
              generalize hpk : pre.length = kk at *
              clear hpk
              generalize LO.getD kk 0 = yv at *
              generalize hll : LO.length = lo at *
              clear hll
              have hge : decide ((kk : Int) ≥ (lo : Int)) = false := by simp; omega
              have hge2 : ¬ (lo : Int) ≤ (kk : Int) := by omega
              by_cases hxy : x1 = yv
              · have HG2 := hid (HPy.out hxy)
                have hne : (x1 != yv) = false := by simp [hxy]
                have hkn : (kk : Int) + 1 < 100000 := by omega
                have hE7 : Ext [] Wz (W.setCell ⟨wr.heap.size, 0, none⟩ (.int .i64 ((kk : Int) + 1))) := HQ1.out.on (Ext.setCell [wr.heap.size] W ⟨wr.heap.size, 0, none⟩ _ (by simp)) (by simpa using hzr)
                have HQ7 := hid hE7
                have HB7 := hid (HK1.out.set (.int .i64 ((kk : Int) + 1)))
                have cC7 : (W.setCell ⟨wr.heap.size, 0, none⟩ (.int .i64 ((kk : Int) + 1))).cell? ⟨w.heap.size, 0, none⟩ = _ := (show Boxed _ w.heap.size 3 _ from hE7.keep HF0.out (by simp)).cell
                have cK7 := HB7.out.cell
                have HM7 := hid (HM1.out.ext ((KeepsOthers.setCell W ⟨wr.heap.size, 0, none⟩ (.int .i64 ((kk : Int) + 1))).from _))
                clear HPn HPy hxy hE7
                by_cases hkc : (kk : Int) + 1 = y
                · have hkd : ((kk : Int) + 1 == y) = true := by simp [hkc]
                  have HKC := hid hkc
                  clear hkc
                  gi_wp2_with fail
                  exact ⟨(KeepsOthers.setCell _ _ _).from _, .inl ⟨⟨⟨HQ7.out, by rw [HPl.out]; exact HB7.out⟩, HM7.out⟩, by rw [HPl.out]; exact HKC.out, rfl⟩⟩
                · have hkd : ((kk : Int) + 1 == y) = false := by simp [hkc]
                  have HKC := hid hkc
                  clear hkc
                  gi_wp2_with fail
                  exact ⟨(KeepsOthers.setCell _ _ _).from _, kl_ext HQ1.out HQ7.out hBl HVl.out, ⟨⟨HQ7.out, by rw [HPl.out]; exact HB7.out⟩, HM7.out⟩, HG2.out HKC.out⟩
              · have HG2 := hid (HPn.out hxy)
                have hne : (x1 != yv) = true := by simp [hxy]
                clear HPn HPy hxy
                gi_wp2_with fail
                exact ⟨(KeepsOthers.setCell _ _ _).from _, .inr ⟨rfl, HG2.out⟩⟩
            case done =>
              rintro D ys W hD rfl ⟨⟨⟨hE, bK1⟩, hM⟩, hG⟩ hK
              have cK := bK1.cell
              have cW' := (show Boxed W w10.heap.size 23 _ from hE.keep HF4.out (by simp)).cell
              have HG2 : Hid (Ext [] Wz W ∧ Marks (D :: Ds) W ∧ (D :: Ds).Nodup ∧ ∀ D' ∈ (D :: Ds), D' < W.heap.size ∧ Wz.heap.size ≤ D') := by
                refine ⟨hE, ?_, List.nodup_cons.2 ⟨fun h => by have := (HDl.out D h).1; omega, HNr.out⟩, ?_⟩
                · intro D' h'
                  rcases List.mem_cons.1 h' with rfl | h'
                  · exact hK
                  · exact hM D' h'
                · intro D' h'
                  rcases List.mem_cons.1 h' with rfl | h'
                  · exact ⟨lt_of_heap hK, by omega⟩
                  · exact ⟨lt_of_heap (hM D' h'), (HDl.out D' h').2⟩
              clear hE hM hK hG hD bK1
              have hrr2 : (r : Int) + 1 ≤ 2 := by omega
              gi_wp2_with fail
              exact ⟨_, _, _, _, _, _, _, _, _, _, _, _, _, _, _, D :: Ds, rfl, HG2.out⟩
            case stop =>
              rintro D cd pre W hD hSp h hK
              rcases h with ⟨⟨⟨hE, bK1⟩, hM⟩, hcut, rfl⟩ | ⟨rfl, hp⟩
              · have cK := bK1.cell
                have cW' := (show Boxed W w10.heap.size 23 _ from hE.keep HF4.out (by simp)).cell
                have cC' := (show Boxed W w.heap.size 3 _ from hE.keep HF0.out (by simp)).cell
                rw [← hcut] at cC'
                have HG2 : Hid (Ext [] Wz W ∧ Marks (D :: Ds) W ∧ (D :: Ds).Nodup ∧ ∀ D' ∈ (D :: Ds), D' < W.heap.size ∧ Wz.heap.size ≤ D') := by
                  refine ⟨hE, ?_, List.nodup_cons.2 ⟨fun h => by have := (HDl.out D h).1; omega, HNr.out⟩, ?_⟩
                  · intro D' h'
                    rcases List.mem_cons.1 h' with rfl | h'
                    · exact hK
                    · exact hM D' h'
                  · intro D' h'
                    rcases List.mem_cons.1 h' with rfl | h'
                    · exact ⟨lt_of_heap hK, by omega⟩
                    · exact ⟨lt_of_heap (hM D' h'), (HDl.out D' h').2⟩
                have hpl : pre.length ≤ LO.length := List.IsPrefix.length_le hSp
                have HYc := hid hcut
                clear hE hM hK hD bK1 hSp hcut
                generalize hpk : pre.length = kk at *
                clear hpk
                have hrr2 : (r : Int) + 1 ≤ 2 := by omega
                by_cases hkl : kk = LO.length
                · have hkd : ((kk : Int) != (LO.length : Int)) = false := by simp [hkl]
                  clear hkl
                  gi_wp2_with fail
                  exact ⟨_, _, _, _, _, _, _, _, _, _, _, _, _, _, _, D :: Ds, rfl, HG2.out⟩
                · have hkd : ((kk : Int) != (LO.length : Int)) = true := by simp; omega
                  gi_wp2_with fail
                  exact ⟨_, _, _, _, _, _, _, _, _, _, _, _, _, _, _, D :: Ds, rfl, HG2.out⟩
              · exact absurd hSp hp
          case fin =>
            rintro act wz ⟨u25', u132', u133', u134', u135', u136', u155', u156', u157', u158', u159', u160', u161', u162', u163', Ds, rfl, hE, hM, hN, hDl⟩
            obtain ⟨s1, g1, g2, g3, g4⟩ := HGl.out
            obtain ⟨zr, hzr1, hzr2⟩ := HR'.out
            have hrb := HRb.out
            obtain ⟨aT, cT, Wt, hrun, ct, ft, KB⟩ := book_any w1 wz (.slice aA LA.length cA) (.slice aB LB.length cB) (.slice aC LA.length cC) LA.length LB.length LA.length _ _ _ gr rn capr zr ai i ci' i M G s1 w2.heap.size w3.heap.size w4.heap.size (HX.out.trans hE) (HZ.out.keep0 hE) hn6 HM6.out (own_keep0 HA'.out hE) (by omega) (own_keep0 HB'.out hE) (by omega) (own_keep0 HC'.out hE) (by omega) (hzr2.keep hE (by simp)) hzr1 hrb g1 g2 g3 g4 HQa.out HQb.out HQc.out z3 z4
            have HQr := hid hE
            have HMr := hid hM
            have HNr := hid hN
            have HDl := hid hDl
            have hwz := hE.size
            clear hE hM hN hDl g1 g2 g3 g4 hzr1 hzr2
            gi_wp2_with (gi_at_builtin; refine wpListIn_append_run rfl _ _ 22 rfl _ _ _ rfl rfl hrun ?_)
            refine ⟨trivial, ?_⟩
            refine (callsIn_wide.2 KB).mono ?_
            clear KB
            rintro e W7 ⟨rfl, hE7, hM7⟩
            have b8 : Boxed W7 (w.heap.size + 1) 4 (.bool false) := hE7.keep HO1.out (by simp)
            have c8 := b8.cell
            have f8 := b8.frozen
            have HE7 := hid hE7
            have HM7 : Hid (Marks Ds W7) := fun D hD => hM7 D (HMr.out D hD)
            have HB8 := hid b8
            clear hE7 hM7 b8
            gi_wp2_with fail
            refine leaves_marks Ds _ (HM7.out.ext ((KeepsOthers.setCell _ _ _).from _)) HNr.out (fun W' hX => ⟨.bool true, ?_, rfl, ?_⟩)
            · have b9 : Boxed W' (w.heap.size + 1) 4 (.bool true) := hX.keep (HB8.out.set _) (fun h => by have := (HDl.out _ h).2; omega)
              exact results_cell1 rfl _ _ ⟨w.heap.size + 1, 0, none⟩ _ rfl (load4 b9)
            · exact ((HE1.out.trans HE7.out).on (Ext.setCell [w.heap.size + 1] W7 ⟨w.heap.size + 1, 0, none⟩ _ (by simp)) (by simp)).on hX (fun D hD => by have := (HDl.out D hD).2; omega)

end Go.Proofs.Ytfjabjnajcfamaa.reachKeeps

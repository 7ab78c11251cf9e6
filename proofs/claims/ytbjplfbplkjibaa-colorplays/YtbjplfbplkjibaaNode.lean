/-
  The program's free and Node; no statement is proved here.
-/
import Derived.Test.YtbjplfbplkjibaaSweep
import Derived.Test.YtbjplfbplkjibaaLib
import Derived.Deep.RegionLaw
namespace Go.Proofs.Ytbjplfbplkjibaa
open Go.RowKit

theorem fr_eq {G : Gs} {k : Nat} (h1 : G.le ≤ k) (h2 : ∀ i, G.le ≤ i → i < k → (ndAt G.ns i).c ≠ 0) (h3 : (ndAt G.ns k).c = 0) : fr G = k := by
  rcases Nat.lt_trichotomy k (fr G) with h | h | h
  · exact absurd h3 (fr_lo h1 h)
  · exact h.symm
  · refine absurd fr_free (h2 (fr G) ?_ h)
    unfold fr; omega

set_option maxHeartbeats 4000000 in
theorem free_any (p : Nat) (G : Gs) (B : Nat → Prop) (w : World) (h : Gr w p G B) (hle : G.le ≤ G.ns.length) (hlen : G.ns.length ≤ 65536) :
    Calls Try.prog 29 #[.pointer (some ⟨p, 0, none⟩)] w (GPost w p { G with le := fr G } B (.int .i64 (fr G))) := by
  obtain ⟨vn, vl, SV, h, ft⟩ := h
  obtain ⟨an, cn, rfl, hcn⟩ := own_slice h.row
  have HH := hid h
  have HT := hid ft
  obtain ⟨n, hn⟩ : ∃ n, n = G.ns.length := ⟨_, rfl⟩
  have HN := hid hn
  rw [← hn] at hle hlen hcn
  clear h ft hn
  have HE : Hid (∀ k, G.le ≤ k → (∀ i, G.le ≤ i → i < k → (ndAt G.ns i).c ≠ 0) → (ndAt G.ns k).c = 0 → fr G = k) := fun k => fr_eq
  go_enter Try.func29, Try.ntmps29
  go_wp2_with fail
  go_loopg [] (n - G.le) (fun q wr => ∃ k : Nat, G.le ≤ k ∧ k ≤ n ∧ n - k ≤ q ∧ (∀ i, G.le ≤ i → i < k → (ndAt G.ns i).c ≠ 0) ∧ Gm wr p (.slice an n cn) vl SV { G with le := k } ∧ Fx B w wr)
  case atStart => exact ⟨G.le, Nat.le_refl _, hle, Nat.le_refl _, fun i h1 h2 => by omega, by rw [HN.out]; exact HH.out, Fx.refl _ _⟩
  case round =>
    clear HH
    obtain ⟨k, hk1, hk2, hkq, hno, hG, hX⟩ := hrel
    have HNo := hid hno
    have HG := hid hG
    have HX := hid hX
    have f0 := hG.flds.1
    have f1 := hG.flds.2.1
    have z1 := hG.froz 1
    clear hno hX
    have HF : Hid (∀ m, (ndAt G.ns k).c = 0 → GPost w p { G with le := fr G } B (.int .i64 (fr G)) (.returned (.int .i64 k)) (wr.drewN m)) := fun m hc => by
      rw [HE.out k hk1 HNo.out hc]
      refine ⟨rfl, ⟨_, _, _, HG.out.keepD (B := B) (by have := HT.out; rw [← HN.out] at this; exact this) (Ext.drewN [] _ _), (by have := HT.out; rw [← HN.out] at this; exact this.mono (fun _ q => .inl q))⟩, HX.out.trans (C := B) (Fx.of_ext0 (Ext.drewN [] _ _)) (fun _ q => .inl q)⟩
    by_cases hlt : k < n
    · obtain ⟨g, c, hv, hc, hgp, hgl, c0, c1, c2, cf⟩ := hG.node (i := k) (by simp only; rw [← HN.out]; exact hlt)
      simp only [Value.slice.injEq] at hv
      obtain ⟨rfl, hnn, rfl⟩ := hv
      clear hnn
      simp only at c0
      have hil : (k : Int) < n := by omega
      have hd1 : decide ((k : Int) < n) = true := by simp [hlt]
      have hd2 : decide (k < n) = true := by simp [hlt]
      clear hG c1 c2 cf hc
      by_cases hc0 : (ndAt G.ns k).c = 0
      · have HF1 := hid (fun m => HF.out m hc0)
        have hb : (((ndAt G.ns k).c : Int) != 0) = false := by simp [hc0]
        clear HF hc0
        generalize (ndAt G.ns k).c = cc at *
        go_wp2_with fail
        go_quiet (fail)
        go_wp2_with fail
        go_ret
        exact HF1.out _
      · have hb : (((ndAt G.ns k).c : Int) != 0) = true := by simp; omega
        have HM : Hid (∀ m, Gm ((wr.drewN m).setCell ⟨p, 1, none⟩ (.int .i64 ((k : Int) + 1))) p (.slice (some ⟨g, 0, none⟩) n cn) vl SV { G with le := k + 1 }) := fun m => by
          have h0 := HG.out.keepD (B := B) (by have := HT.out; rw [← HN.out] at this; exact this) (Ext.drewN [] wr m)
          exact h0.fld 1 (.int .i64 ((k : Int) + 1)) { G with le := k + 1 } rfl rfl rfl
        have HNo2 : Hid (∀ i, G.le ≤ i → i < k + 1 → (ndAt G.ns i).c ≠ 0) := fun i h1 h2 => by
          by_cases e : i = k
          · rw [e]; exact hc0
          · exact HNo.out i h1 (by omega)
        clear HF hc0 HG HNo
        generalize (ndAt G.ns k).c = cc at *
        cases gk with
        | zero => omega
        | succ q =>
          go_wp2_with fail
          go_quiet (fail)
          go_wp2_with fail
          go_roundg q
          case measure => omega
          case rel => exact ⟨k + 1, by omega, by omega, by omega, HNo2.out, HM.out _, HX.out.trans (C := B) (Fx.of_ext (S := [p]) ((Ext.drewN [p] wr _).trans (Ext.setCell [p] _ _ _ (by simp))) (by simp; exact .inl HT.out.p)) (fun _ q => .inl q)⟩
    · obtain rfl : k = n := by omega
      have hc0 : (ndAt G.ns k).c = 0 := by rw [HN.out, ndAt_out (Nat.le_refl _)]; rfl
      have HF1 := hid (fun m => HF.out m hc0)
      have hd1 : decide ((k : Int) < k) = false := by simp
      clear HF hc0 hG HG
      go_wp2_with fail
      go_quiet (fail)
      go_wp2_with fail
      go_ret
      exact HF1.out _

theorem info65 : (Try.prog.info? 65).map (fun i => (i.zero, i.size, i.bytes)) = some (some (.agg #[.int .i64 0, .slice none 0 0, .int .i64 0]), 3, 40) := by kernel_rfl

/-- The graph ahead of the node's laying. -/
def pre (G : Gs) : Gs := { G with le := fr G, ns := if fr G = G.ns.length then G.ns ++ [nz] else G.ns }
theorem node_pre {G : Gs} (hf : fr G ≠ 65536) (m : Nat) : nodeG G m = { pre G with ns := (pre G).ns.set (fr G) ⟨3, List.replicate m (-1), 0⟩ } := by simp only [nodeG, hf, if_false, pre]
theorem pre_lt {G : Gs} (h : G.le ≤ G.ns.length) : fr G < (pre G).ns.length := by
  have := (fr_le h).2
  simp only [pre]
  split <;> simp <;> omega

theorem node_fin {w W1 W2 : World} {p g c m gq : Nat} {G : Gs} {B : Nat → Prop} {vl : Value} {SV : List Value} (hle : G.le ≤ G.ns.length) (hf : fr G ≠ 65536) (h1 : Gm W1 p (.slice (some ⟨g, 0, none⟩) (pre G).ns.length c) vl SV (pre G)) (ft : Ft (Nw B w) p (.slice (some ⟨g, 0, none⟩) (pre G).ns.length c) vl SV) (hX : Fx B w W1)
    (hE : Ext [] W1 W2) (hq : W1.heap.size ≤ gq) (hr : W2.heap[gq]? = some (.cells (List.replicate m (Value.int .i64 (-1))).toArray 3 (0, 0))) :
    GPost w p (nodeG G m) B (.tuple #[.int .i64 (fr G : Nat), .int .i64 0]) (.returned (.tuple #[.int .i64 (fr G : Nat), .int .i64 0])) (((W2.setCell ⟨g, fr G * 3, none⟩ (.int .i64 3)).setCell ⟨g, fr G * 3 + 1, none⟩ (.slice (some ⟨gq, 0, none⟩) m m)).setCell ⟨g, fr G * 3 + 2, none⟩ (.int .i64 0)) := by
  have h2 := h1.keepD ft hE
  have h3 := h2.setn (fr G) ⟨3, List.replicate m (-1), 0⟩ (.slice (some ⟨gq, 0, none⟩) m m) (pre_lt hle) (.inr ⟨gq, by simp, by simpa using hr⟩) (fun k hk => by
    simp [Value.ownBlock] at hk
    subst hk
    refine ⟨fun q => ?_, fun j q => ?_⟩
    · have := h1.lin.lt _ q; omega
    · have := (h1.slAll j).lt _ q; omega)
  rw [node_pre hf]
  have hXs := hX.size
  refine ⟨rfl, ⟨_, _, _, h3, ft.p, ft.n, ft.l, fun j k => ?_⟩, ?_⟩
  · rw [svAt_set (by rw [h1.svl]; exact pre_lt hle)]
    split
    · intro q; simp [Value.ownBlock] at q; subst q; exact .inr (by omega)
    · exact ft.s j k
  · refine (hX.trans (C := Nw B w) (Fx.of_ext0 hE) (fun k q => q)).trans (C := Nw B w) (Fx.of_ext (S := [g]) (((Ext.setCell [g] W2 _ _ (by simp)).trans (Ext.setCell [g] _ _ _ (by simp))).trans (Ext.setCell [g] _ _ _ (by simp))) (by simp; exact .inl (ft.n g rfl))) (fun k q => q)

set_option maxHeartbeats 4000000 in
theorem node_any (p : Nat) (G : Gs) (B : Nat → Prop) (x : Int) (w : World) (h : Gr w p G B) (hI : Iv G) :
    Calls Try.prog 12 #[.pointer (some ⟨p, 0, none⟩), .int .i64 x] w (GPost w p (node G x).1 B (.tuple #[.int .i64 (node G x).2.1, .int .i64 (node G x).2.2])) := by
  have hlen := hI.len
  have hle := hI.le
  by_cases hx : x < 0
  · rw [show node G x = (G, 0, 2) by simp [node, hx]]
    have HF := hid (gr_same h (.tuple #[.int .i64 0, .int .i64 2]))
    clear h hI
    go_enter Try.func12, Try.ntmps12
    go_wp2_with fail
    go_ret2
    exact HF.out
  by_cases hx2 : 8192 < x
  · rw [show node G x = (G, 0, 2) by simp [node, hx2]]
    have HF := hid (gr_same h (.tuple #[.int .i64 0, .int .i64 2]))
    clear h hI
    go_enter Try.func12, Try.ntmps12
    go_wp2_with fail
    go_ret2
    exact HF.out
  obtain ⟨m, rfl⟩ : ∃ m : Nat, x = m := ⟨x.toNat, by omega⟩
  have K := free_any p G B w h hle hlen
  have hfl := fr_le hle
  by_cases hf : fr G = 65536
  · rw [show node G m = ({ G with le := fr G }, 0, 7) by simp only [node, nodeG]; rw [if_neg (by omega), if_pos hf, if_pos hf]]
    have hf' : ((fr G : Int) == 65536) = true := by simp [hf]
    clear h hI hf
    go_enter Try.func12, Try.ntmps12
    go_wp2_with fail
    refine K.mono ?_
    clear K
    rintro e w1 ⟨rfl, hG, hX⟩
    have HG := hid hG
    have HX := hid hX
    clear hG hX
    go_wp2_with fail
    go_ret2
    exact ⟨rfl, HG.out, HX.out⟩
  · rw [show node G m = (nodeG G m, (fr G : Int), 0) by simp only [node]; rw [if_neg (by omega), if_neg hf]; simp]
    have hf' : ((fr G : Int) == 65536) = false := by simp; omega
    have HFin : Hid (∀ {W1 W2 : World} {g c gq : Nat} {vl : Value} {SV : List Value}, Gm W1 p (.slice (some ⟨g, 0, none⟩) (pre G).ns.length c) vl SV (pre G) → Ft (Nw B w) p (.slice (some ⟨g, 0, none⟩) (pre G).ns.length c) vl SV → Fx B w W1 → Ext [] W1 W2 → W1.heap.size ≤ gq → W2.heap[gq]? = some (.cells (List.replicate m (Value.int .i64 (-1))).toArray 3 (0, 0)) →
      GPost w p (nodeG G m) B (.tuple #[.int .i64 (fr G : Nat), .int .i64 0]) (.returned (.tuple #[.int .i64 (fr G : Nat), .int .i64 0])) (((W2.setCell ⟨g, fr G * 3, none⟩ (.int .i64 3)).setCell ⟨g, fr G * 3 + 1, none⟩ (.slice (some ⟨gq, 0, none⟩) m m)).setCell ⟨g, fr G * 3 + 2, none⟩ (.int .i64 0))) := fun h1 ft hX hE hq hr => node_fin hle hf h1 ft hX hE hq hr
    have hplt := pre_lt hle
    have HP : Hid ((pre G).le = fr G ∧ (pre G).ns = if fr G = G.ns.length then G.ns ++ [nz] else G.ns) := ⟨rfl, rfl⟩
    have HPre : Hid (pre G = { G with le := fr G, ns := if fr G = G.ns.length then G.ns ++ [nz] else G.ns }) := rfl
    have hm : m ≤ 8192 := by omega
    have hpl2 : (pre G).ns.length ≤ 65536 := by
      simp only [pre]
      split
      · simp; omega
      · exact hlen
    clear h hI
    go_enter Try.func12, Try.ntmps12
    go_wp2_with fail
    refine K.mono ?_
    clear K
    rintro e w1 ⟨rfl, ⟨vn, vl, SV, hm1, ft⟩, hX⟩
    have f0 := hm1.flds.1
    obtain ⟨an, cn, rfl, hcn⟩ := own_slice hm1.row
    simp only at f0 hcn
    by_cases hfe : fr G = G.ns.length
    · have hfe' : ((fr G : Int) == (G.ns.length : Int)) = true := by simp [hfe]
      have hpe : pre G = { G with le := fr G, ns := G.ns ++ [nz] } := by rw [HPre.out, if_pos hfe]
      have z0 := hm1.froz 0
      obtain ⟨i72, hi72, hz72, hs72, hy72⟩ := info_parts info65
      have hEa := Ext.alloc [] w1 (.cells #[.int .i64 0, .slice none 0 0, .int .i64 0] 65)
      obtain ⟨v', w2, hr, ho2, hg2, _, hat⟩ := run_append_own_at (P := Try.prog) (w1.alloc (.cells #[.int .i64 0, .slice none 0 0, .int .i64 0] 65)) 0 40 40 65 i72 _ 3 40 Try.underlying40 hi72 hz72 hs72 hy72 rfl (by decide) _ _ _ (own_keep0 hm1.row hEa) ⟨w1.heap.size, 0, none⟩ 1 1 [.int .i64 0, .slice none 0 0, .int .i64 0] rfl (fun j u hu => by rw [Addr.add_lit, cell_of_row _ _ _ _ _ _ (heap_alloc_new w1 _), Nat.zero_add, ← hu]; simp) (by simp [Value.oneCell']) (by unfold maxLen; simp only; omega) (by simp only; omega) (Nat.zero_le _)
      have hX2 := ext_grown hg2
      have hE12 : Ext (Value.slice an G.ns.length cn).ownBlock.toList w1 w2 := (hEa.mono (by simp)).trans hX2
      simp only at ho2
      rw [show ncs G.ns SV ++ [Value.int .i64 0, .slice none 0 0, .int .i64 0] = ncs (G.ns ++ [nz]) (SV ++ [.slice none 0 0]) by rw [ncs_snoc _ _ _ _ hm1.svl]; rfl] at ho2
      have hm2 := hm1.rown (G := { G with le := fr G }) hE12 ho2
      have hb2 : w2.heap[p]? = _ := hE12.keep hm1.blk (by simpa using hm1.np)
      have k0 : w2.cell? ⟨p, 0, none⟩ = some (.slice an G.ns.length cn) := by rw [cell_of_row _ _ _ _ _ _ hb2]; rfl
      have zz : w2.frozen? ⟨p, 0, none⟩ = false := frozen_of_row _ _ _ _ _ hb2
      obtain ⟨g, c2, rfl, _⟩ := ho2.form (by omega)
      rw [← hpe] at hm2
      have hpn : (pre G).ns.length = G.ns.length + 1 := by rw [hpe]; simp
      have HM : Hid (Gm (w2.setCell ⟨p, 0, none⟩ (.slice (some ⟨g, 0, none⟩) (G.ns.length + 1) c2)) p (.slice (some ⟨g, 0, none⟩) (pre G).ns.length c2) vl (SV ++ [.slice none 0 0]) (pre G)) := by rw [hpn]; exact hm2
      have HT : Hid (Ft (Nw B w) p (.slice (some ⟨g, 0, none⟩) (pre G).ns.length c2) vl (SV ++ [.slice none 0 0])) := by
        refine ⟨ft.p, fun k hk => ?_, ft.l, fun j k hk => ?_⟩
        · simp [Value.ownBlock] at hk
          subst hk
          rcases hat with q | q
          · exact ft.n g (by rw [← q]; rfl)
          · simp [Value.ownBlock] at q
            have := hX.size
            exact .inr (by omega)
        · by_cases q : j < SV.length
          · refine ft.s j k ?_
            rw [← hk]; simp [svAt, List.getD, List.getElem?_append_left q]
          · exfalso
            by_cases e : j = SV.length
            · subst e; simp [svAt, List.getD, Value.ownBlock] at hk
            · rw [svAt_out (by simp; omega)] at hk; simp [Value.ownBlock] at hk
      have HXX : Hid (Fx B w (w2.setCell ⟨p, 0, none⟩ (.slice (some ⟨g, 0, none⟩) (G.ns.length + 1) c2))) := by
        refine hX.trans (C := Nw B w) (Fx.of_ext (S := p :: (Value.slice an G.ns.length cn).ownBlock.toList) ((hE12.mono (by simp; intro a ha; exact .inr ha)).trans (Ext.setCell _ _ _ _ (by simp))) ?_) (fun k q => q)
        intro k hk
        simp only [List.mem_cons, Option.mem_toList] at hk
        rcases hk with rfl | hk
        · exact .inl ft.p
        · exact .inl (ft.n k hk)
      have hlt : (fr G : Int) < ((G.ns.length + 1 : Nat) : Int) := by omega
      have hbnd : G.ns.length < 65536 := by omega
      clear hm1 hm2 ft hX hEa ho2 hg2 hat hX2 hE12 hb2 hi72 hz72 hs72 hy72 hpe HP HPre hpn hfe
      go_upto_region 8 with (at_builtin; refine wpList_append_run rfl _ _ 40 rfl _ _ _ rfl rfl hr ?_)
      generalize hW1 : w2.setCell ⟨p, 0, none⟩ _ = W1 at *
      clear hW1 hr k0 zz f0 z0
      obtain ⟨f0, _⟩ := HM.out.flds
      obtain ⟨g', c', hv, hc, hgp, hgl, c0, c1, c2', cf⟩ := HM.out.node hplt
      simp only [Value.slice.injEq, Option.some.injEq, Addr.mk.injEq, and_true, true_and] at hv
      obtain ⟨rfl, rfl⟩ := hv
      have cf0 := cf (fr G * 3)
      have cf1 := cf (fr G * 3 + 1)
      have cf2 := cf (fr G * 3 + 2)
      have hlt2 : (fr G : Int) < (pre G).ns.length := by omega
      have hpW : p < W1.heap.size := lt_of_heap HM.out.blk
      generalize svAt _ (fr G) = sv0 at *
      generalize (ndAt (pre G).ns (fr G)).c = cc0 at *
      generalize (ndAt (pre G).ns (fr G)).k = kk0 at *
      have HFin2 := hid (fun (W2 : World) (gq : Nat) (hE : Ext [] W1 W2) (hq : W1.heap.size ≤ gq) (hr : W2.heap[gq]? = some (.cells (List.replicate m (Value.int .i64 (-1))).toArray 3 (0, 0))) => HFin.out HM.out HT.out HXX.out hE hq hr)
      have KR := repeat_any W1.heap.size m (W1.alloc (.cells #[.int .i64 (-1)] 3)).drew (cell_of_row _ W1.heap.size 0 _ _ _ (heap_alloc_new W1 (.cells #[.int .i64 (-1)] 3))) (by omega)
      have hEW : Ext [] W1 (W1.alloc (.cells #[.int .i64 (-1)] 3)).drew := (Ext.alloc [] _ _).trans (Ext.drew [] _)
      clear HM HT HXX HFin cf hc
      generalize (pre G).ns.length = n1 at *
      generalize fr G = fn at *
      have HC : Hid (∀ W2, Ext [] (W1.alloc (.cells #[.int .i64 (-1)] 3)).drew W2 → W2.cell? ⟨g, fn * 3, none⟩ = some (.int .i64 cc0) ∧ W2.cell? ⟨g, fn * 3 + 1, none⟩ = some sv0 ∧ W2.cell? ⟨g, fn * 3 + 2, none⟩ = some (.int .i64 kk0) ∧ W2.frozen? ⟨g, fn * 3, none⟩ = false ∧ W2.frozen? ⟨g, fn * 3 + 1, none⟩ = false ∧ W2.frozen? ⟨g, fn * 3 + 2, none⟩ = false) := fun W2 hE2 => by
        have hE3 := hEW.trans hE2
        have hbk := hE3.block g hgl (by simp)
        exact ⟨hE3.cell c0 (by simp), hE3.cell c1 (by simp), hE3.cell c2' (by simp), (World.frozen?_of_block (a := ⟨g, fn * 3, none⟩) hbk).trans cf0, (World.frozen?_of_block (a := ⟨g, fn * 3 + 1, none⟩) hbk).trans cf1, (World.frozen?_of_block (a := ⟨g, fn * 3 + 2, none⟩) hbk).trans cf2⟩
      go_region_held3 (fun w' => w'.cell? ⟨p, 0, none⟩ = some (.slice (some ⟨g, 0, none⟩) n1 c2))
        (first | exact hE2.cell (hEW.cell f0 (by simp)) (by simp) | go_keep)
        (first | (go_at_call 30; refine KR.mono ?_; rintro e W2 ⟨gq, rfl, hgq, hrow, hE2⟩; obtain ⟨d0, d1, d2, e0, e1, e2⟩ := HC.out W2 hE2) | fail "no arm")
      have HF := hid (HFin2.out W2 gq (hEW.trans hE2) (Nat.le_trans hEW.size hgq) hrow)
      clear hrow hE2 HFin2 HC d0 d1 d2 e0 e1 e2 hEW KR
      go_wp2_with fail
      go_ret2
      exact HF.out
    · have hfe' : ((fr G : Int) == (G.ns.length : Int)) = false := by simp; omega
      have hpe : pre G = { G with le := fr G } := by rw [HPre.out, if_neg hfe]
      have hpn : (pre G).ns.length = G.ns.length := by rw [hpe]
      obtain ⟨g, c2, hv, _⟩ := hm1.row.form (by simp only; omega)
      simp only [Value.slice.injEq, true_and] at hv
      obtain ⟨rfl, rfl⟩ := hv
      have HM : Hid (Gm w1 p (.slice (some ⟨g, 0, none⟩) (pre G).ns.length cn) vl SV (pre G)) := by rw [hpn, hpe]; exact hm1
      have HT : Hid (Ft (Nw B w) p (.slice (some ⟨g, 0, none⟩) (pre G).ns.length cn) vl SV) := by rw [hpn]; exact ft
      have HXX := hid hX
      rw [← hpn] at f0 hcn hfe'
      clear hm1 ft hX hpe HP HPre hfe hpn
      go_upto_region 8 with fail
      generalize hW1 : w1 = W1 at *
      clear hW1 f0
      obtain ⟨f0, _⟩ := HM.out.flds
      obtain ⟨g', c', hv, hc, hgp, hgl, c0, c1, c2', cf⟩ := HM.out.node hplt
      simp only [Value.slice.injEq, Option.some.injEq, Addr.mk.injEq, and_true, true_and] at hv
      obtain ⟨rfl, rfl⟩ := hv
      have cf0 := cf (fr G * 3)
      have cf1 := cf (fr G * 3 + 1)
      have cf2 := cf (fr G * 3 + 2)
      have hlt2 : (fr G : Int) < (pre G).ns.length := by omega
      have hpW : p < W1.heap.size := lt_of_heap HM.out.blk
      generalize svAt _ (fr G) = sv0 at *
      generalize (ndAt (pre G).ns (fr G)).c = cc0 at *
      generalize (ndAt (pre G).ns (fr G)).k = kk0 at *
      have HFin2 := hid (fun (W2 : World) (gq : Nat) (hE : Ext [] W1 W2) (hq : W1.heap.size ≤ gq) (hr : W2.heap[gq]? = some (.cells (List.replicate m (Value.int .i64 (-1))).toArray 3 (0, 0))) => HFin.out HM.out HT.out HXX.out hE hq hr)
      have KR := repeat_any W1.heap.size m (W1.alloc (.cells #[.int .i64 (-1)] 3)).drew (cell_of_row _ W1.heap.size 0 _ _ _ (heap_alloc_new W1 (.cells #[.int .i64 (-1)] 3))) (by omega)
      have hEW : Ext [] W1 (W1.alloc (.cells #[.int .i64 (-1)] 3)).drew := (Ext.alloc [] _ _).trans (Ext.drew [] _)
      clear HM HT HXX HFin cf hc
      generalize (pre G).ns.length = n1 at *
      generalize fr G = fn at *
      have HC : Hid (∀ W2, Ext [] (W1.alloc (.cells #[.int .i64 (-1)] 3)).drew W2 → W2.cell? ⟨g, fn * 3, none⟩ = some (.int .i64 cc0) ∧ W2.cell? ⟨g, fn * 3 + 1, none⟩ = some sv0 ∧ W2.cell? ⟨g, fn * 3 + 2, none⟩ = some (.int .i64 kk0) ∧ W2.frozen? ⟨g, fn * 3, none⟩ = false ∧ W2.frozen? ⟨g, fn * 3 + 1, none⟩ = false ∧ W2.frozen? ⟨g, fn * 3 + 2, none⟩ = false) := fun W2 hE2 => by
        have hE3 := hEW.trans hE2
        have hbk := hE3.block g hgl (by simp)
        exact ⟨hE3.cell c0 (by simp), hE3.cell c1 (by simp), hE3.cell c2' (by simp), (World.frozen?_of_block (a := ⟨g, fn * 3, none⟩) hbk).trans cf0, (World.frozen?_of_block (a := ⟨g, fn * 3 + 1, none⟩) hbk).trans cf1, (World.frozen?_of_block (a := ⟨g, fn * 3 + 2, none⟩) hbk).trans cf2⟩
      go_region_held3 (fun w' => w'.cell? ⟨p, 0, none⟩ = some (.slice (some ⟨g, 0, none⟩) n1 cn))
        (first | exact hE2.cell (hEW.cell f0 (by simp)) (by simp) | go_keep)
        (first | (go_at_call 30; refine KR.mono ?_; rintro e W2 ⟨gq, rfl, hgq, hrow, hE2⟩; obtain ⟨d0, d1, d2, e0, e1, e2⟩ := HC.out W2 hE2) | fail "no arm")
      have HF := hid (HFin2.out W2 gq (hEW.trans hE2) (Nat.le_trans hEW.size hgq) hrow)
      clear hrow hE2 HFin2 HC d0 d1 d2 e0 e1 e2 hEW KR
      go_wp2_with fail
      go_ret2
      exact HF.out

end Go.Proofs.Ytbjplfbplkjibaa

/-
  DWrt, DRdr: joined by program; no statement is proved here.
-/
import Derived.Test.YtkfagfdefkaenaaDoorZO
/-
  A directory's words are written; no statement is proved here.
-/
namespace Go.Proofs.YtkfagfdefkaenaaDoor
open Go.RowKit Go.Shelf
open Pr (Gp GpI sq pl)
attribute [local go_sem] Oper.semAt_some run_store_func

/-- The words of the tables. -/
def tw1 (t : Tq) : List Nat := t.d :: t.T
def tws (L : List Tq) : List Nat := L.flatMap tw1
/-- A directory's words. -/
def dw (dp : Nat) (L : List Tq) : List Nat := (dp :: L.length :: slo dp L 0) ++ tws L
theorem tws_take {L : List Tq} {k : Nat} {t : Tq} (h : L[k]? = some t) : tws (L.take (k + 1)) = tws (L.take k) ++ (t.d :: t.T) := by
  rw [take_snoc h]; simp [tws, tw1]
theorem tws_len {dp : Nat} : ∀ (L : List Tq) (p : Nat), Ok dp L p → (tws L).length ≤ L.length * 69636
  | [], _, _ => by simp [tws]
  | t :: L, p, h => by
    have h1 := h.1.sd.shp.len
    have h2 := h.1.sd.shp.gp.le
    have h3 := tws_len L _ h.2
    have : tws (t :: L) = (t.d :: t.T) ++ tws L := by simp [tws, tw1]
    rw [this, List.length_append, List.length_cons, List.length_cons]
    omega
theorem Dq.tws_le {dp : Nat} {L : List Tq} (h : Dq dp L) : (tws L).length ≤ 4456704 := by
  have h1 := tws_len L 0 h.ok
  have h2 := h.len
  omega
theorem tws_take_le {L : List Tq} (k : Nat) : (tws (L.take k)).length ≤ (tws L).length := by
  have : tws L = tws (L.take k) ++ tws (L.drop k) := by unfold tws; rw [← List.flatMap_append, List.take_append_drop]
  rw [this, List.length_append]; omega
theorem take_snoc' {S : List Nat} {k x : Nat} (h : S[k]? = some x) : S.take (k + 1) = S.take k ++ [x] := by
  rw [List.take_add_one, h]; rfl
/-- A word more behind a list of words of one's own. -/
theorem app_word (w0 wr : World) (hE : Ext [] w0 wr) (v : Value) (n : Nat) (X : List Nat) (hX : X.length = n) (ho : wr.ownsRow w0.heap.size 37 1 v n (vw X)) (x : Nat) (hn : n ≤ 100000000) :
    ∃ a c w', (Builtin.append_ #[22, 22] 22 #[v, .slice (some ⟨wr.heap.size, 0, none⟩) 1 1]).run Tryd.prog (wr.alloc (.cells #[.int .u64 (x : Nat)] 37)) = .ok (.slice a (n + 1) c) w' ∧ w'.ownsRow w0.heap.size 37 1 (.slice a (n + 1) c) (n + 1) (vw (X ++ [x])) ∧ Ext [] w0 w' ∧ Ext v.ownBlock.toList wr w' := by
  have hEa := Ext.alloc [] wr (.cells #[.int .u64 (x : Nat)] 37)
  obtain ⟨v', w', hr, ho', hE1, hE2⟩ := app_own w0 _ (hE.trans hEa) 22 22 37 _ 8 Tryd.underlying22 info37 rfl (by omega) v n (vw X) (own_keep0 ho hEa) (some ⟨wr.heap.size, 0, none⟩) 1 1 [.int .u64 (x : Nat)] rfl (vs_new wr 37 [.int .u64 (x : Nat)]) (by simp [Value.oneCell']) (by omega)
  obtain ⟨a, c, rfl, _⟩ := own_slice ho'
  refine ⟨a, c, w', hr, ?_, hE1, (hEa.mono (by simp)).trans hE2⟩
  rw [vw_append]; exact ho'
theorem app_words (w0 wr : World) (hE : Ext [] w0 wr) (v : Value) (n : Nat) (X : List Nat) (ho : wr.ownsRow w0.heap.size 37 1 v n (vw X)) (g m c0 : Nat) (T : List Nat) (hT : Tw wr g T) (hm : T.length = m) (hn : n + m ≤ 100000000) :
    ∃ a c w', (Builtin.append_ #[22, 22] 22 #[v, .slice (some ⟨g, 0, none⟩) m c0]).run Tryd.prog wr = .ok (.slice a (n + m) c) w' ∧ w'.ownsRow w0.heap.size 37 1 (.slice a (n + m) c) (n + m) (vw (X ++ T)) ∧ Ext [] w0 w' ∧ Ext v.ownBlock.toList wr w' := by
  obtain ⟨v', w', hr, ho', hE1, hE2⟩ := app_own w0 _ hE 22 22 37 _ 8 Tryd.underlying22 info37 rfl (by omega) v n (vw X) ho (some ⟨g, 0, none⟩) m c0 (vw T) (by rw [vw_len]; exact hm) hT.wd (vw_one T) (by omega)
  obtain ⟨a, c, rfl, _⟩ := own_slice ho'
  refine ⟨a, c, w', hr, ?_, hE1, hE2⟩
  rw [vw_append]; exact ho'
theorem slo_le {dp : Nat} {x j : Nat} : ∀ {L : List Tq} {k : Nat}, (slo dp L k)[j]? = some x → x ≤ k + L.length
  | [], k, h => by simp [slo] at h
  | t :: L, k, h => by
    have hm := List.mem_of_getElem? h
    rw [slo, List.mem_append] at hm
    rw [List.length_cons]
    rcases hm with q | q
    · have := List.eq_of_mem_replicate q; omega
    · obtain ⟨i, hi⟩ := List.mem_iff_getElem?.1 q
      have := slo_le (L := L) hi
      omega
theorem u64_conv (x : Nat) (h : x ≤ 100000000) : IntKind.u64.wrap (x : Int) = (x : Int) := by rw [IntKind.wrap_u64]; omega
set_option maxRecDepth 100000 in
set_option maxHeartbeats 4000000 in
theorem write_dir (dp bt ct bs os cs n : Nat) (L : List Tq) (hD : Dq dp L) (hcs : 2 ^ dp ≤ cs) (hn : L.length = n) (w : World) (hR : Dr w bt bs os dp L) :
    Calls Tryd.prog 51 #[dv dp bt n ct bs os (2 ^ dp) cs] w (OwPost w (dw dp L)) := by
  have hdp := hD.le
  have hl64 := hD.len
  rw [hn] at hl64
  have hm64 := pow64 hdp
  have hsl : (slo dp L 0).length = 2 ^ dp := by rw [slo_len, hD.all]
  have htl := hD.tws_le
  obtain ⟨m, hm⟩ : ∃ m, 2 ^ dp = m := ⟨_, rfl⟩
  unfold dv
  rw [hm] at hsl hm64 hcs ⊢
  obtain ⟨z, hz⟩ : ∃ z, w.heap.size = z := ⟨_, rfl⟩
  have hE0 := Ext.alloc [] w (.cells #[.int .i64 (dp : Nat), .slice (some ⟨bt, 0, none⟩) n ct, .slice (some ⟨bs, os, none⟩) m cs] 27)
  have hb0 := heap_alloc_new w (.cells #[.int .i64 (dp : Nat), .slice (some ⟨bt, 0, none⟩) n ct, .slice (some ⟨bs, os, none⟩) m cs] 27)
  obtain ⟨W0, hW0⟩ : ∃ W0, w.alloc (.cells #[.int .i64 (dp : Nat), .slice (some ⟨bt, 0, none⟩) n ct, .slice (some ⟨bs, os, none⟩) m cs] 27) = W0 := ⟨_, rfl⟩
  rw [hW0] at hE0 hb0
  rw [hz] at hb0
  have hy : W0.heap.size = z + 1 := by rw [← hW0, ← hz]; simp
  obtain ⟨a0, a1, a2⟩ := cells3 hb0
  have hE1 := Ext.alloc [] W0 (.cells #[.int .u64 (dp : Nat), .int .u64 (n : Nat)] 37)
  have ho1 : (W0.alloc (.cells #[.int .u64 (dp : Nat), .int .u64 (n : Nat)] 37)).ownsRow w.heap.size 37 1 (.slice (some ⟨z + 1, 0, none⟩) 2 2) 2 (vw [dp, n]) := by
    refine ⟨rfl, .inr ⟨z + 1, 2, #[.int .u64 (dp : Nat), .int .u64 (n : Nat)], rfl, by omega, ?_, Nat.le_refl _, by decide, rfl, rfl⟩⟩
    rw [← hy]; exact heap_alloc_new W0 _
  obtain ⟨W1, hW1⟩ : ∃ W1, W0.alloc (.cells #[.int .u64 (dp : Nat), .int .u64 (n : Nat)] 37) = W1 := ⟨_, rfl⟩
  rw [hW1] at hE1 ho1
  have hc1 := u64_conv dp (by omega)
  have hc2 := u64_conv n (by omega)
  have HD := hid hD
  have HN := hid hn
  have HR := hid hR
  have HE1 := hid (hE0.trans hE1)
  have Hb1 := hid (hE1.keep hb0 (by simp))
  have Ho1 := hid ho1
  have HSl := hid hsl
  have HTl := hid htl
  have HM := hid hm
  clear hD hn hR hE0 hE1 hb0 ho1 hsl htl hm
  obtain ⟨b0, b1, b2⟩ := cells3 Hb1.out
  go_enter Tryd.func51, Tryd.ntmps51
  go_wp2_with fail
  go_loopw [3, 19] (fun p q wr => ∃ k : Nat, q = .int .i64 k ∧ k ≤ m ∧ (∃ a c, p = .slice a (2 + k) c) ∧ wr.ownsRow w.heap.size 37 1 p (2 + k) (vw (dp :: n :: (slo dp L 0).take k)) ∧ Ext [] w wr ∧ wr.heap[z]? = some (.cells #[.int .i64 (dp : Nat), .slice (some ⟨bt, 0, none⟩) n ct, .slice (some ⟨bs, os, none⟩) m cs] 27)) (fun _ q _ => (m - (intOf q)).toNat)
  case atStart => exact ⟨0, rfl, Nat.zero_le _, ⟨_, _, rfl⟩, Ho1.out, HE1.out, Hb1.out⟩
  case round =>
    obtain ⟨k, rfl, hk, ⟨pa, pc, rfl⟩, hown, hXr, hrow⟩ := hrel
    by_cases hkm : k < m
    · have hki : (k : Int) < m := by omega
      obtain ⟨x, hx⟩ : ∃ x, (slo dp L 0)[k]? = some x := ⟨_, List.getElem?_eq_getElem (by rw [HSl.out]; exact hkm)⟩
      have hxc := (HR.out.keep0 hXr).ns k x hx
      have hxl : x ≤ 64 := by
        have := slo_le (L := L) (k := 0) hx
        have h2 := HN.out
        omega
      have hcx := u64_conv x (by omega)
      have hlen : (dp :: n :: (slo dp L 0).take k).length = 2 + k := by
        rw [List.length_cons, List.length_cons, List.length_take, HSl.out]; omega
      obtain ⟨a', c', w', hr, ho', hE1', hE2'⟩ := app_word w wr hXr _ (2 + k) _ hlen hown x (by omega)
      have hrow' := hE2'.keep hrow (by rw [Option.mem_toList]; exact own_ne hown hrow (by decide))
      have HO' : Hid (w'.ownsRow w.heap.size 37 1 (.slice a' (2 + (k + 1)) c') (2 + (k + 1)) (vw (dp :: n :: (slo dp L 0).take (k + 1)))) := by
        show World.ownsRow _ _ _ _ _ _ _
        rw [take_snoc' hx, ← Nat.add_assoc]; exact ho'
      have HE' := hid hE1'
      have HRow' := hid hrow'
      clear hown hXr hrow hx ho' hE1' hE2' hrow' hlen
      rw [show 2 + k + 1 = 2 + (k + 1) from by omega] at hr
      go_wp2_with (at_builtin; refine wpList_append_run rfl _ _ 22 rfl _ _ _ rfl rfl hr ?_)
      go_roundw
      case rel => exact ⟨k + 1, by go_num, by omega, ⟨_, _, rfl⟩, HO'.out, HE'.out, HRow'.out⟩
      case measure => simp [intOf]; omega
    · obtain rfl : k = m := by omega
      rw [List.take_of_length_le (by rw [HSl.out]; omega)] at hown
      obtain ⟨e0, e1, e2⟩ := cells3 hrow
      have hown0 := hown
      have HOwn := hid hown
      have HXr := hid hXr
      have HRow := hid hrow
      clear hown hXr hrow e0 e2
      go_wp2_with fail
      go_loopw [3, 32] (fun p q wr => ∃ j : Nat, q = .int .i64 j ∧ j ≤ n ∧ ∃ len : Nat, (∃ a c, p = .slice a len c) ∧ ((dp :: n :: slo dp L 0) ++ tws (L.take j)).length = len ∧ wr.ownsRow w.heap.size 37 1 p len (vw ((dp :: n :: slo dp L 0) ++ tws (L.take j))) ∧ Ext [] w wr ∧ wr.heap[z]? = some (.cells #[.int .i64 (dp : Nat), .slice (some ⟨bt, 0, none⟩) n ct, .slice (some ⟨bs, os, none⟩) k cs] 27)) (fun _ q _ => (n - (intOf q)).toNat)
      case atStart => exact ⟨0, rfl, Nat.zero_le _, _, ⟨_, _, rfl⟩, by simp [tws, HSl.out]; omega, by simpa [tws] using HOwn.out, HXr.out, HRow.out⟩
      case round =>
        obtain ⟨j, rfl, hj, len, ⟨qa, qc, rfl⟩, hlen, hown, hXr, hrow⟩ := hrel
        by_cases hjn : j < n
        · have hji : (j : Int) < n := by omega
          obtain ⟨t, p, hN⟩ := HD.out.nth (n := j) (by rw [HN.out]; exact hjn)
          obtain ⟨g, c, e1w, e2w, hTww⟩ := HR.out.ts.cells hN.at_
          have e1 := hXr.cell e1w (by simp)
          have e2 := hXr.cell e2w (by simp)
          have htk := tws_take hN.at_
          have htle := tws_take_le (L := L) (j + 1)
          have htl2 := HTl.out
          have hdl : t.d ≤ 6 := Nat.le_trans hN.ot.le hdp
          have hTl := hN.ot.sd.shp.len
          have hTg := hN.ot.sd.shp.gp.le
          have hcx := u64_conv t.d (by omega)
          have hlb : len ≤ 4456800 := by
            rw [← hlen, List.length_append, List.length_cons, List.length_cons, HSl.out]
            have := tws_take_le (L := L) j
            omega
          have hEA := Ext.alloc [] wr (.cells #[.int .i64 (t.d : Nat), .slice (some ⟨g, 0, none⟩) (3 + 17 * t.G) c] 66)
          have hnew := heap_alloc_new wr (.cells #[.int .i64 (t.d : Nat), .slice (some ⟨g, 0, none⟩) (3 + 17 * t.G) c] 66)
          obtain ⟨y, hy'⟩ : ∃ y, wr.heap.size = y := ⟨_, rfl⟩
          obtain ⟨U, hU⟩ : ∃ U, wr.alloc (.cells #[.int .i64 (t.d : Nat), .slice (some ⟨g, 0, none⟩) (3 + 17 * t.G) c] 66) = U := ⟨_, rfl⟩
          rw [hU] at hEA hnew
          rw [hy'] at hnew
          have hownU := own_keep0 hown hEA
          have hrowU := hEA.keep hrow (by simp)
          obtain ⟨a1, c1, w1, hr1, ho1, hF1, hG1⟩ := app_word w U (hXr.trans hEA) _ len _ hlen hownU t.d (by omega)
          have hnew1 := hG1.keep hnew (by rw [Option.mem_toList]; exact own_ne hownU hnew (by decide))
          have hrow1 := hG1.keep hrowU (by rw [Option.mem_toList]; exact own_ne hownU hrowU (by decide))
          have hT1 : Tw w1 g t.T := hTww.keep0 hF1
          obtain ⟨a2, c2, w2, hr2, ho2, hF2, hG2⟩ := app_words w w1 hF1 _ (len + 1) _ ho1 g (3 + 17 * t.G) c t.T hT1 hTl (by omega)
          have hrow2 := hG2.keep hrow1 (by rw [Option.mem_toList]; exact own_ne ho1 hrow1 (by decide))
          have l0 : U.cell? ⟨y, 0, none⟩ = some (.int .i64 (t.d : Nat)) := by rw [cell_of_row _ _ _ _ _ _ hnew]; rfl
          have l1 : w1.cell? ⟨y, 1, none⟩ = some (.slice (some ⟨g, 0, none⟩) (3 + 17 * t.G) c) := by rw [cell_of_row _ _ _ _ _ _ hnew1]; rfl
          have HO : Hid (w2.ownsRow w.heap.size 37 1 (.slice a2 (len + 1 + (3 + 17 * t.G)) c2) (len + 1 + (3 + 17 * t.G)) (vw ((dp :: n :: slo dp L 0) ++ tws (L.take (j + 1))))) := by
            show World.ownsRow _ _ _ _ _ _ _
            rw [htk]
            have : (dp :: n :: slo dp L 0) ++ (tws (L.take j) ++ t.d :: t.T) = (dp :: n :: slo dp L 0) ++ tws (L.take j) ++ [t.d] ++ t.T := by simp
            rw [this]; exact ho2
          have HLen : Hid (((dp :: n :: slo dp L 0) ++ tws (L.take (j + 1))).length = len + 1 + (3 + 17 * t.G)) := by
            show _ = _
            rw [htk, ← List.append_assoc, List.length_append, hlen, List.length_cons, hTl]; omega
          have HF2 := hid hF2
          have HRow2 := hid hrow2
          obtain ⟨ln1, hln1⟩ : ∃ ln1, len + 1 = ln1 := ⟨_, rfl⟩
          obtain ⟨ln2, hln2⟩ : ∃ ln2, ln1 + (3 + 17 * t.G) = ln2 := ⟨_, rfl⟩
          rw [hln1] at hr1 hr2 HO HLen
          rw [hln2] at hr2 HO HLen
          clear hown hXr hrow hN e1w e2w hTww htk htle htl2 hTl hTg hownU hrowU ho1 hF1 hG1 hnew hnew1 hrow1 hT1 ho2 hF2 hG2 hrow2 hln1 hln2 hlen hlb hEA
          go_wp2_with (at_builtin; first | refine wpList_append_run rfl _ _ 22 rfl _ _ _ rfl rfl hr1 ?_ | refine wpList_append_run rfl _ _ 22 rfl _ _ _ rfl rfl hr2 ?_)
          go_roundw
          case rel => exact ⟨j + 1, by go_num, by omega, _, ⟨_, _, rfl⟩, HLen.out, HO.out, HF2.out, HRow2.out⟩
          case measure => simp [intOf]; omega
        · obtain rfl : j = n := by omega
          have htk : (dp :: j :: slo dp L 0) ++ tws (L.take j) = dw dp L := by
            unfold dw
            rw [HN.out, List.take_of_length_le (by rw [HN.out]; omega)]
          rw [htk] at hlen hown
          have HF : Hid (OwPost w (dw dp L) (.returned (.slice qa len qc)) wr) := ⟨qa, qc, by rw [hlen], by rw [hlen]; exact hown, hXr⟩
          clear hown hXr hrow hlen htk
          go_wp2_with fail
          go_ret
          exact HF.out
/-- Its words, or the error. -/
def DwPost (w : World) (T : List Nat) (e : Ending) (w' : World) : Prop := ∃ a n c, e = .returned (.tuple #[.slice a n c, .int .i64 0]) ∧ T.length = n ∧ w'.ownsRow w.heap.size 37 1 (.slice a n c) n (vw T) ∧ Ext [] w w'
set_option maxRecDepth 100000 in
set_option maxHeartbeats 4000000 in
theorem dwords_any (dp bt ct bs os cs n : Nat) (L : List Tq) (hD : Dq dp L) (hcs : 2 ^ dp ≤ cs) (hn : L.length = n) (w : World) (hR : Dr w bt bs os dp L) (hTb : Tb w) :
    Calls Tryd.prog 26 #[dv dp bt n ct bs os (2 ^ dp) cs] w (DwPost w (dw dp L)) := by
  obtain ⟨m, hm⟩ : ∃ m, 2 ^ dp = m := ⟨_, rfl⟩
  obtain ⟨z, hz⟩ : ∃ z, w.heap.size = z := ⟨_, rfl⟩
  have hE0 := Ext.alloc [] w (.cells #[.int .i64 (dp : Nat), .slice (some ⟨bt, 0, none⟩) n ct, .slice (some ⟨bs, os, none⟩) m cs] 27)
  have hb0 := heap_alloc_new w (.cells #[.int .i64 (dp : Nat), .slice (some ⟨bt, 0, none⟩) n ct, .slice (some ⟨bs, os, none⟩) m cs] 27)
  obtain ⟨W0, hW0⟩ : ∃ W0, w.alloc (.cells #[.int .i64 (dp : Nat), .slice (some ⟨bt, 0, none⟩) n ct, .slice (some ⟨bs, os, none⟩) m cs] 27) = W0 := ⟨_, rfl⟩
  rw [hW0] at hE0 hb0
  rw [hz] at hb0
  have K := sound_yes dp bt ct bs os cs n L hD hcs hn W0 (hR.keep0 hE0) (hTb.keep0 hE0)
  have K2 := fun u (hu : Ext [] W0 u) => write_dir dp bt ct bs os cs n L hD hcs hn u ((hR.keep0 hE0).keep0 hu)
  unfold dv at K K2 ⊢
  rw [hm] at K K2 ⊢
  obtain ⟨a0, a1, a2⟩ := cells3 hb0
  have HE0 := hid hE0
  have B0 := hid hb0
  clear hD hn hR hTb hE0 hb0 hcs
  go_enter Tryd.func26, Tryd.ntmps26
  go_wp2_with fail
  try rw [hW0]
  try simp only [hz]
  clear hW0
  refine K.mono ?_
  clear K a0 a1 a2
  rintro _ w1 ⟨rfl, hE1⟩
  obtain ⟨c0, c1, c2⟩ := cells3 (hE1.keep B0.out (by simp))
  have K3 := K2 w1 hE1
  have HE1 := hid (HE0.out.trans hE1)
  clear hE1 K2
  go_wp2_with fail
  refine K3.mono ?_
  clear K3 c0 c1 c2
  rintro _ w2 ⟨a, c, rfl, ho, hE2⟩
  have HF : Hid (DwPost w (dw dp L) (.returned (.tuple #[.slice a (dw dp L).length c, .int .i64 0])) w2) := ⟨a, _, c, rfl, rfl, own_base ho HE1.out.size, HE1.out.trans hE2⟩
  clear ho hE2
  generalize hlen : (dw dp L).length = len at *
  clear hlen
  go_wp2_with fail
  go_ret2
  exact HF.out
end Go.Proofs.YtkfagfdefkaenaaDoor

/-
  Words are read: the next ones, a number, a table; no statement is proved here.
-/
namespace Go.Proofs.YtkfagfdefkaenaaDoor
open Go.RowKit Go.Shelf
open Pr (Gp GpI sq pl)
attribute [local go_sem] Oper.semAt_some run_store_func

/-- A reader in memory that has these words before it; they lay in w0 already, the reader did not. -/
structure Rdr (w0 w : World) (p : Nat) (X : List Nat) : Prop where
  new : w0.heap.size ≤ p
  ext : Ext [] w0 w
  ex : ∃ b o n c, w.heap[p]? = some (.cells #[.slice (some ⟨b, o, none⟩) n c, .bool false] 108) ∧ X.length = n ∧ n ≤ c ∧ ∀ j, j < X.length → w0.cell? ⟨b, o + j, none⟩ = some (.int .u64 (X.getD j 0 : Nat))
theorem Rdr.keep {S : List Nat} {w0 w w' : World} {p : Nat} {X : List Nat} (h : Rdr w0 w p X) (e : Ext S w w') (hp : p ∉ S) (e0 : Ext [] w0 w') : Rdr w0 w' p X := by
  obtain ⟨h0, _, b, o, n, c, h1, h2⟩ := h
  exact ⟨h0, e0, b, o, n, c, e.keep h1 hp, h2⟩
/-- The next words. -/
def TkPost (w0 w : World) (p k : Nat) (X : List Nat) (e : Ending) (w' : World) : Prop := ∃ b o c, e = .returned (.slice (some ⟨b, o, none⟩) k c) ∧ k ≤ c ∧ Wd w0 (some ⟨b, o, none⟩) (X.take k) ∧ Rdr w0 w' p (X.drop k) ∧ Ext [p] w w'
set_option maxRecDepth 100000 in
set_option maxHeartbeats 4000000 in
theorem take_any (p k : Nat) (X : List Nat) (w0 w : World) (hR : Rdr w0 w p X) (hk : k ≤ X.length) (_hb : X.length ≤ 100000000) : Calls Tryd.prog 88 #[.pointer (some ⟨p, 0, none⟩), .int .i64 (k : Nat)] w (TkPost w0 w p k X) := by
  obtain ⟨h0, hE, b, o, n, c, h1, h2, h3, h5⟩ := hR
  rw [h2] at hk
  have c0 : w.cell? ⟨p, 0, none⟩ = some (.slice (some ⟨b, o, none⟩) n c) := by rw [cell_of_row _ _ _ _ _ _ h1]; rfl
  have c1 : w.cell? ⟨p, 1, none⟩ = some (.bool false) := by rw [cell_of_row _ _ _ _ _ _ h1]; rfl
  have f0 : w.frozen? ⟨p, 0, none⟩ = false := frozen_of_row _ _ _ _ _ h1
  have hki : ¬ ((n : Int) < (k : Int)) := by omega
  have hkn : (k : Int) ≤ (n : Int) := by omega
  have HX : ∀ o', (k < n → o' = o + k) → Hid (TkPost w0 w p k X (.returned (.slice (some ⟨b, o, none⟩) k c)) (w.setCell ⟨p, 0, none⟩ (.slice (some ⟨b, o', none⟩) (n - k) (c - k)))) := fun o' ho => by
    have hx := Ext.setCell [p] w ⟨p, 0, none⟩ (.slice (some ⟨b, o', none⟩) (n - k) (c - k)) (by simp)
    refine ⟨b, o, c, rfl, by omega, .inr ⟨b, o, rfl, fun j hj => ?_⟩, ⟨h0, hE.on hx (by simpa using h0), b, o', n - k, c - k, heap_setCell_same w p 0 _ 108 _ h1, by rw [List.length_drop]; omega, by omega, fun j hj => ?_⟩, hx⟩
    · rw [vw_len, List.length_take] at hj
      rw [h5 j (by omega), vw_at _ (by rw [List.length_take]; omega)]
      simp [List.getD_eq_getElem?_getD, show j < k by omega]
    · rw [List.length_drop] at hj
      rw [ho (by omega), Nat.add_assoc, h5 (k + j) (by omega)]
      simp [List.getD_eq_getElem?_getD]
  clear h1 h2 h5 hE h0
  by_cases hkc : k < c
  · have hkc' : (k : Int) < (c : Int) := by omega
    have HF := HX (o + k) (fun _ => rfl)
    clear HX
    go_enter Tryd.func88, Tryd.ntmps88
    go_wp2_with fail
    go_ret
    exact HF.out
  · obtain rfl : k = c := by omega
    obtain rfl : n = k := by omega
    have HF := HX o (fun h => by omega)
    rw [Nat.sub_self] at HF
    clear HX
    go_enter Tryd.func88, Tryd.ntmps88
    go_wp2_with fail
    go_ret
    exact HF.out
/-- The next number. -/
def NuPost (w0 w : World) (p x : Nat) (X : List Nat) (e : Ending) (w' : World) : Prop := e = .returned (.int .i64 (x : Nat)) ∧ Rdr w0 w' p X ∧ Ext [p] w w'
set_option maxRecDepth 100000 in
set_option maxHeartbeats 4000000 in
theorem number_any (p x most : Nat) (X : List Nat) (w0 w : World) (hR : Rdr w0 w p (x :: X)) (hx : x ≤ most) (hm : most ≤ 5000) (hb : X.length ≤ 10000000) : Calls Tryd.prog 56 #[.pointer (some ⟨p, 0, none⟩), .int .i64 (most : Nat)] w (NuPost w0 w p x X) := by
  have K := take_any p 1 (x :: X) w0 w hR (by simp) (by simp; omega)
  have hcm := u64_conv most (by omega)
  have hxm : ¬ ((most : Int) < (x : Int)) := by omega
  have hcx : IntKind.i64.wrap (x : Int) = (x : Int) := by rw [IntKind.wrap_i64]; omega
  clear hR
  simp only [show ((1 : Nat) : Int) = 1 from rfl] at K
  go_enter Tryd.func56, Tryd.ntmps56
  go_wp2_with fail
  refine K.mono ?_
  clear K
  rintro _ w1 ⟨b, o, c, rfl, hc, hW, hR1, hE1⟩
  obtain ⟨_, _, e, hc0⟩ := hW.at_ (by simp)
  cases e
  have hcell := hR1.ext.cell (hc0 0 (by simp)) (by simp)
  simp only [Nat.add_zero, List.take_succ_cons, List.take_zero, List.getD_cons_zero] at hcell
  have HF : Hid (NuPost w0 w p x X (.returned (.int .i64 (x : Nat))) w1) := ⟨rfl, hR1, hE1⟩
  clear hW hR1 hE1 hc0
  go_wp2_with fail
  go_ret
  exact HF.out
/-- The next table. -/
def TbPost (w0 w : World) (p n : Nat) (T X : List Nat) (e : Ending) (w' : World) : Prop := ∃ g c, e = .returned (.slice (some ⟨g, 0, none⟩) n c) ∧ Tw w' g T ∧ w.heap.size ≤ g ∧ Rdr w0 w' p X ∧ Ext [p] w w'
set_option maxRecDepth 100000 in
set_option maxHeartbeats 4000000 in
theorem rtable_any (p G : Nat) (T X : List Nat) (w0 w : World) (hR : Rdr w0 w p (T ++ X)) (hT : T.length = 3 + 17 * G) (h0 : T.getD 0 0 = G) (hG : G ≤ 4096) (hb : X.length ≤ 9000000) : Calls Tryd.prog 57 #[.pointer (some ⟨p, 0, none⟩)] w (TbPost w0 w p (3 + 17 * G) T X) := by
  obtain ⟨x, T', rfl⟩ : ∃ x T', T = x :: T' := by
    cases T with
    | nil => simp at hT; omega
    | cons x T' => exact ⟨x, T', rfl⟩
  simp only [List.getD_cons_zero] at h0
  subst h0
  have hTl := hT
  rw [List.length_cons] at hTl
  have K := number_any p x 4096 (T' ++ X) w0 w hR hG (by omega) (by rw [List.length_append]; omega)
  simp only [show ((4096 : Nat) : Int) = 4096 from rfl] at K
  obtain ⟨hnew, hE, b, o, n, c, h1, h2, h3, h5⟩ := id hR
  have c0 : w.cell? ⟨p, 0, none⟩ = some (.slice (some ⟨b, o, none⟩) n c) := by rw [cell_of_row _ _ _ _ _ _ h1]; rfl
  have HR := hid hR
  have H1 := hid h1
  have HT := hid hT
  clear hR hE h1 h2 h5 hT hTl
  go_enter Tryd.func57, Tryd.ntmps57
  go_wp2_with fail
  refine K.mono ?_
  clear K
  rintro _ w1 ⟨rfl, hR1, hE1⟩
  obtain ⟨_, _, b', o', n', c', k1, _⟩ := id hR1
  have f0 : w1.frozen? ⟨p, 0, none⟩ = false := frozen_of_row _ _ _ _ _ k1
  have k0 : w1.cell? ⟨p, 0, none⟩ = some (.slice (some ⟨b', o', none⟩) n' c') := by rw [cell_of_row _ _ _ _ _ _ k1]; rfl
  have hx := Ext.setCell [p] w1 ⟨p, 0, none⟩ (.slice (some ⟨b, o, none⟩) n c) (by simp)
  have hR2 : Rdr w0 (w1.setCell ⟨p, 0, none⟩ (.slice (some ⟨b, o, none⟩) n c)) p ((x :: T') ++ X) := by
    obtain ⟨q0, q1, b2, o2, n2, c2, q2, q3⟩ := HR.out
    rw [H1.out] at q2
    cases q2
    exact ⟨q0, hR1.ext.on hx (by simpa using q0), b, o, n, c, heap_setCell_same w1 p 0 _ 108 _ k1, q3⟩
  have K := take_any p (3 + 17 * x) ((x :: T') ++ X) w0 _ hR2 (by rw [List.length_append, HT.out]; omega) (by rw [List.length_append, HT.out]; omega)
  have HE2 := hid (hE1.trans hx)
  obtain ⟨k, hk⟩ : ∃ k, 3 + 17 * x = k := ⟨_, rfl⟩
  rw [hk] at K ⊢
  rw [show ((k : Nat) : Int) = 3 + 17 * (x : Int) by omega] at K
  have HK := hid hk
  have hk3 : 3 ≤ k := by omega
  have hk5 : k ≤ 70000 := by omega
  clear hk
  clear hR1 hE1 hx hR2 k1
  go_wp2_with fail
  refine K.mono ?_
  clear K
  rintro _ w3 ⟨b3, o3, c3, rfl, hc3, hW3, hR3, hE3⟩
  rw [List.take_left' (by rw [← HK.out]; exact HT.out)] at hW3
  rw [List.drop_left' (by rw [← HK.out]; exact HT.out)] at hR3
  have K := clone_any b3 o3 k c3 (x :: T') w3 (hW3.keep0 hR3.ext) (by rw [← HK.out]; exact HT.out) (by omega) (by omega)
  have HE3 := hid (HE2.out.trans hE3)
  have HR3 := hid hR3
  clear hR3 hE3 hW3 HE2
  go_wp2_with fail
  refine K.mono ?_
  clear K
  rintro _ w4 ⟨g, c4, rfl, hT4, hg4, hE4⟩
  have HF : Hid (TbPost w0 w p k (x :: T') X (.returned (.slice (some ⟨g, 0, none⟩) k c4)) w4) := ⟨g, c4, rfl, hT4, Nat.le_trans HE3.out.size hg4, HR3.out.keep hE4 (by simp) (HR3.out.ext.trans hE4), HE3.out.trans (hE4.mono (by simp))⟩
  clear hT4 hE4
  go_wp2_with fail
  go_ret
  rw [HK.out]
  exact HF.out
end Go.Proofs.YtkfagfdefkaenaaDoor

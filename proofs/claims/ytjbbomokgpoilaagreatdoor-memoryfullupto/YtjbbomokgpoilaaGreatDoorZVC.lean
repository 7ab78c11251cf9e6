/-
  MSee, MSen, MPar, CMathE, CMathF, MRch, MWls: joined by program; no statement is proved here.
-/
import Derived.Test.YtjbbomokgpoilaaGreatDoorZVA
import Derived.Test.YtjbbomokgpoilaaGreatDoorZMG
import Derived.WalkSmall
import Derived.Deep.LoopGhost
import Derived.Test.YtjbbomokgpoilaaGreatDoorZCA
import Derived.Test.YtjbbomokgpoilaaGreatDoorZME2
import Derived.Test.YtjbbomokgpoilaaGreatDoorZMJ
/-
  Who is reached in a view: plain facts; no statement is proved here.
-/
namespace Go.Proofs.YtjbbomokgpoilaaGreatDoor

/-- Reached from roots by names. -/
inductive Rvw (L : List Vo) (R : List Int) : Nat → Prop
  | root {j : Nat} : j < L.length → (vAt L j).a ∈ R → Rvw L R j
  | step {i j : Nat} : Rvw L R i → j < L.length → (vAt L j).a ∈ (vAt L i).r → Rvw L R j

/-- What stands of a search at each of its steps. -/
structure Svw (L : List Vo) (R : List Int) (C : List Bool) (T : List Int) : Prop where
  len : C.length = L.length
  tin : ∀ a ∈ T, ∃ j, j < L.length ∧ (vAt L j).a = a ∧ Rvw L R j
  cin : ∀ j, C[j]? = some true → Rvw L R j
  rts : ∀ j, j < L.length → (vAt L j).a ∈ R → C[j]? = some true ∨ (vAt L j).a ∈ T
  cls : ∀ i, C[i]? = some true → ∀ j, j < L.length → (vAt L j).a ∈ (vAt L i).r → C[j]? = some true ∨ (vAt L j).a ∈ T

theorem Srt.inj {L : List Vo} (h : Srt L) {i j : Nat} (hi : i < L.length) (hj : j < L.length) (e : (vAt L i).a = (vAt L j).a) : i = j := by
  rcases Nat.lt_trichotomy i j with q | q | q
  · have := h i j q hj; omega
  · exact q
  · have := h j i q hi; omega
section
variable {L : List Vo} {R : List Int} {C : List Bool} {T : List Int}
theorem Svw.start (hR : ∀ r ∈ R, ∃ j, j < L.length ∧ (vAt L j).a = r) : Svw L R (List.replicate L.length false) R := by
  have hno : ∀ j : Nat, (List.replicate L.length false)[j]? ≠ some true := fun j q => by
    have := List.mem_of_getElem? q
    simp at this
  exact ⟨by simp, fun a ha => by
    obtain ⟨j, h1, h2⟩ := hR a ha
    exact ⟨j, h1, h2, .root h1 (h2 ▸ ha)⟩, fun j q => absurd q (hno j), fun j _ h => .inr h, fun i q => absurd q (hno i)⟩
theorem Svw.pop {a : Int} (hs : Srt L) (h : Svw L R C (T ++ [a])) {k : Nat} (hk : k < L.length) (ha : (vAt L k).a = a) (hc : C[k]? = some true) : Svw L R C T := by
  have key : ∀ j, j < L.length → (C[j]? = some true ∨ (vAt L j).a ∈ T ++ [a]) → (C[j]? = some true ∨ (vAt L j).a ∈ T) := by
    rintro j hj (q | q)
    · exact .inl q
    · rcases List.mem_append.1 q with q | q
      · exact .inr q
      · have e : (vAt L j).a = (vAt L k).a := by rw [ha]; simpa using q
        rw [hs.inj hj hk e]
        exact .inl hc
  exact ⟨h.len, fun b hb => h.tin b (List.mem_append_left _ hb), h.cin, fun j hj hr => key j hj (h.rts j hj hr), fun i hi j hj hr => key j hj (h.cls i hi j hj hr)⟩
theorem Svw.visit {a : Int} (hs : Srt L) (hrf : ∀ k, k < L.length → ∀ r ∈ (vAt L k).r, ∃ j, j < L.length ∧ (vAt L j).a = r) (h : Svw L R C (T ++ [a])) {k : Nat} (hk : k < L.length) (ha : (vAt L k).a = a) (hc : C[k]? = some false) : Svw L R (C.set k true) (T ++ (vAt L k).r) := by
  have hkr : Rvw L R k := by
    obtain ⟨j, h1, h2, h3⟩ := h.tin a (List.mem_append_right _ (by simp))
    rw [← hs.inj h1 hk (h2.trans ha.symm)]
    exact h3
  have hkk : (C.set k true)[k]? = some true := by rw [List.getElem?_set_self (by have := h.len; omega)]
  have hset : ∀ j : Nat, C[j]? = some true → (C.set k true)[j]? = some true := fun j hj => by
    by_cases e : k = j
    · subst e; exact hkk
    · rw [List.getElem?_set_ne e]; exact hj
  have hcame : ∀ j : Nat, (C.set k true)[j]? = some true → j = k ∨ C[j]? = some true := fun j hj => by
    by_cases e : k = j
    · exact .inl e.symm
    · rw [List.getElem?_set_ne e] at hj; exact .inr hj
  have key : ∀ j, j < L.length → (C[j]? = some true ∨ (vAt L j).a ∈ T ++ [a]) → ((C.set k true)[j]? = some true ∨ (vAt L j).a ∈ T ++ (vAt L k).r) := by
    rintro j hj (q | q)
    · exact .inl (hset j q)
    · rcases List.mem_append.1 q with q | q
      · exact .inr (List.mem_append_left _ q)
      · have e : (vAt L j).a = (vAt L k).a := by rw [ha]; simpa using q
        rw [hs.inj hj hk e]
        exact .inl hkk
  refine ⟨by rw [List.length_set]; exact h.len, fun b hb => ?_, fun j hj => ?_, fun j hj hr => key j hj (h.rts j hj hr), fun i hi j hj hr => ?_⟩
  · rcases List.mem_append.1 hb with q | q
    · exact h.tin b (List.mem_append_left _ q)
    · obtain ⟨j, h1, h2⟩ := hrf k hk b q
      exact ⟨j, h1, h2, .step hkr h1 (h2 ▸ q)⟩
  · rcases hcame j hj with q | q
    · rw [q]; exact hkr
    · exact h.cin j q
  · rcases hcame i hi with q | q
    · subst q
      exact .inr (List.mem_append_right _ hr)
    · exact key j hj (h.cls i q j hj hr)
theorem Rvw.lt {j : Nat} (h : Rvw L R j) : j < L.length := by cases h <;> assumption
theorem Svw.done (h : Svw L R C []) (j : Nat) : C[j]? = some true ↔ Rvw L R j := by
  refine ⟨h.cin j, fun hr => ?_⟩
  induction hr with
  | root h1 h2 =>
    rcases h.rts _ h1 h2 with q | q
    · exact q
    · cases q
  | step _ h2 h3 ih =>
    rcases h.cls _ ih _ h2 h3 with q | q
    · exact q
    · cases q
/-- How much of a search is left. -/
theorem svw_count {k : Nat} (hc : C[k]? = some false) : (C.set k true).count false + 1 = C.count false := by
  induction C generalizing k with
  | nil => simp at hc
  | cons b C ih =>
    cases k with
    | zero =>
      have : b = false := by simpa using hc
      subst this
      simp
    | succ k =>
      have := ih (k := k) (by simpa using hc)
      simp only [List.set_cons_succ, List.count_cons]
      omega
end
end Go.Proofs.YtjbbomokgpoilaaGreatDoor

/-
  Who is reached in a view: the document's search; no statement is proved here.
-/
namespace Go.Proofs.YtjbbomokgpoilaaGreatDoor
open Go.RowKit

/-- What stands of the search in memory. -/
structure Sm (w : World) (z n : Nat) (vrow : Array Value) (W : World) (C : List Bool) (T : List Int) (v : Value) : Prop where
  ext : Ext [] w W
  cl : C.length = n
  vr : W.heap[z]? = some (.cells vrow 40 (0, 0))
  cr : W.heap[z + 1]? = some (.cells (C.map Value.bool).toArray 4 (0, 0))
  tr : W.ownsRow w.heap.size 3 1 v T.length (lI T)
theorem own_net {W : World} {b n : Nat} {v : Value} {xs : List Value} (h : W.ownsRow b 3 1 v n xs) {g t : Nat} {cs : Array Value} (hg : W.heap[g]? = some (.cells cs t (0, 0))) (ht : t ≠ 3) : v.ownBlock ≠ some g := by
  intro e
  rcases h.2 with ⟨h1, h2⟩ | ⟨g', cap, cur, h0, h1, h2, _⟩
  · subst h1; cases e
  · subst h0
    have : g' = g := by simpa [Value.ownBlock] using e
    subst this
    rw [hg] at h2
    simp only [Option.some.injEq, Obj.cells.injEq] at h2
    exact ht h2.2.1
section
variable {w : World} {z n : Nat} {vrow : Array Value} {W : World} {C : List Bool} {T : List Int} {v : Value}
theorem Sm.bit (h : Sm w z n vrow W C T v) {k : Nat} (hk : k < n) : W.cell? ⟨z + 1, k, none⟩ = some (.bool (C.getD k false)) := by
  have := h.cl
  rw [cell_of_row _ _ _ _ _ _ h.cr]
  simp [show k < C.length by omega]
theorem Sm.come (h : Sm w z n vrow W C T v) (hz : w.heap.size = z) (k : Nat) : Sm w z n vrow (W.setCell ⟨z + 1, k, none⟩ (.bool true)) (C.set k true) T v := by
  have hE := Ext.setCell [z + 1] W ⟨z + 1, k, none⟩ (.bool true) (by simp)
  refine ⟨h.ext.on hE (by simp; omega), by simp [h.cl], hE.keep h.vr (by simp), ?_, own_keep h.tr hE (by simp only [List.mem_singleton]; rintro b rfl; exact own_net h.tr h.cr (by decide))⟩
  rw [heap_setCell_same W (z + 1) k _ _ _ h.cr, List.map_set, List.setIfInBounds_toArray]
theorem Sm.keep0 {W' : World} (h : Sm w z n vrow W C T v) (hE : Ext [] W W') : Sm w z n vrow W' C T v := ⟨h.ext.trans hE, h.cl, hE.keep h.vr (by simp), hE.keep h.cr (by simp), own_keep0 h.tr hE⟩
theorem Sm.popped {a : Int} {gq cap : Nat} (h : Sm w z n vrow W C (T ++ [a]) (.slice (some ⟨gq, 0, none⟩) (T.length + 1) cap)) : Sm w z n vrow W C T (.slice (some ⟨gq, 0, none⟩) T.length cap) := by
  refine ⟨h.ext, h.cl, h.vr, h.cr, ?_⟩
  have ho := h.tr
  rw [List.length_append, List.length_singleton, show lI (T ++ [a]) = lI T ++ [.int .i64 a] by simp [lI]] at ho
  exact ownsRow_pop (by simp [lI]) ho
theorem Sm.app (h : Sm w z n vrow W C T v) {ra : Option Addr} {rc : Nat} {R : List Int} (hR : Co.Is W ra R) (hb : T.length + R.length ≤ 10000000000000) :
    ∃ v' W', (Builtin.append_ #[32, 32] 32 #[v, .slice ra R.length rc]).run Tryz.prog W = .ok v' W' ∧ Sm w z n vrow W' C (T ++ R) v' := by
  obtain ⟨v', W', hr, ho, hE, hX⟩ := Co.app_own w W (co_ext h.ext) 32 32 3 _ 8 Tryz.underlying32 Co.info3 rfl (by omega) v T.length (lI T) h.tr ra R.length rc (lI R) (by simp [lI]) hR (fun x hx => by obtain ⟨y, _, rfl⟩ := List.mem_map.1 hx; rfl) (by omega)
  have hX' := ext_co hX
  have hn : ∀ g cs t, W.heap[g]? = some (Obj.cells cs t (0, 0)) → t ≠ 3 → W'.heap[g]? = some (Obj.cells cs t (0, 0)) := fun g cs t hg ht => hX'.keep hg (by
    have := own_net h.tr hg ht
    intro q
    exact this (by simpa using q))
  refine ⟨v', W', hr, ext_co hE, h.cl, hn _ _ _ h.vr (by decide), hn _ _ _ h.cr (by decide), ?_⟩
  rw [List.length_append, show lI (T ++ R) = lI T ++ lI R by simp [lI]]
  exact ho
end
def SnPost (w : World) (n : Nat) (L : List Vo) (R : List Int) (e : Ending) (w' : World) : Prop := ∃ (v : Value) (C : List Bool), e = .returned v ∧ C.length = n ∧ (∀ j : Nat, C[j]? = some true ↔ Rvw L R j) ∧ w'.ownsRow w.heap.size 4 1 v n (C.map Value.bool) ∧ Ext [] w w'
set_option maxRecDepth 100000 in
set_option maxHeartbeats 4000000 in
theorem seen_any (w : World) (va : Option Addr) (n vc : Nat) (L : List Vo) (ra : Option Addr) (rn rc : Nat) (R : List Int) (fv pv cv : Value) (h : Vl w va L) (hn : L.length = n) (hb : n ≤ 100000000) (hs : Srt L) (hrf : ∀ k, k < n → (vAt L k).r.length ≤ 8192 ∧ ∀ r ∈ (vAt L k).r, ∃ j, j < n ∧ (vAt L j).a = r) (hR : Co.Is w ra R) (hrn : R.length = rn) (hrb : rn ≤ 1048576) (hrt : ∀ r ∈ R, ∃ j, j < n ∧ (vAt L j).a = r) :
    Calls Tryz.prog 64 #[.agg #[.slice va n vc, fv, .slice ra rn rc, pv, cv]] w (SnPost w n L R) := by
  obtain ⟨i4, hi4, hz4, hs4, hy4⟩ := Co.info_parts Co.info4
  obtain ⟨W0, hW0⟩ : ∃ W0, w.alloc (.cells #[.slice va n vc, fv, .slice ra rn rc, pv, cv] 40) = W0 := ⟨_, rfl⟩
  obtain ⟨z, hz⟩ : ∃ z, w.heap.size = z := ⟨_, rfl⟩
  have hE0 : Ext [] w W0 := by rw [← hW0]; exact Ext.alloc [] _ _
  have hz0 : W0.heap.size = z + 1 := by rw [← hW0, ← hz]; unfold World.alloc; exact Array.size_push _
  have hr0 : W0.heap[z]? = some (.cells #[.slice va n vc, fv, .slice ra rn rc, pv, cv] 40 (0, 0)) := by rw [← hW0, ← hz]; exact heap_alloc_new _ _
  have hr := run_make (P := Tryz.prog) W0 26 4 i4 _ Tryz.underlying26 hi4 hz4 .i64 .i64 n n (by omega) (Int.le_refl _) (by rw [hy4]; omega) (by omega)
  rw [hs4] at hr
  simp only [Int.toNat_natCast] at hr
  have hm : madeCells (Value.bool false).cells (n * 1) = ((List.replicate n false).map Value.bool).toArray := by
    apply Array.toList_inj.1
    rw [show (Value.bool false).cells = #[.bool false] from rfl, toList_madeCells_one]
    simp
  rw [hm, hz0] at hr
  obtain ⟨W1, hW1⟩ : ∃ W1, W0.alloc (.cells ((List.replicate n false).map Value.bool).toArray 4) = W1 := ⟨_, rfl⟩
  rw [hW1] at hr
  have hE1 : Ext [] W0 W1 := by rw [← hW1]; exact Ext.alloc [] _ _
  have hz1 : W1.heap.size = z + 2 := by rw [← hW1]; unfold World.alloc; rw [show (W0.heap.push _).size = W0.heap.size + 1 from Array.size_push _, hz0]
  have hr1 : W1.heap[z + 1]? = some (.cells ((List.replicate n false).map Value.bool).toArray 4 (0, 0)) := by rw [← hW1, ← hz0]; exact heap_alloc_new _ _
  obtain ⟨W2, hW2⟩ : ∃ W2, W1.alloc (.cells #[] 3) = W2 := ⟨_, rfl⟩
  have hE2 : Ext [] W1 W2 := by rw [← hW2]; exact Ext.alloc [] _ _
  have hr2 : W2.heap[z + 2]? = some (.cells #[] 3 (0, 0)) := by rw [← hW2, ← hz1]; exact heap_alloc_new _ _
  have hown : W2.ownsRow W1.heap.size 3 1 (.slice (some ⟨z + 2, 0, none⟩) 0 0) 0 [] := ⟨rfl, .inr ⟨z + 2, 0, #[], rfl, by omega, hr2, Nat.le_refl _, by unfold maxLen; omega, rfl, rfl⟩⟩
  obtain ⟨v3, W3, hr3, ho3, hE3, hX3⟩ := Co.app_own W1 W2 (co_ext hE2) 32 32 3 _ 8 Tryz.underlying32 Co.info3 rfl (by omega) _ 0 [] hown ra rn rc (lI R) (by simp [lI, hrn]) ((hR.keep0 (co_ext ((hE0.trans hE1).trans hE2)))) (fun x hx => by obtain ⟨y, _, rfl⟩ := List.mem_map.1 hx; rfl) (by omega)
  have HW0 := hid hW0
  have HW1 := hid hW1
  have HW2 := hid hW2
  have HZ := hid hz
  have HZ1 := hid hz1
  have hM0 : Sm w z n #[.slice va n vc, fv, .slice ra rn rc, pv, cv] W3 (List.replicate n false) R v3 := by
    have hX := ext_co hX3
    have hk : ∀ g, g < z + 2 → g ∉ (Value.slice (some ⟨z + 2, 0, none⟩) 0 0).ownBlock.toList := fun g hg q => by
      simp [Value.ownBlock] at q
      omega
    refine ⟨(hE0.trans hE1).trans (ext_co hE3), by simp, hX.keep ((hE1.trans hE2).keep hr0 (by simp)) (hk z (by omega)), hX.keep (hE2.keep hr1 (by simp)) (hk (z + 1) (by omega)), ?_⟩
    rw [hrn]
    have := own_base ho3 (show w.heap.size ≤ W1.heap.size by omega)
    simpa using this
  have hS0 : Svw L R (List.replicate n false) R := by
    have := Svw.start (L := L) (R := R) (by rw [hn]; exact hrt)
    rw [hn] at this
    exact this
  have k1 : W1.cell? ⟨z, 2, none⟩ = some (.slice ra rn rc) := by rw [cell_of_row _ _ _ _ _ _ (hE1.keep hr0 (by simp))]; rfl
  have k2 : W2.cell? ⟨z, 2, none⟩ = some (.slice ra rn rc) := hE2.cell k1 (by simp)
  rw [← hW0] at hr
  rw [← hW2] at hr3 k2
  obtain ⟨la0, lc0, hv3, _⟩ := own_slice hM0.tr
  subst hv3
  have HM0 := hid hM0
  have HS0 := hid hS0
  have HRn := hid hrn
  have HNn := hid hn
  have HL := hid h
  have Hs := hid hs
  have Hrf := hid hrf
  clear hm hi4 hz4 hs4 hy4 hW0 hW1 hW2 hM0 hS0 hrn hn h hs hrf hrt hR ho3 hE3 hX3 hown hr2 hE2 hr1 hE1 hr0 hE0 hz0
  go_enter Tryz.func64, Tryz.ntmps64
  go_wp2_with (at_builtin; refine wpList_append_run rfl _ _ 32 rfl _ _ _ rfl rfl hr3 ?_)
  clear hr hr3 k1 k2 HW0 HW1 HW2
  go_loopg [4] (8193 * n + rn) (fun q lv wr => ∃ C T, 8193 * C.count false + T.length ≤ q ∧ q ≤ 8193 * n + rn ∧ Sm w z n #[.slice va n vc, fv, .slice ra rn rc, pv, cv] wr C T lv ∧ Svw L R C T)
  case atStart => exact ⟨_, _, by have := HRn.out; simp; omega, Nat.le_refl _, HM0.out, HS0.out⟩
  case round =>
    clear HM0 HS0
    obtain ⟨C, T, hcq, hqb, hM, hS⟩ := hrel
    have HM := hid hM
    have HS := hid hS
    have HCq := hid hcq
    obtain ⟨G2, hG2⟩ : ∃ G2, G2 = gk := ⟨_, rfl⟩
    subst hG2
    have hTl : T.length ≤ 1000000000000 := by omega
    clear hS hcq
    rcases List.eq_nil_or_concat T with rfl | ⟨T1, a, hT1⟩
    · obtain ⟨la, lc, hlv, _⟩ := own_slice hM.tr
      subst hlv
      clear hM
      simp only [List.length_nil]
      go_wp2_with fail
      go_ret
      have hd := HM.out.cl
      refine ⟨_, C, rfl, hd, HS.out.done, ?_, HM.out.ext⟩
      exact ⟨by simp [hd], .inr ⟨_, n, _, rfl, by omega, HM.out.cr, Nat.le_refl _, by unfold maxLen; omega, by simp [hd], by simp; rw [List.take_of_length_le (by simp [hd])]⟩⟩
    · rw [List.concat_eq_append] at hT1
      subst hT1
      obtain ⟨gq, cap, hlv, _⟩ := hM.tr.form (by simp)
      rw [List.length_append, List.length_singleton] at hlv
      subst hlv
      have hcap : T1.length + 1 ≤ cap := by
        obtain ⟨a', c', e', h⟩ := own_slice hM.tr
        simp only [Value.slice.injEq] at e'
        obtain ⟨_, _, rfl⟩ := e'
        simpa using h
      have hcapI : (T1.length : Int) ≤ cap := by omega
      have ho := hM.tr
      rw [List.length_append, List.length_singleton] at ho
      have k0 : wr.cell? ⟨gq, T1.length, none⟩ = some (.int .i64 a) := by
        rw [ho.cellAt T1.length (by omega)]
        simp [lI]
      have kv : wr.cell? ⟨z, 0, none⟩ = some (.slice va n vc) := by rw [cell_of_row _ _ _ _ _ _ hM.vr]; rfl
      obtain ⟨j, hjl, hja, _⟩ := HS.out.tin a (by simp)
      have hjn : j < n := by rw [← HNn.out]; exact hjl
      have KF : Hid (∀ u, Ext [] wr u → Calls Tryz.prog 32 #[.slice va n vc, .int .i64 a] u fun e w' => e = .returned (.int .i64 (j : Nat)) ∧ w' = u) := fun u hu =>
        find_yes u va n vc L (HL.out.keep0 (HM.out.ext.trans hu)) HNn.out hb Hs.out j hjn a hja
      have hMd : Sm w z n #[.slice va n vc, fv, .slice ra rn rc, pv, cv] wr.drew C T1 (.slice (some ⟨gq, 0, none⟩) T1.length cap) := (HM.out.popped).keep0 (Ext.drew _ _)
      have kb := hMd.bit hjn
      have kf : wr.drew.frozen? ⟨z + 1, j, none⟩ = false := frozen_of_row _ _ _ _ _ hMd.cr
      have hcl := HM.out.cl
      have hgx : C[j]? = some (C.getD j false) := by simp [show j < C.length by omega]
      have hlen1 : ((T1.length : Int) + 1 - 1) = T1.length := by omega
      have hlen2 : (T1.length : Int) < (T1.length : Int) + 1 := by omega
      have hlen5 : (T1.length : Int) < ((T1.length + 1 : Nat) : Int) := by omega
      have hlen6 : decide ((T1.length : Int) < ((T1.length + 1 : Nat) : Int)) = true := by simpa using hlen5
      have hlen3 : (0 : Int) ≤ (T1.length : Int) := by omega
      have hlen4 : IntKind.i64.wrap ((T1.length : Int) + 1 - 1) = T1.length := by rw [IntKind.wrap_i64]; simp only [List.length_append, List.length_singleton] at hTl; omega
      have hjI : (j : Int) < n := by omega
      simp only [List.length_append, List.length_singleton] at hTl HCq
      have HMd := hid hMd
      clear hM ho hMd
      cases hcx : C.getD j false
      · rw [hcx] at kb hgx
        have HS1 := hid (HS.out.visit Hs.out (by rw [HNn.out]; exact fun k hk => (Hrf.out k hk).2) hjl hja hgx)
        have HMc := hid (((HM.out.popped).come HZ.out j).keep0 (Ext.drew _ _))
        have HCc := hid (svw_count hgx)
        have hr8 := (Hrf.out j hjn).1
        clear hcx hgx
        generalize hTn : T1.length = tn at *
        obtain ⟨tm, htm⟩ : ∃ tm, tn + 1 = tm := ⟨_, rfl⟩
        have htm1 : (tn : Int) < (tm : Int) := by omega
        have htm2 : (tm : Int) - 1 = tn := by omega
        have htm6 : tn < tm := by omega
        have htm7 : 0 < tm := by omega
        have htm8 : tn ≤ cap := by omega
        have htm10 : IntKind.i64.wrap (tn : Int) = tn := by rw [IntKind.wrap_i64]; omega
        have htm9 : IntKind.i64.wrap ((tm : Int) - 1) = tn := by rw [htm2, IntKind.wrap_i64]; omega
        have htm3 : (tm : Int) > 0 := by omega
        have htm4 : decide ((tm : Int) > 0) = true := by simpa using htm3
        have htm5 : (tn : Int) ≤ cap := hcapI
        rw [htm]
        clear htm hlen1 hlen2 hlen4 hlen5 hlen6
        go_wp2_with fail
        first | go_region_held3 (fun u => u.cell? ⟨z, 0, none⟩ = some (.slice va n vc) ∧ u.cell? ⟨gq, tn, none⟩ = some (.int .i64 a)) (first | exact ⟨kv, k0⟩ | fail "S") (first | (go_at_call 32; refine met (KF.out _ (Ext.drew _ _)) ?_) | fail "no arm") | fail "no"
        clear kv k0
        go_upto_region 8 with fail
        generalize (wr.setCell ⟨z + 1, j, none⟩ (.bool true)).drew = W4 at *
        obtain ⟨go, rra, rrc, hva, _, _, _, q3, q4⟩ := (HL.out.keep0 HMc.out.ext) j hjl
        subst hva
        have kv4 : W4.cell? ⟨z, 0, none⟩ = some (.slice (some ⟨go, 0, none⟩) n vc) := by rw [cell_of_row _ _ _ _ _ _ HMc.out.vr]; rfl
        obtain ⟨v5, W5, hr5, hM5⟩ := HMc.out.app (rc := rrc) q4 (by omega)
        obtain ⟨la5, lc5, hv5, _⟩ := own_slice hM5.tr
        subst hv5
        rw [List.length_append, hTn] at hM5
        have HM5 := hid hM5
        have HLe : Hid (8193 * (C.set j true).count false + (T1 ++ (vAt L j).r).length ≤ G2 - 1 ∧ 0 < G2) := by
          have h1 := HCq.out
          have h2 := HCc.out
          show _ ∧ _
          rw [List.length_append, hTn]
          omega
        clear hM5 q4 kb kf
        go_wp2_with (at_builtin; refine wpList_append_run rfl _ _ 32 rfl _ _ _ rfl rfl hr5 ?_)
        go_roundg (G2 - 1)
        case measure => have := HLe.out; omega
        case rel => exact ⟨C.set j true, T1 ++ (vAt L j).r, HLe.out.1, by omega, HM5.out, HS1.out⟩
      · rw [hcx] at kb hgx
        have HS1 := hid (HS.out.pop Hs.out hjl hja hgx)
        have HLe : Hid (8193 * C.count false + T1.length ≤ G2 - 1 ∧ 0 < G2) := by
          have := HCq.out
          show _ ∧ _
          omega
        clear hcx hgx
        generalize hTn : T1.length = tn at *
        obtain ⟨tm, htm⟩ : ∃ tm, tn + 1 = tm := ⟨_, rfl⟩
        have htm1 : (tn : Int) < (tm : Int) := by omega
        have htm2 : (tm : Int) - 1 = tn := by omega
        have htm6 : tn < tm := by omega
        have htm7 : 0 < tm := by omega
        have htm8 : tn ≤ cap := by omega
        have htm10 : IntKind.i64.wrap (tn : Int) = tn := by rw [IntKind.wrap_i64]; omega
        have htm9 : IntKind.i64.wrap ((tm : Int) - 1) = tn := by rw [htm2, IntKind.wrap_i64]; omega
        have htm3 : (tm : Int) > 0 := by omega
        have htm4 : decide ((tm : Int) > 0) = true := by simpa using htm3
        have htm5 : (tn : Int) ≤ cap := hcapI
        rw [htm]
        clear htm hlen1 hlen2 hlen4 hlen5 hlen6
        go_wp2_with fail
        first | go_region_held3 (fun u => u.cell? ⟨z, 0, none⟩ = some (.slice va n vc) ∧ u.cell? ⟨gq, tn, none⟩ = some (.int .i64 a)) (first | exact ⟨kv, k0⟩ | fail "S") (first | (go_at_call 32; refine met (KF.out _ (Ext.drew _ _)) ?_) | fail "no arm") | fail "no"
        clear kv k0
        go_wp2_with fail
        go_roundg (G2 - 1)
        case measure => have := HLe.out; omega
        case rel => exact ⟨C, T1, by have := HLe.out.1; rw [hTn]; exact this, by omega, HMd.out, HS1.out⟩
end Go.Proofs.YtjbbomokgpoilaaGreatDoor

/-
  A view parted by who is reached; no statement is proved here.
-/
namespace Go.Proofs.YtjbbomokgpoilaaGreatDoor
open Go.RowKit

def ptd (L : List Vo) (C : List Bool) (b : Bool) (k : Nat) : List Int := ((List.range k).filter (fun i => C.getD i false == b)).map (fun i => (vAt L i).a)
theorem ptd_succ (L : List Vo) (C : List Bool) (b : Bool) (k : Nat) : ptd L C b (k + 1) = ptd L C b k ++ if C.getD k false = b then [(vAt L k).a] else [] := by
  unfold ptd
  rw [List.range_succ, List.filter_append, List.map_append]
  congr 1
  by_cases h : C.getD k false = b
  · have hb : (C.getD k false == b) = true := beq_iff_eq.2 h
    rw [if_pos h, List.filter_cons, if_pos hb]
    rfl
  · have hb : ¬ (C.getD k false == b) = true := fun e => h (beq_iff_eq.1 e)
    rw [if_neg h, List.filter_cons, if_neg hb]
    rfl
theorem ptd_len (L : List Vo) (C : List Bool) (b : Bool) (k : Nat) : (ptd L C b k).length ≤ k := by
  unfold ptd
  rw [List.length_map]
  exact Nat.le_trans (List.length_filter_le _ _) (by simp)
theorem put32 {w0 w : World} (hE : Ext [] w0 w) {v : Value} {T : List Int} (ho : w.ownsRow w0.heap.size 3 1 v T.length (lI T)) (x : Int) (hb : T.length ≤ 1000000000000) :
    ∃ v' w', (Builtin.append_ #[32, 32] 32 #[v, .slice (some ⟨w.heap.size, 0, none⟩) 1 1]).run Tryz.prog (w.alloc (.cells #[.int .i64 x] 3)) = .ok v' w' ∧ w'.ownsRow w0.heap.size 3 1 v' (T ++ [x]).length (lI (T ++ [x])) ∧ Ext [] w0 w' := by
  have hA := Ext.alloc [] w (.cells #[.int .i64 x] 3)
  obtain ⟨v', w', hr, ho2, hE2, _⟩ := Co.app_own w0 (w.alloc (.cells #[.int .i64 x] 3)) (co_ext (hE.trans hA)) 32 32 3 _ 8 Tryz.underlying32 Co.info3 rfl (by omega) v T.length (lI T) (own_keep0 ho hA) (some ⟨w.heap.size, 0, none⟩) 1 1 [.int .i64 x] rfl
    (.inr ⟨_, 0, rfl, fun j hj => by
      obtain rfl : j = 0 := by simpa using hj
      rw [Nat.zero_add, cell_of_row _ _ _ _ _ _ (heap_alloc_new _ _)]; rfl⟩) (fun u hu => by simp only [List.mem_singleton] at hu; subst hu; rfl) (by omega)
  refine ⟨v', w', hr, ?_, ext_co hE2⟩
  rw [List.length_append, List.length_singleton, show lI (T ++ [x]) = lI T ++ [.int .i64 x] by simp [lI]]
  exact ho2
def PdPost (w : World) (n : Nat) (L : List Vo) (R : List Int) (b : Bool) (e : Ending) (w' : World) : Prop := ∃ (v : Value) (C : List Bool), e = .returned (.tuple #[v, .int .i64 0]) ∧ C.length = n ∧ (∀ j : Nat, C[j]? = some true ↔ Rvw L R j) ∧ w'.ownsRow w.heap.size 3 1 v (ptd L C b n).length (lI (ptd L C b n)) ∧ Ext [] w w'
set_option maxRecDepth 100000 in
set_option maxHeartbeats 4000000 in
theorem parted_any (w : World) (va : Option Addr) (n vc : Nat) (L : List Vo) (fa : Option Addr) (fn fc : Nat) (F : List Rn) (ra : Option Addr) (rn rc : Nat) (R : List Int) (ph cy : Int) (b : Bool) (h : Vl w va L) (hn : L.length = n) (hF : Lst w (.slice fa fn fc) F) (hfn : F.length = fn) (hR : Co.Is w ra R) (hrn : R.length = rn) (hrb : rn ≤ 1048576) (hs : Vsd L F R ph cy) :
    Calls Tryz.prog 31 #[.agg #[.slice va n vc, .slice fa fn fc, .slice ra rn rc, .int .i64 ph, .int .i64 cy], .bool b] w (PdPost w n L R b) := by
  have K1 : Hid (∀ u, Ext [] w u → Calls Tryz.prog 30 #[.agg #[.slice va n vc, .slice fa fn fc, .slice ra rn rc, .int .i64 ph, .int .i64 cy]] u (SayPost u (.int .i64 0))) := fun u hu => sound_yes u va n vc L fa fn fc F ra rn rc R ph cy (h.keep0 hu) hn (hF.keep0 hu) hfn (hR.keep0 (co_ext hu)) hrn hs
  have hnb : n ≤ 100000000 := by have := hs.ln; omega
  have K2 : Hid (∀ u, Ext [] w u → Calls Tryz.prog 64 #[.agg #[.slice va n vc, .slice fa fn fc, .slice ra rn rc, .int .i64 ph, .int .i64 cy]] u (SnPost u n L R)) := fun u hu => seen_any u va n vc L ra rn rc R _ _ _ (h.keep0 hu) hn hnb hs.srt (by rw [← hn]; exact hs.rf) (hR.keep0 (co_ext hu)) hrn hrb (by rw [← hn]; exact hs.rt)
  obtain ⟨W0, hW0⟩ : ∃ W0, w.alloc (.cells #[.slice va n vc, .slice fa fn fc, .slice ra rn rc, .int .i64 ph, .int .i64 cy] 40) = W0 := ⟨_, rfl⟩
  obtain ⟨z, hz⟩ : ∃ z, w.heap.size = z := ⟨_, rfl⟩
  have hE0 : Ext [] w W0 := by rw [← hW0]; exact Ext.alloc [] _ _
  have hr0 : W0.heap[z]? = some (.cells #[.slice va n vc, .slice fa fn fc, .slice ra rn rc, .int .i64 ph, .int .i64 cy] 40 (0, 0)) := by rw [← hW0, ← hz]; exact heap_alloc_new _ _
  have HV : Hid (∀ u, Ext [] W0 u → u.cell? ⟨z, 0, none⟩ = some (.slice va n vc) ∧ u.cell? ⟨z, 1, none⟩ = some (.slice fa fn fc) ∧ u.cell? ⟨z, 2, none⟩ = some (.slice ra rn rc) ∧ u.cell? ⟨z, 3, none⟩ = some (.int .i64 ph) ∧ u.cell? ⟨z, 4, none⟩ = some (.int .i64 cy) ∧ Vl u va L) := fun u hu => by
    have := hu.keep hr0 (by simp)
    refine ⟨?_, ?_, ?_, ?_, ?_, h.keep0 (hE0.trans hu)⟩ <;> (rw [cell_of_row _ _ _ _ _ _ this]; rfl)
  have HW0 := hid hW0
  have HZ := hid hz
  have HE0 := hid hE0
  have Hn := hid hn
  clear hW0 hz hE0 hr0 h hF hR hs hn hrn hfn
  obtain ⟨c0, c1, c2, c3, c4, _⟩ := HV.out _ (Ext.refl _ _)
  have hsz : w.heap.size = z := HZ.out
  go_enter Tryz.func31, Tryz.ntmps31
  go_wp2_with fail
  rw [HW0.out]
  refine (K1.out _ HE0.out).mono ?_
  rintro e w1 ⟨rfl, hE1⟩
  obtain ⟨q0, q1, q2, q3, q4, _⟩ := HV.out w1 hE1
  have HE1 := hid hE1
  clear c0 c1 c2 c3 c4 hE1
  go_wp2_with fail
  refine (K2.out _ (HE0.out.trans HE1.out)).mono ?_
  rintro e w2 ⟨sv, C, rfl, hcl, hC, hown, hE2⟩
  obtain ⟨sa, sc, rfl, _⟩ := own_slice hown
  have HB : Hid (∀ u, Ext [] w2 u → ∀ k, k < n → ∃ g o, sa = some ⟨g, o, none⟩ ∧ u.cell? ⟨g, o + k, none⟩ = some (.bool (C.getD k false))) := fun u hu k hk => by
    rcases Co.own_vs hown with e | ⟨g, o, e1, e2⟩
    · have : C.length = 0 := by simpa using congrArg List.length e
      omega
    · refine ⟨g, o, e1, hu.cell ?_ (by simp)⟩
      rw [e2 k (by simpa [hcl] using hk)]
      simp [show k < C.length by omega]
  have HE2 := hid (HE1.out.trans hE2)
  have HC := hid hC
  have HCl := hid hcl
  clear q0 q1 q2 q3 q4 hE2 hown hC hcl K1 K2
  go_wp2_with fail
  go_loopw [7, 8] (fun lv q wr => ∃ k : Nat, q = .int .i64 k ∧ k ≤ n ∧ wr.ownsRow w2.heap.size 3 1 lv (ptd L C b k).length (lI (ptd L C b k)) ∧ Ext [] w2 wr) (fun _ q _ => (n - (intOf q)).toNat)
  case atStart => exact ⟨0, rfl, Nat.zero_le _, own_nil _ _ _ _, Ext.refl _ _⟩
  case round =>
    obtain ⟨k, rfl, hk, ho, hE⟩ := hrel
    obtain ⟨la, lc, hlv, _⟩ := own_slice ho
    subst hlv
    by_cases hlt : k < n
    · obtain ⟨kv, _, _, _, _, hL⟩ := HV.out wr (HE2.out.trans hE)
      obtain ⟨g, o, hsa, kb⟩ := HB.out wr hE k hlt
      obtain ⟨go, rra, rrc, hva, k0, _, _, _, _⟩ := hL k (by rw [Hn.out]; exact hlt)
      subst hsa
      subst hva
      have hb8 : (ptd L C b k).length ≤ 1000000000000 := by have := ptd_len L C b k; omega
      obtain ⟨v5, w5, hr5, ho5, hE5⟩ := put32 hE ho ((vAt L k).a) hb8
      obtain ⟨a5, c5, hv5, _⟩ := own_slice ho5
      subst hv5
      have HS := hid (ptd_succ L C b k)
      have HO := hid ho
      have HO5 := hid ho5
      have HE := hid hE
      have HE5 := hid hE5
      clear ho ho5 hE hE5 hL hb8
      generalize (vAt L k).a = x at *
      generalize hC0 : C.getD k false = cb at *
      generalize ptd L C b k = P at *
      clear hC0
      by_cases hcb : cb = b
      · have hbe : (cb == b) = true := by simpa using hcb
        rw [if_pos hcb] at HS
        clear hcb
        go_wp2_with (at_builtin; refine wpList_append_run rfl _ _ 32 rfl _ _ _ rfl rfl hr5 ?_)
        go_roundw
        case rel => exact ⟨k + 1, by go_num, by omega, by rw [HS.out]; have := HO5.out; rw [List.length_append, List.length_singleton] at this ⊢; exact this, HE5.out⟩
        case measure => simp [intOf]; omega
      · have hbe : (cb == b) = false := by simpa using hcb
        rw [if_neg hcb, List.append_nil] at HS
        clear hcb hr5
        go_wp2_with fail
        go_roundw
        case rel => exact ⟨k + 1, by go_num, by omega, by rw [HS.out]; exact HO.out, HE.out⟩
        case measure => simp [intOf]; omega
    · obtain rfl : k = n := by omega
      have HO := hid ho
      have HE := hid hE
      clear ho hE
      go_wp2_with fail
      go_ret2
      exact ⟨_, C, rfl, HCl.out, HC.out, own_base HO.out (HE0.out.trans HE2.out).size, HE0.out.trans (HE2.out.trans HE.out)⟩
end Go.Proofs.YtjbbomokgpoilaaGreatDoor

/-
  How many nodes and slots there are where a cycle begins; no statement is proved here.
-/
namespace Go.Proofs.YtjbbomokgpoilaaGreatDoor.Co

/-! ### lengths -/

theorem mark_len' (G : Gs) : (mark G).ns.length = G.ns.length := by
  unfold mark
  split
  · simp
  · split
    · simp
    · rw [sh_len]; simp
theorem unit_len (G : Gs) : (unit G).1.ns.length = G.ns.length := by
  unfold unit
  split
  · exact mark_len' G
  · unfold sweep
    split
    · rfl
    · split <;> simp
theorem work_len : ∀ (u : Nat) (G : Gs), (work u G).2.2.ns.length = G.ns.length
  | 0, _ => rfl
  | u + 1, G => by
    by_cases h : G.ph = 0
    · rw [work_idle h]
    · simp only [work, h, if_false]; rw [work_len u, unit_len]
theorem shs_len' (R : List Int) : ∀ G : Gs, (R.foldl sh G).ns.length = G.ns.length := by
  induction R with
  | nil => intro G; rfl
  | cons x R ih => intro G; simp only [List.foldl_cons]; rw [ih, sh_len]
theorem start_len (G : Gs) (R : List Int) : (start G R).1.ns.length = G.ns.length := by
  unfold start
  split
  · rfl
  · split
    · rfl
    · simp only [shs_len']; simp
theorem set_len (G : Gs) (n j x : Int) : (set G n j x).1.ns.length = G.ns.length := by
  unfold set
  split
  · rfl
  · split
    · rfl
    · split
      · rfl
      · simp only [setG, putS, List.length_set]; rw [sh_len, sh_len]
theorem shade_len (G : Gs) (n : Int) : (shade G n).1.ns.length = G.ns.length := by
  unfold shade
  split
  · rfl
  · exact sh_len _ _
theorem node_len1 {G : Gs} (h : G.le ≤ G.ns.length) (x : Int) : (node G x).1.ns.length ≤ G.ns.length + 1 := by
  have hf := (fr_le h).2
  unfold node
  split
  · simp
  · split
    · rename_i q
      simp only [nodeG, q, if_true]
      omega
    · rename_i q
      simp only
      rw [node_len h q]
      omega

theorem Fin.len {G G' : Gs} (h : Fin G G') : G'.ns.length = G.ns.length := by
  obtain ⟨_, u, rfl⟩ := h
  exact work_len u G

/-! ### costs where a cycle begins -/

def whCost (G : Gs) (i : Nat) : Nat := if lvN G i then (ndAt G.ns i).s.length + 1 else 0
theorem costs_take (G : Gs) : ∀ k, k ≤ G.ns.length → costs ((G.ns.take k).map wh) = (((List.range k).filter fun i => decide (lvN G i)).map fun i => (ndAt G.ns i).s.length + 1).sum
  | 0, _ => by simp [costs]
  | k + 1, h => by
    have ih := costs_take G k (by omega)
    have hk : k < G.ns.length := by omega
    rw [List.take_add_one, ndAt_get hk, List.map_append, List.range_succ, List.filter_append, List.map_append, List.sum_append, ← ih]
    have : ∀ l : List Nd, ∀ x : Nd, costs (l ++ [x]) = costs l + cost x := costs_snoc
    simp only [Option.toList_some, List.map_cons, List.map_nil]
    rw [this]
    congr 1
    by_cases hl : lvN G k
    · have hc : (ndAt G.ns k).c ≠ 0 ∧ (ndAt G.ns k).c ≠ 4 := hl
      simp [cost, wh, hc, hl]
    · have hc : ¬ ((ndAt G.ns k).c ≠ 0 ∧ (ndAt G.ns k).c ≠ 4) := hl
      simp only [wh, if_neg hc]
      have : (ndAt G.ns k).c ≠ 1 ∧ (ndAt G.ns k).c ≠ 2 := by omega
      simp [cost, this, hl]
theorem costs_begin (G : Gs) : costs (begin G).ns = ((lives G).map fun i => (ndAt G.ns i).s.length + 1).sum := by
  have := costs_take G G.ns.length (Nat.le_refl _)
  rw [List.take_length] at this
  exact this
theorem shs_costs (R : List Int) : ∀ G : Gs, costs (R.foldl sh G).ns = costs G.ns := by
  induction R with
  | nil => intro G; rfl
  | cons x R ih => intro G; simp only [List.foldl_cons]; rw [ih, sh_costs]
theorem shs_ph (R : List Int) : ∀ G : Gs, (R.foldl sh G).ph = G.ph := by
  induction R with
  | nil => intro G; rfl
  | cons x R ih => intro G; simp only [List.foldl_cons]; rw [ih, (sh_fix G x).2.1]
theorem start_ok {G : Gs} {R : List Int} (h : (start G R).2 = 0) : (start G R).1 = R.foldl sh (begin G) ∧ R.all (lvB G) = true ∧ G.ph = 0 := by
  unfold start at h ⊢
  split at h
  · simp at h
  · rename_i h1
    split at h
    · simp at h
    · rename_i h2
      rw [if_neg h1, if_neg h2]
      exact ⟨rfl, by simpa using h2, by omega⟩
theorem sum_split (l : List Nat) (f : Nat → Nat) : (l.map fun i => f i + 1).sum = (l.map f).sum + l.length := by
  induction l with
  | nil => rfl
  | cons x l ih => simp only [List.map_cons, List.sum_cons, List.length_cons, ih]; omega
/-- The work of a cycle that begins. -/
theorem mu_start {G : Gs} {R : List Int} (h : (start G R).2 = 0) : mu (start G R).1 = ((lives G).map fun i => (ndAt G.ns i).s.length).sum + (lives G).length + G.ns.length + 2 ∧ (start G R).1.ph = 1 := by
  obtain ⟨e, _, _⟩ := start_ok h
  have hp : (start G R).1.ph = 1 := by rw [e, shs_ph]; rfl
  refine ⟨?_, hp⟩
  unfold mu
  rw [if_neg (by omega), if_pos hp, e, shs_costs, costs_begin, sum_split, shs_len']
  simp [begin]

/-- A node that comes while it is marked takes no work. -/
theorem node_costs {G : Gs} (h : Iv G) (x : Int) : costs (node G x).1.ns = costs G.ns := by
  have hl := h.le
  have hf := (fr_le hl).2
  unfold node
  split
  · rfl
  · split
    · rename_i q
      simp only [nodeG, q, if_true]
    · rename_i q
      simp only [nodeG, q, if_false]
      by_cases e : fr G = G.ns.length
      · rw [if_pos e]
        have h1 := costs_set (G.ns ++ [nz]) (fr G) ⟨3, List.replicate x.toNat (-1), 0⟩ (by simp; omega)
        rw [ndAt_snoc, if_pos e, costs_snoc] at h1
        simp only [cost, nz] at h1
        simp at h1
        exact h1
      · rw [if_neg e]
        have h1 := costs_set G.ns (fr G) ⟨3, List.replicate x.toNat (-1), 0⟩ (by omega)
        have h2 := fr_free (G := G)
        simp only [cost, h2] at h1
        simp at h1
        exact h1
theorem node_fix (G : Gs) (x : Int) : (node G x).1.ph = G.ph ∧ (node G x).1.cy = G.cy := by
  unfold node nodeG
  split
  · exact ⟨rfl, rfl⟩
  · split
    · exact ⟨rfl, rfl⟩
    · exact ⟨rfl, rfl⟩
theorem node_top {G : Gs} (h : Iv G) (x : Int) (c : Nat) (hp : G.ns.length ≤ c ∨ ∃ j, lvN G j ∧ G.ns.length = j + 1) : (node G x).1.ns.length ≤ c ∨ ∃ j, lvN (node G x).1 j ∧ (node G x).1.ns.length = j + 1 := by
  have hl := h.le
  have hf := (fr_le hl).2
  unfold node
  split
  · exact hp
  · split
    · rename_i q
      have : (nodeG G x.toNat).ns = G.ns := by simp only [nodeG, q, if_true]
      simp only [lvN, this]
      exact hp
    · rename_i q
      simp only
      rw [node_len hl q]
      by_cases e : fr G = G.ns.length
      · right
        exact ⟨fr G, (node_lv hl q _ _).2 (.inl rfl), by omega⟩
      · rw [Nat.max_eq_left (by omega)]
        rcases hp with r | ⟨j, r1, r2⟩
        · exact .inl r
        · exact .inr ⟨j, (node_lv hl q _ _).2 (.inr r1), r2⟩

end Go.Proofs.YtjbbomokgpoilaaGreatDoor.Co

/-
  Which nodes outlive a cycle; no statement is proved here.
-/
namespace Go.Proofs.YtjbbomokgpoilaaGreatDoor.Co

/-- A set that holds the roots and is closed under what live nodes name. -/
structure Cls (G : Gs) (R : List Int) (T : Nat → Prop) : Prop where
  root : ∀ r ∈ R, T r.toNat
  step : ∀ i, T i → lvN G i → ∀ x ∈ (ndAt G.ns i).s, x ≠ -1 → T x.toNat
  least : ∀ P : Nat → Prop, (∀ r ∈ R, P r.toNat) → (∀ i, P i → lvN G i → ∀ x ∈ (ndAt G.ns i).s, x ≠ -1 → P x.toNat) → ∀ i, T i → P i

theorem mark_nil_lv {H : Gs} (h : Iv H) (hl : H.ln = []) (i : Nat) : lvN (mark H) i ↔ (ndAt H.ns i).c = 3 := by
  have hg : (ndAt H.ns i).c ≠ 2 := fun q => by have := (h.grey i).1 q; rw [hl] at this; cases this
  have e : mark H = { H with ns := H.ns.map die, ln := [], ph := 2, pl := 0, en := H.ns.length } := by simp only [mark, hl]
  rw [e]
  unfold lvN
  simp only [die_at]
  have := h.col i
  unfold die
  split
  · simp; omega
  · omega
theorem mark_nil_ph {H : Gs} (hl : H.ln = []) : (mark H).ph = 2 := by simp only [mark, hl]
theorem sweep_lv {H : Gs} (h : Iv H) (h2 : H.ph = 2) (i : Nat) : lvN (sweep H).1 i ↔ lvN H i := by
  have hpe := h.pe h2
  unfold sweep
  split
  · exact Iff.rfl
  · split
    · rename_i hne h4
      have hl : H.pl < H.ns.length := by omega
      unfold lvN
      simp only
      rw [ndAt_set hl]
      split
      · rename_i e; rw [e, h4]; simp [nz]
      · exact Iff.rfl
    · exact Iff.rfl
theorem sweep_ph {H : Gs} (h2 : H.ph = 2) : (sweep H).1.ph ≠ 1 := by
  unfold sweep
  split
  · simp
  · split <;> simp [h2]

/-! ### nothing is written -/

structure Fz (G : Gs) (R : List Int) (T : Nat → Prop) (H : Gs) : Prop where
  m : H.ph = 1 → (∀ i, (ndAt H.ns i).s = (ndAt G.ns i).s) ∧ (∀ i, lvN H i ↔ lvN G i) ∧ (∀ i, (ndAt H.ns i).c = 2 ∨ (ndAt H.ns i).c = 3 → T i) ∧ ∀ r ∈ R, (ndAt H.ns r.toNat).c ≠ 1
  s : H.ph ≠ 1 → ∀ i, lvN H i ↔ lvN G i ∧ T i

theorem Fz.end_ {G : Gs} {R : List Int} {T : Nat → Prop} {H : Gs} (h : Fz G R T H) (hI : Iv H) (hT : Cls G R T) (h1 : H.ph = 1) (hl : H.ln = []) (hR : ∀ r ∈ R, lvB G r = true) (i : Nat) : (ndAt H.ns i).c = 3 ↔ lvN G i ∧ T i := by
  obtain ⟨m1, m2, m3, m4⟩ := h.m h1
  have hg : ∀ j, (ndAt H.ns j).c ≠ 2 := fun j q => by have := (hI.grey j).1 q; rw [hl] at this; cases this
  have key : ∀ j, lvN G j → (ndAt H.ns j).c ≠ 1 → (ndAt H.ns j).c = 3 := fun j hj hc => by
    have h2 := (m2 j).2 hj
    have := hI.col j
    have := hg j
    have := h2.1
    have := h2.2
    omega
  refine ⟨fun q => ⟨(m2 i).1 ⟨by omega, by omega⟩, m3 i (.inr q)⟩, fun q => ?_⟩
  refine hT.least (fun j => (ndAt H.ns j).c = 3) (fun r hr => ?_) (fun j hj hlj x hx hx1 => ?_) i q.2
  · exact key _ (lvB_iff.1 (hR r hr)).2 (m4 r hr)
  · have hx2 : x ∈ (ndAt H.ns j).s := by rw [m1]; exact hx
    have hl1 := hI.cl j ⟨by omega, by omega⟩ x hx2
    rcases hI.tri j hj x hx2 with r | r
    · exact absurd r hx1
    · rcases hl1 with s | s
      · exact absurd s hx1
      · exact key _ ((m2 _).1 (lvB_iff.1 s).2) r

theorem fz_unit {G : Gs} {R : List Int} {T : Nat → Prop} {H : Gs} (hI : Iv H) (hT : Cls G R T) (hR : ∀ r ∈ R, lvB G r = true) (h0 : H.ph ≠ 0) (h : Fz G R T H) : Fz G R T (unit H).1 := by
  by_cases h1 : H.ph = 1
  · have hu : (unit H).1 = mark H := by simp only [unit, h1, if_true]
    rw [hu]
    obtain ⟨m1, m2, m3, m4⟩ := h.m h1
    cases hl : H.ln with
    | nil =>
      refine ⟨fun q => absurd q (by rw [mark_nil_ph hl]; decide), fun _ i => ?_⟩
      rw [mark_nil_lv hI hl]
      exact h.end_ hI hT h1 hl hR i
    | cons x t =>
      have hx := (hI.grey x).2 (by simp [hl])
      have hxl : x < H.ns.length := lvN_lt (G := H) ⟨by rw [hx]; decide, by rw [hx]; decide⟩
      by_cases hk : (ndAt H.ns x).k = (ndAt H.ns x).s.length
      · have hmk : mark H = { H with ns := H.ns.set x ⟨3, (ndAt H.ns x).s, (ndAt H.ns x).k⟩, ln := t } := by simp only [mark, hl, if_pos hk]
        rw [hmk]
        refine ⟨fun _ => ⟨fun i => ?_, fun i => ?_, fun i => ?_, fun r hr => ?_⟩, fun q => absurd h1 q⟩
        · simp only; rw [ndAt_set hxl]; split
          · rename_i e; rw [e]; exact m1 x
          · exact m1 i
        · unfold lvN; simp only; rw [ndAt_set hxl]; split
          · rename_i e; rw [e]
            have h2 := m2 x
            unfold lvN at h2
            rw [hx] at h2
            simpa using h2
          · exact m2 i
        · simp only; rw [ndAt_set hxl]; split
          · rename_i e; rw [e]; intro _; exact m3 x (.inl hx)
          · exact m3 i
        · simp only; rw [ndAt_set hxl]; split
          · simp
          · exact m4 r hr
      · rw [mark_look hI hl hk]
        have hlo := hI.lo x
        have hkl : (ndAt H.ns x).k < (ndAt H.ns x).s.length := by omega
        have hy : (ndAt H.ns x).s.getD (ndAt H.ns x).k 0 ∈ (ndAt H.ns x).s := by simp [List.getD, hkl]
        have hlx : lvN G x := (m2 x).1 ⟨by omega, by omega⟩
        have hTy : (ndAt H.ns x).s.getD (ndAt H.ns x).k 0 ≠ -1 → T ((ndAt H.ns x).s.getD (ndAt H.ns x).k 0).toNat := fun q => hT.step x (m3 x (.inl hx)) hlx _ (by rw [← m1]; exact hy) q
        generalize (ndAt H.ns x).s.getD (ndAt H.ns x).k 0 = y at *
        have hnx := sh_nw H y x (by omega)
        have hl2 : x < (sh H y).ns.length := by rw [sh_len]; exact hxl
        have hph : (sh H y).ph = H.ph := (sh_fix H y).2.1
        have at_ : ∀ i, ndAt (bump (sh H y) x).ns i = if i = x then ⟨(ndAt H.ns x).c, (ndAt H.ns x).s, (ndAt H.ns x).k + 1⟩ else ndAt (sh H y).ns i := fun i => by
          simp only [bump]; rw [ndAt_set hl2, hnx]
        have atc : ∀ i, (ndAt (bump (sh H y) x).ns i).c = (ndAt (sh H y).ns i).c := fun i => by rw [at_]; split; (next e => rw [e, hnx]); rfl
        have ats : ∀ i, (ndAt (bump (sh H y) x).ns i).s = (ndAt H.ns i).s := fun i => by rw [at_]; split; (next e => rw [e]); exact sh_s H y i
        refine ⟨fun _ => ⟨fun i => by rw [ats]; exact m1 i, fun i => ?_, fun i => ?_, fun r hr => ?_⟩, fun q => by simp only [bump] at q; rw [hph] at q; exact absurd h1 q⟩
        · have : lvN (bump (sh H y) x) i ↔ lvN (sh H y) i := by unfold lvN; rw [atc]
          rw [this, sh_lv]; exact m2 i
        · rw [atc]
          intro q
          rcases sh_at H y i with r | ⟨r1, r2⟩
          · rw [r] at q; exact m3 i q
          · -- i was shaded: it is y
            have hyi : y ≠ -1 ∧ i = y.toNat := by
              by_cases e : y = -1
              · simp only [sh, e, if_true] at r2; rw [r2] at r1; simp at r1
              · refine ⟨e, ?_⟩
                by_cases e2 : i = y.toNat
                · exact e2
                · exfalso
                  simp only [sh, e, if_false, shN] at r2
                  split at r2
                  · rename_i h5
                    have hly : y.toNat < H.ns.length := lvN_lt (G := H) ⟨by rw [h5]; decide, by rw [h5]; decide⟩
                    simp only at r2
                    rw [ndAt_set hly, if_neg e2] at r2
                    rw [r2] at r1; simp at r1
                  · rw [r2] at r1; simp at r1
            rw [hyi.2]
            exact hTy hyi.1
        · rw [atc]
          rcases sh_c2 H y r.toNat with q | q
          · exact q
          · rw [q]; exact m4 r hr
  · have h2 : H.ph = 2 := by have := hI.ph; omega
    have hu : (unit H).1 = (sweep H).1 := by simp only [unit, h1, if_false]
    rw [hu]
    exact ⟨fun q => absurd q (sweep_ph h2), fun _ i => by rw [sweep_lv hI h2]; exact h.s h1 i⟩
theorem fz_work {G : Gs} {R : List Int} {T : Nat → Prop} (hT : Cls G R T) (hR : ∀ r ∈ R, lvB G r = true) : ∀ (u : Nat) {H : Gs}, Iv H → Fz G R T H → Fz G R T (work u H).2.2
  | 0, _, _, h => h
  | u + 1, H, hI, h => by
    by_cases q : H.ph = 0
    · rw [work_idle q]; exact h
    · simp only [work, q, if_false]
      exact fz_work hT hR u (iv_unit hI q) (fz_unit hI hT hR q h)

theorem shs_keep (R : List Int) : ∀ (H : Gs), (∀ i, (ndAt (R.foldl sh H).ns i).s = (ndAt H.ns i).s) ∧ (∀ i, lvN (R.foldl sh H) i ↔ lvN H i) ∧ (∀ i, (ndAt H.ns i).c ≠ 1 → (ndAt (R.foldl sh H).ns i).c ≠ 1) := by
  induction R with
  | nil => intro H; exact ⟨fun _ => rfl, fun _ => Iff.rfl, fun _ h => h⟩
  | cons x R ih =>
    intro H
    obtain ⟨h1, h2, h3⟩ := ih (sh H x)
    simp only [List.foldl_cons]
    exact ⟨fun i => by rw [h1, sh_s], fun i => by rw [h2, sh_lv], fun i hi => h3 i (by rw [sh_nw _ _ _ hi]; exact hi)⟩
theorem shs_root (R : List Int) : ∀ (H : Gs), (∀ r ∈ R, 0 ≤ r) → ∀ r ∈ R, (ndAt (R.foldl sh H).ns r.toNat).c ≠ 1 := by
  induction R with
  | nil => intro H _ r hr; cases hr
  | cons x R ih =>
    intro H h0 r hr
    simp only [List.foldl_cons]
    simp only [List.mem_cons] at hr
    rcases hr with rfl | hr
    · have := sh_c (G := H) r (.inr (h0 r (by simp)))
      rcases this with q | q
      · have := h0 r (by simp); omega
      · exact (shs_keep R (sh H r)).2.2 _ q
    · exact ih (sh H x) (fun y hy => h0 y (by simp [hy])) r hr
/-- What is grey or black behind the shading of roots was so, or is a root. -/
theorem shs_grey (R : List Int) : ∀ (H : Gs) (i : Nat), (ndAt (R.foldl sh H).ns i).c = 2 ∨ (ndAt (R.foldl sh H).ns i).c = 3 → ((ndAt H.ns i).c = 2 ∨ (ndAt H.ns i).c = 3) ∨ ∃ r ∈ R, i = r.toNat := by
  induction R with
  | nil => intro H i h; exact .inl h
  | cons x R ih =>
    intro H i h
    simp only [List.foldl_cons] at h
    rcases ih (sh H x) i h with q | ⟨r, hr, e⟩
    · by_cases e2 : i = x.toNat
      · exact .inr ⟨x, by simp, e2⟩
      · left
        by_cases e : x = -1
        · simp only [sh, e, if_true] at q; exact q
        · simp only [sh, e, if_false, shN] at q
          split at q
          · rename_i h5
            have hly : x.toNat < H.ns.length := lvN_lt (G := H) ⟨by rw [h5]; decide, by rw [h5]; decide⟩
            simp only at q
            rw [ndAt_set hly, if_neg e2] at q
            exact q
          · exact q
    · exact .inr ⟨r, by simp [hr], e⟩
theorem fz_start {G : Gs} {R : List Int} {T : Nat → Prop} (hI : Iv G) (hT : Cls G R T) (h : (start G R).2 = 0) : Fz G R T (start G R).1 := by
  obtain ⟨e, hall, h0⟩ := start_ok h
  rw [e]
  have hR : ∀ r ∈ R, lvB G r = true := List.all_eq_true.1 hall
  obtain ⟨k1, k2, k3⟩ := shs_keep R (begin G)
  have hp : (R.foldl sh (begin G)).ph = 1 := by rw [shs_ph]; rfl
  have hid := hI.idle (by omega)
  refine ⟨fun _ => ⟨fun i => ?_, fun i => ?_, fun i hi => ?_, ?_⟩, fun q => absurd hp q⟩
  · rw [k1]; simp only [begin, wh_at, wh_s]
  · rw [k2]; exact wh_lv i
  · rcases shs_grey R (begin G) i hi with q | ⟨r, hr, e2⟩
    · exfalso
      simp only [begin, wh_at] at q
      have := hI.col i
      unfold wh at q
      split at q
      · simp at q
      · rename_i h5; omega
    · rw [e2]; exact hT.root r hr
  · exact shs_root R _ (fun r hr => (lvB_iff.1 (hR r hr)).1)
/-- What a whole cycle leaves. -/
theorem frees {G G' : Gs} {R : List Int} {T : Nat → Prop} (hI : Iv G) (hT : Cls G R T) (h : (start G R).2 = 0) {H : Gs} (hH : ∃ u, H = (work u (start G R).1).2.2) (hf : Fin H G') (i : Nat) : lvN G' i ↔ lvN G i ∧ T i := by
  obtain ⟨u, rfl⟩ := hH
  have hR : ∀ r ∈ R, lvB G r = true := List.all_eq_true.1 (start_ok h).2.1
  obtain ⟨h0, v, rfl⟩ := hf
  have h1 := fz_work hT hR u (iv_start hI R) (fz_start hI hT h)
  have h2 := fz_work hT hR v (iv_work u (iv_start hI R)) h1
  exact h2.s (by omega) i

end Go.Proofs.YtjbbomokgpoilaaGreatDoor.Co

/-
  What a collection leaves: plain facts; no statement is proved here.
-/
namespace Go.Proofs.YtjbbomokgpoilaaGreatDoor

namespace Co
/-- Reached from nodes by slots. -/
inductive Rs (G : Gs) (l : List Int) : Nat → Prop
  | root {r : Int} : r ∈ l → Rs G l r.toNat
  | step {i : Nat} {x : Int} : Rs G l i → x ∈ (ndAt G.ns i).s → x ≠ -1 → Rs G l x.toNat
theorem Rs.live {G : Gs} {l : List Int} (hI : Iv G) (hl : ∀ x ∈ l, lvB G x = true) {i : Nat} (h : Rs G l i) : lvN G i := by
  induction h with
  | root h => exact (lvB_iff.1 (hl _ h)).2
  | step _ hx hx1 ih =>
    rcases hI.cl _ ih _ hx with q | q
    · exact absurd q hx1
    · exact (lvB_iff.1 q).2
theorem Rs.cls {G : Gs} {l : List Int} (hI : Iv G) (hl : ∀ x ∈ l, lvB G x = true) : Cls G l (Rs G l) := by
  refine ⟨fun r hr => .root hr, fun i hi _ x hx h1 => .step hi hx h1, fun P h1 h2 i hi => ?_⟩
  induction hi with
  | root h => exact h1 _ h
  | step h hx hx1 ih => exact h2 _ ih (h.live hI hl) _ hx hx1

open Classical in
/-- What nodes reach that are grey or black, or live behind the marking, outlives the work. -/
theorem keep_work {G : Gs} {l : List Int} (hI : Iv G) (hl : ∀ x ∈ l, lvB G x = true) (hn : G.ph = 1 → ∀ x ∈ l, Nb G x.toNat) (u : Nat) (hu : (work u G).2.2.ph ≠ 1) {i : Nat} (h : Rs G l i) : lvN (work u G).2.2 i := by
  obtain ⟨R, hR⟩ : ∃ R : List Int, ∀ x : Int, x ∈ R ↔ 0 ≤ x ∧ lvN G x.toNat ∧ (G.ph = 1 → Nb G x.toNat) := by
    refine ⟨((List.range G.ns.length).filter (fun i => decide (lvN G i ∧ (G.ph = 1 → Nb G i)))).map Int.ofNat, fun x => ?_⟩
    simp only [List.mem_map, List.mem_filter, List.mem_range, decide_eq_true_eq]
    constructor
    · rintro ⟨a, ⟨_, h2, h3⟩, rfl⟩
      exact ⟨Int.natCast_nonneg a, h2, h3⟩
    · rintro ⟨h0, h1, h2⟩
      exact ⟨x.toNat, ⟨lvN_lt h1, h1, h2⟩, Int.toNat_of_nonneg h0⟩
  have hRl : ∀ r ∈ R, lvB G r = true := fun r hr => lvB_iff.2 ⟨((hR r).1 hr).1, ((hR r).1 hr).2.1⟩
  have hC := Rs.cls hI hRl
  have hin : ∀ i : Nat, lvN G i → (G.ph = 1 → Nb G i) → Rs G R i := fun i h1 h2 => by
    have := Rs.root (G := G) ((hR (i : Int)).2 ⟨Int.natCast_nonneg i, by rw [Int.toNat_natCast]; exact h1, fun q => by rw [Int.toNat_natCast]; exact h2 q⟩)
    rwa [Int.toNat_natCast] at this
  have hF : Fz G R (Rs G R) G := by
    refine ⟨fun _ => ⟨fun _ => rfl, fun _ => Iff.rfl, fun i hi => ?_, fun r hr => ?_⟩, fun q i => ⟨fun h => ⟨h, hin i h (fun e => absurd e q)⟩, fun h => h.1⟩⟩
    · exact hin i ⟨by omega, by omega⟩ (fun _ => hi)
    · by_cases q : G.ph = 1
      · have := ((hR r).1 hr).2.2 q
        rcases this with e | e <;> omega
      · exact ((hI.idle q).2 r.toNat).1
  have hW := fz_work hC hRl u hI hF
  refine (hW.s hu i).2 ⟨h.live hI hl, ?_⟩
  induction h with
  | root h => exact hin _ (lvB_iff.1 (hl _ h)).2 (fun q => hn q _ h)
  | step _ hx hx1 ih => exact .step ih hx hx1

/-- A graph whose live nodes were live, with the slots they had. -/
def Wst (G G' : Gs) : Prop := ∀ n, lvN G' n → lvN G n ∧ (ndAt G'.ns n).s = (ndAt G.ns n).s
theorem Wst.trans {A B C : Gs} (h : Wst A B) (k : Wst B C) : Wst A C := fun n hn => ⟨(h n (k n hn).1).1, (k n hn).2.trans (h n (k n hn).1).2⟩
theorem Wst.work : ∀ (u : Nat) {G : Gs}, Iv G → Wst G (work u G).2.2
  | 0, _, _ => fun _ h => ⟨h, rfl⟩
  | u + 1, G, hI => by
    by_cases q : G.ph = 0
    · rw [work_idle q]; exact fun _ h => ⟨h, rfl⟩
    · have h2 := Wst.work u (iv_unit hI q)
      simp only [Co.work, if_neg q]
      refine Wst.trans ?_ h2
      rcases unit_st hI q with ⟨g, _⟩ | ⟨n, _, _, hn⟩
      · exact g.l
      · intro j hj
        unfold lvN at hj
        rw [hn j] at hj ⊢
        by_cases e : j = n
        · rw [if_pos e] at hj; exact absurd rfl hj.1
        · rw [if_neg e] at hj ⊢; exact ⟨hj, rfl⟩
theorem rs_same {G G' : Gs} {l : List Int} (hw : Wst G G') (hk : ∀ i, Rs G l i → lvN G' i) (i : Nat) : Rs G l i ↔ Rs G' l i := by
  constructor
  · intro h
    induction h with
    | root h => exact .root h
    | step h hx hx1 ih => exact .step ih (by rw [(hw _ (hk _ h)).2]; exact hx) hx1
  · intro h
    induction h with
    | root h => exact .root h
    | step h hx hx1 ih => exact .step ih (by rw [← (hw _ (hk _ ih)).2]; exact hx) hx1

/-- A later graph in which these nodes reach what they reached. -/
structure Kp (G0 : Gs) (l : List Int) (G : Gs) : Prop where
  iv : Iv G
  lv : ∀ x ∈ l, lvB G x = true
  rs : ∀ i, Rs G0 l i ↔ Rs G l i
theorem Kp.refl {G : Gs} {l : List Int} (hI : Iv G) (hl : ∀ x ∈ l, lvB G x = true) : Kp G l G := ⟨hI, hl, fun _ => Iff.rfl⟩
section
variable {G0 G G' : Gs} {l : List Int}
theorem Kp.step (h : Kp G0 l G) (hI : Iv G') (hw : Wst G G') (hk : ∀ i, Rs G l i → lvN G' i) : Kp G0 l G' :=
  ⟨hI, fun x hx => lvB_iff.2 ⟨(lvB_iff.1 (h.lv x hx)).1, hk _ (.root hx)⟩, fun i => (h.rs i).trans (rs_same hw hk i)⟩
theorem hold_lv (i : Nat) : ∀ (R : List Int) (G : Gs), lvN (R.foldl (fun G n => (shade G n).1) G) i ↔ lvN G i
  | [], _ => Iff.rfl
  | x :: R, G => by
    rw [List.foldl_cons, hold_lv i R]
    unfold shade
    split
    · exact Iff.rfl
    · exact sh_lv G x i
theorem Kp.hold (h : Kp G0 l G) : Kp G0 l (l.foldl (fun G n => (shade G n).1) G) ∧ ∀ x ∈ l, Nb (l.foldl (fun G n => (shade G n).1) G) x.toNat :=
  ⟨h.step (iv_hold l _ h.iv) (Gst.shades l _).l (fun i hi => (hold_lv i l G).2 (hi.live h.iv h.lv)), hold_nb l h.iv h.lv⟩
theorem Kp.start_ok (h : Kp G0 l G) (h0 : G.ph = 0) : (start G l).2 = 0 := by
  unfold start
  rw [if_neg (by simpa using h0), if_neg (by rw [List.all_eq_true.2 h.lv]; decide)]
theorem Kp.start (h : Kp G0 l G) (h0 : G.ph = 0) : Kp G0 l (Co.start G l).1 ∧ (Co.start G l).1.ph = 1 ∧ ∀ x ∈ l, Nb (Co.start G l).1 x.toNat := by
  have hok := h.start_ok h0
  obtain ⟨e, _, _⟩ := Co.start_ok hok
  have hlv : ∀ i, lvN (Co.start G l).1 i ↔ lvN G i := fun i => by rw [e, (shs_keep l (begin G)).2.1]; exact wh_lv i
  have hI := iv_start h.iv l
  have hp : (Co.start G l).1.ph = 1 := by rw [e, shs_ph]; rfl
  refine ⟨h.step hI (Gst.start G l).l (fun i hi => (hlv i).2 (hi.live h.iv h.lv)), hp, fun x hx => ?_⟩
  have h1 := shs_root l (begin G) (fun r hr => (lvB_iff.1 (h.lv r hr)).1) x hx
  have h2 := (hlv x.toNat).2 (lvB_iff.1 (h.lv x hx)).2
  rw [← e] at h1
  have h3 := hI.col x.toNat
  unfold Nb
  unfold lvN at h2
  omega
theorem Kp.work (h : Kp G0 l G) (hn : G.ph = 1 → ∀ x ∈ l, Nb G x.toNat) (u : Nat) (hu : (Co.work u G).2.2.ph ≠ 1) : Kp G0 l (Co.work u G).2.2 :=
  h.step (iv_work u h.iv) (Wst.work u h.iv) (fun _ hi => keep_work h.iv h.lv hn u hu hi)
/-- What a whole cycle leaves is what is reached. -/
theorem Kp.cycle (h : Kp G0 l G) (h0 : G.ph = 0) {u : Nat} (hu : 600000000 ≤ u) : (Co.work u (Co.start G l).1).2.2.ph = 0 ∧ (∀ i, lvN (Co.work u (Co.start G l).1).2.2 i ↔ Rs G0 l i) ∧ (Co.work u (Co.start G l).1).2.2.cy = G.cy + 1 ∧ Kp G0 l (Co.work u (Co.start G l).1).2.2 := by
  obtain ⟨h1, h2, h3⟩ := h.start h0
  have hF := Fin.of_ge h1.iv hu
  refine ⟨hF.1, fun i => ?_, ?_, h1.work (fun _ => h3) u (by rw [hF.1]; decide)⟩
  · have := frees h.iv (Rs.cls h.iv h.lv) (h.start_ok h0) ⟨0, rfl⟩ hF i
    rw [this, h.rs]
    exact ⟨fun q => q.2, fun q => ⟨q.live h.iv h.lv, q⟩⟩
  · rw [work_cyc u (by omega) hF.1, start_cy]
end
end Co

/-! ### memories of which objects went -/
structure Sb (M M' : Ms) : Prop where
  ob : ∀ a o, M'.ob a = some o → M.ob a = some o
  ad : ∀ n a, M'.ad n = some a → M.ad n = some a
  B : M'.H.B = M.H.B
theorem Sb.refl (M : Ms) : Sb M M := ⟨fun _ _ h => h, fun _ _ h => h, rfl⟩
theorem Sb.trans {A B C : Ms} (h : Sb A B) (k : Sb B C) : Sb A C := ⟨fun a o q => h.ob a o (k.ob a o q), fun n a q => h.ad n a (k.ad n a q), k.B.trans h.B⟩
theorem freeH_B (H : Hs) (a : Int) : (freeH H a).2.B = H.B := by
  unfold freeH
  split
  · rfl
  · split
    · simp only
      split <;> rfl
    · rfl
theorem Sb.free (M : Ms) (n : Int) : Sb M (freeM M n) := by
  refine ⟨fun a o h => ?_, fun m a h => ?_, freeH_B _ _⟩
  · simp only [freeM, updO] at h
    split at h
    · cases h
    · exact h
  · simp only [freeM, updO] at h
    split at h
    · cases h
    · exact h
theorem Sb.frees : ∀ (l : List Int) (M : Ms), Sb M (l.foldl freeM M)
  | [], M => Sb.refl M
  | x :: l, M => (Sb.free M x).trans (Sb.frees l _)
theorem Sb.work (M : Ms) (u : Nat) : Sb M (workM M u) := by
  have h : Sb M { M with G := (Co.work u M.G).2.2 } := ⟨fun _ _ h => h, fun _ _ h => h, rfl⟩
  exact h.trans (Sb.frees _ _)
theorem Sb.hold (M : Ms) (l : List Int) : Sb M (holdM M l) := ⟨fun _ _ h => h, fun _ _ h => h, rfl⟩
theorem Sb.begin (M : Ms) (l : List Int) : Sb M (beginM M l) := ⟨fun _ _ h => h, fun _ _ h => h, rfl⟩
theorem Sb.cycle (M : Ms) (l : List Int) : Sb M (cycleM M l) := (Sb.begin M l).trans (Sb.work _ _)

theorem fndM_iff {M : Ms} {a : Int} {o : Mo} : fndM M a = some o ↔ M.ob a = some o ∧ Co.lvB M.G o.nd = true := by
  unfold fndM
  constructor
  · intro h
    split at h
    · next o' ho' =>
      split at h
      · next hl => cases h; exact ⟨ho', hl⟩
      · cases h
    · cases h
  · rintro ⟨h1, h2⟩
    rw [h1]
    simp only
    rw [if_pos h2]
/-- What is found where objects went. -/
theorem Sb.fnd {M M' : Ms} (h : Sb M M') (hJ : Jd M []) (hJ' : Jd M' []) {a : Int} {o : Mo} : fndM M' a = some o ↔ M.ob a = some o ∧ Co.lvN M'.G o.nd.toNat := by
  rw [fndM_iff]
  constructor
  · rintro ⟨h1, h2⟩
    exact ⟨h.ob a o h1, (Co.lvB_iff.1 h2).2⟩
  · rintro ⟨h1, h2⟩
    obtain ⟨n0, n1, _⟩ := hJ.nd a o h1
    refine ⟨?_, Co.lvB_iff.2 ⟨n0, h2⟩⟩
    obtain ⟨a', ha'⟩ := hJ'.lv o.nd.toNat h2.1
    have e : ((o.nd.toNat : Nat) : Int) = o.nd := by omega
    rw [e] at ha'
    have := h.ad _ _ ha'
    rw [n1] at this
    cases this
    obtain ⟨o', q1, q2⟩ := hJ'.ad _ _ ha'
    have := h.ob _ _ q1
    rw [h1] at this
    cases this
    exact q1

/-! ### a collection -/
structure Left (M : Ms) (l : List Int) (M' : Ms) : Prop where
  jd : Jd M' []
  sb : Sb M M'
  ph : M'.G.ph = 0
  cy : M.G.cy < M'.G.cy
  lv : ∀ i, Co.lvN M'.G i ↔ Co.Rs M.G l i
  kp : Co.Kp M.G l M'.G
theorem cycle_left {M M1 : Ms} {l : List Int} (hJ : Jd M1 []) (hS : Sb M M1) (hk : Co.Kp M.G l M1.G) (h0 : M1.G.ph = 0) (hc : M.G.cy ≤ M1.G.cy) : Left M l (cycleM M1 l) := by
  have hG : (cycleM M1 l).G = (Co.work 9223372036854775807 (Co.start M1.G l).1).2.2 := workM_G _ _
  obtain ⟨h1, h2, h3, h4⟩ := hk.cycle h0 (u := 9223372036854775807) (by omega)
  rw [← hG] at h1 h2 h3 h4
  exact ⟨hJ.cycle l, hS.trans (Sb.cycle M1 l), h1, by omega, h2, h4⟩
theorem cy_mono : ∀ (u : Nat) (G : Co.Gs), G.cy ≤ (Co.work u G).2.2.cy
  | 0, _ => Nat.le_refl _
  | u + 1, G => by
    by_cases q : G.ph = 0
    · rw [Co.work_idle q]; exact Nat.le_refl _
    · simp only [Co.work, if_neg q]
      refine Nat.le_trans ?_ (cy_mono u _)
      rcases Co.unit_cy G with e | ⟨e, _⟩ <;> omega
theorem holds_cy : ∀ (l : List Int) (G : Co.Gs), (l.foldl (fun G n => (Co.shade G n).1) G).cy = G.cy
  | [], _ => rfl
  | x :: l, G => by rw [List.foldl_cons, holds_cy l, Co.shade_cy]
/-- Behind the end of the cycle that runs. -/
theorem fin_kp {M M1 : Ms} {l : List Int} (hJ : Jd M1 []) (hS : Sb M M1) (hk : Co.Kp M.G l M1.G) (hn : M1.G.ph = 1 → ∀ x ∈ l, Co.Nb M1.G x.toNat) (hc : M.G.cy ≤ M1.G.cy) :
    Jd (finishM M1) [] ∧ Sb M (finishM M1) ∧ Co.Kp M.G l (finishM M1).G ∧ (finishM M1).G.ph = 0 ∧ M.G.cy ≤ (finishM M1).G.cy := by
  have hG : (finishM M1).G = (Co.work 9223372036854775807 M1.G).2.2 := workM_G _ _
  have hF := Co.Fin.of_ge hk.iv (u := 9223372036854775807) (by omega)
  refine ⟨hJ.work _, hS.trans (Sb.work _ _), ?_, by rw [hG]; exact hF.1, ?_⟩
  · rw [hG]; exact hk.work hn _ (by rw [hF.1]; decide)
  · rw [hG]; exact Nat.le_trans hc (cy_mono _ _)
theorem collect_left {M : Ms} (hJ : Jd M []) {R l : List Int} (hl : nodesM M R = some l) (hlv : ∀ x ∈ l, Co.lvB M.G x = true) : Left M l (collectM M R).1 := by
  have e : (collectM M R).1 = cycleM (finishM (holdM M l)) l := by unfold collectM; rw [hl]
  rw [e]
  have h1 := (Co.Kp.refl hJ.iv hlv).hold
  obtain ⟨f1, f2, f3, f4, f5⟩ := fin_kp (hJ.hold l) (Sb.hold M l) h1.1 (fun _ => h1.2) (Nat.le_of_eq (holds_cy l M.G).symm)
  exact cycle_left f1 f2 f3 f4 f5
/-- An allocation for which there is no room has made a whole cycle. -/
theorem full_left {M : Ms} (hJ : Jd M []) {l : List Int} (hlv : ∀ x ∈ l, Co.lvB M.G x = true) {n : Int} (hf : fitsM (roomM (begM (holdM M l) l) n l) n = false) : Left M l (roomM (begM (holdM M l) l) n l) := by
  have h1 := (Co.Kp.refl hJ.iv hlv).hold
  have h2 : Jd (begM (holdM M l) l) [] ∧ Sb M (begM (holdM M l) l) ∧ Co.Kp M.G l (begM (holdM M l) l).G ∧ ((begM (holdM M l) l).G.ph = 1 → ∀ x ∈ l, Co.Nb (begM (holdM M l) l).G x.toNat) ∧ M.G.cy ≤ (begM (holdM M l) l).G.cy := by
    refine ⟨(hJ.hold l).begM l, ?_⟩
    unfold begM
    split
    · rename_i q
      have h3 := h1.1.start q.1
      refine ⟨(Sb.hold M l).trans (Sb.begin _ l), h3.1, fun _ => h3.2.2, Nat.le_of_eq ?_⟩
      exact ((Co.start_cy _ l).trans (holds_cy l M.G)).symm
    · exact ⟨Sb.hold M l, h1.1, fun _ => h1.2, Nat.le_of_eq (holds_cy l M.G).symm⟩
  generalize begM (holdM M l) l = M2 at *
  obtain ⟨g1, g2, g3, g4, g5⟩ := h2
  by_cases q : fitsM M2 n = true
  · exfalso
    have e1 : room1 M2 n = M2 := by unfold room1; rw [if_pos q]
    have e2 : roomM M2 n l = M2 := by unfold roomM; rw [e1, if_pos q]
    rw [e2, q] at hf
    cases hf
  · have e1 : room1 M2 n = finishM M2 := by unfold room1; rw [if_neg q]
    obtain ⟨f1, f2, f3, f4, f5⟩ := fin_kp g1 g2 g3 g4 g5
    by_cases q2 : fitsM (finishM M2) n = true
    · exfalso
      have e2 : roomM M2 n l = finishM M2 := by unfold roomM; rw [e1, if_pos q2]
      rw [e2, q2] at hf
      cases hf
    · have e2 : roomM M2 n l = cycleM (finishM M2) l := by unfold roomM; rw [e1, if_neg q2]
      rw [e2]
      exact cycle_left f1 f2 f3 f4 f5
section
variable {M M' : Ms} {l : List Int}
theorem Left.fnd (h : Left M l M') (hJ : Jd M []) (hlv : ∀ x ∈ l, Co.lvB M.G x = true) {a : Int} {o : Mo} : fndM M' a = some o ↔ fndM M a = some o ∧ Co.Rs M.G l o.nd.toNat := by
  rw [h.sb.fnd hJ h.jd, h.lv, fndM_iff]
  constructor
  · rintro ⟨h1, h2⟩
    exact ⟨⟨h1, Co.lvB_iff.2 ⟨(hJ.nd a o h1).1, h2.live hJ.iv hlv⟩⟩, h2⟩
  · rintro ⟨⟨h1, _⟩, h2⟩
    exact ⟨h1, h2⟩
theorem nodes_mem {R : List Int} : ∀ {l : List Int}, nodesM M R = some l → (∀ a ∈ R, a ≠ 0 → ∃ o, fndM M a = some o ∧ o.nd ∈ l) ∧ ∀ x ∈ l, ∃ a ∈ R, a ≠ 0 ∧ ∃ o, fndM M a = some o ∧ o.nd = x := by
  induction R with
  | nil => intro l h; cases h; exact ⟨by simp, by simp⟩
  | cons b R ih =>
    intro l h
    rw [nodesM_cons] at h
    by_cases hb : b = 0
    · rw [if_pos hb] at h
      obtain ⟨i1, i2⟩ := ih h
      refine ⟨fun a ha h0 => ?_, fun x hx => ?_⟩
      · rcases List.mem_cons.1 ha with q | q
        · exact absurd (q.trans hb) h0
        · exact i1 a q h0
      · obtain ⟨a, h1, h2⟩ := i2 x hx
        exact ⟨a, List.mem_cons_of_mem _ h1, h2⟩
    · rw [if_neg hb] at h
      cases hf : fndM M b with
      | none => rw [hf] at h; cases h
      | some o =>
        rw [hf] at h
        simp only at h
        cases hr : nodesM M R with
        | none => rw [hr] at h; cases h
        | some l' =>
          rw [hr] at h
          simp only [Option.some.injEq] at h
          subst h
          obtain ⟨i1, i2⟩ := ih hr
          refine ⟨fun a ha h0 => ?_, fun x hx => ?_⟩
          · rcases List.mem_cons.1 ha with q | q
            · exact ⟨o, by rw [q]; exact hf, List.mem_cons_self ..⟩
            · obtain ⟨o', h1, h2⟩ := i1 a q h0
              exact ⟨o', h1, List.mem_cons_of_mem _ h2⟩
          · rcases List.mem_cons.1 hx with q | q
            · exact ⟨b, List.mem_cons_self .., hb, o, hf, q.symm⟩
            · obtain ⟨a, h1, h2⟩ := i2 x q
              exact ⟨a, List.mem_cons_of_mem _ h1, h2⟩
theorem nodes_same {R : List Int} : ∀ {l : List Int}, nodesM M R = some l → (∀ a ∈ R, a ≠ 0 → ∀ o, fndM M a = some o → fndM M' a = some o) → nodesM M' R = some l := by
  induction R with
  | nil => intro l h _; exact h
  | cons b R ih =>
    intro l h hs
    rw [nodesM_cons] at h ⊢
    by_cases hb : b = 0
    · rw [if_pos hb] at h ⊢
      exact ih h (fun a ha => hs a (List.mem_cons_of_mem _ ha))
    · rw [if_neg hb] at h ⊢
      cases hf : fndM M b with
      | none => rw [hf] at h; cases h
      | some o =>
        rw [hf] at h
        rw [hs b (List.mem_cons_self ..) hb o hf]
        simp only at h ⊢
        cases hr : nodesM M R with
        | none => rw [hr] at h; cases h
        | some l' =>
          rw [hr] at h
          rw [ih hr (fun a ha => hs a (List.mem_cons_of_mem _ ha))]
          exact h
theorem Left.nodes (h : Left M l M') (hJ : Jd M []) (hlv : ∀ x ∈ l, Co.lvB M.G x = true) {R : List Int} (hl : nodesM M R = some l) : nodesM M' R = some l := by
  refine nodes_same hl (fun a ha h0 o ho => (h.fnd hJ hlv).2 ⟨ho, ?_⟩)
  obtain ⟨o', h1, h2⟩ := (nodes_mem hl).1 a ha h0
  rw [ho] at h1
  cases h1
  exact .root h2

/-! ### the view -/
/-- The object at a place of the view. -/
theorem vos_obj {D : List Int} (hJ : Jd M D) {j : Nat} (hj : j < (vosM M (objs M.H.sp)).length) : ∃ o, fndM M (vAt (vosM M (objs M.H.sp)) j).a = some o ∧ (vAt (vosM M (objs M.H.sp)) j).r = refsM M o.nd := by
  have hm : vAt (vosM M (objs M.H.sp)) j ∈ vosM M (objs M.H.sp) := by rw [vAt_get hj]; exact List.getElem_mem hj
  obtain ⟨x, hx, hv⟩ := List.mem_filterMap.1 hm
  obtain ⟨o, h1, h2, _, _, h5⟩ := vo_mem hJ hx hv
  exact ⟨o, by rw [h2]; exact h1, h5⟩
theorem refs_mem {n r : Int} (hl : Co.lvB M.G n = true) : r ∈ refsM M n ↔ ∃ x ∈ (Co.ndAt M.G.ns n.toNat).s, x ≠ -1 ∧ adrM M x = r := by
  have es : Co.slV M.G n = (Co.ndAt M.G.ns n.toNat).s := by unfold Co.slV; rw [if_pos hl]
  unfold refsM refsF
  rw [es]
  simp only [List.mem_map, List.mem_filter, bne_iff_ne]
  constructor
  · rintro ⟨x, ⟨h1, h2⟩, h3⟩; exact ⟨x, h1, h2, h3⟩
  · rintro ⟨x, h1, h2, h3⟩; exact ⟨x, ⟨h1, h2⟩, h3⟩
theorem Jd.node {D : List Int} (hJ : Jd M D) {x : Int} (hx : Co.lvB M.G x = true) : ∃ a o, M.ad x = some a ∧ adrM M x = a ∧ fndM M a = some o ∧ o.nd = x := by
  obtain ⟨h0, hl⟩ := Co.lvB_iff.1 hx
  obtain ⟨a, ha⟩ := hJ.lv x.toNat hl.1
  rw [show ((x.toNat : Nat) : Int) = x by omega] at ha
  obtain ⟨o, h1, h2⟩ := hJ.ad x a ha
  exact ⟨a, o, ha, by unfold adrM; rw [ha]; rfl, fndM_iff.2 ⟨h1, by rw [h2]; exact hx⟩, h2⟩
theorem Jd.one {D : List Int} (hJ : Jd M D) {a b : Int} {o q : Mo} (h1 : fndM M a = some o) (h2 : fndM M b = some q) (e : o.nd = q.nd) : a = b := by
  have p1 := (hJ.nd a o (fndM_ob h1)).2.1
  have p2 := (hJ.nd b q (fndM_ob h2)).2.1
  rw [e, p2] at p1
  exact (Option.some.inj p1).symm
theorem rvw_rs {D R : List Int} (hJ : Jd M D) (hl : nodesM M R = some l) {j : Nat} (hj : j < (vosM M (objs M.H.sp)).length) {o : Mo} (ho : fndM M (vAt (vosM M (objs M.H.sp)) j).a = some o) :
    Rvw (vosM M (objs M.H.sp)) (vroots R) j ↔ Co.Rs M.G l o.nd.toNat := by
  obtain ⟨n1, n2⟩ := nodes_mem hl
  constructor
  · intro h
    induction h generalizing o with
    | root h1 h2 =>
      unfold vroots at h2
      obtain ⟨q1, q2⟩ := List.mem_filter.1 h2
      obtain ⟨o', h3, h4⟩ := n1 _ q1 (by simpa using q2)
      rw [ho] at h3
      cases h3
      exact .root h4
    | step h1 h2 h3 ih =>
      obtain ⟨oi, q1, q2⟩ := vos_obj hJ h1.lt
      have := ih h1.lt q1
      rw [q2, refs_mem (fndM_lv q1)] at h3
      obtain ⟨x, x1, x2, x3⟩ := h3
      have hx : Co.lvB M.G x = true := by
        rcases hJ.iv.cl _ (Co.lvB_iff.1 (fndM_lv q1)).2 x x1 with q | q
        · exact absurd q x2
        · exact q
      obtain ⟨a, o', _, e1, e2, e3⟩ := hJ.node hx
      rw [e1] at x3
      rw [x3, ho] at e2
      cases e2
      rw [e3]
      exact .step this x1 x2
  · intro h
    have key : ∀ k, Co.Rs M.G l k → ∀ (j : Nat) (o : Mo), j < (vosM M (objs M.H.sp)).length → fndM M (vAt (vosM M (objs M.H.sp)) j).a = some o → o.nd.toNat = k → Rvw (vosM M (objs M.H.sp)) (vroots R) j := by
      intro k hk
      have hlv : ∀ x ∈ l, Co.lvB M.G x = true := fun x hx => by
        obtain ⟨a, _, _, o, h1, h2⟩ := n2 x hx
        rw [← h2]; exact fndM_lv h1
      induction hk with
      | root hr =>
        intro j o hj ho e
        obtain ⟨a, a1, a2, o2, a3, a4⟩ := n2 _ hr
        have p1 := (hJ.nd _ o (fndM_ob ho)).1
        have p2 := (hJ.nd _ o2 (fndM_ob a3)).1
        have e2 : o.nd = o2.nd := by omega
        have e3 := hJ.one ho a3 e2
        refine .root hj ?_
        rw [e3]
        unfold vroots
        exact List.mem_filter.2 ⟨a1, by simpa using a2⟩
      | @step i x hi hx hx1 ih =>
        intro j o hj ho e
        have hil := hi.live hJ.iv hlv
        obtain ⟨ai, oi, _, _, e2, e3⟩ := hJ.node (x := (i : Int)) (by rw [Co.lvB_nat]; simpa using hil)
        obtain ⟨ji, g1, g2⟩ := vos_at hJ e2
        have h1 := ih ji oi g1 (by rw [g2]; exact e2) (by rw [e3]; simp)
        refine .step h1 hj ?_
        obtain ⟨oi', q1, q2⟩ := vos_obj hJ g1
        rw [g2, e2] at q1
        cases q1
        rw [q2, refs_mem (fndM_lv e2)]
        refine ⟨x, by rw [e3]; simpa using hx, hx1, ?_⟩
        have hxl : Co.lvB M.G x = true := by
          rcases hJ.iv.cl _ hil x hx with q | q
          · exact absurd q hx1
          · exact q
        obtain ⟨ax, ox, _, f1, f2, f3⟩ := hJ.node hxl
        have p1 := (hJ.nd _ o (fndM_ob ho)).1
        have p2 := (Co.lvB_iff.1 hxl).1
        rw [f1]
        exact (hJ.one ho f2 (by omega)).symm
    exact key _ h j o hj ho rfl

/-! ### sorted lists -/
theorem sorted_same : ∀ {A B : List Int}, A.Pairwise (· < ·) → B.Pairwise (· < ·) → (∀ x, x ∈ A ↔ x ∈ B) → A = B
  | [], [], _, _, _ => rfl
  | [], b :: B, _, _, h => by have := (h b).2 (by simp); cases this
  | a :: A, [], _, _, h => by have := (h a).1 (by simp); cases this
  | a :: A, b :: B, hA, hB, h => by
    obtain ⟨a1, a2⟩ := List.pairwise_cons.1 hA
    obtain ⟨b1, b2⟩ := List.pairwise_cons.1 hB
    have e : a = b := by
      rcases List.mem_cons.1 ((h a).1 (by simp)) with q | q
      · exact q
      · rcases List.mem_cons.1 ((h b).2 (by simp)) with r | r
        · exact r.symm
        · have := b1 a q; have := a1 b r; omega
    subst e
    rw [sorted_same a2 b2 (fun x => ?_)]
    have hx := h x
    simp only [List.mem_cons] at hx
    constructor
    · intro q
      have := a1 x q
      rcases hx.1 (.inr q) with r | r
      · omega
      · exact r
    · intro q
      have := b1 x q
      rcases hx.2 (.inr q) with r | r
      · omega
      · exact r
theorem srt_pair {L : List Vo} (h : Srt L) : (L.map Vo.a).Pairwise (· < ·) := by
  rw [List.pairwise_iff_getElem]
  intro i j hi hj hij
  simp only [List.length_map] at hi hj
  have := h i j hij hj
  rw [vAt_get hi, vAt_get hj] at this
  simpa using this
theorem ptd_pair {L : List Vo} (h : Srt L) (C : List Bool) (b : Bool) : (ptd L C b L.length).Pairwise (· < ·) := by
  unfold ptd
  rw [List.pairwise_map]
  refine List.Pairwise.imp_of_mem ?_ (List.Pairwise.filter _ (List.pairwise_lt_range))
  intro i j hi hj hij
  have := List.mem_range.1 (List.mem_filter.1 hj).1
  exact h i j hij this
theorem ptd_mem {L : List Vo} {C : List Bool} {b : Bool} {n : Nat} {x : Int} : x ∈ ptd L C b n ↔ ∃ j, j < n ∧ C.getD j false = b ∧ (vAt L j).a = x := by
  unfold ptd
  simp only [List.mem_map, List.mem_filter, List.mem_range, beq_iff_eq]
  constructor
  · rintro ⟨j, ⟨h1, h2⟩, h3⟩; exact ⟨j, h1, h2, h3⟩
  · rintro ⟨j, h1, h2, h3⟩; exact ⟨j, ⟨h1, h2⟩, h3⟩
theorem vos_srt {D : List Int} (hJ : Jd M D) : Srt (vosM M (objs M.H.sp)) := fun i j hij hj => by
  have hp := List.pairwise_iff_getElem.1 (vos_pair hJ) i j (Nat.lt_trans hij hj) hj hij
  have h1 := (vo_ok hJ (List.getElem_mem (Nat.lt_trans hij hj))).1.s1
  rw [vAt_get hj, vAt_get (Nat.lt_trans hij hj)]
  omega
theorem vos_names {D : List Int} (hJ : Jd M D) {x : Int} : x ∈ (vosM M (objs M.H.sp)).map Vo.a ↔ ∃ o, fndM M x = some o := by
  constructor
  · intro h
    obtain ⟨y, hy, rfl⟩ := List.mem_map.1 h
    obtain ⟨j, hj, rfl⟩ := List.mem_iff_getElem.1 hy
    obtain ⟨o, ho, _⟩ := vos_obj hJ hj
    rw [vAt_get hj] at ho
    exact ⟨o, ho⟩
  · rintro ⟨o, ho⟩
    obtain ⟨j, hj, rfl⟩ := vos_at hJ ho
    rw [vAt_get hj]
    exact List.mem_map_of_mem (List.getElem_mem hj)
theorem ptd_left {R : List Int} (hJ : Jd M []) (hl : nodesM M R = some l) {C : List Bool} (hcl : C.length = (vosM M (objs M.H.sp)).length) (hC : ∀ j : Nat, C[j]? = some true ↔ Rvw (vosM M (objs M.H.sp)) (vroots R) j) {x : Int} :
    x ∈ ptd (vosM M (objs M.H.sp)) C true (vosM M (objs M.H.sp)).length ↔ ∃ o, fndM M x = some o ∧ Co.Rs M.G l o.nd.toNat := by
  have hg : ∀ j, j < (vosM M (objs M.H.sp)).length → (C.getD j false = true ↔ Rvw (vosM M (objs M.H.sp)) (vroots R) j) := fun j hj => by
    rw [← hC]
    simp [List.getD, show j < C.length by omega]
  rw [ptd_mem]
  constructor
  · rintro ⟨j, h1, h2, rfl⟩
    obtain ⟨o, ho, _⟩ := vos_obj hJ h1
    exact ⟨o, ho, (rvw_rs hJ hl h1 ho).1 ((hg j h1).1 h2)⟩
  · rintro ⟨o, ho, hr⟩
    obtain ⟨j, hj, rfl⟩ := vos_at hJ ho
    exact ⟨j, hj, (hg j hj).2 ((rvw_rs hJ hl hj ho).2 hr), rfl⟩
/-- What is there behind a collection is what was reached, in its order. -/
theorem Left.names (h : Left M l M') (hJ : Jd M []) {R : List Int} (hl : nodesM M R = some l) (hlv : ∀ x ∈ l, Co.lvB M.G x = true) {C : List Bool} (hcl : C.length = (vosM M (objs M.H.sp)).length) (hC : ∀ j : Nat, C[j]? = some true ↔ Rvw (vosM M (objs M.H.sp)) (vroots R) j) :
    (vosM M' (objs M'.H.sp)).map Vo.a = ptd (vosM M (objs M.H.sp)) C true (vosM M (objs M.H.sp)).length := by
  refine sorted_same (srt_pair (vos_srt h.jd)) (ptd_pair (vos_srt hJ) C true) (fun x => ?_)
  rw [vos_names h.jd, ptd_left hJ hl hcl hC]
  constructor
  · rintro ⟨o, ho⟩; exact ⟨o, (h.fnd hJ hlv).1 ho⟩
  · rintro ⟨o, ho⟩; exact ⟨o, (h.fnd hJ hlv).2 ho⟩
theorem Left.all (h : Left M l M') (hJ : Jd M []) (hlv : ∀ x ∈ l, Co.lvB M.G x = true) {a : Int} {o : Mo} (ho : fndM M' a = some o) : allM M' a = allM M a := by
  have h1 := ((h.fnd hJ hlv).1 ho).1
  unfold allM
  rw [ho, h1]
  simp only
  unfold wordsF wd
  rw [h.sb.B]
/-- All that is there behind a collection is reached. -/
theorem Left.none (h : Left M l M') (hJ : Jd M []) (hlv : ∀ x ∈ l, Co.lvB M.G x = true) {R : List Int} (hl : nodesM M R = some l) {C : List Bool} (_hcl : C.length = (vosM M' (objs M'.H.sp)).length) (hC : ∀ j : Nat, C[j]? = some true ↔ Rvw (vosM M' (objs M'.H.sp)) (vroots R) j) :
    ptd (vosM M' (objs M'.H.sp)) C false (vosM M' (objs M'.H.sp)).length = [] := by
  refine List.eq_nil_iff_forall_not_mem.2 (fun x hx => ?_)
  obtain ⟨j, h1, h2, _⟩ := ptd_mem.1 hx
  obtain ⟨o, ho, _⟩ := vos_obj h.jd h1
  have hl' := h.nodes hJ hlv hl
  have hr := (rvw_rs h.jd hl' h1 ho).2 ((h.kp.rs _).1 ((h.fnd hJ hlv).1 ho).2)
  rw [← hC] at hr
  simp [List.getD, hr] at h2
end
end Go.Proofs.YtjbbomokgpoilaaGreatDoor

/-
  Lists of words in a row of their own; no statement is proved here.
-/
namespace Go.Proofs.YtjbbomokgpoilaaGreatDoor
open Go.RowKit

theorem info53 : (Tryz.prog.info? 53).map (fun i => (i.zero, i.size, i.bytes)) = some (some (.slice none 0 0), 1, 24) := by kernel_rfl
theorem own_fx {B : Nat → Prop} {w w' : World} {b : Nat} {e : TypeId} {s n : Nat} {v : Value} {xs : List Value} (h : w.ownsRow b e s v n xs) (x : Fx B w w') (hB : ∀ k, b ≤ k → k < w.heap.size → ¬ B k) : w'.ownsRow b e s v n xs := by
  refine ⟨h.1, ?_⟩
  rcases h.2 with h0 | ⟨g, cap, cur, h0, h1, h2, h3⟩
  · exact .inl h0
  · exact .inr ⟨g, cap, cur, h0, h1, x.keep h2 (hB g h1 (own_lt h g (by rw [h0]; rfl)).2), h3⟩
theorem own_type {w : World} {b g : Nat} {e : TypeId} {s n : Nat} {v : Value} {xs : List Value} (h : w.ownsRow b e s v n xs) (hg : v.ownBlock = some g) : ∃ c, w.heap[g]? = some (.cells c e (0, 0)) := by
  rcases h.2 with ⟨h0, _⟩ | ⟨g', cap, cur, h0, _, hc, _⟩
  · rw [h0] at hg; simp [Value.ownBlock] at hg
  · rw [h0] at hg; simp [Value.ownBlock] at hg; subst hg; exact ⟨_, hc⟩
/-- Lists of words in a row of their own. -/
def Wls (w : World) (b : Nat) (v : Value) (Ls : List (List Int)) : Prop := ∃ xs : List Value, xs.length = Ls.length ∧ w.ownsRow b 53 1 v xs.length xs ∧ ∀ k, k < Ls.length → ∃ a c, xs[k]? = some (.slice a (Ls.getD k []).length c) ∧ w.ownsRow b 27 1 (.slice a (Ls.getD k []).length c) (Ls.getD k []).length (lU (Ls.getD k []))
section
variable {w w' : World} {b : Nat} {v : Value} {Ls : List (List Int)}
theorem Wls.nil (w : World) (b : Nat) : Wls w b (.slice none 0 0) [] := ⟨[], rfl, own_nil _ _ _ _, fun k h => absurd h (Nat.not_lt_zero k)⟩
theorem Wls.keep0 (h : Wls w b v Ls) (e : Ext [] w w') : Wls w' b v Ls := by
  obtain ⟨xs, h1, h2, h3⟩ := h
  refine ⟨xs, h1, own_keep0 h2 e, fun k hk => ?_⟩
  obtain ⟨a, c, h4, h5⟩ := h3 k hk
  exact ⟨a, c, h4, own_keep0 h5 e⟩
theorem Wls.fx {B : Nat → Prop} (h : Wls w b v Ls) (x : Fx B w w') (hB : ∀ k, b ≤ k → k < w.heap.size → ¬ B k) : Wls w' b v Ls := by
  obtain ⟨xs, h1, h2, h3⟩ := h
  refine ⟨xs, h1, own_fx h2 x hB, fun k hk => ?_⟩
  obtain ⟨a, c, h4, h5⟩ := h3 k hk
  exact ⟨a, c, h4, own_fx h5 x hB⟩
theorem Wls.slice (h : Wls w b v Ls) : ∃ a c, v = .slice a Ls.length c := by
  obtain ⟨xs, h1, h2, _⟩ := h
  obtain ⟨a, c, rfl, _⟩ := own_slice h2
  exact ⟨a, c, by rw [h1]⟩
/-- The list at a place. -/
theorem Wls.at_ {a : Option Addr} {n c : Nat} (h : Wls w b (.slice a n c) Ls) {k : Nat} (hk : k < Ls.length) : ∃ g o a' c', a = some ⟨g, o, none⟩ ∧ w.cell? ⟨g, o + k, none⟩ = some (.slice a' (Ls.getD k []).length c') ∧ Us w a' (Ls.getD k []) := by
  obtain ⟨xs, h1, h2, h3⟩ := h
  obtain ⟨a', c', h4, h5⟩ := h3 k hk
  have hx : xs ≠ [] := by rintro rfl; simp at h1; omega
  rcases Co.own_vs h2 with e | ⟨g, o, e1, e2⟩
  · exact absurd e hx
  · refine ⟨g, o, a', c', e1, ?_, Co.own_vs h5⟩
    rw [e2 k (by omega)]
    exact h4
/-- One list more. -/
theorem Wls.push {w0 : World} (h : Wls w w0.heap.size v Ls) (hE : Ext [] w0 w) {a : Option Addr} {c : Nat} {l : List Int} (hl : w.ownsRow w0.heap.size 27 1 (.slice a l.length c) l.length (lU l)) (ty : TypeId) (hb : Ls.length ≤ 1000000000000) :
    ∃ v' w', (Builtin.append_ #[67, 67] ty #[v, .slice (some ⟨w.heap.size, 0, none⟩) 1 1]).run Tryz.prog (w.alloc (.cells #[.slice a l.length c] 53)) = .ok v' w' ∧ Wls w' w0.heap.size v' (Ls ++ [l]) ∧ Ext [] w0 w' := by
  have hE2 := Ext.alloc [] w (.cells #[.slice a l.length c] 53)
  obtain ⟨xs, h1, h2, h3⟩ := h.keep0 hE2
  have hl2 := own_keep0 hl hE2
  obtain ⟨v2, w2, hr2, hO2, hE3, hX3⟩ := Co.app_own w0 _ (co_ext (hE.trans hE2)) 67 ty 53 _ 24 Tryz.underlying67 info53 rfl (by omega) v xs.length _ h2 (some ⟨w.heap.size, 0, none⟩) 1 1 [.slice a l.length c] rfl (Co.vs_new w 53 [.slice a l.length c]) (by simp [Value.oneCell']) (by omega)
  have hX3 := ext_co hX3
  have kp : ∀ {v' : Value} {n : Nat} {ys : List Value}, (w.alloc (.cells #[.slice a l.length c] 53)).ownsRow w0.heap.size 27 1 v' n ys → w2.ownsRow w0.heap.size 27 1 v' n ys := fun {v'} {n} {ys} ho => own_keep ho hX3 (fun g hg hv => by
    obtain ⟨c1, q1⟩ := own_type ho hv
    obtain ⟨c2, q2⟩ := own_type h2 (by simpa using hg)
    rw [q1] at q2
    simp at q2)
  refine ⟨v2, w2, hr2, ⟨xs ++ [.slice a l.length c], by simp [h1], by simpa using hO2, fun k hk => ?_⟩, ext_co hE3⟩
  by_cases e : k < Ls.length
  · obtain ⟨a', c', h4, h5⟩ := h3 k e
    have e1 : (Ls ++ [l]).getD k [] = Ls.getD k [] := by simp [List.getD, List.getElem?_append_left e]
    rw [e1]
    exact ⟨a', c', by rw [List.getElem?_append_left (by omega)]; exact h4, kp h5⟩
  · have e0 : k = Ls.length := by simp at hk; omega
    subst e0
    have e1 : (Ls ++ [l]).getD Ls.length [] = l := by simp [List.getD]
    rw [e1]
    exact ⟨a, c, by rw [← h1]; simp, kp hl2⟩
end
end Go.Proofs.YtjbbomokgpoilaaGreatDoor

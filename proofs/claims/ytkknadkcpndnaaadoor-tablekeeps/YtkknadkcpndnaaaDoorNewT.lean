/-
  New tables; no statement is proved here.
-/
import Derived.Test.YtkknadkcpndnaaaDoorCln
import Derived.Deep.OwnRows
namespace Go.Proofs.YtkknadkcpndnaaaDoor
open Go.RowKit Go.Shelf
open Pr (Gp GpI sq pl)
attribute [local go_sem] Oper.semAt_some run_store_func

/-- A table of G groups without entries, whose first k control words are laid. -/
def newK (G k : Nat) : List Nat := (List.range (3 + 17 * G)).map fun j => if j = 0 then G else if j = 2 then 7 * G else if 3 ≤ j ∧ (j - 3) % 17 = 0 ∧ (j - 3) / 17 < k then 9259542123273814144 else 0
def newT (G : Nat) : List Nat := newK G G
theorem newK_len (G k : Nat) : (newK G k).length = 3 + 17 * G := by simp [newK]
theorem newK_at (G k : Nat) {j : Nat} (hj : j < 3 + 17 * G) : (newK G k).getD j 0 = if j = 0 then G else if j = 2 then 7 * G else if 3 ≤ j ∧ (j - 3) % 17 = 0 ∧ (j - 3) / 17 < k then 9259542123273814144 else 0 := by
  simp [newK, hj]
theorem ext_getD {A B : List Nat} (hl : A.length = B.length) (h : ∀ j, j < A.length → A.getD j 0 = B.getD j 0) : A = B := by
  apply List.ext_getElem hl
  intro j h1 h2
  have := h j h1
  simpa [List.getD_eq_getElem?_getD, h1, h2] using this
theorem newK_step (G k : Nat) (_hk : k < G) : (newK G k).set (3 + 17 * k) 9259542123273814144 = newK G (k + 1) := by
  apply ext_getD (by rw [List.length_set, newK_len, newK_len])
  intro j hj
  rw [List.length_set] at hj
  rw [getD_set hj]
  rw [newK_len] at hj
  rw [newK_at G k hj, newK_at G (k + 1) hj]
  by_cases e : j = 3 + 17 * k
  · subst e
    rw [if_pos rfl, if_neg (by omega), if_neg (by omega), if_pos (by omega)]
  · rw [if_neg e]
    by_cases h0 : j = 0
    · rw [if_pos h0, if_pos h0]
    · rw [if_neg h0, if_neg h0]
      by_cases h2 : j = 2
      · rw [if_pos h2, if_pos h2]
      · rw [if_neg h2, if_neg h2]
        by_cases h3 : 3 ≤ j ∧ (j - 3) % 17 = 0 ∧ (j - 3) / 17 < k
        · rw [if_pos h3, if_pos (by omega)]
        · rw [if_neg h3, if_neg (by omega)]
theorem newK_zero (G : Nat) : ((List.replicate (3 + 17 * G) 0).set 0 G).set 2 (7 * G) = newK G 0 := by
  apply ext_getD (by simp [newK_len])
  intro j hj
  simp only [List.length_set, List.length_replicate] at hj
  rw [getD_set (by simpa using hj), getD_set (by simpa using hj), newK_at G 0 hj]
  by_cases h0 : j = 0
  · subst h0; simp
  · rw [if_neg h0]
    by_cases h2 : j = 2
    · subst h2; simp
    · rw [if_neg h2, if_neg h0, if_neg h2, if_neg (by omega)]
      simp [List.getD_eq_getElem?_getD, hj]
theorem Gp.shp {G : Nat} (hG : Gp G) (k : Nat) : Shp (newK G k) G := by
  have hle := hG.le
  refine ⟨hG, by rw [newK_at G k (by omega)]; simp, newK_len G k, fun x hx => ?_⟩
  simp only [newK, List.mem_map, List.mem_range] at hx
  obtain ⟨j, _, rfl⟩ := hx
  split
  · omega
  · split
    · omega
    · split <;> omega

def NewPost (w : World) (G : Nat) (e : Ending) (w' : World) : Prop := ∃ g c, e = .returned (.tuple #[.slice (some ⟨g, 0, none⟩) (3 + 17 * G) c, .int .i64 0]) ∧ Tw w' g (newT G) ∧ w.heap.size ≤ g ∧ Ext [] w w'
set_option maxRecDepth 100000 in
theorem tnew_ok (G : Nat) (hG : Gp G) (w : World) : Calls Tryd.prog 25 #[.int .i64 (G : Nat)] w (NewPost w G) := by
  have hle := hG.le
  have hpos := hG.pos
  have K1 := fun u => tallowed_yes G hG u
  have K2 := fun u => wordsOf_any G hle u
  obtain ⟨n, hn⟩ : ∃ n, 3 + 17 * G = n := ⟨_, rfl⟩
  have hmk := run_make_row' (P := Tryd.prog) 22 23 (.int .u64 0) 8 Tryd.underlying22 info23 rfl .i64 .i64 n (by omega) (by omega) w
  have hT0 : Tw (w.alloc (.cells (madeCells #[.int .u64 0] n) 23)) w.heap.size (List.replicate (3 + 17 * G) 0) := by
    refine ⟨_, heap_alloc_new w _, fun j hj => ?_⟩
    simp only [List.length_replicate] at hj
    have : (madeCells #[.int .u64 0] n).toList = List.replicate n (.int .u64 0) := toList_madeCells_one _ _
    rw [← Array.getElem?_toList, this, List.getElem?_replicate, if_pos (by omega)]
    simp [hj]
  have hE0 := Ext.alloc [] w (.cells (madeCells #[.int .u64 0] n) 23)
  obtain ⟨g, hg⟩ : ∃ g, w.heap.size = g := ⟨_, rfl⟩
  rw [hg] at hmk hT0
  obtain ⟨W0, hW0⟩ : ∃ W0, w.alloc (.cells (madeCells #[.int .u64 0] n) 23) = W0 := ⟨_, rfl⟩
  rw [hW0] at hmk hT0 hE0
  have c0 := hT0.cell (j := 0) (by simp only [List.length_replicate]; omega)
  have f0 := hT0.frozen 0
  have hT1 := hT0.set 0 G (by simp only [List.length_replicate]; omega)
  have c2 := hT1.cell (j := 2) (by simp only [List.length_set, List.length_replicate]; omega)
  have f2 := hT1.frozen 2
  obtain ⟨G7, hG7⟩ : ∃ G7, 7 * G = G7 := ⟨_, rfl⟩
  have hT2 := hT1.set 2 G7 (by simp only [List.length_set, List.length_replicate]; omega)
  rw [← hG7, newK_zero, hG7] at hT2
  have e7 : 7 * (G : Int) = (G7 : Int) := by omega
  rw [hn] at K2
  have hE2 : Ext [] w ((W0.setCell ⟨g, 0, none⟩ (.int .u64 (G : Nat))).setCell ⟨g, 2, none⟩ (.int .u64 (G7 : Nat))) := (hE0.on (Ext.setCell [g] _ _ _ (by simp)) (by simp; omega)).on (Ext.setCell [g] _ _ _ (by simp)) (by simp; omega)
  have HT2 := hid hT2
  have HE2 := hid hE2
  have HG := hid hG
  have hn3 : 3 ≤ n := by omega
  have hn4 : n ≤ 70000 := by omega
  have HN := hid hn
  have KC := fun k (hk : k < G) u => controlAt_any k (by omega) u
  clear hT0 hT1 hT2 hE2 hE0 hG hW0 hn hG7
  go_enter Tryd.func25, Tryd.ntmps25
  go_wp2_with (first | (go_at_call 49; refine met (K1 _) ?_) | (go_at_call 50; refine met (K2 _) ?_))
  clear hmk c0 f0 c2 f2 e7
  obtain ⟨W2, hW2⟩ : ∃ W2, (W0.setCell ⟨g, 0, none⟩ (.int .u64 (G : Nat))).setCell ⟨g, 2, none⟩ (.int .u64 (G7 : Nat)) = W2 := ⟨_, rfl⟩
  rw [hW2] at HT2 HE2 ⊢
  clear hW2
  have HNl := hid (newK_len G)
  have HNs := hid (newK_step G)
  go_loopw [22] (fun q wr => ∃ k : Nat, q = .int .i64 k ∧ k ≤ G ∧ Tw wr g (newK G k) ∧ Ext [] w wr) (fun q _ => (G - (intOf q)).toNat)
  case atStart => exact ⟨0, rfl, Nat.zero_le _, HT2.out, HE2.out⟩
  case round =>
    clear HT2 HE2
    obtain ⟨k, rfl, hk, hTk, hEk⟩ := hrel
    by_cases hkG : k < G
    · have hki : (k : Int) < G := by omega
      have cC := hTk.cell (j := 3 + 17 * k) (by rw [HNl.out]; omega)
      have fC := hTk.frozen (3 + 17 * k)
      have K3 := KC k hkG
      have hTs := hTk.set (3 + 17 * k) 9259542123273814144 (by rw [HNl.out]; omega)
      rw [HNs.out k hkG] at hTs
      have HTs := hid hTs
      have HEs := hid (hEk.on (Ext.setCell [g] wr ⟨g, 3 + 17 * k, none⟩ (.int .u64 (9259542123273814144 : Nat)) (by simp)) (by simp; omega))
      have hkn : 3 + 17 * k < n := by have := HN.out; omega
      generalize (newK G k).getD (3 + 17 * k) 0 = old at *
      clear hTk hEk hTs
      go_wp2_with (first | (go_at_call 52; refine met (K3 _) ?_) | (go_at_call 51; refine met (new_any _) ?_))
      go_roundw
      case rel => exact ⟨k + 1, by go_num, by omega, HTs.out, HEs.out⟩
      case measure => simp [intOf]; omega
    · obtain rfl : k = G := by omega
      have HF : Hid (NewPost w k (.returned (.tuple #[.slice (some ⟨g, 0, none⟩) n n, .int .i64 0])) wr) := ⟨g, n, by rw [HN.out], hTk, by omega, hEk⟩
      clear hTk hEk
      go_wp2
      go_ret2
      exact HF.out
theorem tnew_bad (G : Int) (hG : ¬ GpI G) (w : World) : Calls Tryd.prog 25 #[.int .i64 G] w fun e w' => e = .returned (.tuple #[.slice none 0 0, .int .i64 2]) ∧ w' = w := by
  have K1 := fun u => tallowed_no G hG u
  clear hG
  go_enter Tryd.func25, Tryd.ntmps25
  go_wp2_with (first | (go_at_call 49; refine met (K1 _) ?_))
  go_ret2
  exact ⟨rfl, rfl⟩
end Go.Proofs.YtkknadkcpndnaaaDoor

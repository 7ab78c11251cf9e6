/-
  RfA, RfB, RfC, RfD, RfE: joined by program; no statement is proved here.
-/
import Derived.Test.YtkfagfdefkaenaaDoorZF
import Derived.Test.YtkfagfdefkaenaaDoorZH
/-
  The document's table as it lies in memory, and its small calls; no statement is proved here.
-/
namespace Go.Proofs.YtkfagfdefkaenaaDoor.Rf
open Go.RowKit Go.Shelf
open Pr (Gp GpI sq pl)
attribute [local go_sem] Oper.semAt_some run_store_func

/-- A slot of the words T. -/
def sT (T : List Nat) (k : Nat) : Nat × Nat × Nat := (bt T (k / 8) (k % 8), hsw T (k / 8) (k % 8), idw T (k / 8) (k % 8))
theorem sT_at (T : List Nat) (g i : Nat) (hi : i < 8) : sT T (8 * g + i) = (bt T g i, hsw T g i, idw T g i) := by
  unfold sT
  rw [show (8 * g + i) / 8 = g by omega, show (8 * g + i) % 8 = i by omega]
/-- The document's table of the words T: the struct at p, the slots at q. -/
structure Rt (w : World) (p q c G : Nat) (T : List Nat) : Prop where
  blk : w.heap[p]? = some (.cells #[.int .i64 (G : Nat), .slice (some ⟨q, 0, none⟩) (8 * G) c] 92 (0, 0))
  row : ∃ cs, w.heap[q]? = some (.cells cs 116 (0, 0)) ∧ ∀ k, k < 8 * G → cs[k * 3]? = some (.int .u8 ((sT T k).1 : Nat)) ∧ cs[k * 3 + 1]? = some (.int .u64 ((sT T k).2.1 : Nat)) ∧ cs[k * 3 + 2]? = some (.int .u64 ((sT T k).2.2 : Nat))
section
variable {w w' : World} {p q c G : Nat} {T : List Nat}
theorem Rt.keep {S : List Nat} (h : Rt w p q c G T) (x : Ext S w w') (hp : p ∉ S) (hq : q ∉ S) : Rt w' p q c G T := by
  obtain ⟨cs, h1, h2⟩ := h.row
  exact ⟨x.keep h.blk hp, cs, x.keep h1 hq, h2⟩
theorem Rt.keep0 (h : Rt w p q c G T) (x : Ext [] w w') : Rt w' p q c G T := h.keep x (by simp) (by simp)
theorem Rt.flds (h : Rt w p q c G T) : w.cell? ⟨p, 0, none⟩ = some (.int .i64 (G : Nat)) ∧ w.cell? ⟨p, 1, none⟩ = some (.slice (some ⟨q, 0, none⟩) (8 * G) c) := by
  constructor <;> (rw [cell_of_row _ _ _ _ _ _ h.blk]; rfl)
theorem Rt.slot (h : Rt w p q c G T) {k : Nat} (hk : k < 8 * G) : w.cell? ⟨q, k * 3, none⟩ = some (.int .u8 ((sT T k).1 : Nat)) ∧ w.cell? ⟨q, k * 3 + 1, none⟩ = some (.int .u64 ((sT T k).2.1 : Nat)) ∧ w.cell? ⟨q, k * 3 + 2, none⟩ = some (.int .u64 ((sT T k).2.2 : Nat)) := by
  obtain ⟨cs, h1, h2⟩ := h.row
  obtain ⟨a, b, d⟩ := h2 k hk
  refine ⟨?_, ?_, ?_⟩ <;> (rw [cell_of_row _ _ _ _ _ _ h1]; assumption)
theorem Rt.frz (h : Rt w p q c G T) (j : Nat) : w.frozen? ⟨q, j, none⟩ = false := by
  obtain ⟨cs, h1, _⟩ := h.row
  exact frozen_of_row w q j cs 116 h1
/-- Has a group a slot with this control byte? -/
def hasB (T : List Nat) (g x : Nat) : Bool := (List.range 8).any fun i => decide (bt T g i = x)
theorem hasB_iff {g x : Nat} : hasB T g x = true ↔ ∃ i, i < 8 ∧ bt T g i = x := by simp [hasB]
theorem hasB_E (g : Nat) : hasB T g 128 = hasE T g := by
  cases h : hasE T g with
  | false =>
    rw [hasE_iff] at h
    cases h2 : hasB T g 128 with
    | false => rfl
    | true =>
      obtain ⟨i, hi, e⟩ := hasB_iff.1 h2
      exact absurd e (h i hi)
  | true =>
    rw [hasB_iff]
    refine Classical.byContradiction fun q => ?_
    have : hasE T g = false := hasE_iff.2 (fun i hi e => q ⟨i, hi, e⟩)
    rw [h] at this
    cases this
end
set_option maxRecDepth 100000 in
theorem rhas_any (p q c G g x : Nat) (T : List Nat) (w : World) (h : Rt w p q c G T) (hG : G ≤ 4096) (hg : g < G) : Calls Tryd.prog 77 #[.pointer (some ⟨p, 0, none⟩), .int .i64 (g : Nat), .int .u8 (x : Nat)] w fun e w' => e = .returned (.bool (hasB T g x)) ∧ w' = w := by
  obtain ⟨_, f1⟩ := h.flds
  have HS := hid (fun (i : Nat) (hi : i < 8) => (h.slot (k := 8 * g + i) (by omega)).1)
  have HA := hid (fun (i : Nat) (hi : i < 8) => show (sT T (8 * g + i)).1 = bt T g i by rw [sT_at T g i hi])
  obtain ⟨B, hB⟩ : ∃ B, hasB T g x = B := ⟨_, rfl⟩
  have HB := hid hB
  rw [hB]
  clear h hB
  go_enter Tryd.func77, Tryd.ntmps77
  go_wp2_with fail
  go_loop [7] (fun u => ∃ i : Nat, u = .int .i64 i ∧ i ≤ 8 ∧ ∀ j, j < i → bt T g j ≠ x) (fun u => (8 - (intOf u)).toNat)
  case atStart => exact ⟨0, rfl, by omega, fun j hj => by omega⟩
  case round =>
    obtain ⟨i, rfl, hi, hno⟩ := hrel
    have HNo := hid hno
    clear hno
    by_cases hi8 : i < 8
    · have c0 := HS.out i hi8
      rw [HA.out i hi8] at c0

      have hw1 : IntKind.i64.wrap (8 * (g : Int) + (i : Int)) = ((8 * g + i : Nat) : Int) := by rw [IntKind.wrap_i64] <;> omega
      have hw2 : IntKind.i64.wrap (8 * (g : Int)) = 8 * (g : Int) := by rw [IntKind.wrap_i64] <;> omega
      have hlt : 8 * g + i < 8 * G := by omega
      clear HS HA
      generalize 8 * g + i = k at *
      go_wp2
      · rename_i hyes _
        have e1 : bt T g i = x := by have := eq_of_beq hyes; omega
        have e2 : B = true := HB.out ▸ hasB_iff.2 ⟨i, hi8, e1⟩
        subst e2
        go_ret
        exact ⟨rfl, rfl⟩
      · rename_i hno2
        have e1 : bt T g i ≠ x := fun q => by rw [q] at hno2; simp at hno2
        go_round
        case rel =>
          refine ⟨i + 1, by go_num, by omega, fun j hj => ?_⟩
          by_cases q : j = i
          · rw [q]; exact e1
          · exact HNo.out j (by omega)
        case measure => simp [intOf]; omega
    · obtain rfl : i = 8 := by omega
      have e2 : B = false := by
        rw [← HB.out]
        cases q : hasB T g x with
        | false => rfl
        | true => obtain ⟨j, hj, e⟩ := hasB_iff.1 q; exact absurd e (HNo.out j hj)
      subst e2
      go_wp2
      go_ret
      exact ⟨rfl, rfl⟩
end Go.Proofs.YtkfagfdefkaenaaDoor.Rf

/-
  The document's table: how many slots are full, and how many are left; no statement is proved here.
-/
namespace Go.Proofs.YtkfagfdefkaenaaDoor.Rf
open Go.RowKit Go.Shelf
open Pr (Gp GpI sq pl)
attribute [local go_sem] Oper.semAt_some run_store_func

/-- How many of the first k slots have a control byte of this kind. -/
def knt (f : Nat → Bool) (T : List Nat) (k : Nat) : Nat := ((List.range k).filter fun j => f (sT T j).1).length
theorem knt_0 (f : Nat → Bool) (T : List Nat) : knt f T 0 = 0 := rfl
theorem knt_succ (f : Nat → Bool) (T : List Nat) (k : Nat) : knt f T (k + 1) = knt f T k + if f (sT T k).1 then 1 else 0 := by
  unfold knt
  rw [List.range_succ, List.filter_append, List.length_append]
  by_cases h : f (sT T k).1 <;> simp [h]
theorem knt_le (f : Nat → Bool) (T : List Nat) (k : Nat) : knt f T k ≤ k := by
  have := List.length_filter_le (fun j => f (sT T j).1) (List.range k)
  simpa [knt] using this
theorem knt_tot (f : Nat → Bool) (T : List Nat) : ∀ G, knt f T (8 * G) = tot (fun g => cnt fun i => f (bt T g i)) G
  | 0 => rfl
  | G + 1 => by
    rw [tot, ← knt_tot f T G, show 8 * (G + 1) = 8 * G + 1 + 1 + 1 + 1 + 1 + 1 + 1 + 1 from by omega]
    have e := fun i hi => congrArg Prod.fst (sT_at T G i hi)
    have e0 := e 0 (by omega); have e1 := e 1 (by omega); have e2 := e 2 (by omega); have e3 := e 3 (by omega)
    have e4 := e 4 (by omega); have e5 := e 5 (by omega); have e6 := e 6 (by omega); have e7 := e 7 (by omega)
    simp only [Nat.add_assoc] at *
    simp only [knt_succ, cnt_eq, ← Nat.add_assoc]
    simp only [Nat.add_assoc, Nat.add_zero] at *
    rw [e0, e1, e2, e3, e4, e5, e6, e7]
set_option maxRecDepth 100000 in
theorem rlen_any (p q c G : Nat) (T : List Nat) (w : World) (h : Rt w p q c G T) (hG : G ≤ 4096) : Calls Tryd.prog 45 #[.pointer (some ⟨p, 0, none⟩)] w fun e w' => e = .returned (.int .i64 (knt (fun x => decide (x < 128)) T (8 * G) : Nat)) ∧ w' = w := by
  obtain ⟨_, f1⟩ := h.flds
  have HS := hid (fun (k : Nat) (hk : k < 8 * G) => (h.slot (k := k) hk).1)
  have HL := hid (fun (k : Nat) => knt_le (fun x => decide (x < 128)) T k)
  have HN := hid (fun (k : Nat) => knt_succ (fun x => decide (x < 128)) T k)
  obtain ⟨Z, hZ⟩ : ∃ Z, knt (fun x => decide (x < 128)) T (8 * G) = Z := ⟨_, rfl⟩
  rw [hZ]
  have HZ := hid hZ
  clear h hZ
  go_enter Tryd.func45, Tryd.ntmps45
  go_wp2_with fail
  go_loop [3, 4] (fun n u => ∃ k : Nat, u = .int .i64 k ∧ k ≤ 8 * G ∧ n = .int .i64 (knt (fun x => decide (x < 128)) T k : Nat)) (fun _ u => (8 * G - (intOf u)).toNat)
  case atStart => exact ⟨0, rfl, by omega, by rw [knt_0]; rfl⟩
  case round =>
    obtain ⟨k, rfl, hk, rfl⟩ := hrel
    have hl := HL.out k
    have hn := HN.out k
    by_cases hkG : k < 8 * G
    · have c0 := HS.out k hkG
      clear HS HN HL HZ
      generalize sT T k = s at *
      by_cases hs : s.1 < 128
      · have HN := hid (show knt (fun x => decide (x < 128)) T (k + 1) = knt (fun x => decide (x < 128)) T k + 1 by rw [hn]; simp [hs])
        clear hn
        generalize knt (fun x => decide (x < 128)) T k = z at *
        have hs2 : (s.1 : Int) < 128 := by omega
        go_wp2
        go_round
        case rel => exact ⟨k + 1, by go_num, by omega, by rw [HN.out]; go_num⟩
        case measure => simp [intOf]; omega
      · have HN := hid (show knt (fun x => decide (x < 128)) T (k + 1) = knt (fun x => decide (x < 128)) T k by rw [hn]; simp [hs])
        clear hn
        generalize knt (fun x => decide (x < 128)) T k = z at *
        have hs2 : ¬ (s.1 : Int) < 128 := by omega
        go_wp2
        go_round
        case rel => exact ⟨k + 1, by go_num, by omega, by rw [HN.out]⟩
        case measure => simp [intOf]; omega
    · obtain rfl : k = 8 * G := by omega
      have e := HZ.out
      clear HS HN HL hn HZ
      generalize knt (fun x => decide (x < 128)) T (8 * G) = z at *
      subst e
      go_wp2
      go_ret
      exact ⟨rfl, rfl⟩
set_option maxRecDepth 100000 in
theorem rleft_any (p q c G : Nat) (T : List Nat) (w : World) (h : Rt w p q c G T) (hG : G ≤ 4096) : Calls Tryd.prog 83 #[.pointer (some ⟨p, 0, none⟩)] w fun e w' => e = .returned (.int .i64 ((7 * G : Nat) - (knt (fun x => decide (x ≠ 128)) T (8 * G) : Nat) : Int)) ∧ w' = w := by
  obtain ⟨f0, f1⟩ := h.flds
  have HS := hid (fun (k : Nat) (hk : k < 8 * G) => (h.slot (k := k) hk).1)
  have HL := hid (fun (k : Nat) => knt_le (fun x => decide (x ≠ 128)) T k)
  have HN := hid (fun (k : Nat) => knt_succ (fun x => decide (x ≠ 128)) T k)
  obtain ⟨Z, hZ⟩ : ∃ Z, knt (fun x => decide (x ≠ 128)) T (8 * G) = Z := ⟨_, rfl⟩
  rw [hZ]
  have HZ := hid hZ
  clear h hZ
  go_enter Tryd.func83, Tryd.ntmps83
  go_wp2_with fail
  go_loop [3, 4] (fun n u => ∃ k : Nat, u = .int .i64 k ∧ k ≤ 8 * G ∧ n = .int .i64 ((7 * G : Nat) - (knt (fun x => decide (x ≠ 128)) T k : Nat) : Int)) (fun _ u => (8 * G - (intOf u)).toNat)
  case atStart => exact ⟨0, rfl, by omega, by rw [knt_0]; push_cast; simp⟩
  case round =>
    obtain ⟨k, rfl, hk, rfl⟩ := hrel
    have hl := HL.out k
    have hn := HN.out k
    by_cases hkG : k < 8 * G
    · have c0 := HS.out k hkG
      clear HS HN HL HZ
      generalize sT T k = s at *
      by_cases hs : s.1 ≠ 128
      · have HN := hid (show knt (fun x => decide (x ≠ 128)) T (k + 1) = knt (fun x => decide (x ≠ 128)) T k + 1 by rw [hn]; simp [hs])
        clear hn
        generalize knt (fun x => decide (x ≠ 128)) T k = z at *
        have hs2 : (s.1 : Int) ≠ 128 := by omega
        go_wp2
        go_round
        case rel => exact ⟨k + 1, by go_num, by omega, by rw [HN.out]; go_num⟩
        case measure => simp [intOf]; omega
      · have HN := hid (show knt (fun x => decide (x ≠ 128)) T (k + 1) = knt (fun x => decide (x ≠ 128)) T k by rw [hn]; simp [hs])
        clear hn
        generalize knt (fun x => decide (x ≠ 128)) T k = z at *
        have hs2 : ¬ ((s.1 : Int) ≠ 128) := by omega
        go_wp2
        go_round
        case rel => exact ⟨k + 1, by go_num, by omega, by rw [HN.out]⟩
        case measure => simp [intOf]; omega
    · obtain rfl : k = 8 * G := by omega
      have e := HZ.out
      clear HS HN HL hn HZ
      generalize knt (fun x => decide (x ≠ 128)) T (8 * G) = z at *
      subst e
      go_wp2
      go_ret
      exact ⟨rfl, rfl⟩
end Go.Proofs.YtkfagfdefkaenaaDoor.Rf

/-
  The groups in which the document looks for a hash; no statement is proved here.
-/
namespace Go.Proofs.YtkfagfdefkaenaaDoor.Rf
open Go.RowKit Go.Shelf
open Pr (Gp GpI sq pl pl_step pl_lt pl_zero sq_len sq_take)
attribute [local go_sem] Oper.semAt_some run_store_func

/-- A list of whole numbers in a row above base. -/
def Ils (base : Nat) (w : World) (v : Value) (L : List Nat) : Prop := w.ownsRow base 3 1 v L.length (L.map fun x => Value.int .i64 (x : Nat))
def RsPost (w : World) (L : List Nat) (e : Ending) (w' : World) : Prop := ∃ a c, e = .returned (.tuple #[.slice a L.length c, .int .i64 0]) ∧ Ils w.heap.size w' (.slice a L.length c) L ∧ Ext [] w w'
theorem rnext {h G i : Nat} (hG : G ≤ 4096) (hi : i < G) : (((pl h G i : Nat) : Int) + (i : Int) + 1).tmod (G : Int) = ((pl h G (i + 1) : Nat) : Int) := by
  rw [pl_step, Int.tmod_eq_emod_of_nonneg (by omega), Int.add_assoc]
  norm_cast

set_option maxRecDepth 100000 in
set_option maxHeartbeats 2000000 in
theorem rseq_ok (h G : Nat) (hG : Gp G) (w : World) : Calls Tryd.prog 82 #[.int .u64 h, .int .i64 G] w (RsPost w (sq h G)) := by
  have K := Pr.groups_any G true (by simp [Pr.gpI_nat, hG]) w
  have hpos := hG.pos
  have hle := hG.le
  have hm : h % G < G := Nat.mod_lt _ hpos
  have he : (h : Int).tmod (G : Int) = ((h % G : Nat) : Int) := by rw [Int.tmod_eq_emod_of_nonneg (by omega)]; norm_cast
  have HN := hid (fun i (hi : i < G) => rnext (h := h) (i := i) hle hi)
  have HT := hid (fun k hk => sq_take h G k hk)
  have HL := hid (sq_len h G)
  have HP := hid (fun i => pl_lt h hpos i)
  have H0 := hid (pl_zero h G)
  clear hG
  generalize h % G = r at *
  go_enter Tryd.func82, Tryd.ntmps82
  go_wp2_with fail
  refine met K ?_
  clear K
  go_wp2
  clear he
  go_loopw [6, 7, 8] (fun lv av q wr => ∃ k : Nat, q = .int .i64 k ∧ k ≤ G ∧ av = .int .u64 (pl h G k : Nat) ∧ wr.ownsRow w.heap.size 3 1 lv k (((sq h G).take k).map fun x => Value.int .i64 (x : Nat)) ∧ Ext [] w wr) (fun _ _ q _ => (G - (intOf q)).toNat)
  case atStart => exact ⟨0, rfl, by omega, by rw [H0.out], own_nil _ _ _ _, Ext.refl _ _⟩
  case round =>
    obtain ⟨k, rfl, hk, rfl, hO, hE⟩ := hrel
    have HE := hid hE
    clear hE hm H0
    have hpl := HP.out k
    by_cases hkG : k < G
    · have hnx := HN.out k hkG
      have HTk := hid (HT.out k hkG)
      have hpl2 := HP.out (k + 1)
      clear HN HT HL HP
      generalize pl h G k = x at *
      generalize hy : pl h G (k + 1) = y at *
      have HY := hid hy
      clear hy
      have hE1 := Ext.alloc [] wr (.cells #[.int .i64 (x : Nat)] 3)
      have hV := vs_new wr 3 [.int .i64 (x : Nat)]
      obtain ⟨v', w', hr, hO', hE', _⟩ := app_own w _ (HE.out.trans hE1) 25 25 3 _ 8 Tryd.underlying25 info3 rfl (by omega) _ _ _ (own_keep0 hO hE1) (some ⟨wr.heap.size, 0, none⟩) 1 1 _ rfl hV (by simp [Value.oneCell']) (by omega)
      have HO' := hid hO'
      have HE' := hid hE'
      obtain ⟨a0, c0, rfl, _⟩ := own_slice hO
      obtain ⟨a1, c1, rfl, _⟩ := own_slice hO'
      clear hO hO' hE' hE1 hV
      go_wp2_with (at_builtin; refine wpList_append_run rfl _ _ 25 rfl _ _ _ rfl rfl hr ?_)
      go_roundw
      case rel => exact ⟨k + 1, by go_num, by omega, by rw [HY.out], by rw [HTk.out, List.map_append]; exact HO'.out, HE'.out⟩
      case measure => simp [intOf]; omega
    · obtain rfl : k = G := by omega
      obtain ⟨a0, c0, rfl, _⟩ := own_slice hO
      have HO := hid hO
      clear hO HN HT HP
      go_wp2
      go_ret2
      have h1 := HO.out
      rw [List.take_of_length_le (by rw [HL.out]; omega)] at h1
      refine ⟨a0, c0, by rw [HL.out]; rfl, ?_, HE.out⟩
      unfold Ils
      rw [HL.out]
      exact h1
end Go.Proofs.YtkfagfdefkaenaaDoor.Rf

/-
  The groups in which the document looks for a hash, up to the first with an empty slot; no statement is proved here.
-/
namespace Go.Proofs.YtkfagfdefkaenaaDoor.Rf
open Go.RowKit Go.Shelf
open Pr (Gp GpI sq pl pl_step pl_lt pl_zero sq_len sq_take sq_at)
attribute [local go_sem] Oper.semAt_some run_store_func

def ns (L : List Nat) : List Int := L.map fun x => ((x : Nat) : Int)
theorem ns_at {L : List Nat} {j x : Nat} (h : L[j]? = some x) : (ns L).getD j 0 = (x : Int) := by
  unfold ns
  rw [List.getD_eq_getElem?_getD, List.getElem?_map, h]
  rfl
theorem ns_len (L : List Nat) : (ns L).length = L.length := by simp [ns]
theorem is_pre {w : World} {a : Option Addr} {A B : List Nat} (h : Is w a (ns (A ++ B))) : Is w a (ns A) := by
  rcases h with h | ⟨b, o, e, hc⟩
  · left
    simp [ns] at h ⊢
    exact h.1
  · right
    refine ⟨b, o, e, fun j hj => ?_⟩
    simp only [ns, List.length_map] at hj
    have := hc j (by simp [ns]; omega)
    rw [this]
    simp only [ns, List.map_append]
    rw [List.getElem?_append_left (by simpa using hj)]
/-- A list of whole numbers is answered. -/
def WkPost (w : World) (L : List Nat) (e : Ending) (w' : World) : Prop := ∃ a c, e = .returned (.slice a L.length c) ∧ Is w' a (ns L) ∧ Ext [] w w'
set_option maxRecDepth 100000 in
set_option maxHeartbeats 2000000 in
theorem rwalk_any (p q c G h : Nat) (T : List Nat) (w : World) (hR : Rt w p q c G T) (hG : Gp G) (hh : h < 18446744073709551616) : Calls Tryd.prog 76 #[.pointer (some ⟨p, 0, none⟩), .int .u64 (h : Nat)] w (WkPost w (wk T (sq (h / 128) G))) := by
  have hle := hG.le
  have hpos := hG.pos
  obtain ⟨f0, _⟩ := hR.flds
  have HR := hid hR
  have hdiv : (h : Int).tdiv 128 = ((h / 128 : Nat) : Int) := by rw [Int.tdiv_eq_ediv_of_nonneg (by omega)]; norm_cast
  obtain ⟨h1, hh1⟩ : ∃ h1, h / 128 = h1 := ⟨_, rfl⟩
  have hu1 := u64w (n := h1) (by omega)
  rw [hh1] at hdiv ⊢
  clear hh1 hh
  have HSq := hid (fun W => rseq_ok h1 G hG W)
  have HAt := hid (fun i (hi : i < G) => sq_at h1 G hi)
  have HPl := hid (fun i => pl_lt h1 hpos i)
  have HTk := hid (fun k hk => sq_take h1 G k hk)
  have HLn := hid (sq_len h1 G)
  clear hR hG
  go_enter Tryd.func76, Tryd.ntmps76
  go_wp2_with fail
  refine (HSq.out w).mono ?_
  rintro e w1 ⟨a, c1, rfl, hL, hE⟩
  have hI : Is w1 a (ns (sq h1 G)) := by
    have := own_vs hL
    unfold Is ns
    rw [List.map_map]
    exact this
  obtain ⟨_, _, ec, hcc⟩ := own_slice hL
  cases ec
  have HI := hid hI
  have HE := hid hE
  rw [HLn.out] at hcc
  rw [HLn.out]
  clear hL hI hE HSq
  have HR1 := hid (HR.out.keep0 HE.out)
  clear HR f0
  go_wp2
  go_loop [7] (fun u => ∃ i : Nat, u = .int .i64 i ∧ i ≤ G ∧ ∀ g ∈ (sq h1 G).take i, hasE T g = false) (fun u => (G - (intOf u)).toNat)
  case atStart => exact ⟨0, rfl, by omega, by simp⟩
  case round =>
    obtain ⟨i, rfl, hi, hno⟩ := hrel
    have HNo := hid hno
    clear hno
    by_cases hiG : i < G
    · have hx := HAt.out i hiG
      have hpl := HPl.out i
      have HTi := hid (HTk.out i hiG)
      have HWk := hid (fun e => wk_at (T := T) (A := (sq h1 G).take i) (g := pl h1 G i) ((sq h1 G).drop (i + 1)) HNo.out e)
      have HDr := hid (show (sq h1 G).take i ++ pl h1 G i :: (sq h1 G).drop (i + 1) = sq h1 G by
        have := List.take_append_drop (i + 1) (sq h1 G)
        rw [HTi.out] at this
        simpa using this)
      obtain ⟨b, o, rfl, hc⟩ := HI.out.cell (j := i) (by rw [ns_len, HLn.out]; exact hiG)
      rw [ns_at hx] at hc
      have K := rhas_any p q c G (pl h1 G i) 128 T w1 HR1.out hle hpl
      rw [hasB_E] at K
      have HHe := hid (show hasE T (pl h1 G i) = hasE T (pl h1 G i) from rfl)
      clear hx
      generalize pl h1 G i = x at *
      cases hB : hasE T x with
      | true =>
        rw [hB] at K
        go_wp2_with fail
        refine met K ?_
        clear K
        go_wp2
        go_ret
        have hw : wk T (sq h1 G) = (sq h1 G).take (i + 1) := by
          have := HWk.out hB
          rw [HDr.out] at this
          rw [this, HTi.out]
        refine ⟨some ⟨b, o, none⟩, c1, ?_, ?_, HE.out⟩
        · rw [hw, List.length_take, HLn.out, Nat.min_eq_left (by omega)]
          rfl
        · rw [hw]
          refine is_pre (B := (sq h1 G).drop (i + 1)) ?_
          rw [List.take_append_drop]
          exact HI.out
      | false =>
        rw [hB] at K
        go_wp2_with fail
        refine met K ?_
        clear K
        go_wp2
        go_round
        case rel =>
          refine ⟨i + 1, by go_num, by omega, fun g hg => ?_⟩
          rw [HTi.out, List.mem_append] at hg
          rcases hg with hg | hg
          · exact HNo.out g hg
          · simp at hg; rw [hg]; exact hB
        case measure => simp [intOf]; omega
    · obtain rfl : i = G := by omega
      have hw : wk T (sq h1 i) = sq h1 i := wk_none fun g hg => HNo.out g (by rw [List.take_of_length_le (by rw [HLn.out]; exact Nat.le_refl _)]; exact hg)
      go_wp2
      go_ret
      refine ⟨a, c1, ?_, ?_, HE.out⟩
      · rw [HLn.out]; rfl
      · exact HI.out
end Go.Proofs.YtkfagfdefkaenaaDoor.Rf

/-
  What the document finds of a hash; no statement is proved here.
-/
namespace Go.Proofs.YtkfagfdefkaenaaDoor.Rf
open Go.RowKit Go.Shelf
open Pr (Gp GpI sq pl pl_step pl_lt pl_zero sq_len sq_take sq_at)
attribute [local go_sem] Oper.semAt_some run_store_func

/-- The ids of a group's first k slots that have the hash. -/
def slk (T : List Nat) (h g k : Nat) : List Nat := ((List.range k).filter fun i => decide (bt T g i < 128) && decide (hsw T g i = h)).map fun i => idw T g i
theorem slk_8 (T : List Nat) (h g : Nat) : slk T h g 8 = sl T h g := rfl
theorem slk_0 (T : List Nat) (h g : Nat) : slk T h g 0 = [] := rfl
theorem slk_yes {T : List Nat} {h g k : Nat} (h1 : bt T g k < 128) (h2 : hsw T g k = h) : slk T h g (k + 1) = slk T h g k ++ [idw T g k] := by
  simp [slk, List.range_succ, List.filter_append, h1, h2]
theorem slk_no {T : List Nat} {h g k : Nat} (h1 : ¬ (bt T g k < 128 ∧ hsw T g k = h)) : slk T h g (k + 1) = slk T h g k := by
  have : (decide (bt T g k < 128) && decide (hsw T g k = h)) = false := by
    rw [Bool.and_eq_false_iff]
    rcases Classical.not_and_iff_not_or_not.1 h1 with q | q
    · left; simpa using q
    · right; simpa using q
  simp [slk, List.range_succ, List.filter_append, this]
theorem slk_len (T : List Nat) (h g k : Nat) : (slk T h g k).length ≤ k := by
  have := List.length_filter_le (fun i => decide (bt T g i < 128) && decide (hsw T g i = h)) (List.range k)
  simpa [slk] using this
theorem flat_len (T : List Nat) (h : Nat) : ∀ L : List Nat, (L.flatMap (sl T h)).length ≤ 8 * L.length
  | [] => by simp
  | g :: L => by
    have := flat_len T h L
    have := slk_len T h g 8
    rw [slk_8] at this
    rw [List.flatMap_cons, List.length_append, List.length_cons]
    omega
theorem flat_take (T : List Nat) (h : Nat) {L : List Nat} {i g : Nat} (hg : L[i]? = some g) : (L.take (i + 1)).flatMap (sl T h) = (L.take i).flatMap (sl T h) ++ sl T h g := by
  have hi : i < L.length := (List.getElem?_eq_some_iff.1 hg).1
  have he : L[i] = g := (List.getElem?_eq_some_iff.1 hg).2
  rw [List.take_succ_eq_append_getElem hi, List.flatMap_append, he]
  simp
/-- A region that ends in one way, whatever its order. -/
theorem region_cut {P : Program} {id : Nat} {ops : Array Oper} {b : Bool} {Q : Exit → Act → World → Prop} {a F : Act} {w W : World} (hr : (Code.region id ops b).wp P (NoPanic fun e a' w' => e = .normal ∧ a' = F ∧ w' = W) a w) (hk : Q .normal F W) : (Code.region id ops b).wp P Q a w :=
  Code.wp_mono (fun e a' w' h => by obtain ⟨rfl, rfl, rfl⟩ := NoPanic.imp e a' w' h; exact hk) hr
def FdPost (w : World) (X : List Nat) (e : Ending) (w' : World) : Prop := ∃ v, e = .returned v ∧ w'.ownsRow w.heap.size 37 1 v X.length (vw X) ∧ Ext [] w w'
end Go.Proofs.YtkfagfdefkaenaaDoor.Rf

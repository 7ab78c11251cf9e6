/-
  Plain facts on lists of bytes and on numbers made of bytes; an arena in memory, whatever block its struct lies in; no statement is proved here.
-/
import Derived.Test.YtlajjcboahflbaaDoorBase
import Derived.Deep.QuietTactic
import Derived.BigQuiet
namespace Go.Proofs.YtlajjcboahflbaaDoor
open Go.RowKit

variable {ox : Nat}

/-! ### lists of bytes -/

/-- The list L with the numbers f 0, f 1, .. laid over its places from i on, n of them. -/
def put (L : List Int) (i : Nat) (f : Nat → Int) : Nat → List Int
  | 0 => L
  | n + 1 => (put L i f n).set (i + n) (f n)

theorem length_put (L : List Int) (i : Nat) (f : Nat → Int) : ∀ n, (put L i f n).length = L.length
  | 0 => rfl
  | n + 1 => by rw [put, List.length_set, length_put L i f n]

theorem getD_set (L : List Int) (i : Nat) (x : Int) (h : i < L.length) (j : Nat) : (L.set i x).getD j 0 = if j = i then x else L.getD j 0 := by
  simp only [List.getD, List.getElem?_set]
  by_cases e : j = i
  · subst e; simp [h]
  · have : ¬ i = j := fun q => e q.symm
    simp [e, this]

theorem getD_put (L : List Int) (i : Nat) (f : Nat → Int) : ∀ n, i + n ≤ L.length → ∀ j, (put L i f n).getD j 0 = if i ≤ j ∧ j < i + n then f (j - i) else L.getD j 0
  | 0, _, j => by rw [if_neg (by omega)]; rfl
  | n + 1, h, j => by
    rw [put, getD_set _ _ _ (by rw [length_put]; omega), getD_put L i f n (by omega) j]
    by_cases e : j = i + n
    · subst e
      rw [if_pos rfl, if_pos (by omega)]
      congr 1; omega
    · rw [if_neg e]
      by_cases e2 : i ≤ j ∧ j < i + n
      · rw [if_pos e2, if_pos (by omega)]
      · rw [if_neg e2, if_neg (by omega)]

theorem ext_getD {A B : List Int} (h : A.length = B.length) (k : ∀ j, j < A.length → A.getD j 0 = B.getD j 0) : A = B := by
  apply List.ext_getElem h
  intro j h1 h2
  have := k j h1
  simpa [List.getD, h1, h2] using this

/-- All are bytes. -/
def Bts (L : List Int) : Prop := ∀ x ∈ L, 0 ≤ x ∧ x < 256

theorem Bts.getD {L : List Int} (h : Bts L) (j : Nat) : 0 ≤ L.getD j 0 ∧ L.getD j 0 < 256 := by
  by_cases e : j < L.length
  · have := h (L[j]) (List.getElem_mem e)
    simpa [List.getD, e] using this
  · simp [List.getD, e]

theorem Bts.of_getD {L : List Int} (h : ∀ j, j < L.length → 0 ≤ L.getD j 0 ∧ L.getD j 0 < 256) : Bts L := by
  intro x hx
  obtain ⟨j, hj, rfl⟩ := List.getElem_of_mem hx
  have := h j hj
  simpa [List.getD, hj] using this

theorem Bts.put {L : List Int} (h : Bts L) (i : Nat) (f : Nat → Int) (n : Nat) (hn : i + n ≤ L.length) (hf : ∀ j, j < n → 0 ≤ f j ∧ f j < 256) : Bts (put L i f n) := by
  refine Bts.of_getD fun j hj => ?_
  rw [getD_put L i f n hn]
  split
  · exact hf _ (by omega)
  · exact h.getD j

theorem put_cong {L : List Int} {i : Nat} {f g : Nat → Int} : ∀ n, (∀ j, j < n → f j = g j) → put L i f n = put L i g n
  | 0, _ => rfl
  | n + 1, h => by rw [put, put, put_cong n (fun j hj => h j (by omega)), h n (by omega)]

/-! ### numbers made of bytes -/

/-- f 0 + 256 * f 1 + .., n terms. -/
def numTo (f : Nat → Int) : Nat → Int
  | 0 => 0
  | n + 1 => numTo f n + f n * 2 ^ (8 * n)

theorem numTo_bd (f : Nat → Int) : ∀ n, (∀ j, j < n → 0 ≤ f j ∧ f j < 256) → 0 ≤ numTo f n ∧ numTo f n < 2 ^ (8 * n)
  | 0, _ => by simp [numTo]
  | n + 1, h => by
    obtain ⟨a, b⟩ := numTo_bd f n (fun j hj => h j (by omega))
    obtain ⟨c, d⟩ := h n (by omega)
    have hp : (0 : Int) < 2 ^ (8 * n) := Int.pow_pos (by omega)
    have e : (2 : Int) ^ (8 * (n + 1)) = 256 * 2 ^ (8 * n) := by
      rw [show 8 * (n + 1) = 8 * n + 8 from rfl, Int.pow_add, Int.mul_comm]; rfl
    have m0 : 0 ≤ f n * 2 ^ (8 * n) := Int.mul_nonneg c (by omega)
    have m1 : f n * 2 ^ (8 * n) ≤ 255 * 2 ^ (8 * n) := Int.mul_le_mul_of_nonneg_right (by omega) (by omega)
    rw [numTo, e]
    omega

theorem numTo_cong {f g : Nat → Int} : ∀ n, (∀ j, j < n → f j = g j) → numTo f n = numTo g n
  | 0, _ => rfl
  | n + 1, h => by rw [numTo, numTo, numTo_cong n (fun j hj => h j (by omega)), h n (by omega)]

/-- The n lowest bytes of v make v cut to n bytes. -/
theorem numTo_bytes (v : Int) : ∀ n, numTo (fun k => v / 2 ^ (8 * k) % 256) n = v % 2 ^ (8 * n)
  | 0 => by simp [numTo, Int.emod_one]
  | n + 1 => by
    rw [numTo, numTo_bytes v n]
    have hp : (0 : Int) < 2 ^ (8 * n) := Int.pow_pos (by omega)
    have e : (2 : Int) ^ (8 * (n + 1)) = 2 ^ (8 * n) * 256 := by
      rw [show 8 * (n + 1) = 8 * n + 8 from rfl, Int.pow_add]; rfl
    rw [e]
    generalize (2 : Int) ^ (8 * n) = a at hp
    have h1 := Int.emod_add_mul_ediv v a
    have h2 := Int.emod_add_mul_ediv (v / a) 256
    have r0 := Int.emod_nonneg v (b := a) (by omega)
    have r1 := Int.emod_lt_of_pos v hp
    have q0 := Int.emod_nonneg (v / a) (b := 256) (by omega)
    have q1 := Int.emod_lt_of_pos (v / a) (b := 256) (by omega)
    have m0 : 0 ≤ v / a % 256 * a := Int.mul_nonneg q0 (by omega)
    have m1 : v / a % 256 * a ≤ 255 * a := Int.mul_le_mul_of_nonneg_right (by omega) (by omega)
    have hv : v = (v % a + v / a % 256 * a) + a * 256 * (v / a / 256) := by
      have : a * (v / a) = v / a % 256 * a + a * 256 * (v / a / 256) := by
        rw [Int.mul_assoc, Int.mul_comm (v / a % 256) a, ← Int.mul_add, h2]
      omega
    have hm : v % (a * 256) = ((v % a + v / a % 256 * a) + a * 256 * (v / a / 256)) % (a * 256) := by rw [← hv]
    rw [hm, Int.add_mul_emod_self_left]
    exact (Int.emod_eq_of_lt (by omega) (by omega)).symm

/-- Two numbers of which the second lies above the first's bits. -/
theorem or_join (s b : Int) (k : Nat) (hk : k < 8) (h0 : 0 ≤ s) (h1 : s < 2 ^ (8 * k)) (h2 : 0 ≤ b) (h3 : b < 256) :
    bits .or .u64 s (IntKind.u64.wrap (b * 2 ^ (8 * k))) = s + b * 2 ^ (8 * k) := by
  have hp : (0 : Int) < 2 ^ (8 * k) := Int.pow_pos (by omega)
  have hle : (2 : Int) ^ (8 * k) ≤ 72057594037927936 := by
    have : k = 0 ∨ k = 1 ∨ k = 2 ∨ k = 3 ∨ k = 4 ∨ k = 5 ∨ k = 6 ∨ k = 7 := by omega
    rcases this with h | h | h | h | h | h | h | h <;> subst h <;> decide
  have m0 : 0 ≤ b * 2 ^ (8 * k) := Int.mul_nonneg h2 (by omega)
  have m1 : b * 2 ^ (8 * k) ≤ 255 * 2 ^ (8 * k) := Int.mul_le_mul_of_nonneg_right (by omega) (by omega)
  have hw : IntKind.u64.wrap (b * 2 ^ (8 * k)) = b * 2 ^ (8 * k) := by
    rw [IntKind.wrap_u64]; omega
  rw [hw, u64_or _ _ h0 (by omega) m0 (by omega)]
  have e1 : (b * 2 ^ (8 * k)).toNat = b.toNat * 2 ^ (8 * k) := by
    rw [Int.toNat_mul h2 (by omega)]; congr 1
  have e2 : s.toNat < 2 ^ (8 * k) := by
    have : ((2 ^ (8 * k) : Nat) : Int) = 2 ^ (8 * k) := by simp
    omega
  rw [e1, Nat.or_comm, nat_join (8 * k) _ _ (Nat.mul_mod_left _ _) e2]
  rw [← e1]; omega

/-! ### contracts met in a walk -/

/-- A row of bytes, whole. -/
def Row (w : World) (g : Nat) (L : List Int) : Prop := w.heap[g]? = some (.cells (L.map (Value.int .u8)).toArray 5 (0, 0))

theorem Row.cell {w : World} {g : Nat} {L : List Int} (h : Row w g L) (j : Nat) (hj : j < L.length) : w.cell? ⟨g, j, none⟩ = some (.int .u8 (L.getD j 0)) := by
  rw [cell_of_row w g j _ _ _ h]; simp [hj]
theorem Row.frozen {w : World} {g : Nat} {L : List Int} (h : Row w g L) (j : Nat) : w.frozen? ⟨g, j, none⟩ = false := frozen_of_row w g j _ _ h
theorem Row.set {w : World} {g : Nat} {L : List Int} (h : Row w g L) (j : Nat) (x : Int) : Row (w.setCell ⟨g, j, none⟩ (.int .u8 x)) g (L.set j x) := by
  unfold Row
  rw [heap_setCell_same w g j _ _ _ h]
  simp [List.map_set]
theorem Row.lt {w : World} {g : Nat} {L : List Int} (h : Row w g L) : g < w.heap.size := lt_of_heap h
theorem Row.keep {S : List Nat} {w w' : World} {g : Nat} {L : List Int} (h : Row w g L) (e : Ext S w w') (hs : g ∉ S) : Row w' g L := Ext.keep e h hs

/-- An arena: its struct lies in block p, its bytes are block g. -/
structure Ar (ox : Nat) (w : World) (p g : Nat) (L : List Int) : Prop where
  box : ∃ cs T, w.heap[p]? = some (.cells cs T (0, 0)) ∧ T ≠ 5 ∧ cs[ox]? = some (.slice (some ⟨g, 0, none⟩) L.length L.length)
  row : Row w g L
  len : L.length ≤ 1048576
  ok : Bts L

theorem Ar.cell {w : World} {p g : Nat} {L : List Int} (h : Ar ox w p g L) : w.cell? ⟨p, ox, none⟩ = some (.slice (some ⟨g, 0, none⟩) L.length L.length) := by
  obtain ⟨cs, T, h1, _, h2⟩ := h.box
  rw [cell_of_row w p ox _ _ _ h1]; exact h2
theorem Ar.ne {w : World} {p g : Nat} {L : List Int} (h : Ar ox w p g L) : p ≠ g := by
  rintro rfl
  obtain ⟨cs, T, h1, h3, _⟩ := h.box
  have := h1.symm.trans h.row
  simp only [Option.some.injEq, Obj.cells.injEq] at this
  exact h3 this.2.1
theorem Ar.keep {S : List Nat} {w w' : World} {p g : Nat} {L : List Int} (h : Ar ox w p g L) (e : Ext S w w') (hp : p ∉ S) (hg : g ∉ S) : Ar ox w' p g L :=
  ⟨by obtain ⟨cs, T, h1, h3, h2⟩ := h.box; exact ⟨cs, T, Ext.keep e h1 hp, h3, h2⟩, h.row.keep e hg, h.len, h.ok⟩
theorem Ar.turn {w w' : World} {p g : Nat} {L L' : List Int} (h : Ar ox w p g L) (e : Ext [g] w w') (hl : L'.length = L.length) (hr : Row w' g L') (hb : Bts L') : Ar ox w' p g L' :=
  ⟨by rw [hl]; obtain ⟨cs, T, h1, h3, h2⟩ := h.box; exact ⟨cs, T, Ext.keep e h1 (by simpa using h.ne), h3, h2⟩, hr, by rw [hl]; exact h.len, hb⟩

/-- A slice of bytes with the elements xs, wherever it lies. -/
structure Sl (w : World) (a : Option Addr) (xs : List Int) : Prop where
  at_ : xs = [] ∨ ∃ b o, a = some ⟨b, o, none⟩ ∧ ∀ j, j < xs.length → w.cell? ⟨b, o + j, none⟩ = some (.int .u8 (xs.getD j 0))
  ok : Bts xs

theorem Row.sl {w : World} {g : Nat} {L : List Int} (h : Row w g L) (hb : Bts L) : Sl w (some ⟨g, 0, none⟩) L :=
  ⟨.inr ⟨g, 0, rfl, fun j hj => by rw [Nat.zero_add]; exact h.cell j hj⟩, hb⟩
theorem Sl.keep {S : List Nat} {w w' : World} {a : Option Addr} {xs : List Int} (h : Sl w a xs) (e : Ext S w w') (hs : ∀ ad, a = some ad → ad.block ∉ S) : Sl w' a xs := by
  obtain ⟨h1, h2⟩ := h
  refine ⟨?_, h2⟩
  rcases h1 with rfl | ⟨b, o, rfl, hc⟩
  · exact .inl rfl
  · refine .inr ⟨b, o, rfl, fun j hj => ?_⟩
    have := hc j hj
    rw [← this]
    exact World.cell?_of_block (e.block b (block_lt_of_cell this) (hs _ rfl))

end Go.Proofs.YtlajjcboahflbaaDoor

/-
  ABase, Arena, ArenaTwo, Cls, Span: joined by program; no statement is proved here.
-/
import Derived.Test.YtjbbomokgpoilaaGreatDoorZRA
import Derived.Deep.QuietTactic
import Derived.BigQuiet
import Derived.Deep.RegionHeld3
import Derived.Deep.WholeRow
import Derived.Test.YtjbbomokgpoilaaGreatDoorZRB
/-
  Plain facts on lists of bytes and on numbers made of bytes; an arena in memory, whatever block its struct lies in; no statement is proved here.
-/
namespace Go.Proofs.YtjbbomokgpoilaaGreatDoor
open Go.RowKit

variable {ox : Nat}

/-! ### lists of bytes -/

/-- The list L with the numbers f 0, f 1, .. laid over its places from i on, n of them. -/
def put (L : List Int) (i : Nat) (f : Nat → Int) : Nat → List Int
  | 0 => L
  | n + 1 => (put L i f n).set (i + n) (f n)

theorem length_put (L : List Int) (i : Nat) (f : Nat → Int) : ∀ n, (put L i f n).length = L.length
  | 0 => rfl
  | n + 1 => by rw [put, List.length_set, length_put L i f n]

theorem getD_set (L : List Int) (i : Nat) (x : Int) (h : i < L.length) (j : Nat) : (L.set i x).getD j 0 = if j = i then x else L.getD j 0 := by
  simp only [List.getD, List.getElem?_set]
  by_cases e : j = i
  · subst e; simp [h]
  · have : ¬ i = j := fun q => e q.symm
    simp [e, this]

theorem getD_put (L : List Int) (i : Nat) (f : Nat → Int) : ∀ n, i + n ≤ L.length → ∀ j, (put L i f n).getD j 0 = if i ≤ j ∧ j < i + n then f (j - i) else L.getD j 0
  | 0, _, j => by rw [if_neg (by omega)]; rfl
  | n + 1, h, j => by
    rw [put, getD_set _ _ _ (by rw [length_put]; omega), getD_put L i f n (by omega) j]
    by_cases e : j = i + n
    · subst e
      rw [if_pos rfl, if_pos (by omega)]
      congr 1; omega
    · rw [if_neg e]
      by_cases e2 : i ≤ j ∧ j < i + n
      · rw [if_pos e2, if_pos (by omega)]
      · rw [if_neg e2, if_neg (by omega)]

theorem ext_getD {A B : List Int} (h : A.length = B.length) (k : ∀ j, j < A.length → A.getD j 0 = B.getD j 0) : A = B := by
  apply List.ext_getElem h
  intro j h1 h2
  have := k j h1
  simpa [List.getD, h1, h2] using this

/-- All are bytes. -/
def Bts (L : List Int) : Prop := ∀ x ∈ L, 0 ≤ x ∧ x < 256

theorem Bts.getD {L : List Int} (h : Bts L) (j : Nat) : 0 ≤ L.getD j 0 ∧ L.getD j 0 < 256 := by
  by_cases e : j < L.length
  · have := h (L[j]) (List.getElem_mem e)
    simpa [List.getD, e] using this
  · simp [List.getD, e]

theorem Bts.of_getD {L : List Int} (h : ∀ j, j < L.length → 0 ≤ L.getD j 0 ∧ L.getD j 0 < 256) : Bts L := by
  intro x hx
  obtain ⟨j, hj, rfl⟩ := List.getElem_of_mem hx
  have := h j hj
  simpa [List.getD, hj] using this

theorem Bts.put {L : List Int} (h : Bts L) (i : Nat) (f : Nat → Int) (n : Nat) (hn : i + n ≤ L.length) (hf : ∀ j, j < n → 0 ≤ f j ∧ f j < 256) : Bts (put L i f n) := by
  refine Bts.of_getD fun j hj => ?_
  rw [getD_put L i f n hn]
  split
  · exact hf _ (by omega)
  · exact h.getD j

theorem put_cong {L : List Int} {i : Nat} {f g : Nat → Int} : ∀ n, (∀ j, j < n → f j = g j) → put L i f n = put L i g n
  | 0, _ => rfl
  | n + 1, h => by rw [put, put, put_cong n (fun j hj => h j (by omega)), h n (by omega)]

/-! ### numbers made of bytes -/

/-- f 0 + 256 * f 1 + .., n terms. -/
def numTo (f : Nat → Int) : Nat → Int
  | 0 => 0
  | n + 1 => numTo f n + f n * 2 ^ (8 * n)

theorem numTo_bd (f : Nat → Int) : ∀ n, (∀ j, j < n → 0 ≤ f j ∧ f j < 256) → 0 ≤ numTo f n ∧ numTo f n < 2 ^ (8 * n)
  | 0, _ => by simp [numTo]
  | n + 1, h => by
    obtain ⟨a, b⟩ := numTo_bd f n (fun j hj => h j (by omega))
    obtain ⟨c, d⟩ := h n (by omega)
    have hp : (0 : Int) < 2 ^ (8 * n) := Int.pow_pos (by omega)
    have e : (2 : Int) ^ (8 * (n + 1)) = 256 * 2 ^ (8 * n) := by
      rw [show 8 * (n + 1) = 8 * n + 8 from rfl, Int.pow_add, Int.mul_comm]; rfl
    have m0 : 0 ≤ f n * 2 ^ (8 * n) := Int.mul_nonneg c (by omega)
    have m1 : f n * 2 ^ (8 * n) ≤ 255 * 2 ^ (8 * n) := Int.mul_le_mul_of_nonneg_right (by omega) (by omega)
    rw [numTo, e]
    omega

theorem numTo_cong {f g : Nat → Int} : ∀ n, (∀ j, j < n → f j = g j) → numTo f n = numTo g n
  | 0, _ => rfl
  | n + 1, h => by rw [numTo, numTo, numTo_cong n (fun j hj => h j (by omega)), h n (by omega)]

/-- The n lowest bytes of v make v cut to n bytes. -/
theorem numTo_bytes (v : Int) : ∀ n, numTo (fun k => v / 2 ^ (8 * k) % 256) n = v % 2 ^ (8 * n)
  | 0 => by simp [numTo, Int.emod_one]
  | n + 1 => by
    rw [numTo, numTo_bytes v n]
    have hp : (0 : Int) < 2 ^ (8 * n) := Int.pow_pos (by omega)
    have e : (2 : Int) ^ (8 * (n + 1)) = 2 ^ (8 * n) * 256 := by
      rw [show 8 * (n + 1) = 8 * n + 8 from rfl, Int.pow_add]; rfl
    rw [e]
    generalize (2 : Int) ^ (8 * n) = a at hp
    have h1 := Int.emod_add_mul_ediv v a
    have h2 := Int.emod_add_mul_ediv (v / a) 256
    have r0 := Int.emod_nonneg v (b := a) (by omega)
    have r1 := Int.emod_lt_of_pos v hp
    have q0 := Int.emod_nonneg (v / a) (b := 256) (by omega)
    have q1 := Int.emod_lt_of_pos (v / a) (b := 256) (by omega)
    have m0 : 0 ≤ v / a % 256 * a := Int.mul_nonneg q0 (by omega)
    have m1 : v / a % 256 * a ≤ 255 * a := Int.mul_le_mul_of_nonneg_right (by omega) (by omega)
    have hv : v = (v % a + v / a % 256 * a) + a * 256 * (v / a / 256) := by
      have : a * (v / a) = v / a % 256 * a + a * 256 * (v / a / 256) := by
        rw [Int.mul_assoc, Int.mul_comm (v / a % 256) a, ← Int.mul_add, h2]
      omega
    have hm : v % (a * 256) = ((v % a + v / a % 256 * a) + a * 256 * (v / a / 256)) % (a * 256) := by rw [← hv]
    rw [hm, Int.add_mul_emod_self_left]
    exact (Int.emod_eq_of_lt (by omega) (by omega)).symm

/-- Two numbers of which the second lies above the first's bits. -/
theorem or_join (s b : Int) (k : Nat) (hk : k < 8) (h0 : 0 ≤ s) (h1 : s < 2 ^ (8 * k)) (h2 : 0 ≤ b) (h3 : b < 256) :
    bits .or .u64 s (IntKind.u64.wrap (b * 2 ^ (8 * k))) = s + b * 2 ^ (8 * k) := by
  have hp : (0 : Int) < 2 ^ (8 * k) := Int.pow_pos (by omega)
  have hle : (2 : Int) ^ (8 * k) ≤ 72057594037927936 := by
    have : k = 0 ∨ k = 1 ∨ k = 2 ∨ k = 3 ∨ k = 4 ∨ k = 5 ∨ k = 6 ∨ k = 7 := by omega
    rcases this with h | h | h | h | h | h | h | h <;> subst h <;> decide
  have m0 : 0 ≤ b * 2 ^ (8 * k) := Int.mul_nonneg h2 (by omega)
  have m1 : b * 2 ^ (8 * k) ≤ 255 * 2 ^ (8 * k) := Int.mul_le_mul_of_nonneg_right (by omega) (by omega)
  have hw : IntKind.u64.wrap (b * 2 ^ (8 * k)) = b * 2 ^ (8 * k) := by
    rw [IntKind.wrap_u64]; omega
  rw [hw, u64_or _ _ h0 (by omega) m0 (by omega)]
  have e1 : (b * 2 ^ (8 * k)).toNat = b.toNat * 2 ^ (8 * k) := by
    rw [Int.toNat_mul h2 (by omega)]; congr 1
  have e2 : s.toNat < 2 ^ (8 * k) := by
    have : ((2 ^ (8 * k) : Nat) : Int) = 2 ^ (8 * k) := by simp
    omega
  rw [e1, Nat.or_comm, nat_join (8 * k) _ _ (Nat.mul_mod_left _ _) e2]
  rw [← e1]; omega

/-! ### contracts met in a walk -/

/-- A row of bytes, whole. -/
def Row (w : World) (g : Nat) (L : List Int) : Prop := w.heap[g]? = some (.cells (L.map (Value.int .u8)).toArray 5 (0, 0))

theorem Row.cell {w : World} {g : Nat} {L : List Int} (h : Row w g L) (j : Nat) (hj : j < L.length) : w.cell? ⟨g, j, none⟩ = some (.int .u8 (L.getD j 0)) := by
  rw [cell_of_row w g j _ _ _ h]; simp [hj]
theorem Row.frozen {w : World} {g : Nat} {L : List Int} (h : Row w g L) (j : Nat) : w.frozen? ⟨g, j, none⟩ = false := frozen_of_row w g j _ _ h
theorem Row.set {w : World} {g : Nat} {L : List Int} (h : Row w g L) (j : Nat) (x : Int) : Row (w.setCell ⟨g, j, none⟩ (.int .u8 x)) g (L.set j x) := by
  unfold Row
  rw [heap_setCell_same w g j _ _ _ h]
  simp [List.map_set]
theorem Row.lt {w : World} {g : Nat} {L : List Int} (h : Row w g L) : g < w.heap.size := lt_of_heap h
theorem Row.keep {S : List Nat} {w w' : World} {g : Nat} {L : List Int} (h : Row w g L) (e : Ext S w w') (hs : g ∉ S) : Row w' g L := Ext.keep e h hs

/-- An arena: its struct lies in block p, its bytes are block g. -/
structure Ar (ox : Nat) (w : World) (p g : Nat) (L : List Int) : Prop where
  box : ∃ cs T, w.heap[p]? = some (.cells cs T (0, 0)) ∧ T ≠ 5 ∧ cs[ox]? = some (.slice (some ⟨g, 0, none⟩) L.length L.length)
  row : Row w g L
  len : L.length ≤ 1048576
  ok : Bts L

theorem Ar.cell {w : World} {p g : Nat} {L : List Int} (h : Ar ox w p g L) : w.cell? ⟨p, ox, none⟩ = some (.slice (some ⟨g, 0, none⟩) L.length L.length) := by
  obtain ⟨cs, T, h1, _, h2⟩ := h.box
  rw [cell_of_row w p ox _ _ _ h1]; exact h2
theorem Ar.ne {w : World} {p g : Nat} {L : List Int} (h : Ar ox w p g L) : p ≠ g := by
  rintro rfl
  obtain ⟨cs, T, h1, h3, _⟩ := h.box
  have := h1.symm.trans h.row
  simp only [Option.some.injEq, Obj.cells.injEq] at this
  exact h3 this.2.1
theorem Ar.keep {S : List Nat} {w w' : World} {p g : Nat} {L : List Int} (h : Ar ox w p g L) (e : Ext S w w') (hp : p ∉ S) (hg : g ∉ S) : Ar ox w' p g L :=
  ⟨by obtain ⟨cs, T, h1, h3, h2⟩ := h.box; exact ⟨cs, T, Ext.keep e h1 hp, h3, h2⟩, h.row.keep e hg, h.len, h.ok⟩
theorem Ar.turn {w w' : World} {p g : Nat} {L L' : List Int} (h : Ar ox w p g L) (e : Ext [g] w w') (hl : L'.length = L.length) (hr : Row w' g L') (hb : Bts L') : Ar ox w' p g L' :=
  ⟨by rw [hl]; obtain ⟨cs, T, h1, h3, h2⟩ := h.box; exact ⟨cs, T, Ext.keep e h1 (by simpa using h.ne), h3, h2⟩, hr, by rw [hl]; exact h.len, hb⟩

/-- A slice of bytes with the elements xs, wherever it lies. -/
structure Sl (w : World) (a : Option Addr) (xs : List Int) : Prop where
  at_ : xs = [] ∨ ∃ b o, a = some ⟨b, o, none⟩ ∧ ∀ j, j < xs.length → w.cell? ⟨b, o + j, none⟩ = some (.int .u8 (xs.getD j 0))
  ok : Bts xs

theorem Row.sl {w : World} {g : Nat} {L : List Int} (h : Row w g L) (hb : Bts L) : Sl w (some ⟨g, 0, none⟩) L :=
  ⟨.inr ⟨g, 0, rfl, fun j hj => by rw [Nat.zero_add]; exact h.cell j hj⟩, hb⟩
theorem Sl.keep {S : List Nat} {w w' : World} {a : Option Addr} {xs : List Int} (h : Sl w a xs) (e : Ext S w w') (hs : ∀ ad, a = some ad → ad.block ∉ S) : Sl w' a xs := by
  obtain ⟨h1, h2⟩ := h
  refine ⟨?_, h2⟩
  rcases h1 with rfl | ⟨b, o, rfl, hc⟩
  · exact .inl rfl
  · refine .inr ⟨b, o, rfl, fun j hj => ?_⟩
    have := hc j hj
    rw [← this]
    exact World.cell?_of_block (e.block b (block_lt_of_cell this) (hs _ rfl))

end Go.Proofs.YtjbbomokgpoilaaGreatDoor

/-
  What each function of package arena does: one contract a function and a way through it; no statement is proved here.
-/
namespace Go.Proofs.YtjbbomokgpoilaaGreatDoor
open Go.RowKit

variable {ox : Nat}

/-- The error of n bytes at place i of l. -/
def perr (l : Nat) (i n : Int) : Int := if n < 0 then 2 else if i < 0 ∨ (l : Int) - i < n then 5 else 0
/-- The error of a number of n bytes at place i of l. -/
def nerr (l : Nat) (i n : Int) : Int := if n = 1 ∨ n = 2 ∨ n = 4 ∨ n = 8 then perr l i n else 2

theorem perr_ok {l : Nat} {i n : Int} (h : perr l i n = 0) : ∃ I N : Nat, i = I ∧ n = N ∧ I + N ≤ l := by
  unfold perr at h
  split at h
  · simp at h
  · split at h
    · simp at h
    · exact ⟨i.toNat, n.toNat, by omega, by omega, by omega⟩
theorem perr_nat {l I N : Nat} (h : I + N ≤ l) : perr l I N = 0 := by
  unfold perr; rw [if_neg (by omega), if_neg (by omega)]
theorem perr_vals (l : Nat) (i n : Int) : perr l i n = 0 ∨ perr l i n = 2 ∨ perr l i n = 5 := by
  unfold perr; split; simp; split <;> simp
theorem nerr_vals (l : Nat) (i n : Int) : nerr l i n = 0 ∨ nerr l i n = 2 ∨ nerr l i n = 5 := by
  unfold nerr; split; exact perr_vals l i n; simp
theorem nerr_ok {l : Nat} {i n : Int} (h : nerr l i n = 0) : ∃ I N : Nat, i = I ∧ n = N ∧ I + N ≤ l ∧ (N = 1 ∨ N = 2 ∨ N = 4 ∨ N = 8) := by
  unfold nerr at h
  split at h
  · obtain ⟨I, N, rfl, rfl, hl⟩ := perr_ok h
    exact ⟨I, N, rfl, rfl, hl, by omega⟩
  · simp at h

abbrev I64 (i : Int) : Prop := -9223372036854775808 ≤ i ∧ i < 9223372036854775808

theorem part_nil (i n : Int) (w : World) : Calls Tryz.prog 126 #[.pointer none, .int .i64 i, .int .i64 n] w fun e w' => e = .returned (.tuple #[.slice none 0 0, .int .i64 2]) ∧ w' = w := by
  go_enter Tryz.func126, Tryz.ntmps126
  go_wp2
  go_ret2
  exact ⟨rfl, rfl⟩

theorem part_neg (i n : Int) (p : Nat) (w : World) (h : n < 0) : Calls Tryz.prog 126 #[.pointer (some ⟨p, ox, none⟩), .int .i64 i, .int .i64 n] w fun e w' => e = .returned (.tuple #[.slice none 0 0, .int .i64 2]) ∧ w' = w := by
  go_enter Tryz.func126, Tryz.ntmps126
  go_wp2
  go_ret2
  exact ⟨rfl, rfl⟩

theorem part_out (i n : Int) (p : Nat) (w : World) (a : Option Addr) (l c : Nat) (hc : w.cell? ⟨p, ox, none⟩ = some (.slice a l c)) (hl : l ≤ 1048576) (h : 0 ≤ n) (hi : I64 i) (h2 : i < 0 ∨ (l : Int) - i < n) : Calls Tryz.prog 126 #[.pointer (some ⟨p, ox, none⟩), .int .i64 i, .int .i64 n] w fun e w' => e = .returned (.tuple #[.slice none 0 0, .int .i64 5]) ∧ w' = w := by
  by_cases hi0 : i < 0
  · go_enter Tryz.func126, Tryz.ntmps126
    go_wp2
    go_ret2
    exact ⟨rfl, rfl⟩
  · have h3 : (l : Int) - i < n := by omega
    go_enter Tryz.func126, Tryz.ntmps126
    go_wp2
    go_ret2
    exact ⟨rfl, rfl⟩

theorem part_err (i n : Int) (p g : Nat) (w : World) (L : List Int) (hA : Ar ox w p g L) (hi : I64 i) (e : Int) (he : perr L.length i n = e) (h0 : e ≠ 0) : Calls Tryz.prog 126 #[.pointer (some ⟨p, ox, none⟩), .int .i64 i, .int .i64 n] w fun r w' => r = .returned (.tuple #[.slice none 0 0, .int .i64 e]) ∧ w' = w := by
  subst he
  unfold perr at h0 ⊢
  split
  · exact part_neg i n p w ‹_›
  · split
    · exact part_out i n p w _ _ _ hA.cell hA.len (by omega) hi ‹_›
    · rename_i h1 h2; exact absurd (by rw [if_neg h1, if_neg h2]) h0

/-- Where a part of n bytes at place i lies: an empty one lies at the head. -/
def off (i n : Nat) : Nat := if n = 0 then 0 else i
theorem off_pos {i n : Nat} (h : 0 < n) : off i n = i := by unfold off; rw [if_neg (by omega)]

theorem part_in (i n : Nat) (p g : Nat) (w : World) (L : List Int) (hA : Ar ox w p g L) (h : i + n ≤ L.length) : Calls Tryz.prog 126 #[.pointer (some ⟨p, ox, none⟩), .int .i64 i, .int .i64 n] w fun e w' => e = .returned (.tuple #[.slice (some ⟨g, off i n, none⟩) n n, .int .i64 0]) ∧ w' = w := by
  have hc := hA.cell
  have hl := hA.len
  clear hA
  generalize L.length = l at *
  have h3 : ¬ (l : Int) - i < n := by omega
  by_cases h0 : n = 0
  · subst h0
    rw [show off i 0 = 0 from rfl]
    go_enter Tryz.func126, Tryz.ntmps126
    go_wp2
    go_ret2
    exact ⟨rfl, rfl⟩
  · rw [off_pos (by omega)]
    go_enter Tryz.func126, Tryz.ntmps126
    go_wp2
    go_ret2
    exact ⟨rfl, rfl⟩

theorem number_bad (i n : Int) (q : Option Addr) (w : World) (h : ¬ (n = 1 ∨ n = 2 ∨ n = 4 ∨ n = 8)) : Calls Tryz.prog 105 #[.pointer q, .int .i64 i, .int .i64 n] w fun e w' => e = .returned (.tuple #[.slice none 0 0, .int .i64 2]) ∧ w' = w := by
  have h1 : (n == 1) = false := by simp; omega
  have h2 : (n == 2) = false := by simp; omega
  have h3 : (n == 4) = false := by simp; omega
  have h4 : (n == 8) = false := by simp; omega
  clear h
  go_enter Tryz.func105, Tryz.ntmps105
  go_wp2
  go_ret2
  exact ⟨rfl, rfl⟩

theorem number_nil (i n : Int) (w : World) : Calls Tryz.prog 105 #[.pointer none, .int .i64 i, .int .i64 n] w fun e w' => e = .returned (.tuple #[.slice none 0 0, .int .i64 2]) ∧ w' = w := by
  by_cases h : n = 1 ∨ n = 2 ∨ n = 4 ∨ n = 8
  · rcases h with rfl | rfl | rfl | rfl
    all_goals
      go_enter Tryz.func105, Tryz.ntmps105
      go_wp2_with (go_at_call 126; refine met (part_nil _ _ _) ?_)
      go_ret2
      exact ⟨rfl, rfl⟩
  · exact number_bad i n none w h

theorem number_err (i n : Int) (p g : Nat) (w : World) (L : List Int) (hA : Ar ox w p g L) (hi : I64 i) (e : Int) (he : nerr L.length i n = e) (h0 : e ≠ 0) : Calls Tryz.prog 105 #[.pointer (some ⟨p, ox, none⟩), .int .i64 i, .int .i64 n] w fun r w' => r = .returned (.tuple #[.slice none 0 0, .int .i64 e]) ∧ w' = w := by
  unfold nerr at he
  split at he
  · rename_i h
    have K := part_err i n p g w L hA hi e he h0
    clear hA he
    rcases h with rfl | rfl | rfl | rfl
    all_goals
      go_enter Tryz.func105, Tryz.ntmps105
      go_wp2_with (go_at_call 126; refine met K ?_)
      go_ret2
      exact ⟨rfl, rfl⟩
  · subst he
    exact number_bad i n _ w ‹_›

theorem number_in (i n : Nat) (p g : Nat) (w : World) (L : List Int) (hA : Ar ox w p g L) (h : i + n ≤ L.length) (hn : n = 1 ∨ n = 2 ∨ n = 4 ∨ n = 8) : Calls Tryz.prog 105 #[.pointer (some ⟨p, ox, none⟩), .int .i64 i, .int .i64 n] w fun e w' => e = .returned (.tuple #[.slice (some ⟨g, i, none⟩) n n, .int .i64 0]) ∧ w' = w := by
  have K : Calls Tryz.prog 126 #[.pointer (some ⟨p, ox, none⟩), .int .i64 i, .int .i64 n] w fun e w' => e = .returned (.tuple #[.slice (some ⟨g, i, none⟩) n n, .int .i64 0]) ∧ w' = w :=
    (part_in i n p g w L hA h).mono fun e w' ⟨he, hw⟩ => ⟨by rw [he, off_pos (by omega)], hw⟩
  clear hA h
  rcases hn with rfl | rfl | rfl | rfl
  all_goals
    go_enter Tryz.func105, Tryz.ntmps105
    go_wp2_with (go_at_call 126; refine met K ?_)
    go_ret2
    exact ⟨rfl, rfl⟩


theorem anew_bad (s : Int) (w : World) (h : s < 0 ∨ 1048576 < s) : Calls Tryz.prog 114 #[.int .i64 s] w fun e w' => e = .returned (.tuple #[.pointer none, .int .i64 2]) ∧ w' = w := by
  rcases h with h | h
  · go_enter Tryz.func114, Tryz.ntmps114
    go_wp2
    go_ret2
    exact ⟨rfl, rfl⟩
  · have h2 : ¬ s < 0 := by omega
    go_enter Tryz.func114, Tryz.ntmps114
    go_wp2
    go_ret2
    exact ⟨rfl, rfl⟩

theorem info5 : (Tryz.prog.info? 5).map (fun i => (i.zero, i.size, i.bytes)) = some (some (.int .u8 0), 1, 1) := by kernel_rfl

/-- A new arena: two new blocks. -/
def ANewPost (w : World) (n : Nat) (e : Ending) (w' : World) : Prop :=
  e = .returned (.tuple #[.pointer (some ⟨w.heap.size + 1, 0, none⟩), .int .i64 0]) ∧ Ar 0 w' (w.heap.size + 1) w.heap.size (List.replicate n 0) ∧ Ext [] w w'

set_option maxRecDepth 100000 in
theorem anew_ok (n : Nat) (w : World) (h : n ≤ 1048576) : Calls Tryz.prog 114 #[.int .i64 n] w (ANewPost w n) := by
  obtain ⟨i, hi, hz0, hz1, hz2⟩ := info_parts info5
  have hr := run_make (P := Tryz.prog) w 58 5 i _ Tryz.underlying58 hi hz0 .i64 .i64 n n (by omega) (Int.le_refl _) (by rw [hz2]; omega) (by omega)
  rw [hz1] at hr
  simp only [Int.toNat_natCast] at hr
  have hm : madeCells (Value.int IntKind.u8 0).cells (n * 1) = ((List.replicate n (0 : Int)).map (Value.int .u8)).toArray := by
    apply Array.toList_inj.1
    rw [show (Value.int IntKind.u8 0).cells = #[.int .u8 0] from rfl, toList_madeCells_one]
    simp
  rw [hm] at hr
  clear hm hz0 hz1 hz2 hi i
  generalize hX : ((List.replicate n (0 : Int)).map (Value.int .u8)).toArray = X at hr
  have HX : Hid (((List.replicate n (0 : Int)).map (Value.int .u8)).toArray = X) := hX
  clear hX
  go_enter Tryz.func114, Tryz.ntmps114
  go_wp2
  go_ret2
  refine ⟨?_, ⟨?_, ?_, ?_, ?_⟩, ?_⟩
  · rfl
  · rw [List.length_replicate]
    exact ⟨_, _, heap_alloc2_new w _ _, by decide, rfl⟩
  · unfold Row
    rw [HX.out]
    exact heap_alloc2_old w _ _
  · simpa using h
  · intro x hx
    have := List.eq_of_mem_replicate hx
    omega
  · exact (Ext.alloc [] _ _).trans (Ext.alloc [] _ _)


/-! ### Store -/

theorem store_nil (i n v : Int) (w : World) : Calls Tryz.prog 84 #[.pointer none, .int .i64 i, .int .i64 n, .int .u64 v] w fun e w' => e = .returned (.int .i64 2) ∧ w' = w := by
  go_enter Tryz.func84, Tryz.ntmps84
  go_wp2_with (go_at_call 105; refine met (number_nil _ _ _) ?_)
  go_ret
  exact ⟨rfl, rfl⟩

theorem store_err (i n v : Int) (p g : Nat) (w : World) (L : List Int) (hA : Ar ox w p g L) (hi : I64 i) (e : Int) (he : nerr L.length i n = e) (h0 : e ≠ 0) : Calls Tryz.prog 84 #[.pointer (some ⟨p, ox, none⟩), .int .i64 i, .int .i64 n, .int .u64 v] w fun r w' => r = .returned (.int .i64 e) ∧ w' = w := by
  have K := number_err i n p g w L hA hi e he h0
  clear hA he hi
  go_enter Tryz.func84, Tryz.ntmps84
  go_wp2_with (go_at_call 105; refine met K ?_)
  go_ret
  exact ⟨rfl, rfl⟩

/-- The k-th byte of v, the lowest first. -/
def byteOf (v : Int) (k : Nat) : Int := v / 2 ^ (8 * k) % 256
theorem byteOf_bd (v : Int) (k : Nat) : 0 ≤ byteOf v k ∧ byteOf v k < 256 := by
  unfold byteOf; omega

/-- The arena's bytes are L' now; nothing else has turned. -/
def TurnPost (ox : Nat) (w : World) (p g : Nat) (L' : List Int) (e : Ending) (w' : World) : Prop := e = .returned (.int .i64 0) ∧ Ar ox w' p g L' ∧ Ext [g] w w'

theorem store_ok (i n : Nat) (v : Int) (_hv : 0 ≤ v ∧ v < 18446744073709551616) (p g : Nat) (w : World) (L : List Int) (hA : Ar ox w p g L) (h : i + n ≤ L.length) (hn : n = 1 ∨ n = 2 ∨ n = 4 ∨ n = 8) :
    Calls Tryz.prog 84 #[.pointer (some ⟨p, ox, none⟩), .int .i64 i, .int .i64 n, .int .u64 v] w (TurnPost ox w p g (put L i (byteOf v) n)) := by
  have K := number_in i n p g w L hA h hn
  have hl := hA.len
  have hn8 : n ≤ 8 := by omega
  have HA : Hid (Ar ox w p g L) := hA
  clear hA hn
  go_enter Tryz.func84, Tryz.ntmps84
  go_wp2_with (go_at_call 105; refine met K ?_)
  clear K
  go_loopw [24] (fun q wr => ∃ k : Nat, q = .int .i64 k ∧ k ≤ n ∧ Row wr g (put L i (byteOf v) k) ∧ Ext [g] w wr) (fun q _ => (n - (intOf q)).toNat)
  case atStart => exact ⟨0, rfl, Nat.zero_le _, HA.out.row, Ext.refl _ _⟩
  case round =>
    obtain ⟨k, rfl, hk, hrow, hext⟩ := hrel
    by_cases hkn : k < n
    · have hce := hrow.cell (i + k) (by rw [length_put]; omega)
      have hfr := hrow.frozen (i + k)
      have HR : Hid (Row wr g (put L i (byteOf v) k)) := hrow
      have HE : Hid (Ext [g] w wr) := hext
      clear hrow hext
      go_wp2
      go_roundw
      case rel =>
        refine ⟨k + 1, by go_num, by omega, ?_, HE.out.trans (Ext.setCell _ _ _ _ (by simp))⟩
        exact HR.out.set _ _
      case measure => simp [intOf]; omega
    · go_wp2
      go_ret
      obtain rfl : k = n := by omega
      refine ⟨rfl, HA.out.turn hext (length_put _ _ _ _) hrow ?_, hext⟩
      exact HA.out.ok.put i _ k h (fun j _ => byteOf_bd v j)

/-! ### Load -/

theorem load_nil (i n : Int) (w : World) : Calls Tryz.prog 71 #[.pointer none, .int .i64 i, .int .i64 n] w fun e w' => e = .returned (.tuple #[.int .u64 0, .int .i64 2]) ∧ w' = w := by
  go_enter Tryz.func71, Tryz.ntmps71
  go_wp2_with (go_at_call 105; refine met (number_nil _ _ _) ?_)
  go_ret2
  exact ⟨rfl, rfl⟩

theorem load_err (i n : Int) (p g : Nat) (w : World) (L : List Int) (hA : Ar ox w p g L) (hi : I64 i) (e : Int) (he : nerr L.length i n = e) (h0 : e ≠ 0) : Calls Tryz.prog 71 #[.pointer (some ⟨p, ox, none⟩), .int .i64 i, .int .i64 n] w fun r w' => r = .returned (.tuple #[.int .u64 0, .int .i64 e]) ∧ w' = w := by
  have K := number_err i n p g w L hA hi e he h0
  clear hA he hi
  go_enter Tryz.func71, Tryz.ntmps71
  go_wp2_with (go_at_call 105; refine met K ?_)
  go_ret2
  exact ⟨rfl, rfl⟩

/-- The number of n bytes that stands at place i of L. -/
def numAt (L : List Int) (i n : Nat) : Int := numTo (fun j => L.getD (i + j) 0) n
theorem numAt_bd {L : List Int} (h : Bts L) (i n : Nat) : 0 ≤ numAt L i n ∧ numAt L i n < 2 ^ (8 * n) := numTo_bd _ _ fun j _ => h.getD (i + j)
theorem numAt_zero (L : List Int) (i : Nat) : numAt L i 0 = 0 := rfl
theorem numAt_succ (L : List Int) (i n : Nat) : numAt L i (n + 1) = numAt L i n + L.getD (i + n) 0 * 2 ^ (8 * n) := rfl

theorem ret2_u64 {a b : Int} (h : a = b) : Ending.returned (.tuple #[.int .u64 a, .int .i64 0]) = .returned (.tuple #[.int .u64 b, .int .i64 0]) := by rw [h]

theorem load_ok (i n : Nat) (p g : Nat) (w : World) (L : List Int) (hA : Ar ox w p g L) (h : i + n ≤ L.length) (hn : n = 1 ∨ n = 2 ∨ n = 4 ∨ n = 8) :
    Calls Tryz.prog 71 #[.pointer (some ⟨p, ox, none⟩), .int .i64 i, .int .i64 n] w fun e w' => e = .returned (.tuple #[.int .u64 (numAt L i n), .int .i64 0]) ∧ w' = w := by
  have K := number_in i n p g w L hA h hn
  have hl := hA.len
  have hn8 : n ≤ 8 := by omega
  have HA : Hid (Ar ox w p g L) := hA
  clear hA hn
  go_enter Tryz.func71, Tryz.ntmps71
  go_wp2_with (go_at_call 105; refine met K ?_)
  clear K
  go_loop [25, 10] (fun q r => ∃ k : Nat, q = .int .i64 k ∧ k ≤ n ∧ r = .int .u64 (numAt L i k)) (fun q _ => (n - (intOf q)).toNat)
  case atStart => exact ⟨0, rfl, Nat.zero_le _, rfl⟩
  case round =>
    obtain ⟨k, rfl, hk, rfl⟩ := hrel
    by_cases hkn : k < n
    · have hce := HA.out.row.cell (i + k) (by omega)
      have hbk := HA.out.ok.getD (i + k)
      have hs := numAt_bd HA.out.ok i k
      have HJ : Hid (bits .or .u64 (numAt L i k) (IntKind.u64.wrap (L.getD (i + k) 0 * 2 ^ (8 * k))) = numAt L i (k + 1)) := by
        rw [numAt_succ]; exact or_join _ _ k (by omega) hs.1 hs.2 hbk.1 hbk.2
      clear hs
      generalize hB : L.getD (i + k) 0 = B at *
      generalize numAt L i k = S at *
      have HB : Hid (L.getD (i + k) 0 = B) := hB
      clear hB
      go_wp2
      go_round
      case rel => exact ⟨k + 1, by go_num, by omega, by rw [HJ.out]⟩
      case measure => simp [intOf]; omega
    · obtain rfl : k = n := by omega
      go_wp2
      go_ret2
      exact ⟨rfl, rfl⟩

end Go.Proofs.YtjbbomokgpoilaaGreatDoor

/-
  What copy and clear do to a row of bytes, and what Bytes, Write, Move and Clear of package arena do; no statement is proved here.
-/
namespace Go.Proofs.YtjbbomokgpoilaaGreatDoor
open Go.RowKit

variable {ox : Nat}

/-! ### what copy and clear do to a row of bytes -/

theorem sizeInfo5 : (Tryz.prog.info? 5).map (·.size) = some 1 := by kernel_rfl

/-- The row g holds L now. -/
def laid (w : World) (g : Nat) (L : List Int) : World := w.setRow g (L.map (Value.int .u8)).toArray
theorem laid_row {w : World} {g : Nat} {L L' : List Int} (h : Row w g L) : Row (laid w g L') g L' := setRow_heap w g _ _ _ _ h
theorem laid_ext (w : World) (g : Nat) (L : List Int) : Ext [g] w (laid w g L) := Ext.setRow _ _ _ _ (by simp)

theorem put_append (L : List Int) (o : Nat) (f : Nat → Int) (n : Nat) (h : o + n ≤ L.length) : L.take o ++ ((List.range n).map f ++ L.drop (o + n)) = put L o f n := by
  apply ext_getD
  · rw [length_put]; simp; omega
  · intro j hj
    rw [getD_put L o f n h]
    by_cases h1 : j < o
    · rw [if_neg (by omega)]
      simp only [List.getD]
      rw [List.getElem?_append_left (by simp; omega), List.getElem?_take, if_pos h1]
    · by_cases h2 : j < o + n
      · rw [if_pos (by omega)]
        simp only [List.getD]
        rw [List.getElem?_append_right (by simp; omega), List.getElem?_append_left (by simp; omega)]
        have e : min o L.length = o := by omega
        have e2 : j - o < n := by omega
        simp [e, e2]
      · rw [if_neg (by omega)]
        simp only [List.getD]
        rw [List.getElem?_append_right (by simp; omega), List.getElem?_append_right (by simp; omega)]
        have e : min o L.length = o := by omega
        simp only [List.length_take, List.length_map, List.length_range, List.getElem?_drop, e]
        rw [show o + n + (j - o - n) = j by omega]

theorem xs_range (xs : List Int) : (List.range xs.length).map (fun j => xs.getD j 0) = xs := by
  apply ext_getD (by simp)
  intro j hj
  simp at hj
  simp [List.getD, hj]

theorem run_copy_bytes (w : World) (ty : TypeId) (g o n dc c : Nat) (a : Option Addr) (L xs : List Int) (hr : Row w g L) (hs : Sl w a xs) (hn : xs.length = n) (ho : 0 < n → o + n ≤ L.length) :
    (Builtin.copy_ #[58, 58] ty #[.slice (some ⟨g, o, none⟩) n dc, .slice a n c]).run Tryz.prog w = .ok (goInt n) (laid w g (put L o (fun j => xs.getD j 0) n)) := by
  by_cases h0 : n = 0
  · subst h0
    rw [run_copy_none (P := Tryz.prog) w 58 58 ty 5 _ _ 0 dc 0 c Tryz.underlying58 sizeInfo5 (by simp)]
    simp only [put, laid]
    rw [setRow_self w g _ _ _ hr]; rfl
  · rcases hs.at_ with rfl | ⟨b, q, rfl, hc⟩
    · simp at hn; omega
    · have hcs : ∀ j v, (xs.map (Value.int .u8))[j]? = some v → w.cell? ((⟨b, q, none⟩ : Addr).add j) = some v := by
        intro j v hv
        have hj : j < xs.length := by
          have := (List.getElem?_eq_some_iff.1 hv).1
          simpa using this
        rw [Addr.add_lit, hc j hj, ← hv]
        simp [hj]
      rw [run_copy_row (P := Tryz.prog) w 58 58 ty 5 g o n dc ⟨b, q, none⟩ n c _ 5 (xs.map (Value.int .u8)) Tryz.underlying58 sizeInfo5 hr (by simp [hn]) hcs (by simp [hn]; exact ho (by omega)) (ints_oneCell _ _)]
      have e : (L.map (Value.int .u8)).take o ++ xs.map (Value.int .u8) ++ (L.map (Value.int .u8)).drop (o + n) = (put L o (fun j => xs.getD j 0) n).map (Value.int .u8) := by
        rw [← put_append L o _ n (ho (by omega))]
        subst hn
        rw [xs_range]
        simp
      simp only [List.length_map, hn, laid]
      rw [e]

theorem zeroCells_bytes (n : Nat) : (Builtin.zeroCells (Value.int IntKind.u8 0).cells n).toList = (List.replicate n (0 : Int)).map (Value.int .u8) := by
  rw [show Builtin.zeroCells (Value.int IntKind.u8 0).cells n = madeCells #[.int .u8 0] (n * 1) from rfl, toList_madeCells_one]
  simp

theorem run_clear_bytes (w : World) (ty : TypeId) (g o n c : Nat) (L : List Int) (hr : Row w g L) (ho : 0 < n → o + n ≤ L.length) :
    (Builtin.clear_ #[58] ty #[.slice (some ⟨g, o, none⟩) n c]).run Tryz.prog w = .ok (.tuple #[]) (laid w g (put L o (fun _ => 0) n)) := by
  by_cases h0 : n = 0
  · subst h0
    simp only [put, laid]
    rw [setRow_self w g _ _ _ hr]
    simp [Builtin.clear_, run_underlying Tryz.underlying58]
  · obtain ⟨i, hi, hz0, hz1, hz2⟩ := info_parts info5
    have hst := run_storeCells_at Tryz.prog g o 5 ((List.replicate n (0 : Int)).map (Value.int .u8)) 0 _ w hr (by simp; exact ho (by omega)) (ints_oneCell _ _)
    have e : (L.map (Value.int .u8)).take o ++ (List.replicate n (0 : Int)).map (Value.int .u8) ++ (L.map (Value.int .u8)).drop (o + n) = (put L o (fun _ => 0) n).map (Value.int .u8) := by
      rw [← put_append L o _ n (ho (by omega))]
      have : (List.range n).map (fun _ => (0 : Int)) = List.replicate n 0 := by
        apply List.ext_getElem <;> simp
      rw [this]
      simp
    simp only [Nat.add_zero, List.length_map, List.length_replicate] at hst
    rw [e] at hst
    have hzc := zeroCells_bytes n
    rw [List.map_replicate] at hst hzc
    cases n with
    | zero => omega
    | succ m =>
      simp [Builtin.clear_, run_underlying Tryz.underlying58, zeroValue, typeInfo, hi, hz0, hzc, hst, laid]

/-! ### Bytes -/

/-- The n bytes from place i of L on. -/
def cut (L : List Int) (i n : Nat) : List Int := (List.range n).map fun j => L.getD (i + j) 0
theorem length_cut (L : List Int) (i n : Nat) : (cut L i n).length = n := by simp [cut]
theorem getD_cut (L : List Int) (i n j : Nat) (h : j < n) : (cut L i n).getD j 0 = L.getD (i + j) 0 := by simp [cut, List.getD, h]
theorem bts_cut {L : List Int} (h : Bts L) (i n : Nat) : Bts (cut L i n) := by
  refine Bts.of_getD fun j hj => ?_
  rw [length_cut] at hj
  rw [getD_cut L i n j hj]; exact h.getD _
theorem cut_all (L : List Int) : cut L 0 L.length = L := by
  apply ext_getD (length_cut _ _ _)
  intro j hj
  rw [length_cut] at hj
  rw [getD_cut L 0 _ j hj, Nat.zero_add]

/-- The part of an arena as a slice. -/
theorem part_sl {w : World} {p g : Nat} {L : List Int} (hA : Ar ox w p g L) {i n : Nat} (h : i + n ≤ L.length) : Sl w (some ⟨g, off i n, none⟩) (cut L i n) := by
  refine ⟨?_, bts_cut hA.ok i n⟩
  by_cases h0 : n = 0
  · subst h0; exact .inl rfl
  · rw [off_pos (by omega)]
    refine .inr ⟨g, i, rfl, fun j hj => ?_⟩
    rw [length_cut] at hj
    rw [getD_cut L i n j hj]
    exact hA.row.cell (i + j) (by omega)

/-- A new row with the bytes X, and nothing else has turned. -/
def FreshPost (w : World) (X : List Int) (n : Nat) (e : Ending) (w' : World) : Prop :=
  e = .returned (.tuple #[.slice (some ⟨w.heap.size, 0, none⟩) n n, .int .i64 0]) ∧ Row w' w.heap.size X ∧ Ext [] w w'

/-! ### Write -/

theorem laid_turn {w : World} {p g : Nat} {L : List Int} (hA : Ar ox w p g L) (o : Nat) (f : Nat → Int) (n : Nat) (h : o + n ≤ L.length) (hf : ∀ j, j < n → 0 ≤ f j ∧ f j < 256) : Ar ox (laid w g (put L o f n)) p g (put L o f n) ∧ Ext [g] w (laid w g (put L o f n)) :=
  ⟨hA.turn (laid_ext _ _ _) (length_put _ _ _ _) (laid_row hA.row) (hA.ok.put o f n h hf), laid_ext _ _ _⟩

theorem put_off (L : List Int) (i n : Nat) (f : Nat → Int) : put L (off i n) f n = put L i f n := by
  cases n with
  | zero => rfl
  | succ m => rw [off_pos (by omega)]

/-! ### Clear -/

theorem clear_nil (i n : Int) (w : World) : Calls Tryz.prog 104 #[.pointer none, .int .i64 i, .int .i64 n] w fun e w' => e = .returned (.int .i64 2) ∧ w' = w := by
  go_enter Tryz.func104, Tryz.ntmps104
  go_wp2_with (go_at_call 126; refine met (part_nil _ _ _) ?_)
  go_ret
  exact ⟨rfl, rfl⟩

theorem clear_err (i n : Int) (p g : Nat) (w : World) (L : List Int) (hA : Ar ox w p g L) (hi : I64 i) (e : Int) (he : perr L.length i n = e) (h0 : e ≠ 0) : Calls Tryz.prog 104 #[.pointer (some ⟨p, ox, none⟩), .int .i64 i, .int .i64 n] w fun r w' => r = .returned (.int .i64 e) ∧ w' = w := by
  have K := part_err i n p g w L hA hi e he h0
  clear hA he hi
  go_enter Tryz.func104, Tryz.ntmps104
  go_wp2_with (go_at_call 126; refine met K ?_)
  go_ret
  exact ⟨rfl, rfl⟩

theorem clear_ok (i n : Nat) (p g : Nat) (w : World) (L : List Int) (hA : Ar ox w p g L) (h : i + n ≤ L.length) :
    Calls Tryz.prog 104 #[.pointer (some ⟨p, ox, none⟩), .int .i64 i, .int .i64 n] w (TurnPost ox w p g (put L i (fun _ => 0) n)) := by
  have K := part_in i n p g w L hA h
  have hcp := fun ty => run_clear_bytes w ty g (off i n) n n L hA.row (fun h0 => by rw [off_pos h0]; exact h)
  rw [put_off] at hcp
  have HT : Hid (_ ∧ _) := laid_turn hA i (fun _ => 0) n h (fun j _ => by simp)
  generalize put L i (fun _ => 0) n = L' at *
  generalize laid w g L' = w2 at *
  clear hA h
  go_enter Tryz.func104, Tryz.ntmps104
  go_wp2_with (go_at_call 126; refine met K ?_)
  go_ret
  exact ⟨rfl, HT.out.1, HT.out.2⟩

/-! ### Move -/

end Go.Proofs.YtjbbomokgpoilaaGreatDoor

/-
  The sizes of slots, their pages and their room, at the heap's seat; no statement is proved here.
-/
namespace Go.Proofs.YtjbbomokgpoilaaGreatDoor
open Go.RowKit

/-- The sizes of slots. -/
def sz (k : Nat) : Int := [8, 16, 24, 32, 48, 64, 96, 128].getD k 0
def Gl (w : World) : Prop := ∀ k, k ≤ 7 → w.cell? ⟨0, k, none⟩ = some (.int .i64 (sz k))
theorem Gl.keep0 {w w' : World} (h : Gl w) (e : Ext [] w w') : Gl w' := fun k hk => e.cell (h k hk) (by simp)

def Ok (s : Int) : Prop := 1 ≤ s ∧ s ≤ 65536
instance (s : Int) : Decidable (Ok s) := inferInstanceAs (Decidable (_ ∧ _))
def clsN (s : Int) : Nat := if s ≤ 8 then 0 else if s ≤ 16 then 1 else if s ≤ 24 then 2 else if s ≤ 32 then 3 else if s ≤ 48 then 4 else if s ≤ 64 then 5 else if s ≤ 96 then 6 else 7
def clsV (s : Int) : Int := if Ok s ∧ s ≤ 128 then clsN s else 0
def clsE (s : Int) : Int := if Ok s then (if s ≤ 128 then 0 else 6) else 2
def pgV (s : Int) : Int := if Ok s then (s + 255) / 256 else 0
def pgE (s : Int) : Int := if Ok s then 0 else 2
def rmV (s : Int) : Int := if Ok s then (if s ≤ 128 then sz (clsN s) else (s + 255) / 256 * 256) else 0
def slV (c : Int) : Int := if 0 ≤ c ∧ c ≤ 7 then sz c.toNat else 0
def slE (c : Int) : Int := if 0 ≤ c ∧ c ≤ 7 then 0 else 2
def snV (c : Int) : Int := if 0 ≤ c ∧ c ≤ 7 then 256 / sz c.toNat else 0

theorem allowed_any (s : Int) (w : World) : Calls Tryz.prog 121 #[.int .i64 s] w fun e w' => e = .returned (.bool (decide (Ok s))) ∧ w' = w := by
  by_cases h1 : 1 ≤ s
  · by_cases h2 : s ≤ 65536
    · have h : decide (Ok s) = true := by simp [Ok, h1, h2]
      rw [h]
      go_enter Tryz.func121, Tryz.ntmps121
      go_wp2
      go_ret
      exact ⟨rfl, rfl⟩
    · have h : decide (Ok s) = false := by simp [Ok, h2]
      rw [h]
      go_enter Tryz.func121, Tryz.ntmps121
      go_wp2
      go_ret
      exact ⟨rfl, rfl⟩
  · have h : decide (Ok s) = false := by simp [Ok, h1]
    rw [h]
    go_enter Tryz.func121, Tryz.ntmps121
    go_wp2
    go_ret
    exact ⟨rfl, rfl⟩

theorem slot_any (c : Int) (w : World) (hG : Gl w) : Calls Tryz.prog 120 #[.int .i64 c] w fun e w' => e = .returned (.tuple #[.int .i64 (slV c), .int .i64 (slE c)]) ∧ w' = w := by
  by_cases h : 0 ≤ c ∧ c ≤ 7
  · obtain ⟨n, rfl⟩ : ∃ n : Nat, c = n := ⟨c.toNat, by omega⟩
    have hc := hG n (by omega)
    have hv : slV (n : Int) = sz n := by rw [slV, if_pos h]; rfl
    have he : slE (n : Int) = 0 := by rw [slE, if_pos h]
    rw [hv, he]
    clear hG hv he
    generalize sz n = z at *
    have h1 : ¬ ((n : Int) < 0) := by omega
    have h2 : ¬ (8 ≤ (n : Int)) := by omega
    have h3 : n < 8 := by omega
    clear h
    go_enter Tryz.func120, Tryz.ntmps120
    go_wp2
    go_ret2
    exact ⟨rfl, rfl⟩
  · have hv : slV c = 0 := by rw [slV, if_neg h]
    have he : slE c = 2 := by rw [slE, if_neg h]
    rw [hv, he]
    clear hG hv he
    rcases (by omega : c < 0 ∨ (¬ c < 0 ∧ 8 ≤ c)) with h1 | ⟨h1, h2⟩
    all_goals
      clear h
      go_enter Tryz.func120, Tryz.ntmps120
      go_wp2
      go_ret2
      exact ⟨rfl, rfl⟩

theorem pages_any (s : Int) (w : World) : Calls Tryz.prog 91 #[.int .i64 s] w fun e w' => e = .returned (.tuple #[.int .i64 (pgV s), .int .i64 (pgE s)]) ∧ w' = w := by
  have K := allowed_any s w
  by_cases h : Ok s
  · have hv : pgV s = (s + 255) / 256 := by rw [pgV, if_pos h]
    have he : pgE s = 0 := by rw [pgE, if_pos h]
    rw [hv, he]
    rw [show decide (Ok s) = true by simpa using h] at K
    obtain ⟨h1, h2⟩ := h
    clear hv he
    have e1 : IntKind.wrap .i64 (s + 256) = s + 256 := by rw [IntKind.wrap_i64]; omega
    have e2 : IntKind.wrap .i64 (s + 256 - 1) = s + 255 := by rw [IntKind.wrap_i64]; omega
    have e3 : Int.tdiv (s + 255) 256 = (s + 255) / 256 := Int.tdiv_eq_ediv_of_nonneg (by omega)
    have e4 : IntKind.wrap .i64 ((s + 255) / 256) = (s + 255) / 256 := by rw [IntKind.wrap_i64]; omega
    go_enter Tryz.func91, Tryz.ntmps91
    go_wp2_with (go_at_call 121; refine met K ?_)
    go_ret2
    exact ⟨rfl, rfl⟩
  · have hv : pgV s = 0 := by rw [pgV, if_neg h]
    have he : pgE s = 2 := by rw [pgE, if_neg h]
    rw [hv, he]
    rw [show decide (Ok s) = false by simpa using h] at K
    clear hv he h
    go_enter Tryz.func91, Tryz.ntmps91
    go_wp2_with (go_at_call 121; refine met K ?_)
    go_ret2
    exact ⟨rfl, rfl⟩


theorem k8 {k : Nat} (h : k < 8) : k = 0 ∨ k = 1 ∨ k = 2 ∨ k = 3 ∨ k = 4 ∨ k = 5 ∨ k = 6 ∨ k = 7 := by omega

theorem cls_at {s : Int} {k : Nat} (hk : k < 8) (hlo : ∀ j, j < k → sz j < s) (h : s ≤ sz k) : clsN s = k := by
  have h1 := hlo (k - 1)
  rcases k8 hk with rfl | rfl | rfl | rfl | rfl | rfl | rfl | rfl <;> simp [sz] at h h1 <;> unfold clsN
  all_goals
    repeat' split
    all_goals omega

theorem sz_le {k : Nat} (h : k < 8) : 8 ≤ sz k ∧ sz k ≤ 128 := by
  rcases k8 h with rfl | rfl | rfl | rfl | rfl | rfl | rfl | rfl <;> decide

theorem idx_sz (w : World) (k : Nat) (h : k < 8) : (Instr.index 177 (.agg #[.int .i64 8, .int .i64 16, .int .i64 24, .int .i64 32, .int .i64 48, .int .i64 64, .int .i64 96, .int .i64 128]) (.int .i64 (k : Int))).run Tryz.prog w = .ok (.int .i64 (sz k)) w := by
  rcases k8 h with rfl | rfl | rfl | rfl | rfl | rfl | rfl | rfl <;> simp [Instr.index, run_underlying Tryz.underlying177, asIntOf, go_sem, sz]

set_option maxRecDepth 100000 in
set_option maxHeartbeats 4000000 in
theorem class_any (s : Int) (w : World) (hG : Gl w) : Calls Tryz.prog 119 #[.int .i64 s] w fun e w' => e = .returned (.tuple #[.int .i64 (clsV s), .int .i64 (clsE s)]) ∧ w' = w := by
  have K := allowed_any s w
  by_cases h : Ok s
  · rw [show decide (Ok s) = true by simpa using h] at K
    have c0 := hG 0 (by omega)
    have c1 := hG 1 (by omega)
    have c2 := hG 2 (by omega)
    have c3 := hG 3 (by omega)
    have c4 := hG 4 (by omega)
    have c5 := hG 5 (by omega)
    have c6 := hG 6 (by omega)
    have c7 := hG 7 (by omega)
    simp only [sz, List.getD_cons_succ, List.getD_cons_zero] at c0 c1 c2 c3 c4 c5 c6 c7
    have HO := hid h
    clear h hG
    go_enter Tryz.func119, Tryz.ntmps119
    go_wp2_with (go_at_call 121; refine met K ?_)
    go_loopw [10] (fun q wr => ∃ k : Nat, q = .int .i64 k ∧ k ≤ 8 ∧ wr = w ∧ ∀ j, j < k → sz j < s) (fun q _ => (8 - (intOf q)).toNat)
    case atStart => exact ⟨0, rfl, by omega, rfl, by omega⟩
    case round =>
      obtain ⟨k, rfl, hk, rfl, hlo⟩ := hrel
      by_cases hlt : k < 8
      · have hAt := cls_at (s := s) hlt hlo
        have hZ := sz_le hlt
        have HL := hid hlo
        clear hlo
        by_cases hs : s ≤ sz k
        · have hv : Hid (clsV s = k) := by show _ = _; rw [clsV, if_pos ⟨HO.out, by omega⟩, hAt hs]
          have he : Hid (clsE s = 0) := by show _ = _; rw [clsE, if_pos HO.out, if_pos (by omega)]
          have hI := idx_sz wr k hlt
          have h8 : (k : Int) < 8 := by omega
          clear hAt hZ hk hlt
          generalize sz k = z at *
          go_wp2_with fail
          go_ret2
          exact ⟨by rw [hv.out, he.out]; rfl, rfl⟩
        · have hn : Hid (∀ j, j < k + 1 → sz j < s) := fun j hj => by
            rcases (by omega : j < k ∨ j = k) with h | rfl
            · exact HL.out j h
            · omega
          have hI := idx_sz wr k hlt
          have h8 : (k : Int) < 8 := by omega
          clear hAt hZ hk HL
          generalize sz k = z at *
          go_wp2_with fail
          go_roundw
          case rel => exact ⟨k + 1, by go_num, by omega, trivial, hn.out⟩
          case measure => simp [intOf]; omega
      · obtain rfl : k = 8 := by omega
        have hs : ¬ s ≤ 128 := by have := hlo 7 (by omega); simp [sz] at this; omega
        have hv : Hid (clsV s = 0) := by show _ = _; rw [clsV, if_neg (by simp [hs])]
        have he : Hid (clsE s = 6) := by show _ = _; rw [clsE, if_pos HO.out, if_neg hs]
        clear hlo hk hlt
        go_wp2_with fail
        go_ret2
        exact ⟨by rw [hv.out, he.out]; rfl, rfl⟩
  · have hv : clsV s = 0 := by rw [clsV, if_neg (by simp [h])]
    have he : clsE s = 2 := by rw [clsE, if_neg h]
    rw [hv, he]
    rw [show decide (Ok s) = false by simpa using h] at K
    clear hv he h hG
    go_enter Tryz.func119, Tryz.ntmps119
    go_wp2_with (go_at_call 121; refine met K ?_)
    go_ret2
    exact ⟨rfl, rfl⟩

theorem clsN_lt (s : Int) : clsN s < 8 := by unfold clsN; repeat' split
                                             all_goals omega

set_option maxRecDepth 100000 in
set_option maxHeartbeats 4000000 in
theorem room_any (s : Int) (w : World) (hG : Gl w) : Calls Tryz.prog 90 #[.int .i64 s] w fun e w' => e = .returned (.tuple #[.int .i64 (rmV s), .int .i64 (pgE s)]) ∧ w' = w := by
  have K := class_any s w hG
  by_cases h : Ok s
  · by_cases h1 : s ≤ 128
    · have hv : rmV s = sz (clsN s) := by rw [rmV, if_pos h, if_pos h1]
      have he : pgE s = 0 := by rw [pgE, if_pos h]
      have hc : clsE s = 0 := by rw [clsE, if_pos h, if_pos h1]
      have hx : clsV s = clsN s := by rw [clsV, if_pos ⟨h, h1⟩]
      have hl := clsN_lt s
      rw [hc, hx] at K
      rw [hv, he]
      have K2 := slot_any (clsN s) w hG
      rw [show slV (clsN s) = sz (clsN s) by rw [slV, if_pos (by omega)]; rfl, show slE (clsN s) = 0 by rw [slE, if_pos (by omega)]] at K2
      clear hv he hc hx hG h h1 hl
      generalize sz (clsN s) = z at *
      generalize clsN s = m at *
      go_enter Tryz.func90, Tryz.ntmps90
      go_wp2_with (first | (go_at_call 119; refine met K ?_) | (go_at_call 120; refine met K2 ?_))
      go_ret2
      exact ⟨rfl, rfl⟩
    · have hv : rmV s = (s + 255) / 256 * 256 := by rw [rmV, if_pos h, if_neg h1]
      have he : pgE s = 0 := by rw [pgE, if_pos h]
      have hc : clsE s = 6 := by rw [clsE, if_pos h, if_neg h1]
      have hx : clsV s = 0 := by rw [clsV, if_neg (by simp [h1])]
      have K2 := pages_any s w
      rw [he, show pgV s = (s + 255) / 256 by rw [pgV, if_pos h]] at K2
      rw [hc, hx] at K
      rw [hv, he]
      obtain ⟨g1, g2⟩ := h
      have e1 : IntKind.wrap .i64 ((s + 255) / 256 * 256) = (s + 255) / 256 * 256 := by rw [IntKind.wrap_i64]; omega
      clear hv he hc hx hG h1
      go_enter Tryz.func90, Tryz.ntmps90
      go_wp2_with (first | (go_at_call 119; refine met K ?_) | (go_at_call 91; refine met K2 ?_))
      go_ret2
      exact ⟨rfl, rfl⟩
  · have hv : rmV s = 0 := by rw [rmV, if_neg h]
    have he : pgE s = 2 := by rw [pgE, if_neg h]
    have hc : clsE s = 2 := by rw [clsE, if_neg h]
    have hx : clsV s = 0 := by rw [clsV, if_neg (by simp [h])]
    rw [hc, hx] at K
    rw [hv, he]
    clear hv he hc hx hG h
    go_enter Tryz.func90, Tryz.ntmps90
    go_wp2_with (go_at_call 119; refine met K ?_)
    go_ret2
    exact ⟨rfl, rfl⟩


end Go.Proofs.YtjbbomokgpoilaaGreatDoor

/-
  Spans: their addresses, a new one, the pages that they own, a slot that is taken; no statement is proved here.
-/
namespace Go.Proofs.YtjbbomokgpoilaaGreatDoor
open Go.RowKit

theorem pageAddr_any (p : Int) (w : World) (h : 0 ≤ p ∧ p ≤ 1000000) : Calls Tryz.prog 106 #[.int .i64 p] w fun e w' => e = .returned (.int .i64 ((p + 1) * 256)) ∧ w' = w := by
  have h1 : IntKind.i64.wrap (p + 1) = p + 1 := by rw [IntKind.wrap_i64]; omega
  have h2 : IntKind.i64.wrap ((p + 1) * 256) = (p + 1) * 256 := by rw [IntKind.wrap_i64]; omega
  go_enter Tryz.func106, Tryz.ntmps106
  go_wp2
  go_ret
  exact ⟨rfl, rfl⟩

/-- What is known of the objects in a span's slots: sizes and tags. -/
abbrev Slot := Int × Int
def scells (S : List Slot) : List Value := S.flatMap fun x => [.int .i64 x.1, .int .i64 x.2]

/-- A span: its struct is block s, its slots are block g. -/
structure Sp (w : World) (s g : Nat) (start pages room used : Int) (S : List Slot) : Prop where
  box : w.heap[s]? = some (.cells #[.int .i64 start, .int .i64 pages, .int .i64 room, .int .i64 used, .slice (some ⟨g, 0, none⟩) S.length S.length] 141 (0, 0))
  row : w.heap[g]? = some (.cells (scells S).toArray 143 (0, 0))
theorem Sp.keep {E : List Nat} {w w' : World} {s g : Nat} {start pages room used : Int} {S : List Slot} (h : Sp w s g start pages room used S) (e : Ext E w w') (hs : s ∉ E) (hg : g ∉ E) : Sp w' s g start pages room used S := ⟨e.keep h.box hs, e.keep h.row hg⟩
theorem Sp.c0 {w : World} {s g : Nat} {start pages room used : Int} {S : List Slot} (h : Sp w s g start pages room used S) : w.cell? ⟨s, 0, none⟩ = some (.int .i64 start) := by rw [cell_of_row _ _ _ _ _ _ h.box]; rfl
theorem Sp.c1 {w : World} {s g : Nat} {start pages room used : Int} {S : List Slot} (h : Sp w s g start pages room used S) : w.cell? ⟨s, 1, none⟩ = some (.int .i64 pages) := by rw [cell_of_row _ _ _ _ _ _ h.box]; rfl
theorem Sp.c2 {w : World} {s g : Nat} {start pages room used : Int} {S : List Slot} (h : Sp w s g start pages room used S) : w.cell? ⟨s, 2, none⟩ = some (.int .i64 room) := by rw [cell_of_row _ _ _ _ _ _ h.box]; rfl
theorem Sp.c3 {w : World} {s g : Nat} {start pages room used : Int} {S : List Slot} (h : Sp w s g start pages room used S) : w.cell? ⟨s, 3, none⟩ = some (.int .i64 used) := by rw [cell_of_row _ _ _ _ _ _ h.box]; rfl
theorem Sp.c4 {w : World} {s g : Nat} {start pages room used : Int} {S : List Slot} (h : Sp w s g start pages room used S) : w.cell? ⟨s, 4, none⟩ = some (.slice (some ⟨g, 0, none⟩) S.length S.length) := by rw [cell_of_row _ _ _ _ _ _ h.box]; rfl
theorem Sp.fr {w : World} {s g : Nat} {start pages room used : Int} {S : List Slot} (h : Sp w s g start pages room used S) (i : Nat) : w.frozen? ⟨s, i, none⟩ = false := frozen_of_row _ _ _ _ _ h.box
theorem Sp.fg {w : World} {s g : Nat} {start pages room used : Int} {S : List Slot} (h : Sp w s g start pages room used S) (i : Nat) : w.frozen? ⟨g, i, none⟩ = false := frozen_of_row _ _ _ _ _ h.row

theorem scells_get (S : List Slot) (i : Nat) (h : i < S.length) : (scells S)[i * 2]? = some (.int .i64 (S.getD i (0, 0)).1) ∧ (scells S)[i * 2 + 1]? = some (.int .i64 (S.getD i (0, 0)).2) := by
  induction S generalizing i with
  | nil => simp at h
  | cons x S ih =>
    cases i with
    | zero => simp [scells]
    | succ i =>
      have := ih i (by simpa using h)
      rw [show (i + 1) * 2 = i * 2 + 2 by omega]
      simpa [scells] using this
theorem Sp.at_ {w : World} {s g : Nat} {start pages room used : Int} {S : List Slot} (h : Sp w s g start pages room used S) {i : Nat} (hi : i < S.length) : w.cell? ⟨g, i * 2, none⟩ = some (.int .i64 (S.getD i (0, 0)).1) ∧ w.cell? ⟨g, i * 2 + 1, none⟩ = some (.int .i64 (S.getD i (0, 0)).2) := by
  obtain ⟨h1, h2⟩ := scells_get S i hi
  constructor
  · rw [cell_of_row _ _ _ _ _ _ h.row]; simpa using h1
  · rw [cell_of_row _ _ _ _ _ _ h.row]; simpa using h2

set_option maxRecDepth 100000 in
set_option maxHeartbeats 1000000 in
theorem addr_any (s g : Nat) (start pages room used i : Int) (S : List Slot) (w : World) (hS : Sp w s g start pages room used S) (h1 : 0 ≤ start ∧ start ≤ 1024) (h2 : 0 ≤ room ∧ room ≤ 65536) (h3 : 0 ≤ i ∧ i ≤ 65536) :
    Calls Tryz.prog 74 #[.pointer (some ⟨s, 0, none⟩), .int .i64 i] w (SayPost w (.int .i64 ((start + 1) * 256 + i * room))) := by
  have c0 := hS.c0
  have c2 := hS.c2
  have hm : 0 ≤ i * room ∧ i * room ≤ 65536 * 65536 := ⟨Int.mul_nonneg h3.1 h2.1, Int.mul_le_mul h3.2 h2.2 h2.1 (by omega)⟩
  obtain ⟨q, hq⟩ : ∃ q, q = i * room := ⟨_, rfl⟩
  rw [← hq] at hm ⊢
  have e1 : IntKind.i64.wrap (i * room) = q := by rw [← hq, IntKind.wrap_i64]; omega
  have e2 : IntKind.i64.wrap ((start + 1) * 256 + q) = (start + 1) * 256 + q := by rw [IntKind.wrap_i64]; omega
  have K := fun u => pageAddr_any start u (by omega)
  clear hS hq
  go_enter Tryz.func74, Tryz.ntmps74
  go_wp2_with fail
  go_region_held3 (fun w' => w'.cell? ⟨s, 0, none⟩ = some (.int .i64 start) ∧ w'.cell? ⟨s, 2, none⟩ = some (.int .i64 room)) (go_keep)
    (first | (go_at_call 106; refine met (K _) ?_) | fail "no arm")
  go_wp2_with fail
  go_ret
  exact ⟨rfl, Ext.drew _ _⟩

end Go.Proofs.YtjbbomokgpoilaaGreatDoor

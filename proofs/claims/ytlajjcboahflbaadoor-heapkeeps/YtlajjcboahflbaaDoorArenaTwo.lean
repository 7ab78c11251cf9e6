/-
  What copy and clear do to a row of bytes, and what Bytes, Write, Move and Clear of package arena do; no statement is proved here.
-/
import Derived.Test.YtlajjcboahflbaaDoorArena
namespace Go.Proofs.YtlajjcboahflbaaDoor
open Go.RowKit

variable {ox : Nat}

/-! ### what copy and clear do to a row of bytes -/

theorem sizeInfo5 : (Tryd.prog.info? 5).map (·.size) = some 1 := by kernel_rfl

/-- The row g holds L now. -/
def laid (w : World) (g : Nat) (L : List Int) : World := w.setRow g (L.map (Value.int .u8)).toArray
theorem laid_row {w : World} {g : Nat} {L L' : List Int} (h : Row w g L) : Row (laid w g L') g L' := setRow_heap w g _ _ _ _ h
theorem laid_ext (w : World) (g : Nat) (L : List Int) : Ext [g] w (laid w g L) := Ext.setRow _ _ _ _ (by simp)

theorem put_append (L : List Int) (o : Nat) (f : Nat → Int) (n : Nat) (h : o + n ≤ L.length) : L.take o ++ ((List.range n).map f ++ L.drop (o + n)) = put L o f n := by
  apply ext_getD
  · rw [length_put]; simp; omega
  · intro j hj
    rw [getD_put L o f n h]
    by_cases h1 : j < o
    · rw [if_neg (by omega)]
      simp only [List.getD]
      rw [List.getElem?_append_left (by simp; omega), List.getElem?_take, if_pos h1]
    · by_cases h2 : j < o + n
      · rw [if_pos (by omega)]
        simp only [List.getD]
        rw [List.getElem?_append_right (by simp; omega), List.getElem?_append_left (by simp; omega)]
        have e : min o L.length = o := by omega
        have e2 : j - o < n := by omega
        simp [e, e2]
      · rw [if_neg (by omega)]
        simp only [List.getD]
        rw [List.getElem?_append_right (by simp; omega), List.getElem?_append_right (by simp; omega)]
        have e : min o L.length = o := by omega
        simp only [List.length_take, List.length_map, List.length_range, List.getElem?_drop, e]
        rw [show o + n + (j - o - n) = j by omega]

theorem xs_range (xs : List Int) : (List.range xs.length).map (fun j => xs.getD j 0) = xs := by
  apply ext_getD (by simp)
  intro j hj
  simp at hj
  simp [List.getD, hj]

theorem run_copy_bytes (w : World) (ty : TypeId) (g o n dc c : Nat) (a : Option Addr) (L xs : List Int) (hr : Row w g L) (hs : Sl w a xs) (hn : xs.length = n) (ho : 0 < n → o + n ≤ L.length) :
    (Builtin.copy_ #[40, 40] ty #[.slice (some ⟨g, o, none⟩) n dc, .slice a n c]).run Tryd.prog w = .ok (goInt n) (laid w g (put L o (fun j => xs.getD j 0) n)) := by
  by_cases h0 : n = 0
  · subst h0
    rw [run_copy_none (P := Tryd.prog) w 40 40 ty 5 _ _ 0 dc 0 c Tryd.underlying40 sizeInfo5 (by simp)]
    simp only [put, laid]
    rw [setRow_self w g _ _ _ hr]; rfl
  · rcases hs.at_ with rfl | ⟨b, q, rfl, hc⟩
    · simp at hn; omega
    · have hcs : ∀ j v, (xs.map (Value.int .u8))[j]? = some v → w.cell? ((⟨b, q, none⟩ : Addr).add j) = some v := by
        intro j v hv
        have hj : j < xs.length := by
          have := (List.getElem?_eq_some_iff.1 hv).1
          simpa using this
        rw [Addr.add_lit, hc j hj, ← hv]
        simp [hj]
      rw [run_copy_row (P := Tryd.prog) w 40 40 ty 5 g o n dc ⟨b, q, none⟩ n c _ 5 (xs.map (Value.int .u8)) Tryd.underlying40 sizeInfo5 hr (by simp [hn]) hcs (by simp [hn]; exact ho (by omega)) (ints_oneCell _ _)]
      have e : (L.map (Value.int .u8)).take o ++ xs.map (Value.int .u8) ++ (L.map (Value.int .u8)).drop (o + n) = (put L o (fun j => xs.getD j 0) n).map (Value.int .u8) := by
        rw [← put_append L o _ n (ho (by omega))]
        subst hn
        rw [xs_range]
        simp
      simp only [List.length_map, hn, laid]
      rw [e]

theorem zeroCells_bytes (n : Nat) : (Builtin.zeroCells (Value.int IntKind.u8 0).cells n).toList = (List.replicate n (0 : Int)).map (Value.int .u8) := by
  rw [show Builtin.zeroCells (Value.int IntKind.u8 0).cells n = madeCells #[.int .u8 0] (n * 1) from rfl, toList_madeCells_one]
  simp

theorem run_clear_bytes (w : World) (ty : TypeId) (g o n c : Nat) (L : List Int) (hr : Row w g L) (ho : 0 < n → o + n ≤ L.length) :
    (Builtin.clear_ #[40] ty #[.slice (some ⟨g, o, none⟩) n c]).run Tryd.prog w = .ok (.tuple #[]) (laid w g (put L o (fun _ => 0) n)) := by
  by_cases h0 : n = 0
  · subst h0
    simp only [put, laid]
    rw [setRow_self w g _ _ _ hr]
    simp [Builtin.clear_, run_underlying Tryd.underlying40]
  · obtain ⟨i, hi, hz0, hz1, hz2⟩ := info_parts info5
    have hst := run_storeCells_at Tryd.prog g o 5 ((List.replicate n (0 : Int)).map (Value.int .u8)) 0 _ w hr (by simp; exact ho (by omega)) (ints_oneCell _ _)
    have e : (L.map (Value.int .u8)).take o ++ (List.replicate n (0 : Int)).map (Value.int .u8) ++ (L.map (Value.int .u8)).drop (o + n) = (put L o (fun _ => 0) n).map (Value.int .u8) := by
      rw [← put_append L o _ n (ho (by omega))]
      have : (List.range n).map (fun _ => (0 : Int)) = List.replicate n 0 := by
        apply List.ext_getElem <;> simp
      rw [this]
      simp
    simp only [Nat.add_zero, List.length_map, List.length_replicate] at hst
    rw [e] at hst
    have hzc := zeroCells_bytes n
    rw [List.map_replicate] at hst hzc
    cases n with
    | zero => omega
    | succ m =>
      simp [Builtin.clear_, run_underlying Tryd.underlying40, zeroValue, typeInfo, hi, hz0, hzc, hst, laid]

/-! ### Bytes -/

theorem bytes_nil (i n : Int) (w : World) : Calls Tryd.prog 36 #[.pointer none, .int .i64 i, .int .i64 n] w fun e w' => e = .returned (.tuple #[.slice none 0 0, .int .i64 2]) ∧ w' = w := by
  go_enter Tryd.func36, Tryd.ntmps36
  go_wp2_with (go_at_call 67; refine met (part_nil _ _ _) ?_)
  go_ret2
  exact ⟨rfl, rfl⟩

theorem bytes_err (i n : Int) (p g : Nat) (w : World) (L : List Int) (hA : Ar ox w p g L) (hi : I64 i) (e : Int) (he : perr L.length i n = e) (h0 : e ≠ 0) : Calls Tryd.prog 36 #[.pointer (some ⟨p, ox, none⟩), .int .i64 i, .int .i64 n] w fun r w' => r = .returned (.tuple #[.slice none 0 0, .int .i64 e]) ∧ w' = w := by
  have K := part_err i n p g w L hA hi e he h0
  clear hA he hi
  go_enter Tryd.func36, Tryd.ntmps36
  go_wp2_with (go_at_call 67; refine met K ?_)
  go_ret2
  exact ⟨rfl, rfl⟩

/-- The n bytes from place i of L on. -/
def cut (L : List Int) (i n : Nat) : List Int := (List.range n).map fun j => L.getD (i + j) 0
theorem length_cut (L : List Int) (i n : Nat) : (cut L i n).length = n := by simp [cut]
theorem getD_cut (L : List Int) (i n j : Nat) (h : j < n) : (cut L i n).getD j 0 = L.getD (i + j) 0 := by simp [cut, List.getD, h]
theorem bts_cut {L : List Int} (h : Bts L) (i n : Nat) : Bts (cut L i n) := by
  refine Bts.of_getD fun j hj => ?_
  rw [length_cut] at hj
  rw [getD_cut L i n j hj]; exact h.getD _
theorem cut_all (L : List Int) : cut L 0 L.length = L := by
  apply ext_getD (length_cut _ _ _)
  intro j hj
  rw [length_cut] at hj
  rw [getD_cut L 0 _ j hj, Nat.zero_add]

/-- The part of an arena as a slice. -/
theorem part_sl {w : World} {p g : Nat} {L : List Int} (hA : Ar ox w p g L) {i n : Nat} (h : i + n ≤ L.length) : Sl w (some ⟨g, off i n, none⟩) (cut L i n) := by
  refine ⟨?_, bts_cut hA.ok i n⟩
  by_cases h0 : n = 0
  · subst h0; exact .inl rfl
  · rw [off_pos (by omega)]
    refine .inr ⟨g, i, rfl, fun j hj => ?_⟩
    rw [length_cut] at hj
    rw [getD_cut L i n j hj]
    exact hA.row.cell (i + j) (by omega)

/-- A new row with the bytes X, and nothing else has turned. -/
def FreshPost (w : World) (X : List Int) (n : Nat) (e : Ending) (w' : World) : Prop :=
  e = .returned (.tuple #[.slice (some ⟨w.heap.size, 0, none⟩) n n, .int .i64 0]) ∧ Row w' w.heap.size X ∧ Ext [] w w'

theorem bytes_ok (i n : Nat) (p g : Nat) (w : World) (L : List Int) (hA : Ar ox w p g L) (h : i + n ≤ L.length) :
    Calls Tryd.prog 36 #[.pointer (some ⟨p, ox, none⟩), .int .i64 i, .int .i64 n] w (FreshPost w (cut L i n) n) := by
  have K := part_in i n p g w L hA h
  have hl := hA.len
  obtain ⟨t, ht, hz0, hz1, hz2⟩ := info_parts info5
  have hr := run_make (P := Tryd.prog) w 40 5 t _ Tryd.underlying40 ht hz0 .i64 .i64 n n (by omega) (Int.le_refl _) (by rw [hz2]; omega) (by omega)
  rw [hz1] at hr
  simp only [Int.toNat_natCast] at hr
  have hm : madeCells (Value.int IntKind.u8 0).cells (n * 1) = ((List.replicate n (0 : Int)).map (Value.int .u8)).toArray := by
    apply Array.toList_inj.1
    rw [show (Value.int IntKind.u8 0).cells = #[.int .u8 0] from rfl, toList_madeCells_one]
    simp
  rw [hm] at hr
  clear hm hz0 hz1 hz2 ht t
  have hrow : Row (w.alloc (.cells ((List.replicate n (0 : Int)).map (Value.int .u8)).toArray 5)) w.heap.size (List.replicate n 0) := heap_alloc_new w _
  have hcp := fun ty => run_copy_bytes (w.alloc (.cells ((List.replicate n (0 : Int)).map (Value.int .u8)).toArray 5)) ty w.heap.size 0 n n n (some ⟨g, off i n, none⟩) (List.replicate n 0) (cut L i n) hrow
    ((part_sl hA h).keep (Ext.alloc [] w _) (by simp)) (length_cut _ _ _) (by simp)
  have hX : put (List.replicate n 0) 0 (fun j => (cut L i n).getD j 0) n = cut L i n := by
    apply ext_getD
    · rw [length_put, length_cut]; simp
    · intro j hj
      rw [length_put] at hj
      simp at hj
      rw [getD_put _ _ _ _ (by simp), if_pos (by omega)]
      rfl
  rw [hX] at hcp
  have HR : Hid (Row (laid (w.alloc (.cells ((List.replicate n (0 : Int)).map (Value.int .u8)).toArray 5)) w.heap.size (cut L i n)) w.heap.size (cut L i n)) := laid_row hrow
  have HE : Hid (Ext [] w (laid (w.alloc (.cells ((List.replicate n (0 : Int)).map (Value.int .u8)).toArray 5)) w.heap.size (cut L i n))) :=
    ((Ext.alloc [w.heap.size] w _).trans (laid_ext _ _ _)).drop (by simp)
  generalize cut L i n = X at *
  generalize ((List.replicate n (0 : Int)).map (Value.int .u8)).toArray = Y at *
  generalize laid (w.alloc (.cells Y 5)) w.heap.size X = w2 at *
  clear hX hrow hA h
  go_enter Tryd.func36, Tryd.ntmps36
  go_wp2_with (go_at_call 67; refine met K ?_)
  go_ret2
  exact ⟨rfl, HR.out, HE.out⟩

/-! ### Write -/

theorem write_nil (i : Int) (a : Option Addr) (n c : Nat) (w : World) : Calls Tryd.prog 44 #[.pointer none, .int .i64 i, .slice a n c] w fun e w' => e = .returned (.int .i64 2) ∧ w' = w := by
  go_enter Tryd.func44, Tryd.ntmps44
  go_wp2_with (go_at_call 67; refine met (part_nil _ _ _) ?_)
  go_ret
  exact ⟨rfl, rfl⟩

theorem write_err (i : Int) (a : Option Addr) (n c : Nat) (p g : Nat) (w : World) (L : List Int) (hA : Ar ox w p g L) (hi : I64 i) (e : Int) (he : perr L.length i n = e) (h0 : e ≠ 0) : Calls Tryd.prog 44 #[.pointer (some ⟨p, ox, none⟩), .int .i64 i, .slice a n c] w fun r w' => r = .returned (.int .i64 e) ∧ w' = w := by
  have K := part_err i n p g w L hA hi e he h0
  clear hA he hi
  go_enter Tryd.func44, Tryd.ntmps44
  go_wp2_with (go_at_call 67; refine met K ?_)
  go_ret
  exact ⟨rfl, rfl⟩

theorem laid_turn {w : World} {p g : Nat} {L : List Int} (hA : Ar ox w p g L) (o : Nat) (f : Nat → Int) (n : Nat) (h : o + n ≤ L.length) (hf : ∀ j, j < n → 0 ≤ f j ∧ f j < 256) : Ar ox (laid w g (put L o f n)) p g (put L o f n) ∧ Ext [g] w (laid w g (put L o f n)) :=
  ⟨hA.turn (laid_ext _ _ _) (length_put _ _ _ _) (laid_row hA.row) (hA.ok.put o f n h hf), laid_ext _ _ _⟩

theorem put_off (L : List Int) (i n : Nat) (f : Nat → Int) : put L (off i n) f n = put L i f n := by
  cases n with
  | zero => rfl
  | succ m => rw [off_pos (by omega)]

theorem write_ok (i : Nat) (a : Option Addr) (n c : Nat) (xs : List Int) (p g : Nat) (w : World) (L : List Int) (hA : Ar ox w p g L) (hs : Sl w a xs) (hn : xs.length = n) (h : i + n ≤ L.length) :
    Calls Tryd.prog 44 #[.pointer (some ⟨p, ox, none⟩), .int .i64 i, .slice a n c] w (TurnPost ox w p g (put L i (fun j => xs.getD j 0) n)) := by
  have K := part_in i n p g w L hA h
  have hcp := fun ty => run_copy_bytes w ty g (off i n) n n c a L xs hA.row hs hn (fun h0 => by rw [off_pos h0]; exact h)
  rw [put_off] at hcp
  have HT : Hid (_ ∧ _) := laid_turn hA i (fun j => xs.getD j 0) n h (fun j _ => hs.ok.getD j)
  generalize put L i (fun j => xs.getD j 0) n = L' at *
  generalize laid w g L' = w2 at *
  clear hA hs h hn
  go_enter Tryd.func44, Tryd.ntmps44
  go_wp2_with (go_at_call 67; refine met K ?_)
  go_ret
  exact ⟨rfl, HT.out.1, HT.out.2⟩

/-! ### Clear -/

theorem clear_nil (i n : Int) (w : World) : Calls Tryd.prog 43 #[.pointer none, .int .i64 i, .int .i64 n] w fun e w' => e = .returned (.int .i64 2) ∧ w' = w := by
  go_enter Tryd.func43, Tryd.ntmps43
  go_wp2_with (go_at_call 67; refine met (part_nil _ _ _) ?_)
  go_ret
  exact ⟨rfl, rfl⟩

theorem clear_err (i n : Int) (p g : Nat) (w : World) (L : List Int) (hA : Ar ox w p g L) (hi : I64 i) (e : Int) (he : perr L.length i n = e) (h0 : e ≠ 0) : Calls Tryd.prog 43 #[.pointer (some ⟨p, ox, none⟩), .int .i64 i, .int .i64 n] w fun r w' => r = .returned (.int .i64 e) ∧ w' = w := by
  have K := part_err i n p g w L hA hi e he h0
  clear hA he hi
  go_enter Tryd.func43, Tryd.ntmps43
  go_wp2_with (go_at_call 67; refine met K ?_)
  go_ret
  exact ⟨rfl, rfl⟩

theorem clear_ok (i n : Nat) (p g : Nat) (w : World) (L : List Int) (hA : Ar ox w p g L) (h : i + n ≤ L.length) :
    Calls Tryd.prog 43 #[.pointer (some ⟨p, ox, none⟩), .int .i64 i, .int .i64 n] w (TurnPost ox w p g (put L i (fun _ => 0) n)) := by
  have K := part_in i n p g w L hA h
  have hcp := fun ty => run_clear_bytes w ty g (off i n) n n L hA.row (fun h0 => by rw [off_pos h0]; exact h)
  rw [put_off] at hcp
  have HT : Hid (_ ∧ _) := laid_turn hA i (fun _ => 0) n h (fun j _ => by simp)
  generalize put L i (fun _ => 0) n = L' at *
  generalize laid w g L' = w2 at *
  clear hA h
  go_enter Tryd.func43, Tryd.ntmps43
  go_wp2_with (go_at_call 67; refine met K ?_)
  go_ret
  exact ⟨rfl, HT.out.1, HT.out.2⟩

/-! ### Move -/

end Go.Proofs.YtlajjcboahflbaaDoor

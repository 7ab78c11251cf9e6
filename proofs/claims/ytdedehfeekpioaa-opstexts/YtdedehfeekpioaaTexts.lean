/-
  Texts in memory of their own, joined and cut; no statement is proved here.
-/
import Derived.Test.YtdedehfeekpioaaFloats
import Derived.Laws.IdiomStrings
import Derived.Laws.IdiomCopy
import Derived.Lib.AppendStr
namespace Go.Proofs.Ytdedehfeekpioaa
open Go.RowKit

def byV (b : UInt8) : Value := .int .u8 (b.toNat : Int)
/-- A text's bytes in a row of their own. -/
structure Br (w : World) (g : Nat) (L : List UInt8) (cap : Nat) : Prop where
  cell : ∀ j (hj : j < L.length), w.cell? ⟨g, j, none⟩ = some (byV L[j])
  free : ∀ j, j < cap → (w.cell? ⟨g, j, none⟩).isSome = true ∧ w.frozen? ⟨g, j, none⟩ = false
  le : L.length ≤ cap

theorem info5 : (Try.prog.info? 5).map (fun i => (i.zero, i.size, i.bytes)) = some (some (.int .u8 0), 1, 1) := by kernel_rfl
/-- append of a text, met by what its run is known to be. -/
theorem wpList_append_run {P : Program} {w w' : World} {ops : Array Oper} {rest : List Oper} {o : Oper} {a : Act} {Q : Exit → Act → World → Prop} (hgd : o.guard = none) (s x : Operand) (t u : TypeId)
    (ho : o.op = .call { callee := .builtin .append, args := #[s, x], argTypes := #[t, u] }) (vs vx v' : Value) (hs : a.eval s = vs) (hx : a.eval x = vx)
    (hr : (Builtin.append_ #[t, u] o.type #[vs, vx]).run P w = .ok v' w') (h : wpList P ops Q rest (a.put o.dst v') w') : wpList P ops Q (o :: rest) a w := by
  refine wpList_plain hgd fun K hK => ?_
  unfold Oper.wp execOp
  simp only [ho, resolve, invoke, builtin, Sem.run_bind, Sem.run_pure, Result.andThen_ok, List.map_toArray, List.map_cons, List.map_nil, hs, hx, hr]
  exact hK _ _ h

theorem bytes_of (s : ByteArray) (w : World) : ∃ g cap w', (convert 9 48 (.string s)).run Try.prog w = .ok (.slice (some ⟨g, 0, none⟩) s.size cap) w' ∧ Br w' g s.data.toList cap ∧ Ext [] w w' ∧ w.heap.size ≤ g := by
  have hc := grownCap_ge w s.size 0 5
  generalize hcap : grownCap w s.size 0 5 = cap at hc
  refine ⟨w.heap.size, cap, w.drew.alloc (.cells (bytesRow s cap) 5 ((bytesRow s cap).size, (bytesRow s cap).size + 1)), ?_, ?_, (Ext.drew _ _).trans (Ext.alloc _ _ _), Nat.le_refl _⟩
  · rw [← hcap]
    exact run_bytes_of_string (P := Try.prog) w 9 48 5 s Try.underlying9 Try.underlying48 Try.underlying5
  · have hl : s.data.toList.length = s.size := by simp
    have hsz : (bytesRow s cap).size = cap := by
      unfold bytesRow
      have : s.data.size = s.size := rfl
      simp [this]
      omega
    refine ⟨fun j hj => ?_, fun j hj => ⟨?_, ?_⟩, by omega⟩
    · have h1 := World.cell?_alloc_mark w.drew (bytesRow s cap) 5 ((bytesRow s cap).size, (bytesRow s cap).size + 1) j
      have h2 := bytesRow_at s cap j (by simpa using hj)
      exact (h1.trans h2).trans (by simp [byV])
    · have h1 := World.cell?_alloc_mark w.drew (bytesRow s cap) 5 ((bytesRow s cap).size, (bytesRow s cap).size + 1) j
      show ((w.drew.alloc (.cells (bytesRow s cap) 5 ((bytesRow s cap).size, (bytesRow s cap).size + 1))).cell? ⟨w.drew.heap.size, j, none⟩).isSome = true
      rw [h1]
      simp [hsz, hj]
    · have h1 := World.frozen?_alloc_mark w.drew (bytesRow s cap) 5 (bytesRow s cap).size ((bytesRow s cap).size + 1) j
      show (w.drew.alloc (.cells (bytesRow s cap) 5 ((bytesRow s cap).size, (bytesRow s cap).size + 1))).frozen? ⟨w.drew.heap.size, j, none⟩ = false
      rw [h1, hsz]
      simp
      omega
theorem string_of {w : World} {g cap : Nat} {L : List UInt8} (h : Br w g L cap) (c : Nat) : (convert 48 9 (.slice (some ⟨g, 0, none⟩) L.length c)).run Try.prog w = .ok (.string ⟨L.toArray⟩) w :=
  run_convert_bytes_back w 48 9 5 ⟨g, 0, none⟩ c L Try.underlying48 Try.underlying5 Try.underlying9 (fun j hj => by
    have := h.cell j hj
    rw [Addr.add_lit]
    simpa [byV] using this)

theorem Ext.setCells (g : Nat) : ∀ (vs : List Value) (o : Nat) (w : World), Ext [g] w (w.setCells g o vs)
  | [], _, w => Ext.refl _ _
  | v :: r, o, w => (Ext.setCell [g] w ⟨g, o, none⟩ v (by simp)).trans (Ext.setCells g r (o + 1) _)

theorem app_text {w : World} {g cap : Nat} {L : List UInt8} (h : Br w g L cap) (t : ByteArray) (hs : L.length + t.size ≤ 4096) : ∃ g' cap' w', (∀ ty, (Builtin.append_ #[48, 9] ty #[.slice (some ⟨g, 0, none⟩) L.length cap, .string t]).run Try.prog w = .ok (.slice (some ⟨g', 0, none⟩) (L.length + t.size) cap') w') ∧ Br w' g' (L ++ t.data.toList) cap' ∧ Ext [g] w w' := by
  have hl : t.data.toList.length = t.size := by simp
  have hsc : Lib.strCells t = t.data.toList.map byV := rfl
  have hsl := Lib.strCells_length t
  obtain ⟨i, hi, hi1, hi2, hi3⟩ : ∃ i, Try.prog.info? 5 = some i ∧ i.size = 1 ∧ i.bytes = 1 ∧ i.zero = some (.int .u8 0) := by
    have := info5
    cases h : Try.prog.info? 5 with
    | none => rw [h] at this; cases this
    | some i =>
      rw [h] at this
      simp only [Option.map_some, Option.some.injEq, Prod.mk.injEq] at this
      exact ⟨i, rfl, this.2.1, this.2.2, this.1⟩
  by_cases hroom : L.length + t.size ≤ cap
  · have hex : ∀ j, j < (Lib.strCells t).length → (w.cell? ⟨g, L.length + j, none⟩).isSome = true := fun j hj => (h.free _ (by omega)).1
    have hst2 : (storeCells ⟨g, L.length, none⟩ (Lib.strCells t) 0).run Try.prog w = .ok () (w.setCells g L.length (Lib.strCells t)) :=
      run_storeCells_cells (P := Try.prog) g L.length (Lib.strCells t) 0 w hex (fun j hj => (h.free _ (by omega)).2) (Lib.strCells_oneCell t)
    have hin := World.cell?_setCells_in g (Lib.strCells t) L.length w hex
    refine ⟨g, cap, w.setCells g L.length (Lib.strCells t), fun ty => ?_, ⟨fun j hj => ?_, fun j hj => ⟨?_, ?_⟩, ?_⟩, Ext.setCells g _ _ _⟩
    · have hf := Lib.run_firstCells_string (P := Try.prog) w 1 t
      simp [Builtin.append_, run_underlying Try.underlying48, run_underlying Try.underlying9, sizeOf, typeInfo, hi, hi1, Builtin.lenOf, hroom, hf, Addr.add_lit, hst2]
    · by_cases hj1 : j < L.length
      · rw [World.cell?_setCells_out g _ _ _ _ (fun _ _ => .inl hj1), h.cell j hj1, List.getElem_append_left hj1]
      · obtain ⟨k, rfl⟩ : ∃ k, j = L.length + k := ⟨j - L.length, by omega⟩
        have hk : k < t.data.toList.length := by simp at hj ⊢; omega
        rw [hin k (by omega)]
        simp [hsc, List.getElem_append_right]
    · by_cases hj1 : j < L.length ∨ L.length + (Lib.strCells t).length ≤ j
      · rw [World.cell?_setCells_out g _ _ _ _ (fun _ _ => hj1)]; exact (h.free j hj).1
      · obtain ⟨k, rfl⟩ : ∃ k, j = L.length + k := ⟨j - L.length, by omega⟩
        rw [hin k (by omega)]; rfl
    · rw [World.frozen?_setCells]; exact (h.free j hj).2
    · simp only [List.length_append]; omega
  · have hr := fun ty => Lib.run_append_grow_string (P := Try.prog) w 48 9 ty 5 i (.int .u8 0) Try.underlying48 Try.underlying9 hi hi3 ⟨g, 0, none⟩ L.length cap (L.map byV) (by rw [hi1]; simp) (fun j v hj => by
      have hj' : j < L.length := by
        have := (List.getElem?_eq_some_iff.1 hj).1
        simpa using this
      rw [Addr.add_lit, Nat.zero_add, h.cell j hj']
      simpa [hj'] using hj) t (by omega) (by omega) (growslice_fits (by omega) (by rw [hi2]; omega))
    have hcg := grownCap_ge w (L.length + t.size) cap 5
    generalize grownCap w (L.length + t.size) cap 5 = cap' at hr hcg
    refine ⟨w.heap.size, cap', _, hr, ⟨fun j hj => ?_, fun j hj => ⟨?_, ?_⟩, ?_⟩, (Ext.drew _ _).trans (Ext.alloc _ _ _)⟩
    · have h1 := World.cell?_alloc_mark w.drew ((L.map byV).toArray ++ (Lib.strCells t).toArray ++ Builtin.zeroCells (Value.int .u8 0).cells (cap' - (L.length + t.size))) 5 (0, 0) j
      refine h1.trans ?_
      rw [Array.getElem?_append_left (by simp [hsl] at hj ⊢; omega)]
      simp only [List.append_toArray, List.getElem?_toArray, hsc]
      rw [← List.map_append, List.getElem?_map, List.getElem?_eq_getElem hj]
      rfl
    · have h1 := World.cell?_alloc_mark w.drew ((L.map byV).toArray ++ (Lib.strCells t).toArray ++ Builtin.zeroCells (Value.int .u8 0).cells (cap' - (L.length + t.size))) 5 (0, 0) j
      refine (congrArg Option.isSome h1).trans ?_
      have : j < ((L.map byV).toArray ++ (Lib.strCells t).toArray ++ Builtin.zeroCells (Value.int .u8 0).cells (cap' - (L.length + t.size))).size := by
        have hz : (Builtin.zeroCells (Value.int .u8 0).cells (cap' - (L.length + t.size))).size = cap' - (L.length + t.size) := by
          simp [Builtin.zeroCells, Value.cells]
        simp only [Array.size_append, hz, List.size_toArray, List.length_map, hsl]
        omega
      rw [Array.getElem?_eq_getElem this]
      rfl
    · exact World.frozen?_alloc_mark w.drew _ 5 0 0 j |>.trans (by simp)
    · simp only [List.length_append]; omega

theorem toL (s : ByteArray) : (⟨s.data.toList.toArray⟩ : ByteArray) = s := by cases s; simp
theorem toL2 (s t : ByteArray) : (⟨(s.data.toList ++ t.data.toList).toArray⟩ : ByteArray) = s ++ t := by
  apply ByteArray.ext
  simp

theorem ownText_any (s : ByteArray) (w : World) : Calls Try.prog 25 #[.string s] w (SayPost w (.string s)) := by
  obtain ⟨g, cap, w1, h1, h2, h3, _⟩ := bytes_of s w
  have h4 := string_of h2 cap
  rw [toL] at h4
  have hl : s.data.toList.length = s.size := by simp
  rw [hl] at h4
  have HE := hid h3
  clear h2 h3 hl
  go_enter Try.func25, Try.ntmps25
  go_wp2_with fail
  go_ret
  exact ⟨rfl, HE.out⟩

def teV (s : ByteArray) (e : Int) : Value := .tuple #[.string s, .int .i64 e]
theorem concat_any (s t : ByteArray) (w : World) (hs : s.size ≤ 140737488351232) (ht : t.size ≤ 140737488351232) : Calls Try.prog 11 #[.string s, .string t] w (SayPost w (if 4096 < s.size + t.size then teV ⟨#[]⟩ 6 else teV (s ++ t) 0)) := by
  have e1 : wrap64 ((s.size : Int) + (t.size : Int)) = (s.size : Int) + (t.size : Int) := by unfold wrap64; omega
  by_cases hq : 4096 < s.size + t.size
  · rw [if_pos hq]
    have hq1 : (4096 : Int) < (s.size : Int) + (t.size : Int) := by omega
    unfold teV
    clear hq hs ht
    go_enter Try.func11, Try.ntmps11
    go_wp2_with fail
    go_ret2
    exact ⟨rfl, Ext.refl _ _⟩
  · rw [if_neg hq]
    have hq1 : ¬ (4096 : Int) < (s.size : Int) + (t.size : Int) := by omega
    have hq2 : (s.size : Int) + (t.size : Int) ≤ 4096 := by omega
    obtain ⟨g, cap, w1, h1, h2, h3, h4⟩ := bytes_of s w
    have hl : s.data.toList.length = s.size := by simp
    obtain ⟨g', cap', w2, k1, k2, k3⟩ := app_text h2 t (by omega)
    have k4 := string_of k2 cap'
    rw [toL2] at k4
    have hl2 : (s.data.toList ++ t.data.toList).length = s.size + t.size := by simp
    rw [hl2] at k4
    rw [hl] at k1
    have HE : Hid (Ext [] w w2) := Ext.on h3 k3 (by simp; exact h4)
    unfold teV
    clear hq hs ht h2 h3 h4 hl k2 k3 hl2
    go_enter Try.func11, Try.ntmps11
    go_wp2_with (at_builtin; refine wpList_append_run rfl _ _ 48 9 rfl _ _ _ rfl rfl (k1 _) ?_)
    go_ret2
    exact ⟨rfl, HE.out⟩

theorem rconcat_any (s t : ByteArray) (w : World) (hs : s.size ≤ 140737488351232) (ht : t.size ≤ 140737488351232) : Calls Try.prog 12 #[.string s, .string t] w (SayPost w (if 4096 < s.size + t.size then teV ⟨#[]⟩ 6 else teV (s ++ t) 0)) := by
  have e1 : wrap64 ((s.size : Int) + (t.size : Int)) = (s.size : Int) + (t.size : Int) := by unfold wrap64; omega
  by_cases hq : 4096 < s.size + t.size
  · rw [if_pos hq]
    have hq1 : (4096 : Int) < (s.size : Int) + (t.size : Int) := by omega
    unfold teV
    clear hq hs ht
    go_enter Try.func12, Try.ntmps12
    go_wp2_with fail
    go_ret2
    exact ⟨rfl, Ext.refl _ _⟩
  · rw [if_neg hq]
    have hq1 : ¬ (4096 : Int) < (s.size : Int) + (t.size : Int) := by omega
    have hq2 : (s.size : Int) + (t.size : Int) ≤ 4096 := by omega
    have hr : (Op.stringOp .add s t).run Try.prog w = .ok (.string (s ++ t)) w := by
      unfold Op.stringOp
      rw [if_neg]
      · rfl
      · show ¬ (((s.size + t.size : Nat) : Int) > 9223372036854775807)
        omega
    unfold teV
    clear hq hs ht
    go_enter Try.func12, Try.ntmps12
    go_wp2_with fail
    go_ret2
    exact ⟨rfl, Ext.refl _ _⟩

/-- What is cut from a text. -/
def cutT (s : ByteArray) (i j : Int) : ByteArray := s.extract i.toNat j.toNat
theorem slice_any (s : ByteArray) (i j : Int) (w : World) (hs : s.size ≤ 140737488351232) (hi : U i) (hj : U j) : Calls Try.prog 13 #[.string s, .int .u64 i, .int .u64 j] w (SayPost w (if i ≤ j ∧ j ≤ s.size then teV (cutT s i j) 0 else teV ⟨#[]⟩ 5)) := by
  have e1 : IntKind.u64.wrap (s.size : Int) = (s.size : Int) := by rw [wrapU]; unfold um; omega
  by_cases h1 : i ≤ j
  · by_cases h2 : j ≤ s.size
    · rw [if_pos ⟨h1, h2⟩]
      have KO := ownText_any (cutT s i j) w
      unfold teV cutT at *
      obtain ⟨i, rfl⟩ : ∃ n : Nat, i = n := ⟨i.toNat, by unfold U at hi; omega⟩
      obtain ⟨j, rfl⟩ : ∃ n : Nat, j = n := ⟨j.toNat, by unfold U at hj; omega⟩
      clear hi hj
      go_enter Try.func13, Try.ntmps13
      go_wp2_with (go_at_call 25; refine KO.mono ?_; clear KO; rintro e w1 ⟨rfl, hE⟩; replace hE := hid hE)
      go_ret2
      exact ⟨rfl, hE.out⟩
    · rw [if_neg (fun q => h2 q.2)]
      have h3 : (s.size : Int) < j := by omega
      unfold teV
      clear hi hj h2
      go_enter Try.func13, Try.ntmps13
      go_wp2_with fail
      go_ret2
      exact ⟨rfl, Ext.refl _ _⟩
  · rw [if_neg (fun q => h1 q.1)]
    have h3 : j < i := by omega
    unfold teV
    clear hi hj h1
    go_enter Try.func13, Try.ntmps13
    go_wp2_with fail
    go_ret2
    exact ⟨rfl, Ext.refl _ _⟩
end Go.Proofs.Ytdedehfeekpioaa

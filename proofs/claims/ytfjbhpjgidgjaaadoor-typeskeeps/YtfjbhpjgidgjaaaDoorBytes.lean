/-
  Bytes that are handed in, and copies of them; no statement is proved here.
-/
import Derived.Test.YtfjbhpjgidgjaaaDoorDec
import Derived.Test.YtfjbhpjgidgjaaaDoorOpen
import Derived.Test.YtfjbhpjgidgjaaaDoorPoint
namespace Go.Proofs.YtfjbhpjgidgjaaaDoor
open Go.ChangeShapes Go.WideShapes Go.ChangeAt Go.RowKit

theorem Inp.keep0 {w w' : World} {a : Option Addr} {n c : Nat} {L : List Int} (h : Inp w a n c L) (e : Ext [] w w') : Inp w' a n c L := ⟨h.hb.keep0 e, h.hn, h.hv, h.hc⟩

theorem bytes5 : Tryd.prog.bytesOf 5 = 1 := by kernel_rfl
theorem cells5' : Tryd.prog.cellsOf 5 = 1 := by kernel_rfl
theorem u8_wf {x : Int} (h : (Lit.int .u8 x).wf = true) : 0 ≤ x ∧ x < 256 := by
  have h2 : IntKind.u8.min ≤ x ∧ x ≤ IntKind.u8.max := by simpa [Lit.wf, go_sem] using h
  have e1 : IntKind.u8.min = 0 := rfl
  have e2 : IntKind.u8.max = 255 := rfl
  omega

set_option maxRecDepth 100000 in
theorem open_bytes {H : Type} {enc : TypeId × Value → H} {W : World} {fuel : Nat} {a : Option Addr} {n c : Nat} {x : DataW H × List MemPlace} (h : DataW.trod enc Tryd.prog W 0 (fun _ => true) true fuel 36 (Value.cells (.slice a n c)).toList = some x)
    (hsz : ∀ y ∈ x.1.weights Tryd.prog 36, y ≤ 140737488351232) : ∃ L, Inp W a n c L ∧ n ≤ 140737488351232 := by
  rcases open_ints Tryd.underlying36 Tryd.underlying5 cells5' h with ⟨hcs, _⟩ | ⟨q, l, c', zs, hcs, _, hl, hm, hz, hx, hcl, hwz⟩
  · simp [Value.cells] at hcs
    obtain ⟨rfl, rfl, rfl⟩ := hcs
    exact ⟨[], ⟨.inl rfl, rfl, by simp, Nat.le_refl _⟩, by omega⟩
  · simp [Value.cells] at hcs
    obtain ⟨rfl, rfl, rfl⟩ := hcs
    simp only [if_true] at hz
    have hlen2 : (zs.take n).length = n := by simp; omega
    subst hx
    have := hsz (((lits (H := H) .u8 (zs.take n)).length + (lits (H := H) .u8 (zs.drop n)).length) * Tryd.prog.bytesOf 5) (by
      simp only [DataW.weights, Tryd.underlying36]
      exact List.mem_cons_self)
    rw [bytes5] at this
    simp only [lits, List.length_map, List.length_take, List.length_drop] at this
    refine ⟨zs.take n, ⟨?_, hlen2, fun x hx => u8_wf (hwz x (List.mem_of_mem_take hx)), hl⟩, by omega⟩
    by_cases h0 : n = 0
    · left; simp [h0]
    · right
      obtain ⟨b, o, rfl, hc2⟩ := ints_at hcl (by omega)
      refine ⟨b, o, rfl, fun j hj => ?_⟩
      simp only [List.length_map, hlen2] at hj
      have hj2 : j < zs.length := by omega
      rw [hc2 j hj2]
      simp [List.getD, hj, hj2]

/-- append([]byte{}, b...): a copy. -/
theorem bytes_copy (w : World) {a : Option Addr} {n c : Nat} {L : List Int} (h : Inp w a n c L) (hb : n ≤ 140737488351232) :
    ∃ a2 c2 w2, (Builtin.append_ #[36, 36] 36 #[.slice (some ⟨w.heap.size, 0, none⟩) 0 0, .slice a n c]).run Tryd.prog (w.alloc (.cells #[] 5)) = .ok (.slice a2 n c2) w2 ∧ Inp w2 a2 n c2 L ∧ Ext [] w w2 := by
  have hE0 := Ext.alloc [] w (.cells #[] 5)
  have hw0 : (w.alloc (.cells #[] 5)).ownsRow w.heap.size 5 1 (.slice (some ⟨w.heap.size, 0, none⟩) 0 0) 0 [] := by
    have := World.ownsRow_lit (base := w.heap.size) (e := 5) (size := 1) w #[] 0 (Nat.le_refl _) (by unfold maxLen; omega) rfl
    simpa using this
  obtain ⟨v1, w2, hr1, hO1, hE2, _⟩ := app_own w _ hE0 36 36 5 _ 1 Tryd.underlying36 info5 rfl (by omega) _ 0 [] hw0 a n c (L.map (Value.int .u8)) (by simp [h.hn]) (h.hb.keep0 hE0) (fun u hu => by obtain ⟨x, _, rfl⟩ := List.mem_map.1 hu; rfl) (by omega)
  simp only [Nat.zero_add, List.nil_append] at hO1
  obtain ⟨a1, c1, rfl, hc1⟩ := own_slice hO1
  exact ⟨a1, c1, w2, hr1, ⟨own_vs hO1, h.hn, h.hv, hc1⟩, hE2⟩

end Go.Proofs.YtfjbhpjgidgjaaaDoor

/-
  The program's Clone, Slots, Shade, Set, Start, Color, Phase and Cycles; no statement is proved here.
-/
import Derived.Test.YtbjplfbplkjibaaSweep
import Derived.Lib.SliceRun
namespace Go.Proofs.Ytbjplfbplkjibaa
open Go.RowKit

theorem phase_any (p : Nat) (G : Gs) (B : Nat → Prop) (w : World) (h : Gr w p G B) : Calls Try.prog 7 #[.pointer (some ⟨p, 0, none⟩)] w fun e w' => e = .returned (.int .i64 G.ph) ∧ w' = w := by
  obtain ⟨vn, vl, SV, h, _⟩ := h
  obtain ⟨_, _, _, f3, _⟩ := h.flds
  clear h
  go_enter Try.func7, Try.ntmps7
  go_wp2
  go_ret
  exact ⟨rfl, rfl⟩
theorem cycles_any (p : Nat) (G : Gs) (B : Nat → Prop) (w : World) (h : Gr w p G B) : Calls Try.prog 8 #[.pointer (some ⟨p, 0, none⟩)] w fun e w' => e = .returned (.int .i64 G.cy) ∧ w' = w := by
  obtain ⟨vn, vl, SV, h, _⟩ := h
  obtain ⟨_, _, _, _, f4, _⟩ := h.flds
  clear h
  go_enter Try.func8, Try.ntmps8
  go_wp2
  go_ret
  exact ⟨rfl, rfl⟩
theorem color_any (p : Nat) (G : Gs) (B : Nat → Prop) (x : Int) (w : World) (h : Gr w p G B) (hlen : G.ns.length ≤ 65536) : Calls Try.prog 13 #[.pointer (some ⟨p, 0, none⟩), .int .i64 x] w fun e w' => e = .returned (.tuple #[.int .i64 (if lvB G x then ((ndAt G.ns x.toNat).c : Int) else 0), .int .i64 (fl G x)]) ∧ w' = w := by
  have K := fault_any p G B x w h hlen
  unfold fl at *
  cases hb : lvB G x
  · rw [hb] at K
    simp only [Bool.false_eq_true, if_false] at K
    clear h hb
    go_enter Try.func13, Try.ntmps13
    go_wp2_with (go_at_call 31; refine met K ?_)
    go_ret2
    exact ⟨rfl, rfl⟩
  · rw [hb] at K
    simp only [if_true] at K
    obtain ⟨hx0, hl⟩ := lvB_iff.1 hb
    obtain ⟨i, rfl⟩ : ∃ i : Nat, x = i := ⟨x.toNat, by omega⟩
    simp only [Int.toNat_natCast] at hl
    have hi := lvN_lt hl
    obtain ⟨vn, vl, SV, h, _⟩ := h
    obtain ⟨g, c, rfl, hc, hgp, hgl, c0, _, _, _⟩ := h.node hi
    obtain ⟨f0, _⟩ := h.flds
    have hil : (i : Int) < G.ns.length := by omega
    clear h hb hl
    simp only [Int.toNat_natCast]
    generalize (ndAt G.ns i).c = q at *
    generalize G.ns.length = n at *
    go_enter Try.func13, Try.ntmps13
    go_wp2_with (go_at_call 31; refine met K ?_)
    go_ret2
    exact ⟨rfl, rfl⟩

/-- A list of its own, and an error. -/
def SlPost (w : World) (L : List Int) (er : Int) (e : Ending) (w' : World) : Prop :=
  ∃ v, e = .returned (.tuple #[v, .int .i64 er]) ∧ w'.ownsRow w.heap.size 3 1 v L.length (L.map (Value.int .i64)) ∧ Ext [] w w'
def ClPost (w : World) (L : List Int) (e : Ending) (w' : World) : Prop :=
  ∃ v, e = .returned v ∧ w'.ownsRow w.heap.size 3 1 v L.length (L.map (Value.int .i64)) ∧ Ext [] w w'

theorem clone_any (v : Value) (L : List Int) (w : World) (hL : Sl w v L) (hlen : L.length ≤ 1000000) : Calls Try.prog 38 #[v] w (ClPost w L) := by
  rcases hL with ⟨rfl, rfl⟩ | ⟨g, rfl, hr0⟩
  · clear hlen
    have heq : ∀ w, Sem.run Try.prog (binOp .eql 28 (.slice none 0 0) (.slice none 0 0)) w = .ok (.bool true) w := fun w => Lib.run_eql_slice_nil w 28 3 none 0 0 0 0 Try.underlying28
    go_enter Try.func38, Try.ntmps38
    go_wp2
    go_ret
    exact ⟨_, rfl, own_nil _ _ _ _, Ext.refl _ _⟩
  · have hE0 := Ext.alloc [] w (.cells #[] 3)
    obtain ⟨i, hi0, hz0, hz1, hz2⟩ := info_parts info3
    have hown : (w.alloc (.cells #[] 3)).ownsRow w.heap.size 3 1 (.slice (some ⟨w.heap.size, 0, none⟩) 0 0) 0 [] := World.ownsRow_made w #[] 0 (Nat.le_refl _) (Nat.zero_le _) rfl
    have hL0 := hE0.keep hr0 (by simp)
    obtain ⟨v', w', hr, ho, hg, _⟩ := run_append_own (P := Try.prog) (w.alloc (.cells #[] 3)) w.heap.size 28 28 3 i _ 1 8 Try.underlying28 hi0 hz0 hz1 hz2 rfl (by decide) _ 0 [] hown ⟨g, 0, none⟩ L.length L.length (L.map (Value.int .i64)) (by simp) (fun j u hj => by rw [Addr.add_lit, cell_of_row _ _ _ _ _ _ hL0, Nat.zero_add, List.getElem?_toArray]; exact hj) (fun u hu => by obtain ⟨y, _, rfl⟩ := List.mem_map.1 hu; rfl) (by unfold maxLen; omega) (by omega) (by simp)
    rw [Nat.zero_add, List.nil_append] at ho
    have HF : Hid (ClPost w L (.returned v') w') := ⟨v', rfl, ho, (hE0.on (ext_grown hg) (by simp [Value.ownBlock]))⟩
    clear hr0 hE0 hown hL0 ho hg hz0 hz1 hz2 hi0
    generalize L.length = len at *
    have heq : ∀ w, Sem.run Try.prog (binOp .eql 28 (.slice (some ⟨g, 0, none⟩) len len) (.slice none 0 0)) w = .ok (.bool false) w := fun w => Lib.run_eql_slice_nil w 28 3 (some ⟨g, 0, none⟩) len len 0 0 Try.underlying28
    go_enter Try.func38, Try.ntmps38
    go_wp2_with (at_builtin; refine wpList_append_run rfl _ _ 28 rfl _ _ _ rfl rfl hr ?_)
    go_ret
    exact HF.out

/-- What the slots of a number are. -/
def slV (G : Gs) (x : Int) : List Int := if lvB G x then (ndAt G.ns x.toNat).s else []
theorem slots_any (p : Nat) (G : Gs) (B : Nat → Prop) (x : Int) (w : World) (h : Gr w p G B) (hI : Iv G) : Calls Try.prog 21 #[.pointer (some ⟨p, 0, none⟩), .int .i64 x] w (SlPost w (slV G x) (fl G x)) := by
  have K := fault_any p G B x w h hI.len
  unfold fl slV at *
  cases hb : lvB G x
  · rw [hb] at K
    simp only [Bool.false_eq_true, if_false] at K ⊢
    clear h hb hI
    go_enter Try.func21, Try.ntmps21
    go_wp2_with (go_at_call 31; refine met K ?_)
    go_ret2
    exact ⟨_, rfl, own_nil _ _ _ _, Ext.refl _ _⟩
  · rw [hb] at K
    simp only [if_true] at K ⊢
    obtain ⟨hx0, hl⟩ := lvB_iff.1 hb
    obtain ⟨i, rfl⟩ : ∃ i : Nat, x = i := ⟨x.toNat, by omega⟩
    simp only [Int.toNat_natCast] at hl ⊢
    have hi := lvN_lt hl
    have hsl := hI.sl i
    obtain ⟨vn, vl, SV, h, _⟩ := h
    obtain ⟨g, c, rfl, hc, hgp, hgl, _, c1, _, _⟩ := h.node hi
    obtain ⟨f0, _⟩ := h.flds
    have hil : (i : Int) < G.ns.length := by omega
    have K2 := clone_any _ _ w (h.slo i hi) (by omega)
    clear h hb hl hI
    generalize (ndAt G.ns i).s = L at *
    generalize svAt SV i = sv at *
    generalize G.ns.length = n at *
    go_enter Try.func21, Try.ntmps21
    go_wp2_with (first | (go_at_call 31; refine met K ?_) | (go_at_call 38; refine K2.mono ?_; intro e w1 hq; obtain ⟨v, he, hq1, hq2⟩ := hq; subst he))
    go_ret2
    exact ⟨v, rfl, hq1, hq2⟩

theorem shadeC_any (p : Nat) (G : Gs) (B : Nat → Prop) (x : Int) (w : World) (h : Gr w p G B) (hI : Iv G) : Calls Try.prog 24 #[.pointer (some ⟨p, 0, none⟩), .int .i64 x] w (GPost w p (shade G x).1 B (.int .i64 (shade G x).2)) := by
  have K := fault_any p G B x w h hI.len
  have hlln := hI.lln
  have hlen := hI.len
  unfold fl at *
  unfold shade
  cases hb : lvB G x
  · rw [hb] at K
    simp only [Bool.false_eq_true, if_false, if_true] at K ⊢
    have HF := hid (gr_same h (.int .i64 4))
    clear h hb hI
    go_enter Try.func24, Try.ntmps24
    go_wp2_with (go_at_call 31; refine met K ?_)
    go_ret
    exact HF.out
  · rw [hb] at K
    simp only [Bool.true_eq_false, if_true, if_false] at K ⊢
    obtain ⟨hx0, hl⟩ := lvB_iff.1 hb
    have K2 := shade_any p G B x w h (.inr ⟨hx0, lvN_lt hl⟩) (by omega) hlen
    clear h hb hl hI
    go_enter Try.func24, Try.ntmps24
    go_wp2_with (first | (go_at_call 31; refine met K ?_) | (go_at_call 33; refine K2.mono ?_; intro e w1 hq; obtain ⟨he, hq⟩ := hq; subst he))
    go_ret
    exact ⟨rfl, hq⟩

end Go.Proofs.Ytbjplfbplkjibaa

/-
  The parts of a type, as the statements' helper lists them; no statement is proved here.
-/
import Derived.Test.YtfabhhmeanpmhaaDoorCopy
namespace Go.Proofs.YtfabhhmeanpmhaaDoor
open Go.RowKit

def IPost (w : World) (xs : List Int) (e : Ending) (w' : World) : Prop := ∃ a c, e = .returned (.slice a xs.length c) ∧ w'.ownsRow w.heap.size 3 1 (.slice a xs.length c) xs.length (xs.map (Value.int .i64)) ∧ Ext [] w w'

theorem IPost.mk' {w w' : World} {v : Value} {xs : List Int} (h : w'.ownsRow w.heap.size 3 1 v xs.length (xs.map (Value.int .i64))) (hE : Ext [] w w') : IPost w xs (.returned v) w' := by
  obtain ⟨a, c, rfl, _⟩ := own_slice h
  exact ⟨a, c, rfl, h, hE⟩

set_option maxRecDepth 100000 in
set_option maxHeartbeats 1000000 in
theorem parts_any (t : Ty) (fa : Option Addr) (fc : Nat) (w : World) (hF : FOk w t fa) (h9 : t.kind = 9 → 0 ≤ t.len ∧ t.len ≤ 16) : Calls Tryd.prog 25 #[tyVal t fa fc] w (IPost w (parts t)) := by
  unfold tyVal
  by_cases k8 : t.kind = 8
  · have hpp : parts t = t.fields := by unfold parts; rw [if_pos k8]
    rw [hpp, k8]
    have hE1 := Ext.alloc [] w (.cells #[.int .i64 8, .int .i64 t.elem, .int .i64 t.key, .int .i64 t.len, .slice fa t.fields.length fc] 45)
    obtain ⟨v', w', hr, hO, hE, hX⟩ := app_own w _ hE1 42 42 3 _ 8 Tryd.underlying42 info3 rfl (by omega) (.slice none 0 0) 0 [] (own_nil _ _ _ _) fa t.fields.length fc (t.fields.map (Value.int .i64)) (by simp) (hF.1.keep0 hE1) (fun u hu => by obtain ⟨x, _, rfl⟩ := List.mem_map.1 hu; rfl) (by have := hF.2; omega)
    simp only [Nat.zero_add, List.nil_append] at hO
    have HX := hid (IPost.mk' hO hE)
    have hb := heap_alloc_new w (.cells #[.int .i64 8, .int .i64 t.elem, .int .i64 t.key, .int .i64 t.len, .slice fa t.fields.length fc] 45)
    obtain ⟨a', c', rfl, _⟩ := own_slice hO
    have e0 : w'.cell? ⟨w.heap.size, 0, none⟩ = some (.int .i64 8) := by
      rw [cell_of_row _ _ _ _ _ _ (hX.keep hb (by simp [Value.ownBlock]))]; rfl
    clear hO hE hE1 k8 hpp hF h9 hb hX
    go_enter Tryd.func25, Tryd.ntmps25
    go_wp2_with (at_builtin; refine wpList_append_run rfl _ _ 42 rfl _ _ _ rfl rfl hr ?_)
    go_ret
    exact HX.out
  by_cases k9 : t.kind = 9
  · obtain ⟨l0, l1⟩ := h9 k9
    obtain ⟨L, hL⟩ : ∃ L : Nat, t.len = L := ⟨t.len.toNat, by omega⟩
    have hpp : parts t = List.replicate L t.elem := by unfold parts; rw [if_neg k8, if_pos k9, hL]; rfl
    have hE1 := Ext.alloc [] w (.cells #[.int .i64 9, .int .i64 t.elem, .int .i64 t.key, .int .i64 L, .slice fa t.fields.length fc] 45)
    have hb := heap_alloc_new w (.cells #[.int .i64 9, .int .i64 t.elem, .int .i64 t.key, .int .i64 L, .slice fa t.fields.length fc] 45)
    rw [hpp, k9, hL]
    have hL16 : L ≤ 16 := by omega
    have HE1 := hid hE1
    have HB := hid hb
    clear hpp k8 k9 hL l0 l1 hF h9 hE1 hb
    go_enter Tryd.func25, Tryd.ntmps25
    go_wp2_with fail
    generalize w.alloc (.cells #[.int .i64 9, .int .i64 t.elem, .int .i64 t.key, .int .i64 L, .slice fa t.fields.length fc] 45) = w1 at *
    go_loopw [3, 4] (fun lv u wr => ∃ k : Nat, u = .int .i64 k ∧ k ≤ L ∧ wr.ownsRow w.heap.size 3 1 lv k ((List.replicate k t.elem).map (Value.int .i64)) ∧ Ext [] w wr ∧ wr.heap[w.heap.size]? = some (.cells #[.int .i64 9, .int .i64 t.elem, .int .i64 t.key, .int .i64 L, .slice fa t.fields.length fc] 45 (0, 0))) (fun _ u _ => (L - (intOf u)).toNat)
    case atStart => exact ⟨0, rfl, Nat.zero_le _, own_nil _ _ _ _, HE1.out, HB.out⟩
    case round =>
      obtain ⟨k, rfl, hkl, hO, hE, hb⟩ := hrel
      have c3 : wr.cell? ⟨w.heap.size, 3, none⟩ = some (.int .i64 L) := by rw [cell_of_row _ _ _ _ _ _ hb]; rfl
      have c1 : wr.cell? ⟨w.heap.size, 1, none⟩ = some (.int .i64 t.elem) := by rw [cell_of_row _ _ _ _ _ _ hb]; rfl
      by_cases hlt : k < L
      · have hE2 := Ext.alloc [] wr (.cells #[.int .i64 t.elem] 3)
        obtain ⟨v', w', hr, hO', hE', hX⟩ := app_own w _ (hE.trans hE2) 42 42 3 _ 8 Tryd.underlying42 info3 rfl (by omega) _ k _ (own_keep0 hO hE2) (some ⟨wr.heap.size, 0, none⟩) 1 1 [.int .i64 t.elem] rfl (vs_new wr 3 [.int .i64 t.elem]) (by simp [Value.oneCell']) (by omega)
        have hne := own_ne hO hb (by decide)
        have HB' := hid (hX.keep (hE2.keep hb (by simp)) (by simpa using hne))
        have HO' : Hid (w'.ownsRow w.heap.size 3 1 v' (k + 1) ((List.replicate (k + 1) t.elem).map (Value.int .i64))) := by
          show World.ownsRow _ _ _ _ _ _ _
          rw [List.replicate_succ', List.map_append]
          exact hO'
        have HE' := hid hE'
        clear hO hE hb hE2 hO' hE' hX hne
        go_wp2_with (at_builtin; refine wpList_append_run rfl _ _ 42 rfl _ _ _ rfl rfl hr ?_)
        go_roundw
        case rel => exact ⟨k + 1, by go_num, by omega, HO'.out, HE'.out, HB'.out⟩
        case measure => simp [intOf]; omega
      · obtain rfl : k = L := by omega
        have HX : Hid (IPost w (List.replicate k t.elem) (.returned u3) wr) := IPost.mk' (by rw [List.length_replicate]; exact hO) hE
        clear hO hE hb
        go_wp2_with fail
        go_ret
        exact HX.out
  · have hpp : parts t = [] := by unfold parts; rw [if_neg k8, if_neg k9]
    rw [hpp]
    have b8 : (t.kind == 8) = false := by simpa using k8
    have b9 : (t.kind == 9) = false := by simpa using k9
    clear hpp k8 k9 hF h9
    go_enter Tryd.func25, Tryd.ntmps25
    go_wp2_with fail
    go_ret
    exact ⟨none, 0, rfl, own_nil _ _ _ _, Ext.alloc _ _ _⟩

end Go.Proofs.YtfabhhmeanpmhaaDoor

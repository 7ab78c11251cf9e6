/-
  Lists with spare room, and whether they are as they were; no statement is proved here.
-/
import Derived.Test.YtfjabjnajcfamaaRfC
namespace Go.Proofs.Ytfjabjnajcfamaa
open Go.RowKit

/-- What is laid into the spare room. -/
def room : List Int := [7000, 7001, 7002, 7003, 7004, 7005, 7006]
theorem room_at (i : Nat) (h : i < 7) : room.getD i 0 = 7000 + (i : Int) ∧ room.take (i + 1) = room.take i ++ [7000 + (i : Int)] := by
  rcases (by omega : i = 0 ∨ i = 1 ∨ i = 2 ∨ i = 3 ∨ i = 4 ∨ i = 5 ∨ i = 6) with rfl | rfl | rfl | rfl | rfl | rfl | rfl <;> exact ⟨rfl, rfl⟩

/-- Fields with spare room, in a row of their own. -/
def Ry (w0 w : World) (g k cap : Nat) (fs : List Int) : Prop := k + 7 ≤ cap ∧ w.ownsRow w0.heap.size 3 1 (.slice (some ⟨g, 0, none⟩) (k + 7) cap) (k + 7) ((fs ++ room).map (.int .i64))

def RoomPost (w : World) (k : Nat) (fs : List Int) (e : Ending) (w' : World) : Prop := ∃ g cap, e = .returned (.slice (some ⟨g, 0, none⟩) k cap) ∧ Ry w w' g k cap fs ∧ Ext [] w w'

theorem own_some {w : World} {base : Nat} {e : TypeId} {s n : Nat} {v : Value} {xs : List Value} (h : w.ownsRow base e s v n xs) (h0 : 0 < n) : ∃ g c, v = .slice (some ⟨g, 0, none⟩) n c ∧ n ≤ c := by
  rcases h.2 with ⟨_, h2⟩ | ⟨g, cap, cur, rfl, h1, h2, h3, _⟩
  · omega
  · exact ⟨g, cap, rfl, h3⟩

set_option maxRecDepth 100000 in
set_option maxHeartbeats 1000000 in
theorem roomy_any (fa : Option Addr) (k fc : Nat) (fs : List Int) (w : World) (hF : Is w fa fs) (hk : fs.length = k) (hb : k ≤ 17592186043904) :
    Calls Try.prog 25 #[.slice fa k fc] w (RoomPost w k fs) := by
  have hE0 := Ext.alloc [] w (.cells #[] 3)
  have hw0 : (w.alloc (.cells #[] 3)).ownsRow w.heap.size 3 1 (.slice (some ⟨w.heap.size, 0, none⟩) 0 0) 0 [] := by
    have := World.ownsRow_lit (base := w.heap.size) (e := 3) (size := 1) w #[] 0 (Nat.le_refl _) (by unfold maxLen; omega) rfl
    simpa using this
  obtain ⟨v1, w1, hr1, hO1, hE1, _⟩ := app_own w _ hE0 23 23 3 _ 8 Try.underlying23 info3 rfl (by omega) _ 0 [] hw0 fa k fc (fs.map (Value.int .i64)) (by simp [hk]) (hF.keep0 hE0) (fun u hu => by obtain ⟨x, _, rfl⟩ := List.mem_map.1 hu; rfl) (by omega)
  simp only [Nat.zero_add, List.nil_append] at hO1
  have HN : Hid (w1.ownsRow w.heap.size 3 1 v1 (k + 0) ((fs ++ room.take 0).map (.int .i64)) ∧ Ext [] w w1) := ⟨by simpa using hO1, hE1⟩
  have HK := hid hk
  clear hF hk hE0 hw0 hO1 hE1
  go_enter Try.func25, Try.ntmps25
  go_wp2_with (at_builtin; refine wpList_append_run rfl _ _ 23 rfl _ _ _ rfl rfl hr1 ?_)
  go_loopg [3, 4] 7 (fun g lv u wr => ∃ i : Nat, i + g = 7 ∧ u = .int .i64 (i : Nat) ∧ wr.ownsRow w.heap.size 3 1 lv (k + i) ((fs ++ room.take i).map (.int .i64)) ∧ Ext [] w wr)
  case atStart => exact ⟨0, rfl, rfl, HN.out⟩
  case round =>
    clear HN hr1
    obtain ⟨i, hig, rfl, hO, hE⟩ := hrel
    have HO := hid hO
    have HE := hid hE
    clear hO hE
    cases gk with
    | zero =>
      obtain rfl : i = 7 := by omega
      obtain ⟨g, cap, rfl, hcap⟩ := own_some HO.out (by omega)
      have HFin : Hid (RoomPost w k fs (.returned (.slice (some ⟨g, 0, none⟩) k cap)) wr) := ⟨g, cap, rfl, ⟨hcap, HO.out⟩, HE.out⟩
      go_wp2_with fail
      go_ret
      exact HFin.out
    | succ g =>
      have HR := hid (room_at i (by omega)).2
      have hE2 := Ext.alloc [] wr (.cells #[.int .i64 (7000 + (i : Int))] 3)
      have HOa := own_keep0 HO.out hE2
      obtain ⟨v2, w2, hr2, hO2, hE3, _⟩ := app_own w _ (HE.out.trans hE2) 23 23 3 _ 8 Try.underlying23 info3 rfl (by omega) _ (k + i) _ HOa (some ⟨wr.heap.size, 0, none⟩) 1 1 [.int .i64 (7000 + (i : Int))] rfl (vs_new wr 3 [.int .i64 (7000 + (i : Int))]) (by intro u hu; simp at hu; subst hu; rfl) (by omega)
      have HN2 : Hid (w2.ownsRow w.heap.size 3 1 v2 (k + (i + 1)) ((fs ++ room.take (i + 1)).map (.int .i64)) ∧ Ext [] w w2) := by
        refine ⟨?_, hE3⟩
        rw [HR.out, ← List.append_assoc, List.map_append, ← Nat.add_assoc]
        exact hO2
      clear hO2 hE3 hE2 HOa
      go_wp2_with (at_builtin; refine wpList_append_run rfl _ _ 23 rfl _ _ _ rfl rfl hr2 ?_)
      go_roundg g
      case measure => omega
      case rel => exact ⟨i + 1, by omega, by go_num, HN2.out⟩

theorem Ry.cell {w0 w : World} {g k cap : Nat} {fs : List Int} (h : Ry w0 w g k cap fs) (hk : fs.length = k) : Is w (some ⟨g, 0, none⟩) fs ∧ ∀ i, i < 7 → w.cell? ⟨g, k + i, none⟩ = some (.int .i64 (7000 + (i : Int))) := by
  have hv := own_vs h.2
  rcases hv with h0 | ⟨b, o, h1, hc⟩
  · have := congrArg List.length h0
    simp [room] at this
  · simp only [Option.some.injEq, Addr.mk.injEq] at h1
    obtain ⟨rfl, rfl, _⟩ := h1
    refine ⟨.inr ⟨g, 0, rfl, fun j hj => ?_⟩, fun i hi => ?_⟩
    · simp only [List.length_map] at hj
      rw [hc j (by simp [room]; omega)]
      rw [List.map_append, List.getElem?_append_left (by simpa using hj)]
    · have := hc (k + i) (by simp [room]; omega)
      rw [Nat.zero_add] at this
      rw [this]
      have h2 := (room_at i hi).1
      simp only [List.getD] at h2
      have h3 : i < room.length := hi
      rw [List.getElem?_map, List.getElem?_append_right (by omega), show k + i - fs.length = i by omega]
      rw [List.getElem?_eq_getElem h3] at h2 ⊢
      simp at h2 ⊢
      exact h2

set_option maxRecDepth 100000 in
set_option maxHeartbeats 1000000 in
theorem kept_true (w0 w : World) (g k cap : Nat) (fs : List Int) (fb : Option Addr) (fd : Nat) (hR : Ry w0 w g k cap fs) (hF : Is w fb fs) (hk : fs.length = k) (hb : k ≤ 17592186044416) :
    Calls Try.prog 26 #[.slice (some ⟨g, 0, none⟩) k cap, .slice fb k fd] w (SayPost w (.bool true)) := by
  obtain ⟨hI, hc⟩ := hR.cell hk
  have hcap := hR.1
  have K := sameInts_true (some ⟨g, 0, none⟩) fb k cap fd fs w hI hF hk hb
  have HC := hid hc
  clear hI hc hR hF hk
  go_enter Try.func26, Try.ntmps26
  go_wp2_with fail
  go_loop [6] (fun u => ∃ i : Nat, u = .int .i64 (i : Nat) ∧ i ≤ 7) (fun u => (7 - (intOf u)).toNat)
  case atStart => exact ⟨0, rfl, by omega⟩
  case round =>
    obtain ⟨i, rfl, hi⟩ := hrel
    by_cases hi7 : i < 7
    · have hci := HC.out i hi7
      go_wp2_with fail
      go_round
      case rel => exact ⟨i + 1, by go_num, by omega⟩
      case measure => simp [intOf]; omega
    · go_wp2_with fail
      refine K.mono ?_
      clear K
      rintro e w1 ⟨rfl, hE1⟩
      have HE1 := hid hE1
      clear hE1
      go_wp2_with fail
      go_ret
      exact ⟨rfl, HE1.out⟩

end Go.Proofs.Ytfjabjnajcfamaa

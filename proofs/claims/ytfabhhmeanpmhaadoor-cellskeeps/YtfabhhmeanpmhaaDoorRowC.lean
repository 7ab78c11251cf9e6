/-
  A copied list with two cells more behind it; no statement is proved here.
-/
import Derived.Test.YtfabhhmeanpmhaaDoorTree
namespace Go.Proofs.YtfabhhmeanpmhaaDoor
open Go.RowKit

set_option maxRecDepth 100000 in
set_option maxHeartbeats 4000000 in
/-- The reference's Copy, told by its row. -/
theorem rcopy_row (d : Nat) : ∀ (a : Option Addr) (l : List Cl) (n c : Nat) (w : World), Cs (d + 1) w a l → l.length = n → Calls Tryd.prog 11 #[.slice a n c] w (fun e w' => ∃ lv G, e = .returned lv ∧ w'.ownsRow w.heap.size 49 4 lv n (crows l G n) ∧ Bx (fun b => w.heap.size ≤ b ∧ lv.ownBlock ≠ some b) d w' l G n ∧ Ext [] w w') := by
  intro a l n c w hC hn
  have HC := hid hC
  have HN := hid hn
  have hl := hC.len
  rw [hn] at hl
  have HR : Hid (∀ i, i < n → Rg (cAt l i)) := fun i hi => hC.rg (by omega)
  have HIH := hid (rcopy_any d)
  clear hC
  go_enter Tryd.func11, Tryd.ntmps11
  go_wp2_with fail
  go_loopw [3, 4] (fun lv u wr => ∃ k : Nat, ∃ G, u = .int .i64 k ∧ k ≤ n ∧ wr.ownsRow w.heap.size 49 4 lv k (crows l G k) ∧ Bx (fun b => w.heap.size ≤ b ∧ lv.ownBlock ≠ some b) d wr l G k ∧ Ext [] w wr) (fun _ u _ => (n - (intOf u)).toNat)
  case atStart => exact ⟨0, fun _ => (none, 0), rfl, Nat.zero_le _, own_nil _ _ _ _, fun i hi => by omega, Ext.refl _ _⟩
  case round =>
    obtain ⟨k, G, rfl, hkn, hO, hB, hE⟩ := hrel
    have HO := hid hO
    have HB := hid hB
    have HE := hid hE
    clear hO hB hE
    by_cases hlt : k < n
    · obtain ⟨d1, b, o, hd, rfl, hat⟩ := (HC.out.keep0 HE.out).at_ (by rw [HN.out]; omega)
      obtain rfl : d1 = d := by omega
      obtain ⟨ba, bc, hcl, hbx⟩ := hat k (by rw [HN.out]; omega)
      have x0 := hcl.c0
      have x1 := hcl.c1
      have x2 := hcl.c2
      have x3 := hcl.c3
      have hE1 := Ext.alloc [] wr (.cells #[.int .u64 (cAt l k).n, .string (cAt l k).s, .int .i64 (cAt l k).t, .slice ba (cAt l k).box.length bc] 49)
      have K := HIH.out ba (cAt l k).box _ bc _ (hbx.keep0 hE1) rfl
      have hb1 := heap_alloc_new wr (.cells #[.int .u64 (cAt l k).n, .string (cAt l k).s, .int .i64 (cAt l k).t, .slice ba (cAt l k).box.length bc] 49)
      have HB1 := hid hb1
      clear hat hcl hbx hE1 hd hb1
      go_wp2_with (first
        | (go_at_call 11
           refine K.mono ?_
           rintro e w2 ⟨a1, c1, rfl, hac, hCo, hE2⟩
           obtain ⟨v2, w4, hr2, hO2, hB2, hE4⟩ := cstep w wr w2 u3 k n d1 l G ba a1 bc c1 hlt hl HE.out HO.out HB.out hE2 hac hCo
           have hb2 := hE2.keep HB1.out (by simp)
           have e0 : w2.cell? ⟨wr.heap.size, 0, none⟩ = some (.int .u64 (cAt l k).n) := by rw [cell_of_row _ _ _ _ _ _ hb2]; rfl
           have e1 : w2.cell? ⟨wr.heap.size, 1, none⟩ = some (.string (cAt l k).s) := by rw [cell_of_row _ _ _ _ _ _ hb2]; rfl
           have e2 : w2.cell? ⟨wr.heap.size, 2, none⟩ = some (.int .i64 (cAt l k).t) := by rw [cell_of_row _ _ _ _ _ _ hb2]; rfl
           have e3 : w2.cell? ⟨wr.heap.size, 3, none⟩ = some (.slice ba (cAt l k).box.length bc) := by rw [cell_of_row _ _ _ _ _ _ hb2]; rfl
           have ef : ∀ i, w2.frozen? ⟨wr.heap.size, i, none⟩ = false := fun i => frozen_of_row _ _ i _ _ hb2
           have HO2 := hid hO2
           have HB2 := hid hB2
           have HE4 := hid hE4
           clear hCo hE2 hb2 hO2 hB2 hE4 hac)
        | (at_builtin; refine wpList_append_run rfl _ _ 23 rfl _ _ _ rfl rfl hr2 ?_))
      go_roundw
      case rel => exact ⟨k + 1, fun i => if i = k then (a1, c1) else G i, by go_num, by omega, HO2.out, HB2.out, HE4.out⟩
      case measure => simp [intOf]; omega
    · obtain rfl : k = n := by omega
      obtain ⟨a', c', rfl, hac⟩ := own_slice HO.out
      go_wp2_with fail
      go_ret
      exact ⟨_, G, rfl, HO.out, HB.out, HE.out⟩

/-- The head of a row of one's own. -/
theorem own_prefix {w : World} {base : Nat} {e : TypeId} {s n m c : Nat} {a : Option Addr} {xs ys : List Value} (h : w.ownsRow base e s (.slice a (n + m) c) (n + m) (xs ++ ys)) (hx : xs.length = n * s) (h0 : 0 < n + m) : w.ownsRow base e s (.slice a n c) n xs := by
  refine ⟨hx, ?_⟩
  rcases h.2 with ⟨_, h2⟩ | ⟨g, cap, cur, e0, h1, h2, h3, h4, h5, h6⟩
  · omega
  · cases e0
    refine .inr ⟨g, _, cur, rfl, h1, h2, by omega, h4, h5, ?_⟩
    have hle : n * s ≤ (n + m) * s := Nat.mul_le_mul_right _ (by omega)
    have e1 : cur.toList.take (n * s) = (cur.toList.take ((n + m) * s)).take (n * s) := by rw [List.take_take, Nat.min_eq_left hle]
    rw [e1, h6, List.take_left' hx]

def c71 : List Value := [.int .u64 71, .string ⟨#[]⟩, .int .i64 0, .slice none 0 0, .int .u64 72, .string ⟨#[]⟩, .int .i64 0, .slice none 0 0]

set_option maxHeartbeats 1000000 in
theorem app71 (w w2 : World) (lv : Value) (n d : Nat) (l : List Cl) (G : Nat → Option Addr × Nat) (hn : l.length = n) (hl : n ≤ 2513169434843) (hE : Ext [] w w2) (hR : ∀ i, i < n → Rg (cAt l i))
    (hO : w2.ownsRow w.heap.size 49 4 lv n (crows l G n)) (hB : Bx (fun b => w.heap.size ≤ b ∧ lv.ownBlock ≠ some b) d w2 l G n) :
    ∃ g c4 w4, (Builtin.append_ #[23, 23] 23 #[lv, .slice (some ⟨w2.heap.size, 0, none⟩) 2 2]).run Tryd.prog (w2.alloc (.cells #[.int .u64 71, .string ⟨#[]⟩, .int .i64 0, .slice none 0 0, .int .u64 72, .string ⟨#[]⟩, .int .i64 0, .slice none 0 0] 49)) = .ok (.slice (some ⟨g, 0, none⟩) (n + 2) c4) w4 ∧
      Cs (d + 1) w4 (some ⟨g, 0, none⟩) l ∧ w4.cell? ⟨g, n * 4, none⟩ = some (.int .u64 71) ∧ w4.cell? ⟨g, (n + 1) * 4, none⟩ = some (.int .u64 72) ∧ n + 2 ≤ c4 ∧ Ext [] w w4 := by
  have hA := Ext.alloc [] w2 (.cells #[.int .u64 71, .string ⟨#[]⟩, .int .i64 0, .slice none 0 0, .int .u64 72, .string ⟨#[]⟩, .int .i64 0, .slice none 0 0] 49)
  have hOw := own_keep0 hO hA
  have holt := own_lt hO
  have hEw := hE.trans hA
  obtain ⟨v2, w4, hr2, hO2, hg2, _, hnew⟩ := run_append_own_at (P := Tryd.prog) _ w.heap.size 23 23 49 _ _ 4 56 Tryd.underlying23 (info_parts info49).choose_spec.1 (info_parts info49).choose_spec.2.1 (info_parts info49).choose_spec.2.2.1 (info_parts info49).choose_spec.2.2.2 rfl (by decide) _ n _ hOw ⟨w2.heap.size, 0, none⟩ 2 2 c71 rfl (fun j u hu => by
    rw [Addr.add_lit, cell_of_row _ _ _ _ _ _ (heap_alloc_new w2 _), Nat.zero_add, ← hu]; simp [c71]) (by simp [c71, Value.oneCell']) (by unfold maxLen; omega) (by omega) hEw.size
  have hX2 : Ext lv.ownBlock.toList _ w4 := Ext.grown hg2 (by intro q hq; simp [hq])
  rcases hO2.2 with ⟨_, h2⟩ | ⟨g, cap, cur, e0, h1, h2, h3, h4, h5, h6⟩
  · omega
  subst e0
  have hpre := own_prefix (n := n) (m := 2) hO2 (length_crows l G n) (by omega)
  have hB4 : Bx (fun _ => True) d w4 l G n := fun i hi => by
    obtain ⟨q1, q2⟩ := hB i hi
    exact ⟨q1, (((q2.keep0 hA).keep hX2 (fun x hx hp => hp.2 (by simpa using hx))).imp (fun _ _ _ => trivial))⟩
  have key : ∀ j v, c71[j]? = some v → j < 8 → w4.cell? ⟨g, n * 4 + j, none⟩ = some v := fun j v hv hj => by
    rw [cell_of_row w4 g _ _ _ _ h2]
    have : (cur.toList.take ((n + 2) * 4))[n * 4 + j]? = cur[n * 4 + j]? := by
      rw [List.getElem?_take, if_pos (by omega)]; simp
    rw [← this, h6, List.getElem?_append_right (by rw [length_crows]; omega), length_crows, Nat.add_sub_cancel_left, hv]
  exact ⟨g, cap, w4, hr2, (co_of_row (P := fun _ => True) hpre hB4 hn hl hR (fun _ _ => trivial)).cs, key 0 _ rfl (by omega), by have := key 4 _ rfl (by omega); rwa [show n * 4 + 4 = (n + 1) * 4 by omega] at this, h3, hEw.on hX2 (fun x hx => (holt x (by simpa using hx)).1)⟩

end Go.Proofs.YtfabhhmeanpmhaaDoor

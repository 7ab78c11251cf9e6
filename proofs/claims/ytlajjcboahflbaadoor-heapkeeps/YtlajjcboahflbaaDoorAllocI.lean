/-
  Alloc where a span is made, or none can be; Fits; no statement is proved here.
-/
import Derived.Test.YtlajjcboahflbaaDoorAllocH
namespace Go.Proofs.YtlajjcboahflbaaDoor
open Go.RowKit

section
variable {p ox : Nat} {T : TypeId} {cs : Array Value} {F : Nat → Prop} {H : Hs} {ag og : Nat} {V : Value} {sb : Nat → Nat × Nat} {O : List (Option Nat)}

set_option maxRecDepth 100000 in
set_option maxHeartbeats 8000000 in
theorem halloc_new (size tag : Int) (i : Nat) (w : World) (hG : Gl w) (hO : Ok size) (ht : 0 ≤ tag ∧ tag ≤ 2147483647) (hH : Hm w p ox T cs F H ag og V sb O) (hk : H.sp.findIdx? (fitS (roomN size)) = none) (hi : hole H.R (pgN size) = some i) :
    Calls Tryd.prog 15 #[.pointer (some ⟨p, ox, none⟩), .int .i64 size, .int .i64 tag] w (HPost w p ox T cs F ⟨H.P, takeL H.R i (pgN size), insS H.sp (insK H.R i) (tkS (newS (rnAt H.R i).s (pgN size) (roomN size)) size tag), put H.B (((rnAt H.R i).s + 1) * 256) (fun _ => 0) (roomN size)⟩ (.tuple #[.int .i64 ((((rnAt H.R i).s + 1) * 256 : Nat) : Int), .int .i64 0])) := by
  obtain ⟨r1, r2, p1, p2, q0, q1, q2, sr, rp, _⟩ := room_ok hO
  obtain ⟨h1, h2, h3, h4⟩ := hole_some hi
  have K := room_any size w hG
  have hpe : pgE size = 0 := by unfold pgE; rw [if_pos hO]
  rw [hpe, r1] at K
  have KO := open_any (roomN size) w hH
  rw [findIdx_none hk] at KO
  replace KO : Calls Tryd.prog 39 #[.pointer (some ⟨p, ox, none⟩), .int .i64 (roomN size)] w (fun e w' => e = .returned (.pointer none) ∧ Ext [] w w') := KO
  have KG := fun u (hu : Ext [] w u) => grow_ok size hO i u (hH.keep0 hu) hi
  have hb := (hH.ok.inv.mem _ (rnAt_mem h1))
  have hP := hH.ok.P1
  have hlen := hH.ok.inv.len
  have hbl := hH.ok.bl
  obtain ⟨hno, hf0, hl1⟩ := new_ok hO ht (rnAt H.R i).s
  obtain ⟨st, hst⟩ : ∃ st, st = (rnAt H.R i).s := ⟨_, rfl⟩
  obtain ⟨nn, hnn⟩ : ∃ nn, nn = pgN size * 256 / roomN size := ⟨_, rfl⟩
  have hnl : nn ≤ 65536 := by
    have : pgN size * 256 / roomN size ≤ pgN size * 256 := Nat.div_le_self _ _
    omega
  have hsl : (newS (rnAt H.R i).s (pgN size) (roomN size)).S = List.replicate nn (0, 0) := by rw [hnn]; rfl
  rw [hsl] at hf0
  have husz : us ((List.replicate nn ((0 : Int), (0 : Int))).set 0 (size, tag)) = 1 := by
    have := us_set (S := List.replicate nn ((0 : Int), (0 : Int))) (k := 0) (by rw [List.length_replicate]; omega) (size, tag)
    rw [getD_rep, us_rep, if_neg (by simp), if_pos (show 0 < (size, tag).1 by have := hO.1; simp only; omega)] at this
    omega
  have htk : tkS (newS (rnAt H.R i).s (pgN size) (roomN size)) size tag = ⟨(rnAt H.R i).s, pgN size, roomN size, (List.replicate nn (0, 0)).set 0 (size, tag)⟩ := by
    unfold tkS; rw [hsl, hf0]; rfl
  rw [htk] at hno ⊢
  -- behind grow and the slot
  have HT : Hid (∀ u w1 w2 V' s g, Ext [] w u → Rs T ox cs w1 p V' (takeL H.R i (pgN size)) → OldNew u V V' → w1.heap[og]? = some (.cells (ocells (ownL O (rnAt H.R i).s (some s) (pgN size))).toArray 85 (0, 0)) →
      Sp w1 s g (rnAt H.R i).s (pgN size) (roomN size) 0 (List.replicate nn (0, 0)) → u.heap.size ≤ s → u.heap.size ≤ g → Ext (p :: og :: V.ownBlock.toList) u w1 →
      TakePost w1 s g (rnAt H.R i).s (pgN size) (roomN size) (0 + 1) ((List.replicate nn (0, 0)).set 0 (size, tag)) (.int .i64 0) (.returned (.int .i64 0)) w2 →
      Hm w2 p ox T cs (fun k => F k ∨ u.heap.size ≤ k) ⟨H.P, takeL H.R i (pgN size), insS H.sp (insK H.R i) ⟨(rnAt H.R i).s, pgN size, roomN size, (List.replicate nn (0, 0)).set 0 (size, tag)⟩, H.B⟩ ag og V' (sbUp sb (rnAt H.R i).s s g) (ownL O (rnAt H.R i).s (some s) (pgN size)) ∧ Ext (p :: og :: V.ownBlock.toList) u w2 ∧ Sp w2 s g (rnAt H.R i).s (pgN size) (roomN size) (0 + 1) ((List.replicate nn (0, 0)).set 0 (size, tag))) := by
    rintro u w1 w2 V' s g hu hR hON hOw hS hsu hgu hE ⟨_, hS2, hE2⟩
    have hu0 := hH.keep0 hu
    have hps : p ≠ s := by have := hu0.pt; omega
    have hpg : p ≠ g := by have := hu0.pt; omega
    have hos : og ≠ s := by have := lt_of_heap hu0.owners; omega
    have hog : og ≠ g := by have := lt_of_heap hu0.owners; omega
    have hE12 : Ext (p :: og :: V.ownBlock.toList) u w2 := by
      refine ⟨hE2.os.trans hE.os, hE2.tape.trans hE.tape, hE2.output.trans hE.output, Nat.le_trans hE.size hE2.size, fun k hk hn => ?_⟩
      rw [hE2.block k (by have := hE.size; omega) (by simp; omega), hE.block k hk hn]
    refine ⟨hu0.grown hE12 h1 h2 p1 h3 (hR.keep hE2 (by simp [hps, hpg]) (fun b hb hv => ?_)) hON (hE2.keep hOw (by simp [hos, hog])) ?_ hsu hgu hno, hE12, hS2⟩
    · simp only [List.mem_cons, List.not_mem_nil, or_false] at hb
      rcases hb with rfl | rfl
      · exact own_ne hR.row hS.box (by decide) hv
      · exact own_ne hR.row hS.row (by decide) hv
    · rw [husz]; exact hS2
  have KT := fun u s g (hS : Sp u s g (rnAt H.R i).s (pgN size) (roomN size) 0 (List.replicate nn (0, 0))) => stake_any s g (rnAt H.R i).s (pgN size) (roomN size) 0 size tag (List.replicate nn (0, 0)) 0 u hS (by rw [List.length_replicate]; omega) (by rw [List.length_replicate]; omega) (by simp) (by rw [getD_rep]) (by omega)
  have HC : Hid (∀ w2 F' V' sb' O' L, Hm w2 p ox T cs F' ⟨H.P, takeL H.R i (pgN size), L, H.B⟩ ag og V' sb' O' → Calls Tryd.prog 43 #[.pointer (some ⟨p, ox, none⟩), .int .i64 ((((rnAt H.R i).s + 1) * 256 : Nat) : Int), .int .i64 (roomN size)] w2 (TurnPost ox w2 p ag (put H.B (((rnAt H.R i).s + 1) * 256) (fun _ => 0) (roomN size)))) := fun w2 F' V' sb' O' L h2 =>
    clear_ok _ _ p ag w2 H.B h2.ar (by omega)
  have HA : Hid (∀ w2 s g S', Sp w2 s g (rnAt H.R i).s (pgN size) (roomN size) (0 + 1) S' → Calls Tryd.prog 33 #[.pointer (some ⟨s, 0, none⟩), .int .i64 0] w2 (Qt w2 (.int .i64 ((((rnAt H.R i).s + 1) * 256 : Nat) : Int)))) := fun w2 s g S' hS => by
    have := addr_dr s g (rnAt H.R i).s (pgN size) (roomN size) (0 + 1) 0 S' w2 hS (by omega) (by omega) (by omega)
    rw [Int.zero_mul, Int.add_zero] at this
    rw [show ((((rnAt H.R i).s + 1) * 256 : Nat) : Int) = (((rnAt H.R i).s : Int) + 1) * 256 by omega]
    exact this
  have HF : Hid (∀ u w2 w3 V' sb' O' L B', Ext [] w u → Hm w2 p ox T cs (fun k => F k ∨ u.heap.size ≤ k) ⟨H.P, takeL H.R i (pgN size), L, H.B⟩ ag og V' sb' O' → Ext (p :: og :: V.ownBlock.toList) u w2 → B' = put H.B (((rnAt H.R i).s + 1) * 256) (fun _ => 0) (roomN size) → TurnPost ox w2 p ag B' (.returned (.int .i64 0)) w3 →
      ∀ r, HPost w p ox T cs F ⟨H.P, takeL H.R i (pgN size), L, put H.B (((rnAt H.R i).s + 1) * 256) (fun _ => 0) (roomN size)⟩ r (.returned r) w3) := by
    rintro u w2 w3 V' sb' O' L B' hu h2 hE rfl ⟨_, hA, hE3⟩ r
    have hz := hu.size
    refine ⟨rfl, (fun k => F k ∨ u.heap.size ≤ k), ⟨_, _, _, _, _, h2.turn hE3 (length_put _ _ _ _) hA.row hA.ok⟩, ?_, fun k h => h.imp id (by omega)⟩
    refine ((Fx.of_ext0 (B := fun k => k = p ∨ F k) hu).trans (Fx.of_ext (B := fun k => k = p ∨ F k) hE ?_) (fun y hy => .inl hy)).trans (Fx.of_ext (B := fun k => k = ag) hE3 (by simp)) (fun y hy => .inl (.inr (by rw [hy]; exact hH.fa)))
    simp only [List.mem_cons, Option.mem_toList]
    rintro b (rfl | rfl | hb)
    · exact .inl (.inl rfl)
    · exact .inl (.inr hH.fo)
    · exact .inl (.inr (hH.fv b hb))
  have hsz1 : ¬ tag < 0 := by omega
  have hsz2 : ¬ 2147483647 < tag := by omega
  obtain ⟨B', hB'⟩ : ∃ B', B' = put H.B (((rnAt H.R i).s + 1) * 256) (fun _ => 0) (roomN size) := ⟨_, rfl⟩
  rw [← hB'] at HC
  have HB' := hid hB'
  have KG2 : ∀ u, Ext [] w u → Calls Tryd.prog 41 #[.pointer (some ⟨p, ox, none⟩), .int .i64 size, .int .i64 (roomN size)] u (fun e w' => ∃ V' s g, e = .returned (.tuple #[.pointer (some ⟨s, 0, none⟩), .int .i64 0]) ∧ Hid (Rs T ox cs w' p V' (takeL H.R i (pgN size)) ∧ OldNew u V V' ∧ w'.heap[og]? = some (.cells (ocells (ownL O (rnAt H.R i).s (some s) (pgN size))).toArray 85 (0, 0)) ∧
    Sp w' s g (rnAt H.R i).s (pgN size) (roomN size) 0 (List.replicate nn (0, 0)) ∧ u.heap.size ≤ s ∧ u.heap.size ≤ g ∧ Ext (p :: og :: V.ownBlock.toList) u w')) := fun u hu => (KG u hu).mono (by
      rintro e w' ⟨V', s, g, he, hq⟩
      rw [← hnn] at hq
      exact ⟨V', s, g, he, hq⟩)
  generalize hLL : insS H.sp (insK H.R i) ⟨(rnAt H.R i).s, pgN size, roomN size, (List.replicate nn (0, 0)).set 0 (size, tag)⟩ = LL at *
  generalize had : ((rnAt H.R i).s + 1) * 256 = ad at *
  clear hLL had hB' KG htk husz hsl hf0 hnl hnn hst hl1 hno hbl hlen hP hb h1 h2 h3 h4 hpe r1 r2 p1 p2 q0 q1 q2 sr rp hk hi ht hO hH
  generalize (rnAt H.R i).s = s0 at *
  generalize roomN size = rm at *
  go_enter Tryd.func15, Tryd.ntmps15
  go_upto_region 6 with (first | (go_at_call 37; refine met K ?_) | (go_at_call 39; refine KO.mono ?_; clear KO; rintro e w1 ⟨rfl, hE1⟩; replace hE1 := hid hE1) | fail "no arm")
  have KG1 := KG2 w1 hE1.out
  clear KG2 K
  go_wp2_with (first | (go_at_call 41; refine KG1.mono ?_; clear KG1; rintro e w2 ⟨V', s, g, rfl, hq⟩; have KT1 := KT w2 s g hq.out.2.2.2.1) | (go_at_call 42; refine KT1.mono ?_; clear KT1; rintro e w3 ⟨rfl, hS, hE2⟩; have h2 := hid (HT.out w1 w2 w3 V' s g hE1.out hq.out.1 hq.out.2.1 hq.out.2.2.1 hq.out.2.2.2.1 hq.out.2.2.2.2.1 hq.out.2.2.2.2.2.1 hq.out.2.2.2.2.2.2 ⟨rfl, hS, hE2⟩); clear hS hE2; have KA := HA.out w3 s g _ h2.out.2.2) | (go_at_call 33; refine KA.mono ?_; clear KA; rintro e w4 ⟨rfl, hm3⟩; replace hm3 := hid hm3; have KC := HC.out w4 _ _ _ _ _ (by obtain ⟨m3, e3⟩ := hm3.out; rw [e3]; exact h2.out.1.keep0 (Ext.drewN _ _ _))) | (go_at_call 43; refine KC.mono ?_; clear KC; rintro e w5 ⟨rfl, hA4, hE4⟩; replace hA4 := hid hA4; replace hE4 := hid hE4) | fail "no arm")
  go_ret2
  obtain ⟨m3, e3⟩ := hm3.out
  subst e3
  exact HF.out w1 _ w5 _ _ _ _ B' hE1.out (h2.out.1.keep0 (Ext.drewN _ _ _)) (h2.out.2.1.trans (Ext.drewN _ _ _)) HB'.out ⟨rfl, hA4.out, hE4.out⟩ _

set_option maxRecDepth 100000 in
set_option maxHeartbeats 4000000 in
theorem halloc_full (size tag : Int) (w : World) (hG : Gl w) (hO : Ok size) (ht : 0 ≤ tag ∧ tag ≤ 2147483647) (hH : Hm w p ox T cs F H ag og V sb O) (hk : H.sp.findIdx? (fitS (roomN size)) = none) (hi : hole H.R (pgN size) = none) :
    Calls Tryd.prog 15 #[.pointer (some ⟨p, ox, none⟩), .int .i64 size, .int .i64 tag] w (HPost w p ox T cs F H (.tuple #[.int .i64 0, .int .i64 7])) := by
  obtain ⟨r1, _⟩ := room_ok hO
  have K := room_any size w hG
  have hpe : pgE size = 0 := by unfold pgE; rw [if_pos hO]
  rw [hpe, r1] at K
  have KO := open_any (roomN size) w hH
  rw [findIdx_none hk] at KO
  replace KO : Calls Tryd.prog 39 #[.pointer (some ⟨p, ox, none⟩), .int .i64 (roomN size)] w (fun e w' => e = .returned (.pointer none) ∧ Ext [] w w') := KO
  have KG := fun u (hu : Ext [] w u) => grow_full size hO u (hH.keep0 hu) hi
  have hsz1 : ¬ tag < 0 := by omega
  have hsz2 : ¬ 2147483647 < tag := by omega
  clear ht hk hi hO hpe r1 hH
  generalize roomN size = rm at *
  go_enter Tryd.func15, Tryd.ntmps15
  go_upto_region 6 with (first | (go_at_call 37; refine met K ?_) | (go_at_call 39; refine KO.mono ?_; clear KO; rintro e w1 ⟨rfl, hE1⟩; replace hE1 := hid hE1) | fail "no arm")
  have KG1 := KG w1 hE1.out
  clear KG K
  go_wp2_with (first | (go_at_call 41; refine KG1.mono ?_; clear KG1; rintro e w2 ⟨rfl, hq⟩; replace hq := hid hq) | fail "no arm")
  go_ret2
  obtain ⟨F', h1, h2, h3⟩ := hq.out
  have hz := hE1.out.size
  exact ⟨rfl, F', h1, (Fx.of_ext0 (B := fun k => k = p ∨ F k) hE1.out).trans h2 (fun y hy => .inl hy), fun k hk => (h3 k hk).imp id (by omega)⟩

theorem halloc_any (size tag : Int) (w : World) (hG : Gl w) (hH : Hw w p ox T cs F H) :
    Calls Tryd.prog 15 #[.pointer (some ⟨p, ox, none⟩), .int .i64 size, .int .i64 tag] w (HPost w p ox T cs F (allocH H size tag).2.2 (.tuple #[.int .i64 (allocH H size tag).1, .int .i64 (allocH H size tag).2.1])) := by
  obtain ⟨ag, og, V, sb, O, hH⟩ := hH
  unfold allocH
  split
  · rename_i hc
    split
    · exact halloc_hit size tag _ w hG hc.1 hc.2 hH ‹_›
    · split
      · exact halloc_full size tag w hG hc.1 hc.2 hH ‹_› ‹_›
      · exact halloc_new size tag _ w hG hc.1 hc.2 hH ‹_› ‹_›
  · rename_i hc
    refine (halloc_bad size tag w hG _ hc).mono ?_
    rintro _ _ ⟨rfl, rfl⟩
    exact hpost_keep hH (Ext.refl _ _) _

end

end Go.Proofs.YtlajjcboahflbaaDoor

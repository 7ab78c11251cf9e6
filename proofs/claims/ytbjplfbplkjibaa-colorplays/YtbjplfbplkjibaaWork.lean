/-
  The program's Work; no statement is proved here.
-/
import Derived.Test.YtbjplfbplkjibaaSweep
import Derived.Test.YtbjplfbplkjibaaMathC
namespace Go.Proofs.Ytbjplfbplkjibaa
open Go.RowKit

def ints (l : List Nat) : List Value := l.map fun (x : Nat) => Value.int .i64 x
theorem ints_len (l : List Nat) : (ints l).length = l.length := by simp [ints]

/-- What Work answers: how many units are left, and which nodes were swept, in a list of its own. -/
def WkPost (w : World) (p : Nat) (B : Nat → Prop) (G : Gs) (u : Nat) (e : Ending) (w' : World) : Prop :=
  ∃ v C, e = .returned (.tuple #[.int .i64 ((work u G).1 : Nat), v]) ∧ w'.ownsRow w.heap.size 3 1 v (work u G).2.1.length (ints (work u G).2.1) ∧ Gr w' p (work u G).2.2 C ∧ (∀ k, C k → Nw B w k) ∧ (∀ g, v.ownBlock = some g → ¬ C g) ∧ Fx B w w'

/-- How far Work is. -/
structure Wr (w : World) (p : Nat) (B : Nat → Prop) (G0 : Gs) (u0 : Nat) (u : Nat) (v : Value) (wr : World) : Prop where
  go : ∃ G C l, Iv G ∧ Gr wr p G C ∧ (∀ k, C k → Nw B w k) ∧ (∀ g, v.ownBlock = some g → ¬ C g) ∧ Fx B w wr ∧ wr.ownsRow w.heap.size 3 1 v l.length (ints l) ∧ G.cy ≤ G0.cy + 1 ∧ (G.cy ≤ G0.cy ∨ G.ph = 0) ∧ (l.length ≤ 65536 ∧ (G.ph = 2 → l.length ≤ G.pl) ∧ (G.ph = 1 → l = [])) ∧
    (work u0 G0) = ((work u G).1, l ++ (work u G).2.1, (work u G).2.2)

set_option maxHeartbeats 4000000 in
theorem work_any (p : Nat) (G : Gs) (B : Nat → Prop) (x : Int) (w : World) (h : Gr w p G B) (hI : Iv G) (hx : x ≤ 1000000000000000000) (hcy : G.cy < 900000000000000000) :
    Calls Try.prog 18 #[.pointer (some ⟨p, 0, none⟩), .int .i64 x] w (WkPost w p B G x.toNat) := by
  have hu : x.toNat ≤ 1000000000000000000 := by omega
  have HS : Hid (Wr w p B G x.toNat x.toNat (.slice none 0 0) w) := ⟨G, B, [], hI, h, fun _ q => .inl q, by simp [Value.ownBlock], Fx.refl _ _, own_nil _ _ _ _, by omega, .inl (Nat.le_refl _), by simp, by simp⟩
  have HE : Hid (∀ v wr u, Wr w p B G x.toNat u v wr → (u = 0 ∨ ∃ f, wr.cell? ⟨p, 3, none⟩ = some (.int .i64 f) ∧ f = 0) → WkPost w p B G x.toNat (.returned (.tuple #[.int .i64 (u : Nat), v])) wr) := by
    rintro v wr u ⟨G', C, l, hI', hG', hC, hv, hX, ho, _, _, _, hw⟩ hstop
    have h0 : u = 0 ∨ G'.ph = 0 := by
      rcases hstop with q | ⟨f, q, r⟩
      · exact .inl q
      · right
        obtain ⟨vn, vl, SV, hm, _⟩ := hG'
        have := hm.flds.2.2.2.1
        rw [q] at this
        simp at this
        omega
    have h1 : work u G' = (u, [], G') := by
      rcases h0 with rfl | q
      · rfl
      · exact work_idle q u
    rw [h1] at hw
    simp only [List.append_nil] at hw
    refine ⟨v, C, ?_, ?_, ?_, hC, hv, hX⟩
    · rw [hw]
    · rw [hw]; exact ho
    · rw [hw]; exact hG'
  have HCY := hid hcy
  by_cases hx0 : x ≤ 0
  · have hu0 : x.toNat = 0 := by omega
    rw [hu0] at HS HE ⊢
    clear h hI hcy hu
    by_cases hz : x = 0
    · subst hz
      go_enter Try.func18, Try.ntmps18
      go_wp2_with fail
      go_loopg [6, 7] 0 (fun _ a b wr => a = .int .i64 0 ∧ b = .slice none 0 0 ∧ wr = w)
      case atStart => exact ⟨rfl, rfl, rfl⟩
      case round =>
        obtain ⟨rfl, rfl, rfl⟩ := hrel
        go_wp2_with fail
        go_ret2
        exact HE.out _ _ 0 HS.out (.inl rfl)
    · have hx1 : x < 0 := by omega
      have hx2 : ¬ (0 < x) := by omega
      have hx3 : ¬ (0 ≤ x) := by omega
      go_enter Try.func18, Try.ntmps18
      go_wp2_with fail
      go_loopg [6, 7] 0 (fun _ a b wr => a = .int .i64 0 ∧ b = .slice none 0 0 ∧ wr = w)
      case atStart => exact ⟨rfl, rfl, rfl⟩
      case round =>
        obtain ⟨rfl, rfl, rfl⟩ := hrel
        go_wp2_with fail
        go_ret2
        exact HE.out _ _ 0 HS.out (.inl rfl)
  · obtain ⟨u0, rfl⟩ : ∃ u0 : Nat, x = u0 := ⟨x.toNat, by omega⟩
    simp only [Int.toNat_natCast] at HS HE hu ⊢
    clear h hI hcy
    have hx1 : 0 < (u0 : Int) := by omega
    go_enter Try.func18, Try.ntmps18
    go_wp2_with fail
    go_loopg [6, 7] u0 (fun q a b wr => a = .int .i64 q ∧ q ≤ u0 ∧ (∃ ad n c, b = .slice ad n c) ∧ Wr w p B G u0 q b wr)
    case atStart => exact ⟨rfl, Nat.le_refl _, ⟨_, _, _, rfl⟩, HS.out⟩
    case round =>
      clear HS
      obtain ⟨rfl, hq, ⟨ad, vn, vc, rfl⟩, hW⟩ := hrel
      have HW := hid hW
      clear hW
      cases gk with
      | zero =>
        go_wp2_with fail
        go_ret2
        exact HE.out _ _ 0 HW.out (.inl rfl)
      | succ q =>
        obtain ⟨G', C, l, hI', hG', hC, hv, hX, ho, hc1, hc2, hlu, hw⟩ := HW.out.go
        have c3 : wr.cell? ⟨p, 3, none⟩ = some (.int .i64 G'.ph) := by
          obtain ⟨vn, vl, SV, hm, _⟩ := hG'
          exact hm.flds.2.2.2.1
        have hq1 : 0 < ((q + 1 : Nat) : Int) := by omega
        by_cases hp0 : G'.ph = 0
        · have hb0 : ((G'.ph : Int) != 0) = false := by simp [hp0]
          have HF := hid (HE.out _ _ _ HW.out (.inr ⟨_, c3, by simp [hp0]⟩))
          clear hI' hG' hC hv hX ho hc1 hc2 hlu hw hp0 HE HW
          generalize G'.ph = ph at *
          go_wp2_with fail
          go_ret2
          exact HF.out
        · have hb0 : ((G'.ph : Int) != 0) = true := by simp; omega
          have hcy' : G'.cy < 1000000000000000000 := by have := HCY.out; omega
          have hun : work (q + 1) G' = ((work q (unit G').1).1, (unit G').2 ++ (work q (unit G').1).2.1, (work q (unit G').1).2.2) := by simp only [work, hp0, if_false]
          rw [hun] at hw
          have hIu := iv_unit hI' hp0
          have hcu := unit_cy G'
          by_cases h1 : G'.ph = 1
          · have hb1 : ((G'.ph : Int) == 1) = true := by simp [h1]
            have K := mark_any p G' C wr hG' hI'
            have hU : unit G' = (mark G', []) := by simp only [unit, h1, if_true]
            rw [hU] at hw hIu hcu
            have HN : Hid (∀ w1, Gr w1 p (mark G') (Nw C wr) → Fx C wr w1 → Wr w p B G u0 q (.slice ad vn vc) w1) := fun w1 g1 x1 => by
              refine ⟨mark G', Nw C wr, l, hIu, g1, fun k hk => ?_, fun g hg => ?_, hX.trans x1 (fun k hk => hC k hk), own_keepF ho x1 hv, ?_, ?_, ⟨hlu.1, fun _ => by rw [hlu.2.2 h1]; simp, fun _ => hlu.2.2 h1⟩, by simpa using hw⟩
              · rcases hk with r | r
                · exact hC k r
                · exact .inr (Nat.le_trans hX.size r)
              · rintro (r | r)
                · exact hv g hg r
                · have := (own_lt ho g hg).2; omega
              · rcases hcu with r | r
                · simp only at r; omega
                · simp only at r; omega
              · rcases hcu with r | r
                · simp only at r; left; omega
                · exact .inr r.2
            clear hI' hG' hC hv hX ho hc1 hc2 hlu hw hp0 HE HW hIu hcu hun hU h1
            generalize G'.ph = ph at *
            go_wp2_with fail
            refine K.mono ?_
            clear K
            rintro e w1 ⟨rfl, g1, x1⟩
            have HN1 := hid (HN.out w1 g1 x1)
            clear g1 x1 HN
            go_wp2_with fail
            go_roundg q
            case measure => omega
            case rel => exact ⟨by go_num, by omega, ⟨_, _, _, rfl⟩, HN1.out⟩
          · have hb1 : ((G'.ph : Int) == 1) = false := by simp; omega
            have K := sweep_any p G' C wr hG' hI' (by have := hI'.ph; omega) hcy'
            have hU : unit G' = sweep G' := by simp only [unit, h1, if_false]
            rw [hU] at hw hIu hcu
            have hsw : (sweep G').2 = [] ∨ ∃ y, (sweep G').2 = [y] ∧ y ≤ 65536 ∧ G'.pl < G'.en := by
              unfold sweep
              split
              · exact .inl rfl
              · split
                · right
                  rename_i hpen _
                  refine ⟨_, rfl, ?_⟩
                  have := hI'.pe (by have := hI'.ph; omega)
                  have := hI'.len
                  omega
                · exact .inl rfl
            have hsp : (sweep G').1.ph ≠ 1 ∧ ((sweep G').1.ph = 2 → G'.pl + 1 ≤ (sweep G').1.pl) := by
              unfold sweep
              split
              · simp
              · split
                · exact ⟨h1, fun _ => Nat.le_refl _⟩
                · exact ⟨h1, fun _ => Nat.le_refl _⟩
            have hph2 : G'.ph = 2 := by have := hI'.ph; omega
            have hlu2 := hlu.2.1 hph2
            have hpe := hI'.pe hph2
            have hln := hI'.len
            have hcy1 : (sweep G').1.cy ≤ G.cy + 1 ∧ ((sweep G').1.cy ≤ G.cy ∨ (sweep G').1.ph = 0) := by
              rcases hcu with r | r
              · exact ⟨by omega, .inl (by omega)⟩
              · exact ⟨by omega, .inr r.2⟩
            have hC1 : ∀ k, Nw C wr k → Nw B w k := fun k hk => by
              rcases hk with r | r
              · exact hC k r
              · exact .inr (Nat.le_trans hX.size r)
            have hv1 : ∀ g, (Value.slice ad vn vc).ownBlock = some g → ¬ Nw C wr g := fun g hg => by
              rintro (r | r)
              · exact hv g hg r
              · have := (own_lt ho g hg).2; omega
            rcases hsw with hs | ⟨y, hs, hy, hple⟩
            · rw [hs] at hw K
              have HN : Hid (∀ w1, Gr w1 p (sweep G').1 (Nw C wr) → Fx C wr w1 → Wr w p B G u0 q (.slice ad vn vc) w1) := fun w1 g1 x1 =>
                ⟨(sweep G').1, Nw C wr, l, hIu, g1, hC1, hv1, hX.trans x1 (fun k hk => hC k hk), own_keepF ho x1 hv, hcy1.1, hcy1.2, ⟨hlu.1, fun q => by have := hsp.2 q; omega, fun q => absurd q hsp.1⟩, by simpa using hw⟩
              clear hI' hG' hC hv hX ho hc1 hc2 hlu hw hp0 HE HW hIu hcu hun hU h1 hC1 hv1 hcy1 hs hsp hph2 hlu2 hpe hln
              generalize G'.ph = ph at *
              rw [show swN [] = -1 from rfl] at K
              go_wp2_with fail
              refine K.mono ?_
              clear K
              rintro e w1 ⟨rfl, g1, x1⟩
              have HN1 := hid (HN.out w1 g1 x1)
              clear g1 x1 HN
              go_wp2_with fail
              go_roundg q
              case measure => omega
              case rel => exact ⟨by go_num, by omega, ⟨_, _, _, rfl⟩, HN1.out⟩
            · rw [hs] at hw K
              rw [show swN [y] = (y : Int) from rfl] at K
              have hy1 : ((y : Int) != -1) = true := by simp
              have HA : Hid (∀ w1, Gr w1 p (sweep G').1 (Nw C wr) → Fx C wr w1 → ∃ v' w2, (Builtin.append_ #[28, 28] 28 #[.slice ad vn vc, .slice (some ⟨w1.heap.size, 0, none⟩) 1 1]).run Try.prog (w1.alloc (.cells #[.int .i64 y] 3)) = .ok v' w2 ∧ (∃ ad n c, v' = .slice ad n c) ∧ Wr w p B G u0 q v' w2) := fun w1 g1 x1 => by
                have ho1 := own_keepF ho x1 hv
                have hEa := Ext.alloc [] w1 (.cells #[.int .i64 (y : Int)] 3)
                obtain ⟨i3, hi3, hz3, hs3, hy3⟩ := info_parts info3
                have hXs := hX.size
                have hxs := x1.size
                obtain ⟨v', w2, hr, ho2, hg2, _, hat⟩ := run_append_own_at (P := Try.prog) (w1.alloc (.cells #[.int .i64 y] 3)) w.heap.size 28 28 3 i3 _ 1 8 Try.underlying28 hi3 hz3 hs3 hy3 rfl (by decide) (.slice ad vn vc) l.length (ints l) (own_keep0 ho1 hEa) ⟨w1.heap.size, 0, none⟩ 1 1 [.int .i64 y] rfl (fun j u hu => by rw [Addr.add_lit, cell_of_row _ _ _ _ _ _ (heap_alloc_new w1 _), Nat.zero_add, ← hu]; simp) (by simp [Value.oneCell']) (by unfold maxLen; omega) (by omega) (by simp; omega)
                have hX2 := ext_grown hg2
                refine ⟨v', w2, hr, ?_, ⟨(sweep G').1, fun k => Nw C wr k ∧ k < w1.heap.size, l ++ [y], hIu, ?_, fun k hk => hC1 k hk.1, fun g hg => ?_, ?_, ?_, hcy1.1, hcy1.2, ⟨by simp; omega, fun q => by have := hsp.2 q; simp; omega, fun q => absurd q hsp.1⟩, by simpa using hw⟩⟩
                · obtain ⟨a2, c2, e2, _⟩ := own_slice ho2
                  exact ⟨a2, _, c2, e2⟩
                · exact (g1.there.keep0 hEa).keep (Fx.of_ext hX2 (fun k hk => .inl (by simpa using hk : (Value.slice ad vn vc).ownBlock = some k))) (fun k hk q => hv1 k q hk.1)
                · rintro ⟨r1, r2⟩
                  rcases Nat.lt_or_ge g w1.heap.size with r | r
                  · by_cases e : (Value.slice ad vn vc).ownBlock = some g
                    · exact hv1 g e r1
                    · rcases hat with q | q
                      · exact e (by rw [← q]; exact hg)
                      · rw [hg] at q; simp at q; omega
                  · omega
                · exact (hX.trans x1 (fun k hk => hC k hk)).trans (C := fun k => (Value.slice ad vn vc).ownBlock = some k) ((Fx.of_ext0 hEa).trans (Fx.of_ext hX2 (fun k hk => .inl (by simpa using hk))) (fun _ r => .inl r)) (fun k hk => .inr (own_lt ho k hk).1)
                · simpa [ints] using ho2
              clear hI' hG' hC hv hX ho hc1 hc2 hlu hw hp0 HE HW hIu hcu hun hU h1 hC1 hv1 hcy1 hs hsp hph2 hlu2 hpe hln
              generalize G'.ph = ph at *
              go_wp2_with fail
              refine K.mono ?_
              clear K
              rintro e w1 ⟨rfl, g1, x1⟩
              obtain ⟨v', w2, hr, ⟨a2, n2, c2, rfl⟩, hN1⟩ := HA.out w1 g1 x1
              clear hple
              have HN1 := hid hN1
              clear g1 x1 HA hN1
              go_wp2_with (at_builtin; refine wpList_append_run rfl _ _ 28 rfl _ _ _ rfl rfl hr ?_)
              go_roundg q
              case measure => omega
              case rel => exact ⟨by go_num, by omega, ⟨_, _, _, rfl⟩, HN1.out⟩

end Go.Proofs.Ytbjplfbplkjibaa

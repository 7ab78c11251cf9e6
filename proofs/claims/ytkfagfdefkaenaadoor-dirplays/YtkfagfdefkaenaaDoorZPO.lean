/-
  RhI, RhK: joined by program; no statement is proved here.
-/
import Derived.Test.YtkfagfdefkaenaaDoorZN
import Derived.Test.YtkfagfdefkaenaaDoorZPJ
import Derived.Test.YtkfagfdefkaenaaDoorZPI
import Derived.Test.YtkfagfdefkaenaaDoorZPN
import Derived.Test.YtkfagfdefkaenaaDoorZQ
/-
  New directories, the program's and the document's; no statement is proved here.
-/
namespace Go.Proofs.YtkfagfdefkaenaaDoor.Rf
open Go.RowKit Go.Shelf
open Pr (Gp GpI sq pl)
attribute [local go_sem] Oper.semAt_some run_store_func

def DnG (w : World) (e : Ending) (w' : World) : Prop := ∃ bt ct bs cs, e = .returned (.agg #[.int .i64 0, .slice (some ⟨bt, 0, none⟩) 1 ct, .slice (some ⟨bs, 0, none⟩) 1 cs]) ∧ Dr w' bt bs 0 0 [⟨0, 1, newT 1⟩] ∧ 1 ≤ cs ∧ w.heap.size ≤ bt ∧ w.heap.size ≤ bs ∧ Ext [] w w'
set_option maxRecDepth 100000 in
set_option maxHeartbeats 4000000 in
theorem dnewG_any (w : World) : Calls Tryd.prog 12 #[] w (DnG w) := by
  have hE0 := Ext.alloc [] w (.cells #[.int .i64 0, .slice none 0 0, .slice none 0 0] 27)
  have hb0 := heap_alloc_new w (.cells #[.int .i64 0, .slice none 0 0, .slice none 0 0] 27)
  obtain ⟨W0, hW0⟩ : ∃ W0, w.alloc (.cells #[.int .i64 0, .slice none 0 0, .slice none 0 0] 27) = W0 := ⟨_, rfl⟩
  obtain ⟨z, hz⟩ : ∃ z, w.heap.size = z := ⟨_, rfl⟩
  rw [hW0] at hE0 hb0
  rw [hz] at hb0
  have KN := tnew_ok 1 gp1 W0
  simp only [show ((1 : Nat) : Int) = 1 from rfl] at KN
  have HE0 := hid hE0
  have B0 := hid hb0
  clear hE0 hb0
  go_enter Tryd.func12, Tryd.ntmps12
  go_wp2_with fail
  refine KN.mono ?_
  clear KN
  rintro _ w1 ⟨g, c, rfl, hT, hg, hE1⟩
  obtain ⟨y, hy⟩ : ∃ y, w1.heap.size = y := ⟨_, rfl⟩
  have hEa : Ext [] w1 ((w1.alloc (.cells #[.int .i64 0, .slice (some ⟨g, 0, none⟩) 20 c] 66)).alloc (.cells #[.int .i64 0] 3)) := (Ext.alloc [] _ _).trans (Ext.alloc [] _ _)
  have ht2 : ((w1.alloc (.cells #[.int .i64 0, .slice (some ⟨g, 0, none⟩) 20 c] 66)).alloc (.cells #[.int .i64 0] 3)).heap[y]? = some (.cells #[.int .i64 0, .slice (some ⟨g, 0, none⟩) 20 c] 66) := by
    rw [← hy]; exact (Below.heap_alloc _ _ _ (by simp)).trans (heap_alloc_new w1 _)
  have hn2 : ((w1.alloc (.cells #[.int .i64 0, .slice (some ⟨g, 0, none⟩) 20 c] 66)).alloc (.cells #[.int .i64 0] 3)).heap[y + 1]? = some (.cells #[.int .i64 0] 3) := by
    have := heap_alloc_new (w1.alloc (.cells #[.int .i64 0, .slice (some ⟨g, 0, none⟩) 20 c] 66)) (.cells #[.int .i64 0] 3)
    rwa [World.size_alloc, hy] at this
  obtain ⟨W2, hW2⟩ : ∃ W2, (w1.alloc (.cells #[.int .i64 0, .slice (some ⟨g, 0, none⟩) 20 c] 66)).alloc (.cells #[.int .i64 0] 3) = W2 := ⟨_, rfl⟩
  rw [hW2] at hEa ht2 hn2
  have hr2 := (hE1.trans hEa).keep B0.out (by simp)
  obtain ⟨y0, y1, y2⟩ := cells3 hr2
  obtain ⟨hs3, x0, x1, x2⟩ := s3_of hr2 (.int .i64 0) (.slice (some ⟨y, 0, none⟩) 1 1) (.slice (some ⟨y + 1, 0, none⟩) 1 1)
  have hzy : z < y := by rw [← hy]; exact lt_of_heap (hE1.keep B0.out (by simp))
  have hs0 := HE0.out.size
  have HF : Hid (DnG w (.returned (.agg #[.int .i64 0, .slice (some ⟨y, 0, none⟩) 1 1, .slice (some ⟨y + 1, 0, none⟩) 1 1])) (((W2.setCell ⟨z, 0, none⟩ (.int .i64 0)).setCell ⟨z, 1, none⟩ (.slice (some ⟨y, 0, none⟩) 1 1)).setCell ⟨z, 2, none⟩ (.slice (some ⟨y + 1, 0, none⟩) 1 1))) := by
    have hgz : g ≠ z := by
      rintro rfl
      obtain ⟨c', e, _⟩ := hT
      rw [hE1.keep B0.out (by simp)] at e; cases e
    refine ⟨y, 1, y + 1, 1, rfl, ⟨⟨_, hs3.ext.keep ht2 (by simp; omega), fun k u hk => ?_⟩, fun j x hj => ?_⟩, Nat.le_refl _, by omega, by omega, ((HE0.out.trans hE1).trans hEa).on hs3.ext (by simp; omega)⟩
    · match k, hk with
      | 0, hk =>
        cases hk
        exact ⟨g, c, rfl, rfl, (hT.keep0 hEa).keep hs3.ext (by simpa using hgz)⟩
      | k + 1, hk => simp at hk
    · rw [cell_of_row _ _ _ _ _ _ (hs3.ext.keep hn2 (by simp; omega))]
      match j, hj with
      | 0, hj => cases hj; rfl
      | j + 1, hj => simp [slo, wdt] at hj
  have HS3 := hid hs3.row
  clear hT hE1 hW0 hEa ht2 hn2 hr2 hs3
  go_wp2_with fail
  refine bodyPost_ret (results_cell_row rfl _ _ z 27 _ (0, 0) _ rfl HS3.out Tryd.underlying27 rfl size27) rfl HF.out
/-- A new directory of the document's. -/
def NdPost (w : World) (e : Ending) (w' : World) : Prop := ∃ pd qd cd R, e = .returned (.pointer (some ⟨pd, 0, none⟩)) ∧ Rd w' pd qd cd 0 [⟨0, 1, newT 1⟩] R ∧ Low w.heap.size pd qd R ∧ Ext [] w w'
set_option maxRecDepth 100000 in
theorem nd_of {w w1 : World} {p q : Nat} (hR : Rt w1 p q (8 * 1) 1 (newT 1)) (hp : w.heap.size ≤ p) (hq : w.heap.size ≤ q) (hE : Ext [] w w1) (s : Nat) (hs : w1.heap.size = s) :
    NdPost w (.returned (.pointer (some ⟨s + 2, 0, none⟩))) (((w1.alloc (.cells #[.int .i64 0, .int .u64 0, .pointer (some ⟨p, 0, none⟩)] 80)).alloc (.cells #[.pointer (some ⟨s, 0, none⟩)] 78)).alloc (.cells #[.int .i64 0, .slice (some ⟨s + 1, 0, none⟩) 1 1] 83)) := by
  have x1 := Ext.alloc [] w1 (.cells #[.int .i64 0, .int .u64 0, .pointer (some ⟨p, 0, none⟩)] 80)
  have n1 := heap_alloc_new w1 (.cells #[.int .i64 0, .int .u64 0, .pointer (some ⟨p, 0, none⟩)] 80)
  have z1 := World.size_alloc w1 (.cells #[.int .i64 0, .int .u64 0, .pointer (some ⟨p, 0, none⟩)] 80)
  obtain ⟨w2, h2⟩ : ∃ w2, w1.alloc (.cells #[.int .i64 0, .int .u64 0, .pointer (some ⟨p, 0, none⟩)] 80) = w2 := ⟨_, rfl⟩
  rw [h2] at x1 n1 z1 ⊢
  have x2 := Ext.alloc [] w2 (.cells #[.pointer (some ⟨s, 0, none⟩)] 78)
  have n2 := heap_alloc_new w2 (.cells #[.pointer (some ⟨s, 0, none⟩)] 78)
  have z2 := World.size_alloc w2 (.cells #[.pointer (some ⟨s, 0, none⟩)] 78)
  obtain ⟨w3, h3⟩ : ∃ w3, w2.alloc (.cells #[.pointer (some ⟨s, 0, none⟩)] 78) = w3 := ⟨_, rfl⟩
  rw [h3] at x2 n2 z2 ⊢
  have x3 := Ext.alloc [] w3 (.cells #[.int .i64 0, .slice (some ⟨s + 1, 0, none⟩) 1 1] 83)
  have n3 := heap_alloc_new w3 (.cells #[.int .i64 0, .slice (some ⟨s + 1, 0, none⟩) 1 1] 83)
  obtain ⟨w4, h4⟩ : ∃ w4, w3.alloc (.cells #[.int .i64 0, .slice (some ⟨s + 1, 0, none⟩) 1 1] 83) = w4 := ⟨_, rfl⟩
  rw [h4] at x3 n3 ⊢
  rw [hs] at n1 z1
  rw [z1] at n2 z2
  rw [z2] at n3
  have hw := hE.size
  refine ⟨s + 2, s + 1, 1, [⟨s, p, q, 8 * 1⟩], rfl, ⟨n3, rfl, ⟨_, x3.keep n2 (by simp), fun k r hk => ?_⟩, fun k r t hr ht => ?_, fun i j r r' hi hj hij => ?_, Nat.le_refl _⟩, ⟨by omega, by omega, fun r hr => ?_⟩, ((hE.trans x1).trans x2).trans x3⟩
  · match k, hk with
    | 0, hk => cases hk; rfl
    | k + 1, hk => simp at hk
  · match k, hr, ht with
    | 0, hr, ht =>
      cases hr
      cases ht
      exact ⟨(x2.trans x3).keep n1 (by simp), hR.keep0 ((x1.trans x2).trans x3)⟩
    | k + 1, hr, _ => simp at hr
  · have h1 := (List.getElem?_eq_some_iff.1 hi).1
    have h2 := (List.getElem?_eq_some_iff.1 hj).1
    simp at h1 h2
    omega
  · rw [List.mem_singleton] at hr
    subst hr
    exact ⟨by show _ ≤ s; omega, hp, hq⟩
set_option maxRecDepth 100000 in
set_option maxHeartbeats 4000000 in
theorem newDir_any (w : World) : Calls Tryd.prog 13 #[] w (NdPost w) := by
  have KN := rnew_ok 1 gp1 w
  simp only [show ((1 : Nat) : Int) = 1 from rfl] at KN
  go_enter Tryd.func13, Tryd.ntmps13
  go_wp2_with fail
  refine KN.mono ?_
  clear KN
  rintro _ w1 ⟨p, q, rfl, hR, hp, hq, hE⟩
  obtain ⟨s, hs⟩ : ∃ s, w1.heap.size = s := ⟨_, rfl⟩
  have HF := hid (nd_of hR hp hq hE s hs)
  clear hR hE hp hq
  go_wp2_with fail
  try simp only [hs]
  go_ret
  exact HF.out
end Go.Proofs.YtkfagfdefkaenaaDoor.Rf

/-
  One operation on the program's directory and on the document's; no statement is proved here.
-/
namespace Go.Proofs.YtkfagfdefkaenaaDoor.Rf
open Go.RowKit Go.Shelf
open Pr (Gp GpI sq pl)

/-- What an operation may make of a directory. -/
def ResD (h d dp : Nat) (L : List Tq) : Option (Nat × List Tq) → Prop
  | some (dp', L') => dp' = dp ∧ DelD h d dp L (some L')
  | none => DelD h d dp L none
structure Rsn (dp : Nat) (L : List Tq) (Res : Option (Nat × List Tq) → Prop) : Prop where
  det : ∀ a b, Res a → Res b → a = b
  nxt : ∀ dp' L', Res (some (dp', L')) → Dq dp' L' ∧ G2 L'
theorem rsn_ins {h d dp : Nat} {L : List Tq} (hD : Dq dp L) (g : G2 L) (hh : h < 18446744073709551616) (hd : d < 18446744073709551616) : Rsn dp L (InsD h d dp L) :=
  ⟨fun _ _ a b => insD_det a b, fun _ _ r => ins_dq hD g hh hd r⟩
theorem rsn_del {h d dp : Nat} {L : List Tq} (hD : Dq dp L) (g : G2 L) : Rsn dp L (ResD h d dp L) := by
  refine ⟨fun a b ha hb => ?_, fun dp' L' r => ?_⟩
  · have key : ∀ x : Option (Nat × List Tq), ResD h d dp L x → DelD h d dp L (x.map (·.2)) ∧ ∀ y, x = some y → y.1 = dp := by
      intro x hx
      cases x with
      | none => exact ⟨hx, fun y hy => by cases hy⟩
      | some x =>
        obtain ⟨e, h⟩ := hx
        exact ⟨h, fun y hy => by cases hy; exact e⟩
    obtain ⟨a1, a2⟩ := key a ha
    obtain ⟨b1, b2⟩ := key b hb
    have e := delD_det hD.le a1 b1
    cases a with
    | none =>
      cases b with
      | none => rfl
      | some y => simp at e
    | some x =>
      cases b with
      | none => simp at e
      | some y =>
        obtain ⟨x1, x2⟩ := x
        obtain ⟨y1, y2⟩ := y
        have h1 := a2 _ rfl
        have h2 := b2 _ rfl
        simp only at h1 h2
        simp only [Option.map_some, Option.some.injEq] at e
        rw [h1, h2, e]
  · obtain ⟨rfl, h⟩ := r
    exact del_dq hD g h
/-- The program's answer. -/
def OuG (Res : Option (Nat × List Tq) → Prop) (w : World) (e : Ending) (w' : World) : Prop := ∃ (P : Int) (qa : Option Addr) (qn qc : Nat) (ra : Option Addr) (rn rc : Nat) (er : Int), e = .returned (.tuple #[.agg #[.int .i64 P, .slice qa qn qc, .slice ra rn rc], .int .i64 er]) ∧ Ext [] w w' ∧
  ((er = 0 ∧ ∃ dp' L', DansD w w' (.agg #[.int .i64 P, .slice qa qn qc, .slice ra rn rc]) dp' L' ∧ Res (some (dp', L'))) ∨ (er ≠ 0 ∧ Res none))
theorem del_g (dp bt ct bs os cs n h d : Nat) (L : List Tq) (hD : Dq dp L) (hcs : 2 ^ dp ≤ cs) (hn : L.length = n) (hh : h < 18446744073709551616) (hd : d < 18446744073709551616) (w : World) (hR : Dr w bt bs os dp L) (hTb : Tb w) :
    Calls Tryd.prog 14 #[dv dp bt n ct bs os (2 ^ dp) cs, .int .u64 (h : Nat), .int .u64 (d : Nat)] w (OuG (ResD h d dp L) w) := by
  refine (ddelete_any dp bt ct bs os cs n h d L hD hcs hn hh hd w hR hTb).mono ?_
  rintro _ w' ⟨hE, (⟨v, L', rfl, hDa, hp⟩ | ⟨rfl, h0⟩)⟩
  · obtain ⟨n', bt', ct', bs', cs', rfl, hrest⟩ := id hDa
    exact ⟨_, _, _, _, _, _, _, 0, rfl, hE, .inl ⟨rfl, dp, L', hDa, rfl, hp⟩⟩
  · exact ⟨_, _, _, _, _, _, _, 4, rfl, hE, .inr ⟨by decide, h0⟩⟩
theorem ins_g (dp bt ct bs os cs n h d : Nat) (L : List Tq) (hD : Dq dp L) (hcs : 2 ^ dp ≤ cs) (hn : L.length = n) (hh : h < 18446744073709551616) (hd : d < 18446744073709551616) (w : World) (hR : Dr w bt bs os dp L) (hTb : Tb w) :
    Calls Tryd.prog 17 #[dv dp bt n ct bs os (2 ^ dp) cs, .int .u64 (h : Nat), .int .u64 (d : Nat)] w (OuG (InsD h d dp L) w) := by
  refine (dinsert_any dp bt ct bs os cs n h d L hD hcs hn hh hd w hR hTb).mono ?_
  rintro _ w' ⟨hE, (⟨v, dp', L', rfl, hDa, hp⟩ | ⟨rfl, h0⟩)⟩
  · obtain ⟨n', bt', ct', bs', cs', rfl, hrest⟩ := id hDa
    exact ⟨_, _, _, _, _, _, _, 0, rfl, hE, .inl ⟨rfl, dp', L', hDa, hp⟩⟩
  · exact ⟨_, _, _, _, _, _, _, 7, rfl, hE, .inr ⟨by decide, h0⟩⟩
/-- The document's answer. -/
def DcG (Res : Option (Nat × List Tq) → Prop) (dp : Nat) (L : List Tq) (pd : Nat) (R : List Rc) (W0 w : World) (e : Ending) (w' : World) : Prop := ∃ bb, e = .returned (.bool bb) ∧ Ext [] W0 w' ∧ Ext (foot pd R) w w' ∧
  ∃ dp' L' qd cd R', Rd w' pd qd cd dp' L' R' ∧ Low W0.heap.size pd qd R' ∧ NwR pd R w R' ∧ ((bb = true ∧ Res (some (dp', L'))) ∨ (bb = false ∧ Res none ∧ dp' = dp ∧ L' = L))
theorem rdel_g (pd qd cd dp h d : Nat) (L : List Tq) (R : List Rc) (hD : Dq dp L) (hh : h < 18446744073709551616) (W0 w : World) (hX : Ext [] W0 w) (hlo : Low W0.heap.size pd qd R) (hR : Rd w pd qd cd dp L R) :
    Calls Tryd.prog 16 #[.pointer (some ⟨pd, 0, none⟩), .int .u64 (h : Nat), .int .u64 (d : Nat)] w (DcG (ResD h d dp L) dp L pd R W0 w) := by
  refine (rddel_fx pd qd cd dp h d L R hD hh W0 w hX hlo hR).mono ?_
  rintro _ w' ⟨⟨hE, (⟨L', hp, rfl, hR'⟩ | ⟨hp, rfl, hR'⟩)⟩, hF⟩
  · exact ⟨true, rfl, hE, hF, dp, L', qd, cd, R, hR', hlo, NwR.refl pd R w, .inl ⟨rfl, rfl, hp⟩⟩
  · exact ⟨false, rfl, hE, hF, dp, L, qd, cd, R, hR', hlo, NwR.refl pd R w, .inr ⟨rfl, hp, rfl, rfl⟩⟩
theorem rins_g (pd qd cd dp h d : Nat) (L : List Tq) (R : List Rc) (hD : Dq dp L) (hG : G2 L) (hh : h < 18446744073709551616) (hd : d < 18446744073709551616) (W0 w : World) (hX : Ext [] W0 w) (hlo : Low W0.heap.size pd qd R) (hR : Rd w pd qd cd dp L R) :
    Calls Tryd.prog 18 #[.pointer (some ⟨pd, 0, none⟩), .int .u64 (h : Nat), .int .u64 (d : Nat)] w (DcG (InsD h d dp L) dp L pd R W0 w) := by
  refine (rdins_any pd qd cd dp h d L R hD hG hh hd W0 w hX hlo hR).mono ?_
  rintro _ w' ⟨hE, hF, (⟨dp', L', qd', cd', R', hp, rfl, hR', hl, hn⟩ | ⟨qd', cd', R', hp, rfl, hR', hl, hn⟩)⟩
  · exact ⟨true, rfl, hE, hF, dp', L', qd', cd', R', hR', hl, hn, .inl ⟨rfl, hp⟩⟩
  · exact ⟨false, rfl, hE, hF, dp, L, qd', cd', R', hR', hl, hn, .inr ⟨rfl, hp, rfl, rfl⟩⟩
/-- The document's blocks are none of the program's. -/
theorem foot_ty {w : World} {pd qd cd dp : Nat} {L : List Tq} {R : List Rc} (hR : Rd w pd qd cd dp L R) : ∀ x ∈ foot pd R, ∃ cs ty, w.heap[x]? = some (.cells cs ty (0, 0)) ∧ (ty = 83 ∨ ty = 80 ∨ ty = 116) := by
  intro x hx
  rcases foot_mem hx with rfl | ⟨r, hr, h⟩
  · exact ⟨_, _, hR.blk, .inl rfl⟩
  · obtain ⟨k, hk⟩ := List.mem_iff_getElem?.1 hr
    obtain ⟨t, ht⟩ : ∃ t, L[k]? = some t := ⟨_, List.getElem?_eq_getElem (by rw [← hR.len]; exact (List.getElem?_eq_some_iff.1 hk).1)⟩
    obtain ⟨b1, b2⟩ := hR.tab k r t hk ht
    rcases h with rfl | rfl
    · exact ⟨_, _, b1, .inr (.inl rfl)⟩
    · obtain ⟨ds, hds, _⟩ := b2.row
      exact ⟨_, _, hds, .inr (.inr rfl)⟩
theorem foot_ne {w : World} {pd qd cd dp b : Nat} {L : List Tq} {R : List Rc} {cs : Array Value} {ty : TypeId} (hR : Rd w pd qd cd dp L R) (hb : w.heap[b]? = some (.cells cs ty (0, 0))) (h : ty ≠ 83 ∧ ty ≠ 80 ∧ ty ≠ 116) : b ∉ foot pd R := by
  intro hm
  obtain ⟨cs', ty', h1, h2⟩ := foot_ty hR b hm
  rw [hb] at h1
  simp at h1
  obtain ⟨_, rfl⟩ := h1
  rcases h2 with e | e | e
  · exact h.1 e
  · exact h.2.1 e
  · exact h.2.2 e
theorem foot_lt {w : World} {pd qd cd dp : Nat} {L : List Tq} {R : List Rc} (hR : Rd w pd qd cd dp L R) : ∀ x ∈ foot pd R, x < w.heap.size := fun x hx => by
  obtain ⟨_, _, h, _⟩ := foot_ty hR x hx
  exact lt_of_heap h
theorem foot_tw {w : World} {pd qd cd dp : Nat} {L : List Tq} {R : List Rc} (hR : Rd w pd qd cd dp L R) : ∀ x ∈ foot pd R, ∀ T, ¬ Tw w x T := fun x hx T => by
  obtain ⟨_, ty, h, e⟩ := foot_ty hR x hx
  exact not_tw_of h (by rcases e with rfl | rfl | rfl <;> decide) T
theorem dr_foot {w w' : World} {pd qd cd dp bt bs os dp' : Nat} {L L' : List Tq} {R : List Rc} (h : Dr w bt bs os dp' L') (hR : Rd w pd qd cd dp L R) (x : Ext (foot pd R) w w') (hb : bs ∉ foot pd R) : Dr w' bt bs os dp' L' := by
  refine ⟨h.ts.keep x ?_ (foot_tw hR), h.ns.keep x hb⟩
  obtain ⟨cs, e, _⟩ := h.ts
  exact foot_ne hR e (by decide)
theorem nf_step {w : World} {pd b : Nat} {R R' : List Rc} (h : NwR pd R w R') (hb : b ∉ foot pd R) (hl : b < w.heap.size) : b ∉ foot pd R' := by
  intro hm
  rcases foot_mem hm with rfl | ⟨r, hr, e⟩
  · exact hb foot_pd
  · obtain ⟨h1, h2⟩ := h r hr
    rcases e with rfl | rfl
    · rcases h1 with q | q
      · exact hb q
      · omega
    · rcases h2 with q | q
      · exact hb q
      · omega
theorem dr_lt {w : World} {bt bs dp : Nat} {L : List Tq} (hD : Dq dp L) (hR : Dr w bt bs 0 dp L) : bs < w.heap.size := by
  have h0 : 0 < L.length := by
    rcases Nat.eq_zero_or_pos L.length with e | e
    · obtain rfl : L = [] := List.length_eq_zero_iff.1 e
      have h1 := hD.all
      have h2 := Nat.pow_pos (n := dp) (show 0 < 2 by omega)
      simp only [pre] at h1
      omega
    · exact e
  obtain ⟨tq, pq, hNq⟩ := hD.nth (n := 0) h0
  have := World.block_lt_of_cell? w _ (hR.ns _ _ (hNq.slots 0 (wdt_pos _ _)))
  simpa using this
theorem rd_keep27 {w w' : World} {pd qd cd dp z : Nat} {L : List Tq} {R : List Rc} {cz : Array Value} (h : Rd w pd qd cd dp L R) (x : Ext [z] w w') (hz : w.heap[z]? = some (.cells cz 27 (0, 0))) : Rd w' pd qd cd dp L R := by
  have hn : ∀ {b : Nat} {cs : Array Value} {ty : TypeId}, w.heap[b]? = some (.cells cs ty (0, 0)) → ty ≠ 27 → b ∉ [z] := fun hb hty e => by
    rw [List.mem_singleton.1 e, hz] at hb
    simp at hb
    exact hty hb.2.symm
  obtain ⟨cs, h1, h2⟩ := h.row
  refine ⟨x.keep h.blk (hn h.blk (by decide)), h.len, ⟨cs, x.keep h1 (hn h1 (by decide)), h2⟩, fun k r t hr ht => ?_, h.dis, h.cap⟩
  obtain ⟨b1, b2⟩ := h.tab k r t hr ht
  obtain ⟨ds, hds, _⟩ := b2.row
  exact ⟨x.keep b1 (hn b1 (by decide)), b2.keep x (hn b2.blk (by decide)) (hn hds (by decide))⟩
theorem dr_keep27 {w w' : World} {bt bs dp z : Nat} {L : List Tq} {cz : Array Value} (h : Dr w bt bs 0 dp L) (x : Ext [z] w w') (hz : w.heap[z]? = some (.cells cz 27 (0, 0))) (hb : bs ≠ z) : Dr w' bt bs 0 dp L := by
  refine ⟨h.ts.keep x ?_ (by simpa using fun T => not_tw_of hz (by decide) T), h.ns.keep x (by simpa using hb)⟩
  obtain ⟨cs, e, _⟩ := h.ts
  intro hm
  rw [List.mem_singleton.1 hm, hz] at e
  simp at e
/-- What holds between two operations. -/
structure PlI (w : World) (z pd : Nat) (wr : World) : Prop where
  ex : ∃ dp n bt ct bs cs L qd cd R, wr.heap[z]? = some (.cells #[.int .i64 (dp : Nat), .slice (some ⟨bt, 0, none⟩) n ct, .slice (some ⟨bs, 0, none⟩) (2 ^ dp) cs] 27) ∧ Dq dp L ∧ G2 L ∧ L.length = n ∧ 2 ^ dp ≤ cs ∧ Dr wr bt bs 0 dp L ∧ Rd wr pd qd cd dp L R ∧ Low w.heap.size pd qd R ∧ bs ∉ foot pd R ∧ bs < wr.heap.size ∧ bs ≠ z
  ext : Ext [] w wr
/-- Both have answered. -/
theorem pl_both {Res : Option (Nat × List Tq) → Prop} {dp : Nat} {L : List Tq} (hs : Rsn dp L Res) {er : Int} {bb : Bool} {dp1 dp2 : Nat} {L1 L2 : List Tq} (ha : (er = 0 ∧ Res (some (dp1, L1))) ∨ (er ≠ 0 ∧ Res none ∧ dp1 = dp ∧ L1 = L)) (hb : (bb = true ∧ Res (some (dp2, L2))) ∨ (bb = false ∧ Res none ∧ dp2 = dp ∧ L2 = L)) : bb = (er == 0) ∧ dp1 = dp2 ∧ L1 = L2 := by
  rcases ha with ⟨rfl, a⟩ | ⟨h0, a, rfl, rfl⟩ <;> rcases hb with ⟨rfl, b⟩ | ⟨rfl, b, rfl, rfl⟩
  · have := hs.det _ _ a b
    simp only [Option.some.injEq, Prod.mk.injEq] at this
    exact ⟨rfl, this.1, this.2⟩
  · have := hs.det _ _ a b
    simp at this
  · have := hs.det _ _ a b
    simp at this
  · refine ⟨?_, rfl, rfl⟩
    simp [h0]
end Go.Proofs.YtkfagfdefkaenaaDoor.Rf

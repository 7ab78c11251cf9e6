/-
  Owner: the run in which a page lies; no statement is proved here.
-/
import Derived.Test.YtkdgekdacinlhaaLargest
namespace Go.Proofs.Ytkdgekdacinlhaa
open Go.RowKit Go.Shelf

attribute [local go_sem] Oper.semAt_some

theorem results_cells2 {P : Program} {fn : Func} {p q : Tmp} {ty ty' : TypeId} (h : fn.results = #[.cell p ty, .cell q ty']) (tmps : Array Value) (w : World) (a b : Addr) (v v' : Value)
    (hp : tmps.getD p undef = .pointer (some a)) (hq : tmps.getD q undef = .pointer (some b)) (h1 : (loadVar ty a).run P w = .ok v w) (h2 : (loadVar ty' b).run P w = .ok v' w) : (results fn tmps).run P w = .ok (.tuple #[v, v']) w := by
  have hp' : tmps[p]?.getD undef = .pointer (some a) := by simpa using hp
  have hq' : tmps[q]?.getD undef = .pointer (some b) := by simpa using hq
  simp [results, h, hp', hq', asAddr, h1, h2]

theorem size42 : (Try.prog.info? 42).map (·.size) = some 3 := by kernel_rfl
theorem load42 {w : World} {g : Nat} {x : Rn} (h : w.heap[g]? = some (.cells #[.int .i64 x.s, .int .i64 x.n, .bool x.u] 42 (0, 0))) : (loadVar 42 ⟨g, 0, none⟩).run Try.prog w = .ok x.val w :=
  run_loadVar_row w g 42 42 _ (0, 0) _ h Try.underlying42 rfl size42
theorem load25 {w : World} {g : Nat} {v : Value} (h : Boxed w g 25 v) : (loadVar 25 ⟨g, 0, none⟩).run Try.prog w = .ok v w := by
  have := h.cell
  simp [go_sem, this]

/-- Does a page lie in a run? -/
def tst (page : Int) (x : Rn) : Bool := decide ((x.s : Int) ≤ page) && decide (page < wrap64 ((x.s : Int) + x.n))

/-- The run of a page, and the error. -/
def ownR (L : List Rn) (page : Int) : Rn := (L.find? (tst page)).getD ⟨0, 0, false⟩
def ownE (L : List Rn) (page : Int) : Int := if (L.find? (tst page)).isSome then 0 else 2

def OwnPost (w : World) (L : List Rn) (page : Int) (e : Ending) (w' : World) : Prop := e = .returned (.tuple #[(ownR L page).val, .int .i64 (ownE L page)]) ∧ Ext [] w w'

/-- No run of a list has the page; the first run that has it. -/
def NoIn (page : Int) (L : List Rn) : Prop := L.find? (tst page) = none
def FirstIn (page : Int) (L : List Rn) (x : Rn) : Prop := L.find? (tst page) = some x

theorem set3 {W : World} {g : Nat} {a b c : Value} {t : TypeId} (h : W.heap[g]? = some (.cells #[a, b, c] t (0, 0))) (x y z : Value) : (((W.setCell ⟨g, 0, none⟩ x).setCell ⟨g, 1, none⟩ y).setCell ⟨g, 2, none⟩ z).heap[g]? = some (.cells #[x, y, z] t (0, 0)) := by
  have h1 := heap_setCell_same W g 0 _ t x h
  have h2 := heap_setCell_same _ g 1 _ t y h1
  have h3 := heap_setCell_same _ g 2 _ t z h2
  simpa using h3
theorem ext3 (S : List Nat) (W : World) (g : Nat) (x y z : Value) (h : g ∈ S) : Ext S W (((W.setCell ⟨g, 0, none⟩ x).setCell ⟨g, 1, none⟩ y).setCell ⟨g, 2, none⟩ z) :=
  ((Ext.setCell S W _ x h).trans (Ext.setCell S _ _ y h)).trans (Ext.setCell S _ _ z h)
theorem keeps3 (W : World) (g : Nat) (x y z : Value) : KeepsOthers W (((W.setCell ⟨g, 0, none⟩ x).setCell ⟨g, 1, none⟩ y).setCell ⟨g, 2, none⟩ z) :=
  ((KeepsOthers.setCell _ _ _).trans (KeepsOthers.setCell _ _ _)).trans (KeepsOthers.setCell _ _ _)
theorem find_snoc {L : List Rn} {p : Rn → Bool} {x : Rn} (h : L.find? p = none) : (L ++ [x]).find? p = if p x then some x else none := by
  rw [List.find?_append, h]
  simp [List.find?_cons]
  cases p x <;> rfl
theorem find_prefix {A B : List Rn} {p : Rn → Bool} {x : Rn} (h : A.find? p = some x) (hp : A <+: B) : B.find? p = some x := by
  obtain ⟨t, rfl⟩ := hp
  rw [List.find?_append, h]; rfl

set_option maxRecDepth 100000 in
set_option maxHeartbeats 4000000 in
theorem owner_of (pv : Option Addr) (v : Value) (L : List Rn) (page : Int) (w : World) (hN : NowOf w pv v) (hL : Lst w v L) (hlen : L.length ≤ 1000000) : Calls Try.prog 17 #[.pointer pv, .int .i64 page] w (OwnPost w L page) := by
  refine (callsIn_wide (n := 8)).1 ?_
  refine callsIn_of_wp_marks Try.func17 rfl trivial ?_ rfl
  simp only [Try.ntmps17, List.size_toArray, List.length_cons, List.length_nil, Nat.reduceAdd, Nat.reduceSub, Array.replicate_succ, Array.replicate_zero, List.push_toArray, List.append_toArray, List.nil_append, List.cons_append]
  have hlt := hL.lt
  have hE3 : Ext [] w (((w.alloc (.cells #[.int .i64 page] 3)).alloc (.cells #[.int .i64 0, .int .i64 0, .bool false] 42)).alloc (.cells #[.int .i64 0] 25)) := ((Ext.alloc [] _ _).trans (Ext.alloc [] _ _)).trans (Ext.alloc [] _ _)
  have K := hN _ hE3
  have HL := hid hL
  clear hL hN hE3
  gi_wp2_with (refine ⟨trivial, ?_⟩; gi_at_call 26; refine (callsIn_wide.2 K).mono ?_; rintro e w' ⟨rfl, rfl⟩)
  clear K
  obtain ⟨z, hz⟩ : ∃ z, z = w.heap.size := ⟨_, rfl⟩
  have hE0 : Ext [] w ((((w.alloc (.cells #[.int .i64 page] 3)).alloc (.cells #[.int .i64 0, .int .i64 0, .bool false] 42)).alloc (.cells #[.int .i64 0] 25)).alloc (.cells #[v] 34)) := (((Ext.alloc [] _ _).trans (Ext.alloc [] _ _)).trans (Ext.alloc [] _ _)).trans (Ext.alloc [] _ _)
  have bP := (((Boxed.new w 3 (.int .i64 page)).alloc (.cells #[.int .i64 0, .int .i64 0, .bool false] 42)).alloc (.cells #[.int .i64 0] 25)).alloc (.cells #[v] 34)
  have bQ := ((Ext.alloc [] _ (.cells #[.int .i64 0] 25)).trans (Ext.alloc [] _ (.cells #[v] 34))).keep (heap_alloc_new (w.alloc (.cells #[.int .i64 page] 3)) (.cells #[.int .i64 0, .int .i64 0, .bool false] 42)) (by simp)
  have bE := (Boxed.new ((w.alloc (.cells #[.int .i64 page] 3)).alloc (.cells #[.int .i64 0, .int .i64 0, .bool false] 42)) 25 (.int .i64 0)).alloc (.cells #[v] 34)
  have bN := Boxed.new (((w.alloc (.cells #[.int .i64 page] 3)).alloc (.cells #[.int .i64 0, .int .i64 0, .bool false] 42)).alloc (.cells #[.int .i64 0] 25)) 34 v
  simp only [World.size_alloc] at bQ bE bN
  have hsz : ((((w.alloc (.cells #[.int .i64 page] 3)).alloc (.cells #[.int .i64 0, .int .i64 0, .bool false] 42)).alloc (.cells #[.int .i64 0] 25)).alloc (.cells #[v] 34)).heap.size = w.heap.size + 4 := by simp
  obtain ⟨W0, hW0⟩ : ∃ W0, (((w.alloc (.cells #[.int .i64 page] 3)).alloc (.cells #[.int .i64 0, .int .i64 0, .bool false] 42)).alloc (.cells #[.int .i64 0] 25)).alloc (.cells #[v] 34) = W0 := ⟨_, rfl⟩
  rw [hW0] at bP bQ bE bN hE0 hsz ⊢
  clear hW0
  have hL0 := HL.out.keep0 hE0
  have HBz := hid hE0.below
  rw [← hz] at bP bQ bE bN hlt HBz hsz ⊢
  have hzw : z ≤ w.heap.size := by omega
  have hzw2 : w.heap.size ≤ z := by omega
  have HZ := hid hz
  clear hz
  have hKl : ∀ {S : List Nat} {A B : World}, Ext S A B → (∀ g ∈ S, z ≤ g ∧ g ≠ z + 1 + 1 + 1) → Kl (z + 1 + 1 + 1) v A B := fun x hs => Kl.of_ext x (fun h => (hs _ h).2 rfl) (fun g hg h => by have := hlt g hg; have := (hs _ h).1; omega)
  refine wpIn_rangeFunc_ownH rfl (by omega) (gf := 34) (lb := #[.pointer (some ⟨z + 1 + 1 + 1, 0, none⟩)]) rfl trivial (enters_of Try.func34 (by kernel_rfl) rfl)
    (each_stops Fence.wide _ trivial rfl (by omega) (z + 1 + 1 + 1) v L hlen W0 bN hL0) klK_t (klK_b (by omega) (fun g hg => by have := hlt g hg; omega)) (Below.refl _ _) (fun _ => rfl)
    (fun pre W => (((Boxed W z 3 (.int .i64 page) ∧ W.heap[z + 1]? = some (.cells #[.int .i64 0, .int .i64 0, .bool false] 42 (0, 0))) ∧ Boxed W (z + 1 + 1) 25 (.int .i64 0)) ∧ Below z w W) ∧ NoIn page pre)
    (fun c pre W => ∃ x : Rn, (((W.heap[z + 1]? = some (.cells #[.int .i64 x.s, .int .i64 x.n, .bool x.u] 42 (0, 0))) ∧ Boxed W (z + 1 + 1) 25 (.int .i64 0)) ∧ Below z w W) ∧ FirstIn page pre x ∧ c = .ret)
    (OwnFrom.and (OwnFrom.and (OwnFrom.and (OwnFrom.and (Own.from (boxed_own _ _ _) _) (Own.from (rowAt_own _ _ _) _)) (Own.from (boxed_own _ _ _) _)) (ownFrom_below (by omega) (by omega))) (ownFrom_pure _ _))
    (fun c pre X Y row hs hg hr => by
      obtain ⟨x, ⟨⟨h1, h2⟩, h3⟩, h4, h5⟩ := hs
      exact ⟨x, ⟨⟨rowAt_own (z + 1) 42 (fun _ : Unit => #[.int .i64 x.s, .int .i64 x.n, .bool x.u]) () X Y row h1 hg (fun r e => (hr r e).2), boxed_own (z + 1 + 1) 25 (fun _ : Unit => .int .i64 0) () X Y row h2 hg (fun r e => (hr r e).2)⟩, ownFrom_below (β := Unit) (B := W0.heap.size) (by omega) (by omega) () X Y row h3 hg hr⟩, h4, h5⟩)
    ⟨⟨⟨⟨bP, bQ⟩, bE⟩, HBz.out⟩, rfl⟩
    (fun x a' W => ∃ Bx, z + 1 + 1 < Bx ∧ W.heap[Bx]? = some (.cells #[.int .i64 x.s, .int .i64 x.n, .bool x.u] 42 (0, 0)) ∧ a' = { tmps := #[.pointer pv, .int .i64 page, undef, .pointer (some ⟨z, 0, none⟩), .pointer (some ⟨z + 1, 0, none⟩), .pointer (some ⟨z + 1 + 1, 0, none⟩), .pointer (some ⟨Bx, 0, none⟩), .pointer pv, itv (z + 1 + 1 + 1), .agg #[.int .i64 x.s, .int .i64 x.n, .bool x.u], undef, undef, undef, undef, undef, undef, undef, undef, undef, undef, undef, undef, undef, undef, undef], defers := [] })
    (fun x a' _ X Y row hs hg hr => by obtain ⟨Bx, h1, h2, h3⟩ := hs; exact ⟨Bx, h1, rowAt_own Bx 42 (fun _ : Unit => #[.int .i64 x.s, .int .i64 x.n, .bool x.u]) () X Y row h2 hg (fun r e => (hr r e).2), h3⟩)
    ?assign ?body ?done ?stop
  case assign =>
    rintro l pre x W K ⟨⟨⟨⟨bP1, bQ1⟩, bE1⟩, hB1⟩, hf⟩ hK
    have hE := Ext.alloc [] W (.cells #[.int .i64 x.s, .int .i64 x.n, .bool x.u] 42)
    gi_wp2
    exact hK _ _ ((KeepsOthers.alloc _ _).from _) (Kl.of_ext0 hE) ⟨⟨⟨⟨bP1.alloc _, hE.keep bQ1 (by simp)⟩, bE1.alloc _⟩, hB1.alloc (by have := hB1.size; omega) _⟩, hf⟩ ⟨W.heap.size, bE1.lt, heap_alloc_new _ _, rfl⟩
  case body =>
    rintro l pre x a' W hl ⟨r, hr⟩ ⟨⟨⟨⟨bP1, bQ1⟩, bE1⟩, hB1⟩, hf⟩ ⟨Bx, hBx, bX, rfl⟩ _
    have cP := bP1.cell
    have cE := bE1.cell
    have fE := bE1.frozen
    have c0 : W.cell? ⟨Bx, 0, none⟩ = some (.int .i64 x.s) := by rw [cell_of_row _ _ _ _ _ _ bX]; rfl
    have c1 : W.cell? ⟨Bx, 1, none⟩ = some (.int .i64 x.n) := by rw [cell_of_row _ _ _ _ _ _ bX]; rfl
    have c2 : W.cell? ⟨Bx, 2, none⟩ = some (.bool x.u) := by rw [cell_of_row _ _ _ _ _ _ bX]; rfl
    have q0 : W.cell? ⟨z + 1, 0, none⟩ = some (.int .i64 0) := by rw [cell_of_row _ _ _ _ _ _ bQ1]; rfl
    have q1 : W.cell? ⟨z + 1, 1, none⟩ = some (.int .i64 0) := by rw [cell_of_row _ _ _ _ _ _ bQ1]; rfl
    have q2 : W.cell? ⟨z + 1, 2, none⟩ = some (.bool false) := by rw [cell_of_row _ _ _ _ _ _ bQ1]; rfl
    have f0 := frozen_of_row W (z + 1) 0 _ _ bQ1
    have f1 := frozen_of_row W (z + 1) 1 _ _ bQ1
    have f2 := frozen_of_row W (z + 1) 2 _ _ bQ1
    have HI := hid (And.intro (And.intro (And.intro (And.intro bP1 bQ1) bE1) hB1) hf)
    have HE3 := hid (((ext3 [z + 1, z + 1 + 1] W (z + 1) (.int .i64 x.s) (.int .i64 x.n) (.bool x.u) (by simp))))
    have HK3 := hid (keeps3 W (z + 1) (.int .i64 x.s) (.int .i64 x.n) (.bool x.u))
    have HR3 := hid (set3 bQ1 (.int .i64 x.s) (.int .i64 x.n) (.bool x.u))
    clear bP1 bQ1 bE1 hB1 hf bX hr
    have hsn : Hid ((pre ++ [x]).find? (tst page) = if tst page x then some x else none) := find_snoc HI.out.2
    by_cases ha : (x.s : Int) ≤ page
    · by_cases hb : page < wrap64 ((x.s : Int) + x.n)
      · have HT : Hid (tst page x = true) := by show _ = _; simp [tst, ha, hb]
        gi_wp2
        have hE := (HE3.out.trans (Ext.setCell [z + 1, z + 1 + 1] _ ⟨z + 1 + 1, 0, none⟩ (.int .i64 0) (by simp)))
        refine ⟨(HK3.out.trans (KeepsOthers.setCell _ _ _)).from _, x, ⟨⟨(Ext.setCell [z + 1 + 1] _ ⟨z + 1 + 1, 0, none⟩ (.int .i64 0) (by simp)).keep HR3.out (by simp), (show Boxed _ _ _ _ from (ext3 [z + 1] W (z + 1) _ _ _ (by simp)).keep HI.out.1.1.2 (by simp)).set _⟩, ?_⟩, by unfold FirstIn; rw [hsn.out, HT.out]; rfl, rfl⟩
        exact HI.out.1.2.trans ⟨hE.os, hE.tape, hE.output, hE.size, fun k hk => by
          by_cases hk2 : k < W.heap.size
          · exact hE.block k hk2 (by simp; omega)
          · have := HI.out.1.2.size; omega⟩
      · have HT0 : tst page x = false := by simp [tst, hb]
        have HT1 := hid HT0
        clear HT0
        gi_wp2
        exact ⟨KeepsFrom.refl _ _, Kl.refl _ _ _, HI.out.1, by unfold NoIn; rw [hsn.out, HT1.out]; rfl⟩
    · have HT0 : tst page x = false := by simp [tst, ha]
      have HT1 := hid HT0
      clear HT0
      gi_wp2
      exact ⟨KeepsFrom.refl _ _, Kl.refl _ _ _, HI.out.1, by unfold NoIn; rw [hsn.out, HT1.out]; rfl⟩
  case done =>
    rintro D zs W hD rfl ⟨⟨⟨⟨bP1, bQ1⟩, bE1⟩, hB1⟩, hf⟩ hK
    have cE := bE1.cell
    have fE := bE1.frozen
    have q0 : W.cell? ⟨z + 1, 0, none⟩ = some (.int .i64 0) := by rw [cell_of_row _ _ _ _ _ _ bQ1]; rfl
    have q1 : W.cell? ⟨z + 1, 1, none⟩ = some (.int .i64 0) := by rw [cell_of_row _ _ _ _ _ _ bQ1]; rfl
    have q2 : W.cell? ⟨z + 1, 2, none⟩ = some (.bool false) := by rw [cell_of_row _ _ _ _ _ _ bQ1]; rfl
    have f0 := frozen_of_row W (z + 1) 0 _ _ bQ1
    have f1 := frozen_of_row W (z + 1) 1 _ _ bQ1
    have f2 := frozen_of_row W (z + 1) 2 _ _ bQ1
    have HR3 := hid (set3 bQ1 (.int .i64 0) (.int .i64 0) (.bool false))
    have HE3 := hid (((ext3 [z + 1, z + 1 + 1] W (z + 1) (.int .i64 0) (.int .i64 0) (.bool false) (by simp))))
    have HK3 := hid (keeps3 W (z + 1) (.int .i64 0) (.int .i64 0) (.bool false))
    have HbE := hid bE1
    have HF := hid hf
    have HB1 := hid hB1
    have HK := hid hK
    clear bP1 bQ1 bE1 hB1 hf hK
    gi_wp2
    have hK2 := (HK3.out.trans (KeepsOthers.setCell _ ⟨z + 1 + 1, 0, none⟩ (.int .i64 2))).same _ _ HK.out rfl
    refine ⟨by simp, .inl ⟨_, _, rfl, run_takeDeferred hK2, ?_⟩⟩
    have hE := HE3.out.trans (Ext.setCell [z + 1, z + 1 + 1] _ ⟨z + 1 + 1, 0, none⟩ (.int .i64 2) (by simp))
    have hP := grownBy_putObj' ((((W.setCell ⟨z + 1, 0, none⟩ (.int .i64 0)).setCell ⟨z + 1, 1, none⟩ (.int .i64 0)).setCell ⟨z + 1, 2, none⟩ (.bool false)).setCell ⟨z + 1 + 1, 0, none⟩ (.int .i64 2)) D (.deferred none)
    have hr1 := (Ext.setCell [z + 1 + 1] _ ⟨z + 1 + 1, 0, none⟩ (.int .i64 2) (by simp)).keep HR3.out (by simp)
    have hr2 : Boxed _ _ _ _ := (show Boxed _ _ _ _ from (ext3 [z + 1] W (z + 1) (.int .i64 0) (.int .i64 0) (.bool false) (by simp)).keep HbE.out (by simp)).set (.int .i64 2)
    have hq1 := (hP.block (z + 1) (lt_of_heap hr1) (by simp; omega)).trans hr1
    have hq2 : Boxed _ _ _ _ := (hP.block (z + 1 + 1) (lt_of_heap hr2) (by simp; omega)).trans hr2
    refine ⟨_, results_cells2 rfl _ _ ⟨z + 1, 0, none⟩ ⟨z + 1 + 1, 0, none⟩ _ _ rfl rfl (load42 (x := ⟨0, 0, false⟩) hq1) (load25 hq2), ?_, ?_⟩
    · have : zs.find? (tst page) = none := HF.out
      simp only [ownR, ownE, this]
      rfl
    · have hx : Ext [] w W := by rw [HZ.out] at HB1; exact below_ext HB1.out
      exact ((hx.on hE (by simp; omega)).on (Ext.grown (S := [D]) hP (by simp)) (by simp; omega))
  case stop =>
    rintro D c pre W hD hSp ⟨x, ⟨⟨bQ1, bE1⟩, hB1⟩, hf, rfl⟩ hK
    have HF := hid hf
    have HB1 := hid hB1
    have HK := hid hK
    have HQ := hid bQ1
    have HE := hid bE1
    clear bQ1 bE1 hB1 hf hK
    gi_wp2
    refine ⟨by simp, .inl ⟨_, _, rfl, run_takeDeferred HK.out, ?_⟩⟩
    have hP := grownBy_putObj' W D (.deferred none)
    have hq1 := (hP.block (z + 1) (lt_of_heap HQ.out) (by simp; omega)).trans HQ.out
    have hq2 : Boxed _ _ _ _ := (hP.block (z + 1 + 1) (lt_of_heap HE.out) (by simp; omega)).trans HE.out
    refine ⟨_, results_cells2 rfl _ _ ⟨z + 1, 0, none⟩ ⟨z + 1 + 1, 0, none⟩ _ _ rfl rfl (load42 hq1) (load25 hq2), ?_, ?_⟩
    · have : L.find? (tst page) = some x := find_prefix HF.out hSp
      simp only [ownR, ownE, this]
      rfl
    · have hx : Ext [] w W := by rw [HZ.out] at HB1; exact below_ext HB1.out
      exact hx.on (Ext.grown (S := [D]) hP (by simp)) (by simp; omega)

theorem owner_any (p : Nat) (v : Value) (L : List Rn) (page : Int) (w : World) (hR : Rs w p v L) (hlen : L.length ≤ 1000000) : Calls Try.prog 17 #[.pointer (some ⟨p, 0, none⟩), .int .i64 page] w (OwnPost w L page) := owner_of _ v L page w (nowOf_any hR) hR.row hlen
theorem owner_nil (page : Int) (w : World) : Calls Try.prog 17 #[.pointer none, .int .i64 page] w (OwnPost w [] page) := owner_of _ _ [] page w (nowOf_nil w) (lst_nil w) (by simp)
theorem largest_any (p : Nat) (v : Value) (L : List Rn) (w : World) (hR : Rs w p v L) (hlen : L.length ≤ 1000000) : Calls Try.prog 18 #[.pointer (some ⟨p, 0, none⟩)] w (SayPost w (.int .i64 (big L))) := largest_of _ v L w (nowOf_any hR) hR.row hlen
theorem largest_nil (w : World) : Calls Try.prog 18 #[.pointer none] w (SayPost w (.int .i64 0)) := largest_of _ _ [] w (nowOf_nil w) (lst_nil w) (by simp)

end Go.Proofs.Ytkdgekdacinlhaa

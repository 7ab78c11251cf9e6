/-
  The walk through GroupBits; no statement is proved here.
-/
import Derived.Test.YtfnladdjcdcbiaaDoorWPlays
namespace Go.Proofs.YtfnladdjcdcbiaaDoor
open Go.RowKit Go.Shelf

attribute [local go_sem] Oper.semAt_some

/-- A loop of two rounds. -/
theorem wpIn_loop_two {F : Fence} {n : Nat} {P : Program} {C : Code} {Q : Exit → Act → World → Prop} {a : Act} {w : World} (I : Nat → Act → World → Prop) (h0 : I 0 a w) (hs : ∀ r a w, r < 2 → I r a w → C.wpIn F n P (Exit.then (I (r + 1)) Q) a w) (he : ∀ a w, I 2 a w → C.wpIn F n P (Exit.then (fun _ _ => False) Q) a w) : (Code.loop C).wpIn F n P Q a w := by
  refine wpIn_loop_rounds 3 ?_
  have h2 : ∀ a w, I 2 a w → Code.roundsIn F n P C Q 1 a w := he
  have h1 : ∀ a w, I 1 a w → Code.roundsIn F n P C Q 2 a w := fun a w h => Code.wpIn_mono (fun e a w q => by cases e <;> first | exact h2 _ _ q | exact q) (hs 1 a w (by omega) h)
  exact Code.wpIn_mono (fun e a w q => by cases e <;> first | exact h1 _ _ q | exact q) (hs 0 a w (by omega) h0)

/-- Marks that a function leaves behind. -/
def mkD (D : Nat) : Deferred := { target := .collected D, args := #[] }
def Marks (Ds : List Nat) (W : World) : Prop := ∀ D ∈ Ds, W.heap[D]? = some (.deferred (some []))

theorem leaves_marks {F : Fence} {n : Nat} {P : Program} {fn : Func} {tmps : Array Value} {R : Ending → World → Prop} : ∀ (Ds : List Nat) (W : World), Marks Ds W → Ds.Nodup →
    (∀ W', Ext Ds W W' → ∃ v, (results fn tmps).run P W' = .ok v W' ∧ R (.returned v) W') → LeavesInM F n P fn tmps R (Ds.map mkD) .returning W
  | [], W, _, _, h => by
    obtain ⟨v, h1, h2⟩ := h W (Ext.refl _ _)
    exact ⟨v, h1, h2⟩
  | D :: Ds, W, hM, hN, h => by
    have hD := hM D (by simp)
    refine ⟨by simp, .inl ⟨_, _, rfl, run_takeDeferred hD, leaves_marks Ds _ ?_ (List.nodup_cons.1 hN).2 ?_⟩⟩
    · intro D' h'
      refine (World.putObj_heap_other ?_).trans (hM D' (by simp [h']))
      rintro rfl
      exact (List.nodup_cons.1 hN).1 h'
    · intro W' hX
      refine h W' ?_
      exact (Ext.grown (S := D :: Ds) (grownBy_putObj' W D (.deferred none)) (by simp)).trans (hX.mono (by simp; intro a ha; exact .inr ha))

theorem Marks.ext {Ds : List Nat} {W W' : World} (h : Marks Ds W) (k : KeepsFrom 0 W W') : Marks Ds W' := fun D hD => k.same D _ (Nat.zero_le _) (h D hD) rfl
theorem marks_own {β : Type} {Ds : List Nat} {B : Nat} (hB : ∀ D ∈ Ds, D < B) : OwnFrom B (fun (_ : β) W => Marks Ds W) := fun s X Y row h hg hr D hD => by
  refine (hg.block D (lt_of_heap (h D hD)) (fun e => ?_)).trans (h D hD)
  have := (hr D e.symm).1
  have := hB D hD
  omega

theorem results_cell1 {P : Program} {fn : Func} {p : Tmp} {ty : TypeId} (h : fn.results = #[.cell p ty]) (tmps : Array Value) (w : World) (a : Addr) (v : Value)
    (hp : tmps.getD p undef = .pointer (some a)) (h1 : (loadVar ty a).run P w = .ok v w) : (results fn tmps).run P w = .ok v w := by
  have hp' : tmps[p]?.getD undef = .pointer (some a) := by simpa using hp
  simp [results, h, hp', asAddr, h1]

/-! ### rising numbers -/
def lastOf (pre : List Nat) : Int := match pre.getLast? with | none => -1 | some x => (x : Int)
/-- They rise, and are numbers of bits. -/
def Ris (pre : List Nat) : Prop := pre.Pairwise (· < ·) ∧ ∀ x ∈ pre, x < 64
theorem ris_nil : Ris [] := ⟨List.Pairwise.nil, by simp⟩
theorem lastOf_nil : lastOf [] = -1 := rfl
theorem lastOf_snoc (pre : List Nat) (x : Nat) : lastOf (pre ++ [x]) = x := by simp [lastOf]
theorem lastOf_range {pre : List Nat} (h : Ris pre) : -1 ≤ lastOf pre ∧ lastOf pre < 64 := by
  unfold lastOf
  cases hq : pre.getLast? with
  | none => simp
  | some x => have := h.2 x (List.mem_of_getLast? hq); simp only; omega
theorem ris_snoc {pre : List Nat} {x : Nat} (h : Ris pre) (h1 : lastOf pre < x) (h2 : x < 64) : Ris (pre ++ [x]) := by
  refine ⟨List.pairwise_append.2 ⟨h.1, by simp, ?_⟩, ?_⟩
  · intro a ha b hb
    simp at hb
    subst hb
    rcases List.eq_nil_or_concat pre with rfl | ⟨q, z, rfl⟩
    · simp at ha
    · rw [List.concat_eq_append, lastOf_snoc] at h1
      rw [List.concat_eq_append] at ha h
      rcases List.mem_append.1 ha with ha | ha
      · have := (List.pairwise_append.1 h.1).2.2 a ha z (by simp)
        omega
      · simp at ha; omega
  · intro a ha
    rcases List.mem_append.1 ha with ha | ha
    · exact h.2 a ha
    · simp at ha; omega
theorem not_ris {pre : List Nat} {x : Nat} (h : (x : Int) ≤ lastOf pre ∨ 63 < x) : ¬ Ris (pre ++ [x]) := by
  rintro ⟨h1, h2⟩
  rcases h with h | h
  · unfold lastOf at h
    cases hq : pre.getLast? with
    | none => rw [hq] at h; simp at h; omega
    | some z =>
      rw [hq] at h
      have := (List.pairwise_append.1 h1).2.2 z (List.mem_of_getLast? hq) x (by simp)
      simp only at h
      omega
  · have := h2 x (by simp)
    omega
theorem ris_pre {pre : List Nat} {m : Nat} (h : pre <+: bsF m) : Ris pre := by
  obtain ⟨t, ht⟩ := h
  have h1 := bsF_rise m
  rw [← ht] at h1
  exact ⟨(List.pairwise_append.1 h1).1, fun x hx => (bsF_mem.1 (by rw [← ht]; simp [hx] : x ∈ bsF m)).1⟩
theorem sum_in {pre : List Nat} {m : Nat} (hm : m < 18446744073709551616) (h : pre <+: bsF m) : bits BinOp.andNot IntKind.u64 ((orA pre : Nat) : Int) (m : Int) = 0 := by
  rw [bits_andNot_u64_nat _ _ (orA_lt (ris_pre h).2) hm]
  have : orA pre &&& (18446744073709551615 - m) = 0 := by
    apply Nat.eq_of_testBit_eq
    intro j
    rw [Nat.testBit_and, orA_bit, Nat.zero_testBit, show 18446744073709551615 - m = 2 ^ 64 - (m + 1) by omega, Nat.testBit_two_pow_sub_succ hm]
    by_cases hj : j ∈ pre
    · obtain ⟨t, ht⟩ := h
      have := (bsF_mem.1 (by rw [← ht]; simp [hj] : j ∈ bsF m)).2
      simp [this]
    · simp [hj]
  rw [this]; rfl
theorem or_snoc {pre : List Nat} {x : Nat} (h : Ris pre) (hx : x < 64) : bits BinOp.or IntKind.u64 ((orA pre : Nat) : Int) ((2 ^ x : Nat) : Int) = ((orA (pre ++ [x]) : Nat) : Int) := by
  have : 2 ^ x < 2 ^ 64 := Nat.pow_lt_pow_right (by omega) hx
  rw [bits_or_u64_nat _ _ (orA_lt h.2) (by omega), orA_snoc]
/-- No cut was met. -/
def NoCut (cut : Int) (pre : List Nat) : Prop := ∀ j : Nat, 1 ≤ j → j ≤ pre.length → (j : Int) ≠ cut
theorem nocut_snoc {cut : Int} {pre : List Nat} {x k : Nat} (h : NoCut cut pre) (hk : pre.length = k) (hc : ¬ (k : Int) + 1 = cut) : NoCut cut (pre ++ [x]) := by
  intro j h1 h2
  simp only [List.length_append, List.length_cons, List.length_nil] at h2
  by_cases e : j = k + 1
  · subst e; simpa using hc
  · exact h j h1 (by omega)
theorem join_eq {n : Nat} (hn : n < 18446744073709551616) : bits BinOp.or IntKind.u64 (((n / 128 : Nat) : Int) * 128) ((n % 128 : Nat) : Int) = (n : Int) := by
  rw [show (((n / 128 : Nat) : Int) * 128) = ((n / 128 * 128 : Nat) : Int) by omega, bits_or_u64_nat _ _ (by omega) (by omega)]
  have : n / 128 * 128 ||| n % 128 = n := by
    have h := Nat.shiftLeft_add_eq_or_of_lt (show n % 128 < 2 ^ 7 by omega) (n / 128)
    rw [Nat.shiftLeft_eq] at h
    rw [show (128 : Nat) = 2 ^ 7 from rfl] at *
    rw [← h]
    omega
  rw [this]

set_option maxRecDepth 100000 in
set_option maxHeartbeats 8000000 in
theorem bitsWalk (m : Nat) (cut : Int) (hm : m < 18446744073709551616) (w : World) (hT : Tb w) :
    Calls Tryd.prog 4 #[.int .u64 m, .int .i64 cut] w (SayPost w (.bool true)) := by
  refine (callsIn_wide (n := 8)).1 ?_
  refine callsIn_of_wp_marks Tryd.func4 rfl trivial ?_ rfl
  simp only [Tryd.ntmps4, List.size_toArray, List.length_cons, List.length_nil, Nat.reduceAdd, Nat.reduceSub, Array.replicate_succ, Array.replicate_zero, List.push_toArray, List.append_toArray, List.nil_append, List.cons_append]
  have hE0 : Ext [] w ((w.alloc (.cells #[.int .i64 cut] 3)).alloc (.cells #[.bool false] 4)) := (Ext.alloc [] _ _).trans (Ext.alloc [] _ _)
  have b0 := (Boxed.new w 3 (.int .i64 cut)).alloc (.cells #[.bool false] 4)
  have b1 := Boxed.new (w.alloc (.cells #[.int .i64 cut] 3)) 4 (.bool false)
  simp only [World.size_alloc] at b1
  have HE0 := hid hE0
  have HB0 := hid b0
  have HB1 := hid b1
  have HT0 := hid (hT.keep0 hE0)
  have hw0 : 0 < w.heap.size := hT.lt
  clear hE0 b0 b1 hT
  gi_wp2_with fail
  refine ⟨trivial, ?_⟩
  refine (callsIn_wide.2 (awake_any _)).mono ?_
  rintro _ _ ⟨rfl, rfl⟩
  gi_wp2_with fail
  refine ⟨trivial, ?_⟩
  refine (callsIn_wide.2 (bits_any m _)).mono ?_
  rintro e Wz ⟨rfl, hWz⟩
  have hE1 : Ext [] ((w.alloc (.cells #[.int .i64 cut] 3)).alloc (.cells #[.bool false] 4)) Wz := by rw [hWz]; exact Ext.alloc _ _ _
  have HZ0 := hid (show Boxed Wz w.heap.size 3 (.int .i64 cut) from hE1.keep HB0.out (by simp))
  have HZ1 := hid (show Boxed Wz (w.heap.size + 1) 4 (.bool false) from hE1.keep HB1.out (by simp))
  have HZ2 := hid (show Boxed Wz (w.heap.size + 1 + 1) 22 (.int .u64 m) by rw [hWz]; have := Boxed.new ((w.alloc (.cells #[.int .i64 cut] 3)).alloc (.cells #[.bool false] 4)) 22 (.int .u64 m); simpa only [World.size_alloc] using this)
  have HTz := hid (HT0.out.keep0 hE1)
  have HEz := hid (HE0.out.trans hE1)
  have hz : w.heap.size + 1 + 1 < Wz.heap.size := HZ2.out.lt
  clear hE1 hWz HB0 HB1 HT0 HE0
  unfold itv
  simp only [World.size_alloc]
  have hfn := fun W => eql_func_nil W (w.heap.size + 1 + 1)
  gi_wp2_with fail
  clear hfn
  have hzb : w.heap.size ≤ Wz.heap.size := by omega
  refine wpIn_loop_two (fun r act W => ∃ (u7 u8 u9 u19 u20 u21 u22 u23 u43 u44 u45 u46 u47 u48 u49 u50 u51 u52 u53 u54 u55 u56 : Value) (Ds : List Nat), act = { tmps := #[.int .u64 m, .int .i64 cut, undef, .pointer (some ⟨w.heap.size, 0, none⟩), .pointer (some ⟨w.heap.size + 1, 0, none⟩), .func (.func 26) #[] #[.pointer (some ⟨w.heap.size + 1 + 1, 0, none⟩)], .int .i64 (r : Nat), u7, u8, u9, undef, undef, undef, .bool true, .bool false, .int .u64 m, .func (.func 26) #[] #[.pointer (some ⟨w.heap.size + 1 + 1, 0, none⟩)], .func (.func 26) #[] #[.pointer (some ⟨w.heap.size + 1 + 1, 0, none⟩)], .bool false, u19, u20, u21, u22, u23, undef, undef, undef, undef, undef, undef, undef, undef, undef, undef, undef, undef, undef, undef, undef, undef, undef, undef, undef, u43, u44, u45, u46, u47, u48, u49, u50, u51, u52, u53, u54, u55, u56, undef, undef, undef, undef, undef, undef, undef, undef, undef, undef, undef, undef, undef, undef, undef, undef], defers := Ds.map mkD } ∧ Below Wz.heap.size Wz W ∧ Marks Ds W ∧ Ds.Nodup ∧ ∀ D ∈ Ds, D < W.heap.size ∧ Wz.heap.size ≤ D) ?start ?step ?fin
  case start =>
    exact ⟨undef, undef, undef, undef, undef, undef, undef, undef, undef, undef, undef, undef, undef, undef, undef, undef, undef, undef, undef, undef, undef, undef, [], rfl, Below.refl _ _, (fun D hD => by simp at hD), List.nodup_nil, (fun D hD => by simp at hD)⟩
  case step =>
    rintro r act wr hr2 ⟨u7, u8, u9, u19, u20, u21, u22, u23, u43, u44, u45, u46, u47, u48, u49, u50, u51, u52, u53, u54, u55, u56, Ds, rfl, hQ, hM, hN, hDl⟩
    have HQr := hid hQ
    have HMr := hid hM
    have HNr := hid hN
    have HDl := hid hDl
    have hzr : Wz.heap.size ≤ wr.heap.size := hQ.size
    clear hQ hM hN hDl
    have hrr : (r : Int) < 2 := by omega
    gi_wp2_with fail
    have hEk : Ext [] wr (((wr.alloc (.cells #[.int .u64 0] 22)).alloc (.cells #[.int .i64 (-1)] 3)).alloc (.cells #[.int .i64 0] 3)) := ((Ext.alloc [] _ _).trans (Ext.alloc [] _ _)).trans (Ext.alloc [] _ _)
    have bS := ((Boxed.new wr 22 (.int .u64 0)).alloc (.cells #[.int .i64 (-1)] 3)).alloc (.cells #[.int .i64 0] 3)
    have bL := (Boxed.new (wr.alloc (.cells #[.int .u64 0] 22)) 3 (.int .i64 (-1))).alloc (.cells #[.int .i64 0] 3)
    have bN := Boxed.new ((wr.alloc (.cells #[.int .u64 0] 22)).alloc (.cells #[.int .i64 (-1)] 3)) 3 (.int .i64 0)
    simp only [World.size_alloc] at bL bN
    have hQ0 : Below Wz.heap.size Wz (((wr.alloc (.cells #[.int .u64 0] 22)).alloc (.cells #[.int .i64 (-1)] 3)).alloc (.cells #[.int .i64 0] 3)) := HQr.out.trans (hEk.below.mono hzr)
    have hM0 : Marks Ds (((wr.alloc (.cells #[.int .u64 0] 22)).alloc (.cells #[.int .i64 (-1)] 3)).alloc (.cells #[.int .i64 0] 3)) := fun D hD => hEk.keep (HMr.out D hD) (by simp)
    have hsz : (((wr.alloc (.cells #[.int .u64 0] 22)).alloc (.cells #[.int .i64 (-1)] 3)).alloc (.cells #[.int .i64 0] 3)).heap.size = wr.heap.size + 1 + 1 + 1 := by simp
    obtain ⟨W0, hW0⟩ : ∃ W0, ((wr.alloc (.cells #[.int .u64 0] 22)).alloc (.cells #[.int .i64 (-1)] 3)).alloc (.cells #[.int .i64 0] 3) = W0 := ⟨_, rfl⟩
    rw [hW0] at hQ0 bS bL bN hM0 hsz ⊢
    clear hW0 hEk
    have HBz : Hid (∀ W, Below Wz.heap.size Wz W → (Boxed W w.heap.size 3 (.int .i64 cut) ∧ Boxed W (w.heap.size + 1) 4 (.bool false)) ∧ Boxed W (w.heap.size + 1 + 1) 22 (.int .u64 m) ∧ Tb W) := fun W h =>
      ⟨⟨(below_ext h).keep HZ0.out (by simp), (below_ext h).keep HZ1.out (by simp)⟩, (below_ext h).keep HZ2.out (by simp), HTz.out.keep0 (below_ext h)⟩
    refine wpIn_rangeFunc_ownH rfl (by omega) (gf := 26) (lb := #[.pointer (some ⟨w.heap.size + 1 + 1, 0, none⟩)]) rfl trivial (enters_of Tryd.func26 (by kernel_rfl) rfl)
      (each_stops _ (by omega) (w.heap.size + 1 + 1) m hm W0 (HBz.out _ hQ0).2.1 (HBz.out _ hQ0).2.2) ktK_t (ktK_b (by omega)) (Below.refl _ _) (fun _ => rfl)
      (fun pre W => ((Below Wz.heap.size Wz W ∧ Marks Ds W) ∧ ((Boxed W wr.heap.size 22 (.int .u64 (orA pre : Nat)) ∧ Boxed W (wr.heap.size + 1) 3 (.int .i64 (lastOf pre))) ∧ Boxed W (wr.heap.size + 1 + 1) 3 (.int .i64 (pre.length : Nat)))) ∧ (Ris pre ∧ NoCut cut pre))
      (fun cd pre W => (((Below Wz.heap.size Wz W ∧ Marks Ds W) ∧ ((Boxed W wr.heap.size 22 (.int .u64 (orA pre : Nat)) ∧ Boxed W (wr.heap.size + 1) 3 (.int .i64 (lastOf pre))) ∧ Boxed W (wr.heap.size + 1 + 1) 3 (.int .i64 (pre.length : Nat)))) ∧ (pre.length : Int) = cut ∧ cd = .exit 2) ∨ (cd = .ret ∧ ¬ Ris pre))
      (OwnFrom.and (OwnFrom.and (OwnFrom.and (ownFrom_below (Nat.le_refl _) (by omega)) (marks_own (fun D hD => by have := (HDl.out D hD).1; omega))) (OwnFrom.and (OwnFrom.and (Own.from (boxed_own _ _ _) _) (Own.from (boxed_own _ _ _) _)) (Own.from (boxed_own _ _ _) _))) (ownFrom_pure _ _))
      (fun cd pre X Y row hs hg hr => by
        rcases hs with ⟨⟨⟨h1, h2⟩, ⟨h3, h4⟩, h5⟩, h6⟩ | h
        · exact .inl ⟨⟨⟨ownFrom_below (β := Unit) (Nat.le_refl _) (show Wz.heap.size ≤ W0.heap.size by omega) () X Y row h1 hg hr, marks_own (β := Unit) (B := W0.heap.size) (fun D hD => by have := (HDl.out D hD).1; omega) () X Y row h2 hg hr⟩, ⟨boxed_own wr.heap.size 22 (fun _ : Unit => .int .u64 (orA pre : Nat)) () X Y row h3 hg (fun r e => (hr r e).2), boxed_own (wr.heap.size + 1) 3 (fun _ : Unit => .int .i64 (lastOf pre)) () X Y row h4 hg (fun r e => (hr r e).2)⟩, boxed_own (wr.heap.size + 1 + 1) 3 (fun _ : Unit => .int .i64 (pre.length : Nat)) () X Y row h5 hg (fun r e => (hr r e).2)⟩, h6⟩
        · exact .inr h)
      ⟨⟨⟨hQ0, hM0⟩, ⟨bS, bL⟩, bN⟩, ris_nil, fun j h1 h2 => by simp at h2; omega⟩
      (fun x a' _ => a' = { tmps := #[.int .u64 m, .int .i64 cut, undef, .pointer (some ⟨w.heap.size, 0, none⟩), .pointer (some ⟨w.heap.size + 1, 0, none⟩), .func (.func 26) #[] #[.pointer (some ⟨w.heap.size + 1 + 1, 0, none⟩)], .int .i64 (r : Nat), .pointer (some ⟨wr.heap.size, 0, none⟩), .pointer (some ⟨wr.heap.size + 1, 0, none⟩), .pointer (some ⟨wr.heap.size + 1 + 1, 0, none⟩), .int .i64 (x : Nat), undef, undef, .bool true, .bool false, .int .u64 m, .func (.func 26) #[] #[.pointer (some ⟨w.heap.size + 1 + 1, 0, none⟩)], .func (.func 26) #[] #[.pointer (some ⟨w.heap.size + 1 + 1, 0, none⟩)], .bool false, .int .i64 (r : Nat), .bool true, u21, u22, .func (.func 26) #[] #[.pointer (some ⟨w.heap.size + 1 + 1, 0, none⟩)], .int .i64 (x : Nat), undef, undef, undef, undef, undef, undef, undef, undef, undef, undef, undef, undef, undef, undef, undef, undef, undef, undef, u43, u44, u45, u46, u47, u48, u49, u50, u51, u52, u53, u54, u55, u56, undef, undef, undef, undef, undef, undef, undef, undef, undef, undef, undef, undef, undef, undef, undef, undef], defers := [] })
      (fun x a' _ X Y row hs hg hr => hs)
      ?assign ?body ?done ?stop
    case assign =>
      rintro l pre x W K h1 hK
      have HKx := hid hK
      have H1 := hid h1
      clear hK h1
      gi_wp2
      exact HKx.out _ _ (KeepsFrom.refl _ _) (Kt.refl _) H1.out rfl
    case body =>
      rintro l pre x a' W hl ⟨lr, hlr⟩ ⟨⟨⟨hQ, hM⟩, ⟨bS1, bL1⟩, bN1⟩, hR, hC⟩ rfl hlt
      obtain ⟨⟨bC, bO⟩, _, _⟩ := HBz.out _ hQ
      have cS := bS1.cell
      have fS := bS1.frozen
      have cL := bL1.cell
      have fL := bL1.frozen
      have cN := bN1.cell
      have fN := bN1.frozen
      have cC := bC.cell
      have cO := bO.cell
      have fO := bO.frozen
      have hlr2 := lastOf_range hR
      have hpl := bsF_len m
      have HPl : Hid ((pre ++ [x]).length = pre.length + 1) := by show _ = _; simp
      have HQ1 := hid hQ
      have HM1 := hid hM
      have HS1 := hid bS1
      have HL1 := hid bL1
      have HN1 := hid bN1
      have HR1 := hid hR
      have HC1 := hid hC
      clear hlr hR hC hQ hM bS1 bL1 bN1 bC bO
      by_cases hbad : (x : Int) ≤ lastOf pre ∨ 63 < x
      · have HNr2 := hid (not_ris hbad)
        have hcase : (decide ((x : Int) ≤ lastOf pre) = true) ∨ (decide ((x : Int) ≤ lastOf pre) = false ∧ (63 : Int) < x) := by
          by_cases h : (x : Int) ≤ lastOf pre
          · exact .inl (decide_eq_true h)
          · exact .inr ⟨decide_eq_false h, by omega⟩
        clear hbad
        generalize lastOf pre = la at *
        rcases hcase with h1 | ⟨h1, h2⟩
        · gi_wp2_with fail
          exact ⟨(KeepsOthers.setCell _ _ _).from _, .inr ⟨rfl, HNr2.out⟩⟩
        · gi_wp2_with fail
          exact ⟨(KeepsOthers.setCell _ _ _).from _, .inr ⟨rfl, HNr2.out⟩⟩
      · have hx1 : lastOf pre < (x : Int) := by omega
        have hx64 : x < 64 := by omega
        have HRx := hid (ris_snoc HR1.out hx1 hx64)
        have hor := or_snoc HR1.out hx64
        have hpw := pow_int hx64
        have HLx := hid (lastOf_snoc pre x)
        have h1 : decide ((x : Int) ≤ lastOf pre) = false := decide_eq_false (by omega)
        have h2 : ¬ ((63 : Int) < x) := by omega
        clear hbad hx1
        generalize lastOf pre = la at *
        generalize hpk : pre.length = k at *
        have HPK := hid hpk
        clear hpk
        generalize hor1 : orA (pre ++ [x]) = s1 at *
        generalize orA pre = s0 at *
        generalize 2 ^ x = B at *
        obtain ⟨W3, hW3⟩ : ∃ W3, ((W.setCell ⟨wr.heap.size, 0, none⟩ (.int .u64 (s1 : Nat))).setCell ⟨wr.heap.size + 1, 0, none⟩ (.int .i64 (x : Nat))).setCell ⟨wr.heap.size + 1 + 1, 0, none⟩ (.int .i64 ((k : Int) + 1)) = W3 := ⟨_, rfl⟩
        have HK0 : Hid (KeepsOthers W W3) := by
          rw [← hW3]
          exact ((KeepsOthers.setCell _ _ _).trans (KeepsOthers.setCell _ _ _)).trans (KeepsOthers.setCell _ _ _)
        have HKt : Hid (Kt W W3) := by
          rw [← hW3]
          refine ((Kt.of_ext (Ext.setCell [wr.heap.size] W ⟨wr.heap.size, 0, none⟩ (.int .u64 (s1 : Nat)) (by simp)) (by simp; omega)).trans (Kt.of_ext (Ext.setCell [wr.heap.size + 1] _ ⟨wr.heap.size + 1, 0, none⟩ (.int .i64 (x : Nat)) (by simp)) (by simp))).trans (Kt.of_ext (Ext.setCell [wr.heap.size + 1 + 1] _ ⟨wr.heap.size + 1 + 1, 0, none⟩ (.int .i64 ((k : Int) + 1)) (by simp)) (by simp))
        have HSt : Hid ((Below Wz.heap.size Wz W3 ∧ Marks Ds W3) ∧ ((Boxed W3 wr.heap.size 22 (.int .u64 (s1 : Nat)) ∧ Boxed W3 (wr.heap.size + 1) 3 (.int .i64 (x : Nat))) ∧ Boxed W3 (wr.heap.size + 1 + 1) 3 (.int .i64 ((k : Int) + 1)))) := by
          refine ⟨⟨?_, fun D hD => HK0.out.same D _ (HM1.out D hD) rfl⟩, ⟨?_, ?_⟩, ?_⟩
          · rw [← hW3]
            exact ((HQ1.out.setCell (p := ⟨wr.heap.size, 0, none⟩) (by show Wz.heap.size ≤ wr.heap.size; omega) _).setCell (p := ⟨wr.heap.size + 1, 0, none⟩) (by show Wz.heap.size ≤ wr.heap.size + 1; omega) _).setCell (p := ⟨wr.heap.size + 1 + 1, 0, none⟩) (by show Wz.heap.size ≤ wr.heap.size + 1 + 1; omega) _
          · rw [← hW3]; exact ((HS1.out.set _).other (by omega) _).other (by omega) _
          · rw [← hW3]; exact ((HL1.out.other (by omega) _).set _).other (by omega) _
          · rw [← hW3]; exact ((HN1.out.other (by omega) _).other (by omega) _).set _
        have HW3 := hid hW3
        have HOr := hid hor1
        clear hW3 hor1
        by_cases hkc : (k : Int) + 1 = cut
        · have hkd : ((k : Int) + 1 == cut) = true := by simp [hkc]
          have HKC := hid hkc
          clear hkc
          gi_wp2_with fail
          rw [HW3.out]
          exact ⟨HK0.out.from _, .inl ⟨by rw [HOr.out, HLx.out, HPl.out]; exact HSt.out, by rw [HPl.out]; exact HKC.out, rfl⟩⟩
        · have hkd : ((k : Int) + 1 == cut) = false := by simp [hkc]
          have HKC := hid hkc
          clear hkc
          gi_wp2_with fail
          rw [HW3.out]
          refine ⟨HK0.out.from _, HKt.out, by rw [HOr.out, HLx.out, HPl.out]; exact HSt.out, HRx.out, nocut_snoc HC1.out HPK.out HKC.out⟩
    case done =>
        rintro D ys W hD rfl ⟨⟨⟨hQ, hM⟩, ⟨bS1, bL1⟩, bN1⟩, hR, hC⟩ hK
        obtain ⟨⟨bC, _⟩, _, _⟩ := HBz.out _ hQ
        have cS := bS1.cell
        have cN := bN1.cell
        have cC := bC.cell
        have hsum := sum_in hm (List.prefix_refl (bsF m))
        rw [orA_bsF hm] at cS hsum
        have HG2 : Hid (Below Wz.heap.size Wz W ∧ Marks (D :: Ds) W ∧ (D :: Ds).Nodup ∧ ∀ D' ∈ (D :: Ds), D' < W.heap.size ∧ Wz.heap.size ≤ D') := by
          refine ⟨hQ, ?_, List.nodup_cons.2 ⟨fun h => by have := (HDl.out D h).1; omega, HNr.out⟩, ?_⟩
          · intro D' h'
            rcases List.mem_cons.1 h' with rfl | h'
            · exact hK
            · exact hM D' h'
          · intro D' h'
            rcases List.mem_cons.1 h' with rfl | h'
            · exact ⟨lt_of_heap hK, by omega⟩
            · exact ⟨lt_of_heap (hM D' h'), (HDl.out D' h').2⟩
        clear hQ hM hK hR hC hD bS1 bL1 bN1 bC
        generalize (bsF m).length = k at *
        have hrr2 : (r : Int) + 1 ≤ 2 := by omega
        by_cases hkc : (k : Int) = cut
        · subst hkc
          gi_wp2_with fail
          exact ⟨_, _, _, _, _, _, _, _, _, _, _, _, _, _, _, _, _, _, _, _, _, _, D :: Ds, rfl, HG2.out⟩
        · have hkd : ((k : Int) != cut) = true := by simp [hkc]
          gi_wp2_with fail
          exact ⟨_, _, _, _, _, _, _, _, _, _, _, _, _, _, _, _, _, _, _, _, _, _, D :: Ds, rfl, HG2.out⟩
    case stop =>
      rintro D cd pre W hD hSp h hK
      rcases h with ⟨⟨⟨hQ, hM⟩, ⟨bS1, bL1⟩, bN1⟩, hcut, rfl⟩ | ⟨rfl, hp⟩
      · obtain ⟨⟨bC, _⟩, _, _⟩ := HBz.out _ hQ
        have cS := bS1.cell
        have cN := bN1.cell
        have cC := bC.cell
        have hsum := sum_in hm hSp
        have HG2 : Hid (Below Wz.heap.size Wz W ∧ Marks (D :: Ds) W ∧ (D :: Ds).Nodup ∧ ∀ D' ∈ (D :: Ds), D' < W.heap.size ∧ Wz.heap.size ≤ D') := by
          refine ⟨hQ, ?_, List.nodup_cons.2 ⟨fun h => by have := (HDl.out D h).1; omega, HNr.out⟩, ?_⟩
          · intro D' h'
            rcases List.mem_cons.1 h' with rfl | h'
            · exact hK
            · exact hM D' h'
          · intro D' h'
            rcases List.mem_cons.1 h' with rfl | h'
            · exact ⟨lt_of_heap hK, by omega⟩
            · exact ⟨lt_of_heap (hM D' h'), (HDl.out D' h').2⟩
        clear hQ hM hK hD bS1 bL1 bN1 bC hSp
        generalize orA pre = s0 at *
        generalize pre.length = k at *
        subst hcut
        have hrr2 : (r : Int) + 1 ≤ 2 := by omega
        gi_wp2_with fail
        exact ⟨_, _, _, _, _, _, _, _, _, _, _, _, _, _, _, _, _, _, _, _, _, _, D :: Ds, rfl, HG2.out⟩
      · exact absurd (ris_pre hSp) hp
  case fin =>
    rintro act wr ⟨u7, u8, u9, u19, u20, u21, u22, u23, u43, u44, u45, u46, u47, u48, u49, u50, u51, u52, u53, u54, u55, u56, Ds, rfl, hQ, hM, hN, hDl⟩
    have K := split_any m hm wr
    have hj := join_eq hm
    have hnq : m / 128 < 144115188075855872 := by omega
    have hnr : m % 128 < 128 := by omega
    have b1 : Boxed wr (w.heap.size + 1) 4 (.bool false) := (below_ext hQ).keep HZ1.out (by simp)
    have c1 := b1.cell
    have f1 := b1.frozen
    have HB1 := hid b1
    have HQr := hid hQ
    have HMr := hid hM
    have HNr := hid hN
    have HDl := hid hDl
    clear hQ hM hN hDl b1
    generalize m / 128 = nq at *
    generalize m % 128 = nr at *
    gi_wp2_with fail
    refine ⟨trivial, ?_⟩
    refine (callsIn_wide.2 K).mono ?_
    rintro e w2 ⟨rfl, hw2⟩
    rw [hw2]
    clear K hw2
    have hnrd : decide ((nr : Int) < 128) = true := decide_eq_true (by omega)
    gi_wp2_with fail
    refine leaves_marks Ds _ (HMr.out.ext ((KeepsOthers.setCell _ _ _).from _)) HNr.out (fun W' hX => ⟨.bool true, ?_, rfl, ?_⟩)
    · have b9 : Boxed W' (w.heap.size + 1) 4 (.bool true) := hX.keep (HB1.out.set _) (fun h => by have := (HDl.out _ h).2; omega)
      exact results_cell1 rfl _ _ ⟨w.heap.size + 1, 0, none⟩ _ rfl (load4 b9)
    · have hb : Ext [] w wr := HEz.out.trans (below_ext HQr.out)
      exact (hb.on (Ext.setCell [w.heap.size + 1] wr ⟨w.heap.size + 1, 0, none⟩ (.bool true) (by simp)) (by simp)).on hX (fun D hD => by have := (HDl.out D hD).2; omega)
end Go.Proofs.YtfnladdjcdcbiaaDoor

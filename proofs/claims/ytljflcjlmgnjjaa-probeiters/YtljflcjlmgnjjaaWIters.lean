/-
  The walk through ProbeIters; no statement is proved here.
-/
import Derived.Test.YtljflcjlmgnjjaaTold
namespace Go.Proofs.Ytljflcjlmgnjjaa
open Go.RowKit Go.Shelf

attribute [local go_sem] Oper.semAt_some

/-- A loop of two rounds. -/
theorem wpIn_loop_two {F : Fence} {n : Nat} {P : Program} {C : Code} {Q : Exit → Act → World → Prop} {a : Act} {w : World} (I : Nat → Act → World → Prop) (h0 : I 0 a w) (hs : ∀ r a w, r < 2 → I r a w → C.wpIn F n P (Exit.then (I (r + 1)) Q) a w) (he : ∀ a w, I 2 a w → C.wpIn F n P (Exit.then (fun _ _ => False) Q) a w) : (Code.loop C).wpIn F n P Q a w := by
  refine wpIn_loop_rounds 3 ?_
  have h2 : ∀ a w, I 2 a w → Code.roundsIn F n P C Q 1 a w := he
  have h1 : ∀ a w, I 1 a w → Code.roundsIn F n P C Q 2 a w := fun a w h => Code.wpIn_mono (fun e a w q => by cases e <;> first | exact h2 _ _ q | exact q) (hs 1 a w (by omega) h)
  exact Code.wpIn_mono (fun e a w q => by cases e <;> first | exact h1 _ _ q | exact q) (hs 0 a w (by omega) h0)

/-- Marks that a function leaves behind. -/
def mkD (D : Nat) : Deferred := { target := .collected D, args := #[] }
def Marks (Ds : List Nat) (W : World) : Prop := ∀ D ∈ Ds, W.heap[D]? = some (.deferred (some []))

theorem leaves_marks {F : Fence} {n : Nat} {P : Program} {fn : Func} {tmps : Array Value} {R : Ending → World → Prop} : ∀ (Ds : List Nat) (W : World), Marks Ds W → Ds.Nodup →
    (∀ W', Ext Ds W W' → ∃ v, (results fn tmps).run P W' = .ok v W' ∧ R (.returned v) W') → LeavesInM F n P fn tmps R (Ds.map mkD) .returning W
  | [], W, _, _, h => by
    obtain ⟨v, h1, h2⟩ := h W (Ext.refl _ _)
    exact ⟨v, h1, h2⟩
  | D :: Ds, W, hM, hN, h => by
    have hD := hM D (by simp)
    refine ⟨by simp, .inl ⟨_, _, rfl, run_takeDeferred hD, leaves_marks Ds _ ?_ (List.nodup_cons.1 hN).2 ?_⟩⟩
    · intro D' h'
      refine (World.putObj_heap_other ?_).trans (hM D' (by simp [h']))
      rintro rfl
      exact (List.nodup_cons.1 hN).1 h'
    · intro W' hX
      refine h W' ?_
      exact (Ext.grown (S := D :: Ds) (grownBy_putObj' W D (.deferred none)) (by simp)).trans (hX.mono (by simp; intro a ha; exact .inr ha))

theorem Marks.ext {Ds : List Nat} {W W' : World} (h : Marks Ds W) (k : KeepsFrom 0 W W') : Marks Ds W' := fun D hD => k.same D _ (Nat.zero_le _) (h D hD) rfl
theorem marks_own {β : Type} {Ds : List Nat} {B : Nat} (hB : ∀ D ∈ Ds, D < B) : OwnFrom B (fun (_ : β) W => Marks Ds W) := fun s X Y row h hg hr D hD => by
  refine (hg.block D (lt_of_heap (h D hD)) (fun e => ?_)).trans (h D hD)
  have := (hr D e.symm).1
  have := hB D hD
  omega

theorem results_cell1 {P : Program} {fn : Func} {p : Tmp} {ty : TypeId} (h : fn.results = #[.cell p ty]) (tmps : Array Value) (w : World) (a : Addr) (v : Value)
    (hp : tmps.getD p undef = .pointer (some a)) (h1 : (loadVar ty a).run P w = .ok v w) : (results fn tmps).run P w = .ok v w := by
  have hp' : tmps[p]?.getD undef = .pointer (some a) := by simpa using hp
  simp [results, h, hp', asAddr, h1]


theorem lst_at {w : World} {a : Option Addr} {n c : Nat} {L : List Nat} (h : Lst w (.slice a n c) L) {j x : Nat} (hx : L[j]? = some x) : ∃ b o, a = some ⟨b, o, none⟩ ∧ w.cell? ⟨b, o + j, none⟩ = some (.int .i64 (x : Nat)) := by
  have hj : j < L.length := (List.getElem?_eq_some_iff.1 hx).1
  obtain ⟨b, o, h1, h2⟩ := (lst_is h).cell (j := j) (by simpa using hj)
  refine ⟨b, o, h1, ?_⟩
  rw [h2]
  simp [List.getD, hx]

/-- No cut was met. -/
def NoCut (cut : Int) (pre : List Nat) : Prop := ∀ j : Nat, 1 ≤ j → j ≤ pre.length → (j : Int) ≠ cut
theorem nocut_snoc {cut : Int} {pre : List Nat} {x k : Nat} (h : NoCut cut pre) (hk : pre.length = k) (hc : ¬ (k : Int) + 1 = cut) : NoCut cut (pre ++ [x]) := by
  intro j h1 h2
  simp only [List.length_append, List.length_cons, List.length_nil] at h2
  by_cases e : j = k + 1
  · subst e; simpa using hc
  · exact h j h1 (by omega)
theorem pre_snoc {pre L : List Nat} {x : Nat} (h : pre <+: L) (hx : L[pre.length]? = some x) : pre ++ [x] <+: L := by
  obtain ⟨t, rfl⟩ := h
  cases t with
  | nil => simp at hx
  | cons y t =>
    simp at hx
    subst hx
    exact ⟨t, by simp⟩
theorem pre_not {pre L : List Nat} {x y : Nat} (hy : L[pre.length]? = some y) (hne : x ≠ y) : ¬ pre ++ [x] <+: L := by
  rintro ⟨t, rfl⟩
  simp at hy
  exact hne hy

set_option maxRecDepth 100000 in
set_option maxHeartbeats 8000000 in
theorem itersWalk (h : Nat) (G cut : Int) (w : World) : Calls Try.prog 5 #[.int .u64 h, .int .i64 G, .int .i64 cut] w (SayPost w (.bool true)) := by
  obtain ⟨L, er, hL⟩ := ord_ex h G
  have hll := ord_len hL
  have HL := hid hL
  clear hL
  refine (callsIn_wide (n := 8)).1 ?_
  refine callsIn_of_wp_marks Try.func5 rfl trivial ?_ rfl
  simp only [Try.ntmps5, List.size_toArray, List.length_cons, List.length_nil, Nat.reduceAdd, Nat.reduceSub, Array.replicate_succ, Array.replicate_zero, List.push_toArray, List.append_toArray, List.nil_append, List.cons_append]
  have hE0 : Ext [] w ((w.alloc (.cells #[.int .i64 cut] 3)).alloc (.cells #[.bool false] 4)) := (Ext.alloc [] _ _).trans (Ext.alloc [] _ _)
  have b0 := (Boxed.new w 3 (.int .i64 cut)).alloc (.cells #[.bool false] 4)
  have b1 := Boxed.new (w.alloc (.cells #[.int .i64 cut] 3)) 4 (.bool false)
  simp only [World.size_alloc] at b1
  have HE0 := hid hE0
  have HB0 := hid b0
  have HB1 := hid b1
  clear hE0 b0 b1
  gi_wp2_with fail
  refine ⟨trivial, ?_⟩
  refine (callsIn_wide.2 (awake_any _)).mono ?_
  rintro _ _ ⟨rfl, rfl⟩
  gi_wp2_with fail
  refine ⟨trivial, ?_⟩
  refine (callsIn_wide.2 (told_any h G L er HL.out _)).mono ?_
  rintro e Wa ⟨v, rfl, hv, _, hE1⟩
  obtain ⟨av, cv, rfl, _⟩ := own_slice hv
  have HVa := hid hv
  have HA0 := hid (show Boxed Wa w.heap.size 3 (.int .i64 cut) from hE1.keep HB0.out (by simp))
  have HA1 := hid (show Boxed Wa (w.heap.size + 1) 4 (.bool false) from hE1.keep HB1.out (by simp))
  have HEa := hid (HE0.out.trans hE1)
  have hwa : w.heap.size + 1 < Wa.heap.size := HA1.out.lt
  clear hE1 hv HB0 HB1 HE0
  gi_wp2_with fail
  refine ⟨trivial, ?_⟩
  have hEb := Ext.alloc [] Wa (.cells #[.slice av L.length cv] 24)
  have HVb := hid (HVa.out.keep0 hEb)
  have HC0 := hid (HA0.out.alloc (.cells #[.slice av L.length cv] 24))
  have HC1 := hid (HA1.out.alloc (.cells #[.slice av L.length cv] 24))
  have HC2 := hid (Boxed.new Wa 24 (.slice av L.length cv))
  have HEb := hid (HEa.out.trans hEb)
  have K := seq_any h G L er HL.out (Wa.alloc (.cells #[.slice av L.length cv] 24))
  generalize Wa.alloc (.cells #[.slice av L.length cv] 24) = Wb at *
  obtain ⟨zw, hzw⟩ : ∃ zw, Wa.heap.size = zw := ⟨_, rfl⟩
  rw [hzw] at HC2 hwa ⊢
  clear hEb HVa HA0 HA1 HEa hzw HL
  refine (callsIn_wide.2 K).mono ?_
  clear K
  rintro e Wz ⟨gf, lb, S, rfl, hIt, hE1⟩
  have HIt := hid hIt
  have HVz := hid (HVb.out.keep0 hE1)
  have HZ0 := hid (show Boxed Wz w.heap.size 3 (.int .i64 cut) from hE1.keep HC0.out (by simp))
  have HZ1 := hid (show Boxed Wz (w.heap.size + 1) 4 (.bool false) from hE1.keep HC1.out (by simp))
  have HZ2 := hid (show Boxed Wz zw 24 (.slice av L.length cv) from hE1.keep HC2.out (by simp))
  have HEz := hid (HEb.out.trans hE1)
  have hz : zw < Wz.heap.size := HZ2.out.lt
  clear hE1 hIt HVb HC0 HC1 HC2 HEb
  have hfn := fun W => eql_func_nil W gf lb
  gi_wp2_with fail
  clear hfn
  have hzb : w.heap.size ≤ Wz.heap.size := by omega
  refine wpIn_loop_two (fun r act W => ∃ (u12 u30 u31 u32 u33 u34 u53 u54 u55 u56 u57 u58 u59 u60 u61 : Value) (Ds : List Nat), act = { tmps := #[.int .u64 h, .int .i64 G, .int .i64 cut, undef, undef, .pointer (some ⟨w.heap.size, 0, none⟩), .pointer (some ⟨w.heap.size + 1, 0, none⟩), .pointer (some ⟨zw, 0, none⟩), .bool true, .func (.func gf) #[] lb, .int .i64 er, .int .i64 (r : Nat), u12, undef, .bool true, .bool false, .tuple #[.slice av L.length cv, .bool true], .int .u64 h, .int .i64 G, .tuple #[.slice av L.length cv, .bool true], .slice av L.length cv, .bool true, .tuple #[.func (.func gf) #[] lb, .int .i64 er], .int .u64 h, .int .i64 G, .tuple #[.func (.func gf) #[] lb, .int .i64 er], .func (.func gf) #[] lb, .int .i64 er, .func (.func gf) #[] lb, .bool false, u30, u31, u32, u33, u34, undef, undef, undef, undef, undef, undef, undef, undef, undef, undef, undef, undef, undef, undef, undef, undef, undef, undef, u53, u54, u55, u56, u57, u58, u59, u60, u61, undef], defers := Ds.map mkD } ∧ Below Wz.heap.size Wz W ∧ Marks Ds W ∧ Ds.Nodup ∧ ∀ D ∈ Ds, D < W.heap.size ∧ Wz.heap.size ≤ D) ?start ?step ?fin
  case start =>
    exact ⟨undef, undef, undef, undef, undef, undef, undef, undef, undef, undef, undef, undef, undef, undef, undef, [], rfl, Below.refl _ _, (fun D hD => by simp at hD), List.nodup_nil, (fun D hD => by simp at hD)⟩
  case step =>
    rintro r act wr hr2 ⟨u12, u30, u31, u32, u33, u34, u53, u54, u55, u56, u57, u58, u59, u60, u61, Ds, rfl, hQ, hM, hN, hDl⟩
    have HQr := hid hQ
    have HMr := hid hM
    have HNr := hid hN
    have HDl := hid hDl
    have hzr : Wz.heap.size ≤ wr.heap.size := hQ.size
    clear hQ hM hN hDl
    have hrr : (r : Int) < 2 := by omega
    gi_wp2_with fail
    have hEk := Ext.alloc [] wr (.cells #[.int .i64 0] 3)
    have bN := Boxed.new wr 3 (.int .i64 0)
    have hQ0 : Below Wz.heap.size Wz (wr.alloc (.cells #[.int .i64 0] 3)) := HQr.out.trans (hEk.below.mono hzr)
    have hM0 : Marks Ds (wr.alloc (.cells #[.int .i64 0] 3)) := fun D hD => hEk.keep (HMr.out D hD) (by simp)
    have hsz : (wr.alloc (.cells #[.int .i64 0] 3)).heap.size = wr.heap.size + 1 := by simp
    obtain ⟨W0, hW0⟩ : ∃ W0, wr.alloc (.cells #[.int .i64 0] 3) = W0 := ⟨_, rfl⟩
    rw [hW0] at hQ0 bN hM0 hsz ⊢
    clear hW0 hEk
    have HBz : Hid (∀ W, Below Wz.heap.size Wz W → (Boxed W w.heap.size 3 (.int .i64 cut) ∧ Boxed W (w.heap.size + 1) 4 (.bool false)) ∧ Boxed W zw 24 (.slice av L.length cv) ∧ Lst W (.slice av L.length cv) L) := fun W h =>
      ⟨⟨(below_ext h).keep HZ0.out (by simp), (below_ext h).keep HZ1.out (by simp)⟩, (below_ext h).keep HZ2.out (by simp), HVz.out.keep0 (below_ext h)⟩
    have hSl := hid HIt.out.lt
    have hIt0 := hid (HIt.out.on (below_ext hQ0))
    refine wpIn_rangeFunc_ownH rfl (by omega) (gf := gf) (lb := lb) rfl trivial HIt.out.enters
      (hIt0.out.stops _ (by omega) W0 (Below.refl _ _)) kq_t (kq_b hIt0.out.lt) (Below.refl _ _) (fun _ => rfl)
      (fun pre W => ((Below Wz.heap.size Wz W ∧ Marks Ds W) ∧ Boxed W wr.heap.size 3 (.int .i64 (pre.length : Nat))) ∧ (pre <+: L ∧ NoCut cut pre))
      (fun cd pre W => (((Below Wz.heap.size Wz W ∧ Marks Ds W) ∧ Boxed W wr.heap.size 3 (.int .i64 (pre.length : Nat))) ∧ (pre.length : Int) = cut ∧ cd = .exit 2) ∨ (cd = .ret ∧ ¬ pre <+: L))
      (OwnFrom.and (OwnFrom.and (OwnFrom.and (ownFrom_below (Nat.le_refl _) (by omega)) (marks_own (fun D hD => by have := (HDl.out D hD).1; omega))) (Own.from (boxed_own _ _ _) _)) (ownFrom_pure _ _))
      (fun cd pre X Y row hs hg hr => by
        rcases hs with ⟨⟨⟨h1, h2⟩, h5⟩, h6⟩ | h
        · exact .inl ⟨⟨⟨ownFrom_below (β := Unit) (Nat.le_refl _) (show Wz.heap.size ≤ W0.heap.size by omega) () X Y row h1 hg hr, marks_own (β := Unit) (B := W0.heap.size) (fun D hD => by have := (HDl.out D hD).1; omega) () X Y row h2 hg hr⟩, boxed_own wr.heap.size 3 (fun _ : Unit => .int .i64 (pre.length : Nat)) () X Y row h5 hg (fun r e => (hr r e).2)⟩, h6⟩
        · exact .inr h)
      ⟨⟨⟨hQ0, hM0⟩, bN⟩, List.nil_prefix, fun j h1 h2 => by simp at h2; omega⟩
      (fun x a' _ => a' = { tmps := #[.int .u64 h, .int .i64 G, .int .i64 cut, undef, undef, .pointer (some ⟨w.heap.size, 0, none⟩), .pointer (some ⟨w.heap.size + 1, 0, none⟩), .pointer (some ⟨zw, 0, none⟩), .bool true, .func (.func gf) #[] lb, .int .i64 er, .int .i64 (r : Nat), .pointer (some ⟨wr.heap.size, 0, none⟩), .int .i64 (x : Nat), .bool true, .bool false, .tuple #[.slice av L.length cv, .bool true], .int .u64 h, .int .i64 G, .tuple #[.slice av L.length cv, .bool true], .slice av L.length cv, .bool true, .tuple #[.func (.func gf) #[] lb, .int .i64 er], .int .u64 h, .int .i64 G, .tuple #[.func (.func gf) #[] lb, .int .i64 er], .func (.func gf) #[] lb, .int .i64 er, .func (.func gf) #[] lb, .bool false, .int .i64 (r : Nat), .bool true, u32, u33, .func (.func gf) #[] lb, .int .i64 (x : Nat), undef, undef, undef, undef, undef, undef, undef, undef, undef, undef, undef, undef, undef, undef, undef, undef, undef, u53, u54, u55, u56, u57, u58, u59, u60, u61, undef], defers := [] })
      (fun x a' _ X Y row hs hg hr => hs)
      ?assign ?body ?done ?stop
    case assign =>
      rintro l pre x W K h1 hK
      have HKx := hid hK
      have H1 := hid h1
      clear hK h1
      gi_wp2
      exact HKx.out _ _ (KeepsFrom.refl _ _) (Kq.refl _ _) H1.out rfl
    case body =>
      rintro l pre x a' W hl ⟨lr, hlr⟩ ⟨⟨⟨hQ, hM⟩, bN1⟩, hP, hC⟩ rfl hlt
      obtain ⟨⟨bC, bO⟩, bW, hLs⟩ := HBz.out _ hQ
      obtain ⟨y, hy⟩ : ∃ y, L[pre.length]? = some y := ⟨_, List.getElem?_eq_getElem hlt⟩
      obtain ⟨bb, oo, rfl, cY⟩ := lst_at hLs hy
      have cN := bN1.cell
      have fN := bN1.frozen
      have cC := bC.cell
      have cO := bO.cell
      have fO := bO.frozen
      have cW := bW.cell
      have HPl : Hid ((pre ++ [x]).length = pre.length + 1) := by show _ = _; simp
      have HQ1 := hid hQ
      have HM1 := hid hM
      have HN1 := hid bN1
      have HP1 := hid hP
      have HC1 := hid hC
      have HY := hid hy
      have hge : ¬ ((L.length : Int) ≤ (pre.length : Int)) := by omega
      clear hlr hP hC hQ hM bN1 bC bO bW hLs hy
      by_cases hbad : x = y
      · subst hbad
        have HPx := hid (pre_snoc HP1.out HY.out)
        clear HY HP1
        generalize hpk : pre.length = k at *
        have HPK := hid hpk
        clear hpk
        obtain ⟨W3, hW3⟩ : ∃ W3, W.setCell ⟨wr.heap.size, 0, none⟩ (.int .i64 ((k : Int) + 1)) = W3 := ⟨_, rfl⟩
        have HK0 : Hid (KeepsOthers W W3) := by
          rw [← hW3]
          exact KeepsOthers.setCell _ _ _
        have HKt : Hid (Kq S W W3) := by
          rw [← hW3]
          exact Kq.of_ext (Ext.setCell [wr.heap.size] W ⟨wr.heap.size, 0, none⟩ (.int .i64 ((k : Int) + 1)) (by simp)) (fun q hq => by have := hSl.out q hq; simp; omega)
        have HSt : Hid ((Below Wz.heap.size Wz W3 ∧ Marks Ds W3) ∧ Boxed W3 wr.heap.size 3 (.int .i64 ((k : Int) + 1))) := by
          refine ⟨⟨?_, fun D hD => HK0.out.same D _ (HM1.out D hD) rfl⟩, ?_⟩
          · rw [← hW3]
            exact HQ1.out.setCell (p := ⟨wr.heap.size, 0, none⟩) (by show Wz.heap.size ≤ wr.heap.size; omega) _
          · rw [← hW3]; exact HN1.out.set _
        have HW3 := hid hW3
        clear hW3
        by_cases hkc : (k : Int) + 1 = cut
        · have hkd : ((k : Int) + 1 == cut) = true := by simp [hkc]
          have HKC := hid hkc
          clear hkc
          gi_wp2_with fail
          rw [HW3.out]
          exact ⟨HK0.out.from _, .inl ⟨by rw [HPl.out]; exact HSt.out, by rw [HPl.out]; exact HKC.out, rfl⟩⟩
        · have hkd : ((k : Int) + 1 == cut) = false := by simp [hkc]
          have HKC := hid hkc
          clear hkc
          gi_wp2_with fail
          rw [HW3.out]
          refine ⟨HK0.out.from _, HKt.out, by rw [HPl.out]; exact HSt.out, HPx.out, nocut_snoc HC1.out HPK.out HKC.out⟩
      · have HNo := hid (pre_not HY.out hbad)
        have hne : ((x : Int) != (y : Int)) = true := by simp; omega
        clear hbad
        gi_wp2_with fail
        exact ⟨(KeepsOthers.setCell _ _ _).from _, .inr ⟨rfl, HNo.out⟩⟩
    case done =>
        rintro D ys W hD rfl ⟨⟨⟨hQ, hM⟩, bN1⟩, hP, hC⟩ hK
        obtain ⟨⟨bC, _⟩, bW, _⟩ := HBz.out _ hQ
        have cN := bN1.cell
        have cC := bC.cell
        have cW := bW.cell
        have HG2 : Hid (Below Wz.heap.size Wz W ∧ Marks (D :: Ds) W ∧ (D :: Ds).Nodup ∧ ∀ D' ∈ (D :: Ds), D' < W.heap.size ∧ Wz.heap.size ≤ D') := by
          refine ⟨hQ, ?_, List.nodup_cons.2 ⟨fun h => by have := (HDl.out D h).1; omega, HNr.out⟩, ?_⟩
          · intro D' h'
            rcases List.mem_cons.1 h' with rfl | h'
            · exact hK
            · exact hM D' h'
          · intro D' h'
            rcases List.mem_cons.1 h' with rfl | h'
            · exact ⟨lt_of_heap hK, by omega⟩
            · exact ⟨lt_of_heap (hM D' h'), (HDl.out D' h').2⟩
        clear hQ hM hK hP hC hD bN1 bC bW
        have hrr2 : (r : Int) + 1 ≤ 2 := by omega
        gi_wp2_with fail
        exact ⟨_, _, _, _, _, _, _, _, _, _, _, _, _, _, _, D :: Ds, rfl, HG2.out⟩
    case stop =>
      rintro D cd pre W hD hSp h hK
      rcases h with ⟨⟨⟨hQ, hM⟩, bN1⟩, hcut, rfl⟩ | ⟨rfl, hp⟩
      · obtain ⟨⟨bC, _⟩, bW, _⟩ := HBz.out _ hQ
        have cN := bN1.cell
        have cC := bC.cell
        have cW := bW.cell
        have HG2 : Hid (Below Wz.heap.size Wz W ∧ Marks (D :: Ds) W ∧ (D :: Ds).Nodup ∧ ∀ D' ∈ (D :: Ds), D' < W.heap.size ∧ Wz.heap.size ≤ D') := by
          refine ⟨hQ, ?_, List.nodup_cons.2 ⟨fun h => by have := (HDl.out D h).1; omega, HNr.out⟩, ?_⟩
          · intro D' h'
            rcases List.mem_cons.1 h' with rfl | h'
            · exact hK
            · exact hM D' h'
          · intro D' h'
            rcases List.mem_cons.1 h' with rfl | h'
            · exact ⟨lt_of_heap hK, by omega⟩
            · exact ⟨lt_of_heap (hM D' h'), (HDl.out D' h').2⟩
        clear hQ hM hK hD bN1 bC bW hSp
        generalize pre.length = k at *
        subst hcut
        have hrr2 : (r : Int) + 1 ≤ 2 := by omega
        by_cases hkl : (k : Int) = (L.length : Int)
        · have hkd : ((k : Int) != (L.length : Int)) = false := by simp [hkl]
          clear hkl
          gi_wp2_with fail
          exact ⟨_, _, _, _, _, _, _, _, _, _, _, _, _, _, _, D :: Ds, rfl, HG2.out⟩
        · have hkd : ((k : Int) != (L.length : Int)) = true := by simpa using hkl
          clear hkl
          gi_wp2_with fail
          exact ⟨_, _, _, _, _, _, _, _, _, _, _, _, _, _, _, D :: Ds, rfl, HG2.out⟩
      · exact absurd hSp hp
  case fin =>
    rintro act wr ⟨u12, u30, u31, u32, u33, u34, u53, u54, u55, u56, u57, u58, u59, u60, u61, Ds, rfl, hQ, hM, hN, hDl⟩
    have b1 : Boxed wr (w.heap.size + 1) 4 (.bool false) := (below_ext hQ).keep HZ1.out (by simp)
    have c1 := b1.cell
    have f1 := b1.frozen
    have HB1 := hid b1
    have HQr := hid hQ
    have HMr := hid hM
    have HNr := hid hN
    have HDl := hid hDl
    clear hQ hM hN hDl b1
    gi_wp2_with fail
    refine leaves_marks Ds _ (HMr.out.ext ((KeepsOthers.setCell _ _ _).from _)) HNr.out (fun W' hX => ⟨.bool true, ?_, rfl, ?_⟩)
    · have b9 : Boxed W' (w.heap.size + 1) 4 (.bool true) := hX.keep (HB1.out.set _) (fun h => by have := (HDl.out _ h).2; omega)
      exact results_cell1 rfl _ _ ⟨w.heap.size + 1, 0, none⟩ _ rfl (load4 b9)
    · have hb : Ext [] w wr := HEz.out.trans (below_ext HQr.out)
      exact (hb.on (Ext.setCell [w.heap.size + 1] wr ⟨w.heap.size + 1, 0, none⟩ (.bool true) (by simp)) (by simp)).on hX (fun D hD => by have := (HDl.out D hD).2; omega)
end Go.Proofs.Ytljflcjlmgnjjaa

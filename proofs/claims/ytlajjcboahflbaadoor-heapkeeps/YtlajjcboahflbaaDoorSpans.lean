/-
  The iterator over a heap's spans: what it gives a loop; no statement is proved here.
-/
import Derived.Test.YtlajjcboahflbaaDoorHMem
namespace Go.Proofs.YtlajjcboahflbaaDoor
open Go.RowKit Go.Shelf

attribute [local go_sem] Oper.semAt_some

/-- Blocks that a loop's round must keep. -/
def Ks (K : List Nat) (A B : World) : Prop := ∀ b ∈ K, ∀ o, A.heap[b]? = some o → B.heap[b]? = some o
theorem Ks.refl (K : List Nat) (A : World) : Ks K A A := fun _ _ _ h => h
theorem Ks.trans {K : List Nat} {A B C : World} (h : Ks K A B) (k : Ks K B C) : Ks K A C := fun b hb o ho => k b hb o (h b hb o ho)
theorem Ks.of_ext0 {K : List Nat} {A B : World} (x : Ext [] A B) : Ks K A B := fun _ _ _ ho => x.keep ho (by simp)

/-- One of a heap's spans. -/
abbrev Os (H : Hs) : Type := { x : Spn // x ∈ H.sp }
/-- The spans that begin at the first k pages. -/
def heads (H : Hs) (k : Nat) : List (Os H) := H.sp.attach.filter fun x => decide (x.val.st < k)
theorem filter_succ {α : Type} (f : α → Nat) : ∀ (L : List α) (k : Nat), L.Pairwise (fun a b => f a < f b) → (L.filter fun x => decide (f x < k + 1)) = (L.filter fun x => decide (f x < k)) ++ L.filter fun x => decide (f x = k)
  | [], _, _ => rfl
  | a :: L, k, h => by
    have hL := List.pairwise_cons.1 h
    have ih := filter_succ f L k hL.2
    rcases Nat.lt_trichotomy (f a) k with q | q | q
    · rw [List.filter_cons_of_pos (by simp; omega), List.filter_cons_of_pos (by simpa using q), List.filter_cons_of_neg (by simp; omega), ih]; rfl
    · have e1 : (L.filter fun x => decide (f x < k)) = [] := by
        rw [List.filter_eq_nil_iff]; intro b hb; have := hL.1 b hb; simp; omega
      have e2 : (L.filter fun x => decide (f x < k + 1)) = [] := by
        rw [List.filter_eq_nil_iff]; intro b hb; have := hL.1 b hb; simp; omega
      have e3 : (L.filter fun x => decide (f x = k)) = [] := by
        rw [List.filter_eq_nil_iff]; intro b hb; have := hL.1 b hb; simp; omega
      rw [List.filter_cons_of_pos (by simp; omega), List.filter_cons_of_neg (by simp; omega), List.filter_cons_of_pos (by simpa using q), e1, e2, e3]; rfl
    · rw [List.filter_cons_of_neg (by simp; omega), List.filter_cons_of_neg (by simp; omega), List.filter_cons_of_neg (by simp; omega), ih]
theorem attach_sorted {H : Hs} (h : Hv H) : H.sp.attach.Pairwise (fun a b => a.val.st < b.val.st) := by
  have h1 : H.sp.Pairwise (fun a b => a.st < b.st) := List.Pairwise.imp_of_mem (fun {a b} ha _ q => by have := (h.ok a ha).n1; omega) h.sorted
  exact (List.pairwise_map (f := Subtype.val)).1 (by rw [List.attach_map_subtype_val]; exact h1)
theorem heads_no {H : Hs} (h : Hv H) {k : Nat} (hn : ∀ x ∈ H.sp, x.st ≠ k) : heads H (k + 1) = heads H k := by
  unfold heads
  rw [filter_succ (fun x : Os H => x.val.st) _ k (attach_sorted h)]
  have : (H.sp.attach.filter fun x => decide (x.val.st = k)) = [] := by
    rw [List.filter_eq_nil_iff]; intro b _; simpa using hn b.val b.property
  rw [this, List.append_nil]
theorem filter_one {α : Type} (f : α → Nat) (k : Nat) (x : α) : ∀ (L : List α), L.Pairwise (fun a b => f a < f b) → x ∈ L → f x = k → (L.filter fun x => decide (f x = k)) = [x]
  | [], _, hx, _ => by cases hx
  | a :: L, h, hx, hk => by
    have hL := List.pairwise_cons.1 h
    rcases List.mem_cons.1 hx with rfl | hx
    · rw [List.filter_cons_of_pos (by simpa using hk)]
      congr 1
      rw [List.filter_eq_nil_iff]; intro b hb; have := hL.1 b hb; simp; omega
    · have := hL.1 x hx
      rw [List.filter_cons_of_neg (by simp; omega)]
      exact filter_one f k x L hL.2 hx hk
theorem heads_yes {H : Hs} (h : Hv H) {k : Nat} {x : Spn} (hx : x ∈ H.sp) (hk : x.st = k) : heads H (k + 1) = heads H k ++ [⟨x, hx⟩] := by
  unfold heads
  rw [filter_succ (fun x : Os H => x.val.st) _ k (attach_sorted h), filter_one (fun x : Os H => x.val.st) k ⟨x, hx⟩ _ (attach_sorted h) (List.mem_attach _ _) hk]
theorem heads_all {H : Hs} (h : Hv H) : heads H H.P = H.sp.attach := by
  unfold heads
  rw [List.filter_eq_self]
  intro x _
  have := h.le x.property
  have := (h.ok x.val x.property).n1
  simp; omega
theorem heads_pre {H : Hs} (h : Hv H) {i j : Nat} (hij : i ≤ j) : heads H i <+: heads H j := by
  induction j with
  | zero =>
    have : i = 0 := by omega
    rw [this]; exact List.prefix_rfl
  | succ j ih =>
    by_cases e : i = j + 1
    · rw [e]; exact List.prefix_rfl
    · refine (ih (by omega)).trans ?_
      unfold heads
      rw [filter_succ (fun x : Os H => x.val.st) _ j (attach_sorted h)]
      exact List.prefix_append _ _

/-- The blocks that the iterator reads. -/
def Kb (Bn p og : Nat) (H : Hs) (sb : Nat → Nat × Nat) : List Nat := Bn :: p :: og :: H.sp.map fun x => (sb x.st).1
theorem mem_kb {Bn p og : Nat} {H : Hs} {sb : Nat → Nat × Nat} {x : Spn} (hx : x ∈ H.sp) : (sb x.st).1 ∈ Kb Bn p og H sb := by
  simp only [Kb, List.mem_cons, List.mem_map]
  exact .inr (.inr (.inr ⟨x, hx, rfl⟩))

structure It (ox : Nat) (w : World) (Bn p og : Nat) (H : Hs) (sb : Nat → Nat × Nat) (O : List (Option Nat)) : Prop where
  box : Boxed w Bn 23 (.pointer (some ⟨p, ox, none⟩))
  ow : Ow ox w p og O
  olen : O.length = H.P
  own : ∀ i, i < H.P → O.getD i none = (spanAt H.sp i).map fun x => (sb x.st).1
  sts : ∀ x ∈ H.sp, ∃ cs T, w.heap[(sb x.st).1]? = some (.cells cs T (0, 0)) ∧ cs[0]? = some (.int .i64 (x.st : Nat))
  ok : Hv H
theorem It.keepK {ox : Nat} {A B : World} {Bn p og : Nat} {H : Hs} {sb : Nat → Nat × Nat} {O : List (Option Nat)} (k : It ox A Bn p og H sb O) (x : Ks (Kb Bn p og H sb) A B) : It ox B Bn p og H sb O := by
  obtain ⟨cs, T, hb, ht, hc⟩ := k.ow.box
  refine ⟨x Bn (by simp [Kb]) _ k.box, ⟨⟨cs, T, x p (by simp [Kb]) _ hb, ht, hc⟩, x og (by simp [Kb]) _ k.ow.row⟩, k.olen, k.own, fun y hy => ?_, k.ok⟩
  obtain ⟨cs, T, h1, h2⟩ := k.sts y hy
  exact ⟨cs, T, x _ (mem_kb hy) _ h1, h2⟩
theorem It.start {ox : Nat} {w : World} {Bn p og : Nat} {H : Hs} {sb : Nat → Nat × Nat} {O : List (Option Nat)} (k : It ox w Bn p og H sb O) {x : Spn} (hx : x ∈ H.sp) : w.cell? ⟨(sb x.st).1, 0, none⟩ = some (.int .i64 (x.st : Nat)) := by
  obtain ⟨cs, T, h1, h2⟩ := k.sts x hx
  rw [cell_of_row _ _ _ _ _ _ h1]; exact h2

set_option maxRecDepth 100000 in
set_option maxHeartbeats 4000000 in
theorem spans1_in {ox : Nat} (F : Fence) (n : Nat) (h77 : F.fn 77) (hro : F.round = none) (hn : 1 ≤ n) (l Bn p og : Nat) (H : Hs) (sb : Nat → Nat × Nat) (O : List (Option Nat)) (J Jx : List (Os H) → World → Prop)
    (hY : ∀ pre x W, J pre W → pre.length < H.sp.attach.length → YieldAt F (n - 1) Tryd.prog l #[.pointer (some ⟨(sb x.val.st).1, 0, none⟩)] W fun e W' =>
      (e = .returned (.bool true) ∧ J (pre ++ [x]) W' ∧ Ks (Kb Bn p og H sb) W W') ∨ (e = .returned (.bool false) ∧ Jx (pre ++ [x]) W'))
    (W : World) (hI : It ox W Bn p og H sb O) (h0 : J [] W) :
    CallsIn F n Tryd.prog 77 #[.func (.yield l) #[] #[], .pointer (some ⟨Bn, 0, none⟩)] W fun e W' => (∃ v, e = .returned v) ∧
      ((∃ ys, ys = H.sp.attach ∧ J ys W') ∨ (∃ pre, pre <+: H.sp.attach ∧ Jx pre W')) := by
  have hc := hI.box.cell
  have hoc := hI.ow.cell
  have HI := hid hI
  have HL := hid hI.ow.row
  have hv := hI.ok
  have hlen := hv.P1
  have hle := hI.olen
  clear hI
  rw [← heads_all hv] at hY ⊢
  refine callsIn_of_wp Tryd.func77 rfl h77 ?_ hro
  simp only [Tryd.ntmps77, List.size_toArray, List.length_cons, List.length_nil, Nat.reduceAdd, Nat.reduceSub, Array.replicate_succ, Array.replicate_zero, List.push_toArray, List.append_toArray, List.nil_append, List.cons_append]
  rw [hle] at hoc
  have HLE := hid hle
  clear hle
  have HV := hid hv
  clear hv
  generalize hlP : H.P = len at *
  have HLP := hid hlP
  clear hlP
  gi_wp2
  gi_loopw [12] (fun q wr => ∃ k : Nat, q = .int .i64 k ∧ k ≤ len ∧ It ox wr Bn p og H sb O ∧ J (heads H k) wr) (fun q _ => (len - (intOf q)).toNat)
  case atStart => exact ⟨0, rfl, Nat.zero_le _, HI.out, by
    have : heads H 0 = [] := by unfold heads; rw [List.filter_eq_nil_iff]; intro x _; simp
    rw [this]; exact h0⟩
  case round =>
    obtain ⟨k, rfl, hk, hIk, hJk⟩ := hrel
    have HIk := hid hIk
    have HJk := hid hJk
    by_cases hlt : k < len
    · have hat := hIk.ow.at_ (i := k) (by rw [HLE.out]; exact hlt)
      rw [hIk.own k (by rw [HLP.out]; exact hlt)] at hat
      have hlti : (k : Int) < len := by omega
      have hst := fun x (hx : x ∈ H.sp) => hIk.start hx
      clear hIk hJk
      cases hO : spanAt H.sp k with
      | none =>
        have hh : heads H (k + 1) = heads H k := heads_no HV.out (fun x hx e => by
          have := HV.out.spanAt hx (i := k) (by omega) (by have := (HV.out.ok x hx).n1; omega)
          rw [hO] at this; cases this)
        have HH := hid hh
        rw [hO] at hat
        simp only [Option.map_none] at hat
        clear hst hO hh
        gi_wp2
        refine ⟨fun f hf => (by cases hf), ?_⟩
        gi_wp2
        go_roundw
        case rel => exact ⟨k + 1, by go_num, by omega, HIk.out, by rw [HH.out]; exact HJk.out⟩
        case measure => simp [intOf]; omega
      | some x =>
        obtain ⟨hx, hx1, hx2⟩ := spanAt_some hO
        have hs0 := hst x hx
        rw [hO] at hat
        simp only [Option.map_some] at hat
        by_cases hsk : x.st = k
        · have hh : heads H (k + 1) = heads H k ++ [⟨x, hx⟩] := heads_yes HV.out hx hsk
          have hpr := heads_pre HV.out (i := k + 1) (j := len) (by omega)
          have hll : (heads H k).length < (heads H len).length := by
            have := hpr.length_le
            rw [hh, List.length_append] at this
            simp at this
            omega
          obtain ⟨fn, tmps, assign, body, hy, hR⟩ := hY (heads H k) ⟨x, hx⟩ _ HJk.out hll
          have HH := hid hh
          have HPr := hid hpr
          skip
          generalize (sb x.st).1 = s at *
          rw [hsk] at hs0
          clear hst hh hpr hll hx1 hx2 hsk
          gi_wp2
          refine hR.mono ?_
          rintro e W3 (⟨rfl, hJ3, hk3⟩ | ⟨rfl, hJx3⟩)
          · have HI3 := hid (HIk.out.keepK hk3)
            gi_wp2
            go_roundw
            case rel => exact ⟨k + 1, by go_num, by omega, HI3.out, by rw [HH.out]; exact hJ3⟩
            case measure => simp [intOf]; omega
          · gi_wp2
            refine bodyPost_ret (results_none rfl _ _ _) rfl ?_
            exact ⟨⟨_, rfl⟩, .inr ⟨_, by rw [← HH.out]; exact HPr.out, hJx3⟩⟩
        · have hh : heads H (k + 1) = heads H k := heads_no HV.out (fun y hy e => by
            have := HV.out.spanAt hy (i := k) (by omega) (by have := (HV.out.ok y hy).n1; omega)
            rw [hO] at this; cases this; exact hsk e)
          have HH := hid hh
          have hskb : ((x.st : Int) == (k : Int)) = false := by simp; omega
          have hski : ¬ ((x.st : Int) = k) := by omega
          generalize (sb x.st).1 = s at *
          generalize x.st = xs at *
          clear hst hO hh hx1 hx2
          gi_wp2
          refine ⟨fun f hf => (by cases hf), ?_⟩
          gi_wp2
          go_roundw
          case rel => exact ⟨k + 1, by go_num, by omega, HIk.out, by rw [HH.out]; exact HJk.out⟩
          case measure => simp [intOf]; omega
    · obtain rfl : k = len := by omega
      clear hIk hJk
      gi_wp2
      go_end0
      exact ⟨⟨_, rfl⟩, .inl ⟨_, rfl, HJk.out⟩⟩

/-- The iterator's value. -/
def sitv (Bn : Nat) : Value := .func (.func 77) #[] #[.pointer (some ⟨Bn, 0, none⟩)]
theorem spans_any (p : Option Addr) (w : World) : Calls Tryd.prog 52 #[.pointer p] w fun e w' => e = .returned (sitv w.heap.size) ∧ w' = w.alloc (.cells #[.pointer p] 23) := by
  go_enter Tryd.func52, Tryd.ntmps52
  go_wp2
  go_ret
  exact ⟨rfl, rfl⟩
theorem It.keep0 {ox : Nat} {A B : World} {Bn p og : Nat} {H : Hs} {sb : Nat → Nat × Nat} {O : List (Option Nat)} (k : It ox A Bn p og H sb O) (x : Ext [] A B) : It ox B Bn p og H sb O := k.keepK (Ks.of_ext0 x)
/-- The iterator's contract. -/
theorem spans_stops {ox : Nat} (F : Fence) (n : Nat) (h77 : F.fn 77) (hro : F.round = none) (hn : 1 ≤ n) (Bn p og : Nat) (H : Hs) (sb : Nat → Nat × Nat) (O : List (Option Nat)) (w : World) (hI : It ox w Bn p og H sb O) :
    SeqStopsK F n Tryd.prog 77 #[.pointer (some ⟨Bn, 0, none⟩)] (fun x : Os H => #[.pointer (some ⟨(sb x.val.st).1, 0, none⟩)]) (Ks (Kb Bn p og H sb)) (fun ys => ys = H.sp.attach) (fun pre => pre <+: H.sp.attach) H.sp.attach.length w := fun l J Jx W hW _ _ hY h0 =>
  spans1_in F n h77 hro hn l Bn p og H sb O J Jx hY W (hI.keep0 (below_ext hW)) h0

theorem Hm.it {w : World} {p ox : Nat} {T : TypeId} {cs : Array Value} {F : Nat → Prop} {H : Hs} {ag og : Nat} {V : Value} {sb : Nat → Nat × Nat} {O : List (Option Nat)} (h : Hm w p ox T cs F H ag og V sb O) {Bn : Nat} (hb : Boxed w Bn 23 (.pointer (some ⟨p, ox, none⟩))) : It ox w Bn p og H sb O :=
  ⟨hb, h.ow, h.olen, h.own, fun x hx => ⟨_, _, (h.spans x hx).box, rfl⟩, h.ok⟩

end Go.Proofs.YtlajjcboahflbaaDoor

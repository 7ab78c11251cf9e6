/-
  OpenS, Find, HOps, Look: joined by program; no statement is proved here.
-/
import Derived.Test.YtjbbomokgpoilaaGreatDoorZHB
/-
  open: the lowest span that has a free slot of a size; no statement is proved here.
-/
namespace Go.Proofs.YtjbbomokgpoilaaGreatDoor
open Go.RowKit Go.Shelf

attribute [local go_sem] Oper.semAt_some

/-- A span with a free slot of that room. -/
def fitS (rm : Nat) (x : Spn) : Bool := decide (x.rm = rm) && decide (us x.S < x.S.length)
def OpPost (sb : Nat → Nat × Nat) (w : World) (r : Option Spn) (e : Ending) (w' : World) : Prop := e = .returned (.pointer (r.map fun x => ⟨(sb x.st).1, 0, none⟩)) ∧ Ext [] w w'
theorem ksK_b {K : List Nat} {w : World} (h1 : ∀ b ∈ K, b < w.heap.size) (W : World) (l : Nat) (o o' : Obj) (hl : w.heap.size ≤ l) (_ : W.heap[l]? = some o) (_ : o.isCells = false) (_ : o.isWalk = false) : Ks K W (W.putObj l o') :=
  fun b hb _ ho => (World.putObj_heap_other (by have := h1 b hb; omega)).trans ho
theorem ksK_t {K : List Nat} {A B C : World} (h : Ks K A B) (k : Ks K B C) : Ks K A C := h.trans k
theorem ofind_snoc {α : Type} {L : List α} {p : α → Bool} {x : α} (h : L.find? p = none) : (L ++ [x]).find? p = if p x then some x else none := by
  rw [List.find?_append, h]
  simp [List.find?_cons]
  cases p x <;> rfl
theorem ofind_prefix {α : Type} {A B : List α} {p : α → Bool} {x : α} (h : A.find? p = some x) (hp : A <+: B) : B.find? p = some x := by
  obtain ⟨t, rfl⟩ := hp
  rw [List.find?_append, h]; rfl
theorem ofind_attach {H : Hs} (p : Spn → Bool) : (H.sp.attach.find? fun x => p x.val).map Subtype.val = H.sp.find? p := by
  conv => rhs; rw [← List.attach_map_subtype_val H.sp, List.find?_map]
  rfl
theorem oload85 {w : World} {g : Nat} {v : Value} (h : Boxed w g 128 v) : (loadVar 128 ⟨g, 0, none⟩).run Tryz.prog w = .ok v w := by
  have := h.cell
  simp [go_sem, this]
theorem results_cell1 {P : Program} {fn : Func} {p : Tmp} {ty : TypeId} (h : fn.results = #[.cell p ty]) (tmps : Array Value) (w : World) (a : Addr) (v : Value)
    (hp : tmps.getD p undef = .pointer (some a)) (h1 : (loadVar ty a).run P w = .ok v w) : (results fn tmps).run P w = .ok v w := by
  have hp' : tmps[p]?.getD undef = .pointer (some a) := by simpa using hp
  simp [results, h, hp', asAddr, h1]
theorem keepsOthers_drewN (W : World) (n : Nat) : KeepsOthers W (W.drewN n) := ⟨Nat.le_refl _, fun _ _ h _ => h⟩
theorem below_drewN {z : Nat} {w W : World} (h : Below z w W) (n : Nat) : Below z w (W.drewN n) := h.trans ⟨rfl, rfl, rfl, Nat.le_refl _, fun _ _ => rfl⟩

theorem Kb_lt {w : World} {p ox : Nat} {T : TypeId} {cs : Array Value} {F : Nat → Prop} {H : Hs} {ag og : Nat} {V : Value} {sb : Nat → Nat × Nat} {O : List (Option Nat)} (h : Hm w p ox T cs F H ag og V sb O) {Bn : Nat} {n : Nat} (hb : Bn < n) (hn : w.heap.size ≤ n) : ∀ b ∈ Kb Bn p og H sb, b < n := by
  intro b hbm
  simp only [Kb, List.mem_cons, List.mem_map] at hbm
  rcases hbm with rfl | rfl | rfl | ⟨x, hx, rfl⟩
  · exact hb
  · have := h.pt; omega
  · have := lt_of_heap h.owners; omega
  · have := lt_of_heap (h.spans x hx).box; omega

set_option maxRecDepth 100000 in
set_option maxHeartbeats 4000000 in
theorem open_any {p ox : Nat} {T : TypeId} {cs : Array Value} {F : Nat → Prop} {H : Hs} {ag og : Nat} {V : Value} {sb : Nat → Nat × Nat} {O : List (Option Nat)} (room : Nat) (w : World) (hH : Hm w p ox T cs F H ag og V sb O) :
    Calls Tryz.prog 92 #[.pointer (some ⟨p, ox, none⟩), .int .i64 room] w (OpPost sb w (H.sp.find? (fitS room))) := by
  refine (callsIn_wide (n := 8)).1 ?_
  refine callsIn_of_wp_marks Tryz.func92 rfl trivial ?_ rfl
  simp only [Tryz.ntmps92, List.size_toArray, List.length_cons, List.length_nil, Nat.reduceAdd, Nat.reduceSub, Array.replicate_succ, Array.replicate_zero, List.push_toArray, List.append_toArray, List.nil_append, List.cons_append]
  have K := fun u => spans_any (some ⟨p, ox, none⟩) u
  have HO := hid hH
  clear hH
  gi_wp2_with (refine ⟨trivial, ?_⟩; gi_at_call 81; refine (callsIn_wide.2 (K _)).mono ?_; rintro e w' ⟨rfl, rfl⟩)
  clear K
  obtain ⟨z, hz⟩ : ∃ z, z = w.heap.size := ⟨_, rfl⟩
  have hE0 : Ext [] w (((w.alloc (.cells #[.int .i64 room] 3)).alloc (.cells #[.pointer none] 128)).alloc (.cells #[.pointer (some ⟨p, ox, none⟩)] 125)) := ((Ext.alloc [] _ _).trans (Ext.alloc [] _ _)).trans (Ext.alloc [] _ _)
  have bR := ((Boxed.new w 3 (.int .i64 room)).alloc (.cells #[.pointer none] 128)).alloc (.cells #[.pointer (some ⟨p, ox, none⟩)] 125)
  have bP := (Boxed.new (w.alloc (.cells #[.int .i64 room] 3)) 128 (.pointer none)).alloc (.cells #[.pointer (some ⟨p, ox, none⟩)] 125)
  have bN := Boxed.new ((w.alloc (.cells #[.int .i64 room] 3)).alloc (.cells #[.pointer none] 128)) 125 (.pointer (some ⟨p, ox, none⟩))
  simp only [World.size_alloc] at bP bN
  have hsz : (((w.alloc (.cells #[.int .i64 room] 3)).alloc (.cells #[.pointer none] 128)).alloc (.cells #[.pointer (some ⟨p, ox, none⟩)] 125)).heap.size = w.heap.size + 3 := by simp
  obtain ⟨W0, hW0⟩ : ∃ W0, ((w.alloc (.cells #[.int .i64 room] 3)).alloc (.cells #[.pointer none] 128)).alloc (.cells #[.pointer (some ⟨p, ox, none⟩)] 125) = W0 := ⟨_, rfl⟩
  rw [hW0] at bR bP bN hE0 hsz ⊢
  clear hW0
  have hIt := (HO.out.keep0 hE0).it bN
  have hKb : ∀ b ∈ Kb (w.heap.size + 1 + 1) p og H sb, b < W0.heap.size := Kb_lt HO.out (by omega) (by omega)
  have HBz := hid hE0.below
  rw [← hz] at bR bP bN hIt hKb HBz hsz ⊢
  have hzw : z ≤ w.heap.size := by omega
  have HZ := hid hz
  clear hz hE0 bN
  refine wpIn_rangeFunc_ownH rfl (by omega) (gf := 111) (lb := #[.pointer (some ⟨z + 1 + 1, 0, none⟩)]) rfl trivial (enters_of Tryz.func111 (by kernel_rfl) rfl)
    (spans_stops Fence.wide _ trivial rfl (by omega) (z + 1 + 1) p og H sb O W0 hIt) ksK_t (ksK_b hKb) (Below.refl _ _) (fun _ => rfl)
    (fun pre W => ((Boxed W z 3 (.int .i64 room) ∧ Boxed W (z + 1) 128 (.pointer none)) ∧ Below z w W) ∧ pre.find? (fun x => fitS room x.val) = none)
    (fun c pre W => ∃ x : Os H, (Boxed W (z + 1) 128 (.pointer (some ⟨(sb x.val.st).1, 0, none⟩)) ∧ Below z w W) ∧ pre.find? (fun x => fitS room x.val) = some x ∧ c = .ret)
    (OwnFrom.and (OwnFrom.and (OwnFrom.and (Own.from (boxed_own _ _ _) _) (Own.from (boxed_own _ _ _) _)) (ownFrom_below (by omega) (by omega))) (ownFrom_pure _ _))
    (fun c pre X Y row hs hg hr => by
      obtain ⟨x, ⟨h2, h3⟩, h4, h5⟩ := hs
      exact ⟨x, ⟨boxed_own (z + 1) 128 (fun _ : Unit => .pointer (some ⟨(sb x.val.st).1, 0, none⟩)) () X Y row h2 hg (fun r e => (hr r e).2), ownFrom_below (by omega) (show z ≤ W0.heap.size by omega) () X Y row h3 hg hr⟩, h4, h5⟩)
    ⟨⟨⟨bR, bP⟩, HBz.out⟩, rfl⟩
    (fun x a' _ => a' = { tmps := #[.pointer (some ⟨p, ox, none⟩), .int .i64 room, undef, .pointer (some ⟨z, 0, none⟩), .pointer (some ⟨z + 1, 0, none⟩), .pointer (some ⟨(sb x.val.st).1, 0, none⟩), .pointer (some ⟨p, ox, none⟩), sitv (z + 1 + 1), .pointer (some ⟨(sb x.val.st).1, 0, none⟩), undef, undef, undef, undef, undef, undef, undef, undef, undef, undef, undef, undef, undef, undef, undef, undef, undef, undef, undef], defers := [] })
    (fun x a' _ X Y row hs hg hr => hs)
    ?assign ?body ?done ?stop
  case assign =>
    rintro l pre x W K hI hK
    gi_wp2
    exact hK _ _ (KeepsFrom.refl _ _) (Ks.refl _ _) hI rfl
  case body =>
    rintro l pre x a' W hl ⟨r, hr⟩ ⟨⟨⟨bR1, bP1⟩, hB1⟩, hf⟩ rfl _
    have hx : Ext [] w W := by rw [HZ.out] at hB1; exact below_ext hB1
    have hs := (HO.out.spans x.val x.property).keep hx (by simp) (by simp)
    have cR := bR1.cell
    have c2 := hs.c2
    have c3 := hs.c3
    have c4 := hs.c4
    have HI := hid (And.intro (And.intro (And.intro bR1 bP1) hB1) hf)
    have hsn : Hid ((pre ++ [x]).find? (fun x => fitS room x.val) = if fitS room x.val then some x else none) := ofind_snoc hf
    clear bR1 bP1 hB1 hf hr hx hs
    have hfit : Hid (fitS room x.val = (decide (x.val.rm = room) && decide (us x.val.S < x.val.S.length))) := rfl
    have HD : Hid (∀ n, ((Boxed (W.drewN n) z 3 (.int .i64 room) ∧ Boxed (W.drewN n) (z + 1) 128 (.pointer none)) ∧ Below z w (W.drewN n)) ∧ pre.find? (fun x => fitS room x.val) = none) := fun n =>
      ⟨⟨⟨(Ext.drewN [] W n).keep HI.out.1.1.1 (by simp), (Ext.drewN [] W n).keep HI.out.1.1.2 (by simp)⟩, below_drewN HI.out.1.2 n⟩, HI.out.2⟩
    clear HI
    generalize x.val.rm = rm at *
    generalize us x.val.S = uu at *
    generalize x.val.S.length = nn at *
    generalize (sb x.val.st).2 = sg at *
    generalize hsx : (sb x.val.st).1 = sx at *
    by_cases hrm : rm = room
    · subst hrm
      by_cases hun : uu < nn
      · have hT : Hid (fitS rm x.val = true) := by show _ = _; rw [hfit.out]; simp [hun]
        have hun1 : decide ((uu : Int) < nn) = true := by simp; omega
        have hun2 : (uu : Int) < nn := by omega
        clear hfit
        gi_wp2_with fail
        refine wpIn_region_quietR (by kernel_rfl) (by kernel_rfl) (by kernel_rfl) ?_
        repeat (gi_big_quiet_step (fail))
        refine wpQuietIn_nil ?_
        rintro _ ⟨nq, rfl⟩
        have hD := HD.out nq
        have cP' := hD.1.1.2.cell
        have fP' := hD.1.1.2.frozen
        have HD2 := hid hD
        clear cR c2 c3 c4 HD hD
        gi_wp2_with fail
        refine ⟨((keepsOthers_drewN _ _).trans (KeepsOthers.setCell _ _ _)).from _, x, ⟨by rw [hsx]; exact HD2.out.1.1.2.set _, ?_⟩, by rw [hsn.out, hT.out]; rfl, rfl⟩
        exact HD2.out.1.2.setCell (p := ⟨z + 1, 0, none⟩) (Nat.le_succ _) _
      · have hT : Hid (fitS rm x.val = false) := by show _ = _; rw [hfit.out]; simp [hun]
        have hun1 : decide ((uu : Int) < nn) = false := by simp; omega
        have hun2 : ¬ (uu : Int) < nn := by omega
        clear hfit
        gi_wp2_with fail
        refine wpIn_region_quietR (by kernel_rfl) (by kernel_rfl) (by kernel_rfl) ?_
        repeat (gi_big_quiet_step (fail))
        refine wpQuietIn_nil ?_
        rintro _ ⟨nq, rfl⟩
        have HD2 := hid (HD.out nq)
        clear cR c2 c3 c4 HD
        gi_wp2_with fail
        exact ⟨(keepsOthers_drewN _ _).from _, Ks.of_ext0 (Ext.drewN [] W nq), HD2.out.1, by rw [hsn.out, hT.out]; rfl⟩
    · have hrb : ((rm : Int) == (room : Int)) = false := by simp; omega
      have hT : Hid (fitS room x.val = false) := by show _ = _; rw [hfit.out]; simp [hrm]
      clear hfit
      gi_wp2_with fail
      refine wpIn_region_quietR (by kernel_rfl) (by kernel_rfl) (by kernel_rfl) ?_
      repeat (gi_big_quiet_step (fail))
      refine wpQuietIn_nil ?_
      rintro _ ⟨nq, rfl⟩
      have HD2 := hid (HD.out nq)
      clear cR c2 c3 c4 HD
      gi_wp2_with fail
      exact ⟨(keepsOthers_drewN _ _).from _, Ks.of_ext0 (Ext.drewN [] W nq), HD2.out.1, by rw [hsn.out, hT.out]; rfl⟩
  case done =>
    rintro D zs W hD rfl ⟨⟨⟨bR1, bP1⟩, hB1⟩, hf⟩ hK
    have cP := bP1.cell
    have fP := bP1.frozen
    have HP := hid bP1
    have HF := hid hf
    have HB1 := hid hB1
    have HK := hid hK
    clear bR1 bP1 hB1 hf hK
    gi_wp2
    have hK2 := (KeepsOthers.setCell W ⟨z + 1, 0, none⟩ (.pointer none)).same _ _ HK.out rfl
    refine ⟨by simp, .inl ⟨_, _, rfl, run_takeDeferred hK2, ?_⟩⟩
    have hP := grownBy_putObj' (W.setCell ⟨z + 1, 0, none⟩ (.pointer none)) D (.deferred none)
    have hr := HP.out.set (.pointer none)
    have hq : Boxed _ _ _ _ := (hP.block (z + 1) (lt_of_heap hr) (by simp; omega)).trans hr
    refine ⟨_, results_cell1 rfl _ _ ⟨z + 1, 0, none⟩ _ rfl (oload85 hq), ?_, ?_⟩
    · have : H.sp.find? (fitS room) = none := by rw [← ofind_attach, HF.out]; rfl
      rw [this]; rfl
    · have hx : Ext [] w W := by rw [HZ.out] at HB1; exact below_ext HB1.out
      have hz2 := HZ.out
      exact ((hx.on (Ext.setCell [z + 1] W ⟨z + 1, 0, none⟩ (.pointer none) (by simp)) (by simp; omega)).on (Ext.grown (S := [D]) hP (by simp)) (by simp; omega))
  case stop =>
    rintro D c pre W hD hSp ⟨x, ⟨bP1, hB1⟩, hf, rfl⟩ hK
    have HF := hid hf
    have HB1 := hid hB1
    have HK := hid hK
    have HP := hid bP1
    clear bP1 hB1 hf hK
    gi_wp2
    refine ⟨by simp, .inl ⟨_, _, rfl, run_takeDeferred HK.out, ?_⟩⟩
    have hP := grownBy_putObj' W D (.deferred none)
    have hq : Boxed _ _ _ _ := (hP.block (z + 1) (lt_of_heap HP.out) (by simp; omega)).trans HP.out
    refine ⟨_, results_cell1 rfl _ _ ⟨z + 1, 0, none⟩ _ rfl (oload85 hq), ?_, ?_⟩
    · have : H.sp.find? (fitS room) = some x.val := by rw [← ofind_attach, ofind_prefix HF.out hSp]; rfl
      rw [this]; rfl
    · have hx : Ext [] w W := by rw [HZ.out] at HB1; exact below_ext HB1.out
      have hz2 := HZ.out
      exact hx.on (Ext.grown (S := [D]) hP (by simp)) (by simp; omega)

end Go.Proofs.YtjbbomokgpoilaaGreatDoor

/-
  find: the object that has an address; no statement is proved here.
-/
namespace Go.Proofs.YtjbbomokgpoilaaGreatDoor
open Go.RowKit

/-- The answer r, and nothing but draws. -/
def Qt (w : World) (r : Value) (e : Ending) (w' : World) : Prop := e = .returned r ∧ ∃ m, w' = w.drewN m
theorem qt_ext {w : World} {r : Value} {e : Ending} {w' : World} (h : Qt w r e w') : e = .returned r ∧ Ext [] w w' := by
  obtain ⟨h, m, rfl⟩ := h
  exact ⟨h, Ext.drewN _ _ _⟩

def spAt (H : Hs) (k : Nat) : Spn := H.sp.getD k default
theorem spAt_eq {H : Hs} {k : Nat} {x : Spn} (h : H.sp[k]? = some x) : spAt H k = x := by simp [spAt, h]
theorem spAt_get {H : Hs} {k : Nat} (h : k < H.sp.length) : H.sp[k]? = some (spAt H k) := by simp [spAt, h]
theorem spAt_mem {H : Hs} {k : Nat} (h : k < H.sp.length) : spAt H k ∈ H.sp := List.mem_of_getElem? (spAt_get h)

theorem fnd_out {H : Hs} (h : Hv H) {a : Int} (ha : a < 256 ∨ ((H.P : Int) + 1) * 256 ≤ a) : fnd H a = none := by
  rw [fnd_none]
  rintro k j ⟨x, y, hx, hy, h1, h2⟩
  have := h.at_ hx hy h1 h2
  omega
theorem fnd_free {H : Hs} (h : Hv H) {a : Int} {i : Nat} (hi : (a - 256) / 256 = i) (hn : spanAt H.sp i = none) : fnd H a = none := by
  rw [fnd_none]
  rintro k j ⟨x, y, hx, hy, h1, h2⟩
  obtain ⟨_, _, ⟨i', e1, e2, e3, _⟩, _⟩ := h.at_ hx hy h1 h2
  obtain rfl : i = i' := by omega
  rw [h.spanAt (List.mem_of_getElem? hx) e2 e3] at hn
  cases hn
theorem fnd_at {H : Hs} (h : Hv H) {a : Int} {k i q : Nat} {x : Spn} (hx : H.sp[k]? = some x) (hi : (a - 256) / 256 = i) (h1 : x.st ≤ i) (h2 : i < x.st + x.n) (hq : (a - ((x.st : Int) + 1) * 256) / x.rm = q) :
    fnd H a = if q < x.S.length ∧ a - (((x.st : Int) + 1) * 256 + q * x.rm) < (x.S.getD q (0, 0)).1 then some (k, q) else none := by
  have e : (adr x q : Int) = ((x.st : Int) + 1) * 256 + q * x.rm := by unfold adr; simp
  split
  · rename_i hc
    rw [h.fnd_iff]
    refine ⟨x, x.S.getD q (0, 0), hx, by simp [hc.1], ?_, by omega⟩
    rw [e]
    have h8 := (h.ok x (List.mem_of_getElem? hx)).rm1
    have : (q : Int) * x.rm ≤ a - ((x.st : Int) + 1) * 256 := by rw [← hq]; exact Int.ediv_mul_le _ (by omega)
    omega
  · rename_i hc
    rw [fnd_none]
    rintro k' j ⟨x', y, hx', hy, g1, g2⟩
    obtain ⟨_, _, ⟨i', e1, e2, e3, _⟩, e4, _⟩ := h.at_ hx' hy g1 g2
    obtain rfl : i = i' := by omega
    obtain rfl := h.same hx hx' ⟨h1, h2⟩ ⟨e2, e3⟩
    rw [hx] at hx'; cases hx'
    obtain rfl : q = j := by omega
    refine hc ⟨(List.getElem?_eq_some_iff.1 hy).1, ?_⟩
    have : x.S.getD q (0, 0) = y := by simp [List.getD, hy]
    rw [this]; omega

theorem addr_dr (s g : Nat) (start pages room used i : Int) (S : List Slot) (w : World) (hS : Sp w s g start pages room used S) (h1 : 0 ≤ start ∧ start ≤ 1024) (h2 : 0 ≤ room ∧ room ≤ 65536) (h3 : 0 ≤ i ∧ i ≤ 65536) :
    Calls Tryz.prog 74 #[.pointer (some ⟨s, 0, none⟩), .int .i64 i] w (Qt w (.int .i64 ((start + 1) * 256 + i * room))) := by
  have c0 := hS.c0
  have c2 := hS.c2
  have hm : 0 ≤ i * room ∧ i * room ≤ 65536 * 65536 := ⟨Int.mul_nonneg h3.1 h2.1, Int.mul_le_mul h3.2 h2.2 h2.1 (by omega)⟩
  obtain ⟨q, hq⟩ : ∃ q, q = i * room := ⟨_, rfl⟩
  rw [← hq] at hm ⊢
  have e1 : IntKind.i64.wrap (i * room) = q := by rw [← hq, IntKind.wrap_i64]; omega
  have e2 : IntKind.i64.wrap ((start + 1) * 256 + q) = (start + 1) * 256 + q := by rw [IntKind.wrap_i64]; omega
  have K := fun u => pageAddr_any start u (by omega)
  clear hS hq
  go_enter Tryz.func74, Tryz.ntmps74
  go_wp2_with fail
  go_quiet ((go_at_call 106; exact Calls.quiet_of_same (K _)))
  go_wp2_with fail
  go_ret
  exact ⟨rfl, _, rfl⟩

/-- find's answer. -/
def fdV (sb : Nat → Nat × Nat) (H : Hs) : Option (Nat × Nat) → Value
  | some (k, j) => .tuple #[.pointer (some ⟨(sb (spAt H k).st).1, 0, none⟩), .int .i64 j]
  | none => .tuple #[.pointer none, .int .i64 0]

set_option maxRecDepth 100000 in
set_option maxHeartbeats 4000000 in
theorem find_any {p ox : Nat} {T : TypeId} {cs : Array Value} {F : Nat → Prop} {H : Hs} {ag og : Nat} {V : Value} {sb : Nat → Nat × Nat} {O : List (Option Nat)} (a : Int) (w : World) (hH : Hm w p ox T cs F H ag og V sb O) :
    Calls Tryz.prog 73 #[.pointer (some ⟨p, ox, none⟩), .int .i64 a] w (Qt w (fdV sb H (fnd H a))) := by
  have hO := hH.ow
  have hlen := hH.o1
  have hc := hO.cell
  have K0 := fun u => pageAddr_any 0 u (by omega)
  have K1 := fun u => pageAddr_any (O.length : Int) u (by omega)
  have e0 : ((0 : Int) + 1) * 256 = 256 := by decide
  rw [e0] at K0
  clear e0
  have hol := hH.olen
  have HH := hid hH
  obtain ⟨m, hm⟩ : ∃ m : Int, m = ((O.length : Int) + 1) * 256 := ⟨_, rfl⟩
  rw [← hm] at K1
  have HM := hid hm
  by_cases h1 : a < 256
  · rw [fnd_out hH.ok (.inl h1)]
    clear hm hO hH hol
    generalize O.length = len at *
    go_enter Tryz.func73, Tryz.ntmps73
    go_wp2_with (first | (go_at_call 106; refine met (K0 _) ?_) | fail "no arm")
    go_ret2
    exact ⟨rfl, 0, rfl⟩
  by_cases h2 : m ≤ a
  · rw [fnd_out hH.ok (.inr (by rw [hm, hol] at h2; exact h2))]
    clear hm hO hH hol
    generalize O.length = len at *
    go_enter Tryz.func73, Tryz.ntmps73
    go_wp2_with (first | (go_at_call 106; (with_reducible refine met (K0 _) ?_)) | (go_at_call 106; (with_reducible refine met (K1 _) ?_)) | fail "no arm")
    go_ret2
    exact ⟨rfl, 0, rfl⟩
  obtain ⟨i, hi⟩ : ∃ i : Nat, (a - 256) / 256 = i := ⟨((a - 256) / 256).toNat, by omega⟩
  have hiP : i < H.P := by omega
  have hat := hO.at_ (i := i) (by omega)
  rw [hH.own i hiP] at hat
  have w1 : IntKind.i64.wrap (a - 256) = a - 256 := by rw [IntKind.wrap_i64]; omega
  have w2 : Int.tdiv (a - 256) 256 = i := by rw [Int.tdiv_eq_ediv_of_nonneg (by omega)]; exact hi
  have w3 : IntKind.i64.wrap (i : Int) = i := by rw [IntKind.wrap_i64]; omega
  have hki : (i : Int) < (O.length : Nat) := by omega
  cases hS : spanAt H.sp i with
  | none =>
    rw [fnd_free hH.ok hi hS]
    rw [hS] at hat
    simp only [Option.map_none] at hat
    clear hm hO hH hol hS hi
    generalize O.length = len at *
    go_enter Tryz.func73, Tryz.ntmps73
    go_upto_region 3 with (first | (go_at_call 106; (with_reducible refine met (K0 _) ?_)) | (go_at_call 106; (with_reducible refine met (K1 _) ?_)) | fail "no arm")
    go_quiet ((go_at_call 106; exact Calls.quiet_of_same (K0 _)))
    go_wp2_with fail
    go_ret2
    exact ⟨rfl, _, rfl⟩
  | some x =>
    obtain ⟨hx, x1, x2⟩ := spanAt_some hS
    obtain ⟨k, hk⟩ := List.getElem?_of_mem hx
    have ho := hH.ok.ok x hx
    have hxs := hH.spans x hx
    have hle := hH.ok.le hx
    have hP1 := hH.ok.P1
    have h8 := ho.rm1
    have h65 := ho.rm2
    have hSl := ho.len2 (by omega)
    have hge : ((x.st : Int) + 1) * 256 ≤ a := by omega
    obtain ⟨q, hq⟩ : ∃ q : Nat, (a - ((x.st : Int) + 1) * 256) / x.rm = q := ⟨((a - ((x.st : Int) + 1) * 256) / x.rm).toNat, by
      have : 0 ≤ (a - ((x.st : Int) + 1) * 256) / x.rm := Int.ediv_nonneg (by omega) (by omega)
      omega⟩
    have hqb : (q : Int) * x.rm ≤ a - ((x.st : Int) + 1) * 256 := by rw [← hq]; exact Int.ediv_mul_le _ (by omega)
    have hq8 : (q : Int) * 8 ≤ q * x.rm := Int.mul_le_mul_of_nonneg_left (by omega) (by omega)
    have hq0 : 0 ≤ (q : Int) * x.rm := Int.mul_nonneg (by omega) (by omega)
    rw [fnd_at hH.ok hk hi x1 x2 hq]
    rw [hS] at hat
    simp only [Option.map_some] at hat
    have KA0 := fun nn => addr_dr _ _ _ _ _ _ 0 _ (w.drewN nn) (hxs.keep (Ext.drewN [] w nn) (by simp) (by simp)) (by omega) (by omega) (by omega)
    rw [Int.zero_mul, Int.add_zero] at KA0
    have hmm : m ≤ 262400 := by omega
    obtain ⟨b0, hb0⟩ : ∃ b0 : Int, b0 = ((x.st : Int) + 1) * 256 := ⟨_, rfl⟩
    rw [← hb0] at KA0 hge hq hqb ⊢
    obtain ⟨bi, hbi⟩ : ∃ bi : Int, bi = b0 + q * x.rm := ⟨_, rfl⟩
    rw [← hbi]
    have w4 : IntKind.i64.wrap (a - b0) = a - b0 := by rw [IntKind.wrap_i64]; omega
    have w5 : ¬ (x.rm : Int) = 0 := by omega
    have w6 : Int.tdiv (a - b0) x.rm = q := by rw [Int.tdiv_eq_ediv_of_nonneg (by omega)]; exact hq
    have w7 : IntKind.i64.wrap (q : Int) = q := by rw [IntKind.wrap_i64]; omega
    have w8 : IntKind.i64.wrap (a - bi) = a - bi := by rw [IntKind.wrap_i64]; omega
    have c2 := hxs.c2
    have c4 := hxs.c4
    have hsp := spAt_eq hk
    have KAi : q ≤ 65536 → ∀ nn, Calls Tryz.prog 74 #[.pointer (some ⟨(sb x.st).1, 0, none⟩), .int .i64 q] (w.drewN nn) (Qt (w.drewN nn) (.int .i64 bi)) := fun hqq nn => by
      have := addr_dr _ _ _ _ _ _ q _ (w.drewN nn) (hxs.keep (Ext.drewN [] w nn) (by simp) (by simp)) (by omega) (by omega) (by omega)
      rw [← hb0, ← hbi] at this
      exact this
    have d1 : ¬ a < 256 := h1
    have d2 : ¬ m ≤ a := h2
    by_cases hql : q < x.S.length
    · have cz := (hxs.at_ hql).1
      replace KAi := KAi (by omega)
      have g1 : decide ((x.S.length : Int) ≤ q) = false := by simp; omega
      have g2 : decide (x.S.length ≤ q) = false := by simp; omega
      have g3 : (q : Int) < (x.S.length : Nat) := by omega
      by_cases hsz : a - bi < (x.S.getD q (0, 0)).1
      · have HV : Hid ((if q < x.S.length ∧ a - bi < (x.S.getD q (0, 0)).1 then some (k, q) else none) = some (k, q)) := if_pos ⟨hql, hsz⟩
        rw [HV.out]
        have HF : Hid (fdV sb H (some (k, q)) = .tuple #[.pointer (some ⟨(sb x.st).1, 0, none⟩), .int .i64 q]) := by show Value.tuple #[.pointer (some ⟨(sb (spAt H k).st).1, 0, none⟩), .int .i64 q] = _; rw [hsp]
        rw [HF.out]
        have g4 : decide ((x.S.getD q (0, 0)).1 ≤ a - bi) = false := decide_eq_false (by omega)
        clear HV HF hm hO hH hol hS hi hk hxs ho hle hP1 h8 h65 hSl hb0 hbi hqb hq8 hq0 hx hmm hq x1 x2 hiP hsp h1 h2 hql
        generalize (x.S.getD q (0, 0)).1 = zz at *
        generalize O.length = len at *
        generalize x.S.length = sl at *
        generalize (sb x.st).1 = s at *
        generalize (sb x.st).2 = g at *
        generalize x.rm = rm at *
        go_enter Tryz.func73, Tryz.ntmps73
        go_upto_region 3 with (first | (go_at_call 106; (with_reducible refine met (K0 _) ?_)) | (go_at_call 106; (with_reducible refine met (K1 _) ?_)) | fail "no arm")
        go_quiet ((go_at_call 106; exact Calls.quiet_of_same (K0 _)))
        clear K0 K1 hat hc
        obtain ⟨W1, hW1⟩ : ∃ W1, W1 = w.drewN nq := ⟨_, rfl⟩
        rw [← hW1]
        have HW1 := hid hW1
        have r2 : W1.cell? ⟨s, 2, none⟩ = some (.int .i64 rm) := by rw [hW1]; exact c2
        have r4 : W1.cell? ⟨s, 4, none⟩ = some (.slice (some ⟨g, 0, none⟩) sl sl) := by rw [hW1]; exact c4
        have KA0' : ∀ nn, Calls Tryz.prog 74 #[.pointer (some ⟨s, 0, none⟩), .int .i64 0] (W1.drewN nn) (Qt (W1.drewN nn) (.int .i64 b0)) := fun nn => by have := KA0 (nq + nn); rw [hW1, World.drewN_drewN]; exact this
        have rz : W1.cell? ⟨g, q * 2, none⟩ = some (.int .i64 zz) := by rw [hW1]; exact cz
        have KAi1 : ∀ nn, Calls Tryz.prog 74 #[.pointer (some ⟨s, 0, none⟩), .int .i64 q] (W1.drewN nn) (Qt (W1.drewN nn) (.int .i64 bi)) := fun nn => by have := KAi (nq + nn); rw [hW1, World.drewN_drewN]; exact this
        clear KAi cz
        clear KA0 hW1 c2 c4
        go_upto_region 6 with fail
        go_quiet ((go_at_call 74; exact Calls.quiet_of (KA0' _)))
        clear KA0' r2
        obtain ⟨W2, hW2⟩ : ∃ W2, W2 = W1.drewN nq := ⟨_, rfl⟩
        rw [← hW2]
        have s4 : W2.cell? ⟨s, 4, none⟩ = some (.slice (some ⟨g, 0, none⟩) sl sl) := by rw [hW2]; exact r4
        have s5 : W2.cell? ⟨g, q * 2, none⟩ = some (.int .i64 zz) := by rw [hW2]; exact rz
        have KAi2 : ∀ nn, Calls Tryz.prog 74 #[.pointer (some ⟨s, 0, none⟩), .int .i64 q] (W2.drewN nn) (Qt (W2.drewN nn) (.int .i64 bi)) := fun nn => by have := KAi1 (nq + nn); rw [hW2, World.drewN_drewN]; exact this
        have HW2 : Hid (∃ m, W2 = w.drewN m) := ⟨_, by rw [hW2, HW1.out, World.drewN_drewN]⟩
        clear KAi1 hW2 HW1 r4 rz
        go_upto_region 7 with fail
        go_quiet ((go_at_call 74; exact Calls.quiet_of (KAi2 _)))
        go_wp2_with fail
        go_ret2
        obtain ⟨m2, hm2⟩ := HW2.out
        exact ⟨rfl, _, by rw [hm2, World.drewN_drewN]⟩
      · have HV : Hid ((if q < x.S.length ∧ a - bi < (x.S.getD q (0, 0)).1 then some (k, q) else none) = none) := if_neg (fun h => hsz h.2)
        rw [HV.out]
        show Calls Tryz.prog 73 #[.pointer (some ⟨p, ox, none⟩), .int .i64 a] w (Qt w (.tuple #[.pointer none, .int .i64 0]))
        have g4 : decide ((x.S.getD q (0, 0)).1 ≤ a - bi) = true := decide_eq_true (by omega)
        have g5 : (x.S.getD q (0, 0)).1 ≤ a - bi := by omega
        clear HV hm hO hH hol hS hi hk hxs ho hle hP1 h8 h65 hSl hb0 hbi hqb hq8 hq0 hx hmm hq x1 x2 hiP hsp h1 h2 hql
        generalize (x.S.getD q (0, 0)).1 = zz at *
        generalize O.length = len at *
        generalize x.S.length = sl at *
        generalize (sb x.st).1 = s at *
        generalize (sb x.st).2 = g at *
        generalize x.rm = rm at *
        go_enter Tryz.func73, Tryz.ntmps73
        go_upto_region 3 with (first | (go_at_call 106; (with_reducible refine met (K0 _) ?_)) | (go_at_call 106; (with_reducible refine met (K1 _) ?_)) | fail "no arm")
        go_quiet ((go_at_call 106; exact Calls.quiet_of_same (K0 _)))
        clear K0 K1 hat hc
        obtain ⟨W1, hW1⟩ : ∃ W1, W1 = w.drewN nq := ⟨_, rfl⟩
        rw [← hW1]
        have HW1 := hid hW1
        have r2 : W1.cell? ⟨s, 2, none⟩ = some (.int .i64 rm) := by rw [hW1]; exact c2
        have r4 : W1.cell? ⟨s, 4, none⟩ = some (.slice (some ⟨g, 0, none⟩) sl sl) := by rw [hW1]; exact c4
        have KA0' : ∀ nn, Calls Tryz.prog 74 #[.pointer (some ⟨s, 0, none⟩), .int .i64 0] (W1.drewN nn) (Qt (W1.drewN nn) (.int .i64 b0)) := fun nn => by have := KA0 (nq + nn); rw [hW1, World.drewN_drewN]; exact this
        have rz : W1.cell? ⟨g, q * 2, none⟩ = some (.int .i64 zz) := by rw [hW1]; exact cz
        have KAi1 : ∀ nn, Calls Tryz.prog 74 #[.pointer (some ⟨s, 0, none⟩), .int .i64 q] (W1.drewN nn) (Qt (W1.drewN nn) (.int .i64 bi)) := fun nn => by have := KAi (nq + nn); rw [hW1, World.drewN_drewN]; exact this
        clear KAi cz
        clear KA0 hW1 c2 c4
        go_upto_region 6 with fail
        go_quiet ((go_at_call 74; exact Calls.quiet_of (KA0' _)))
        clear KA0' r2
        obtain ⟨W2, hW2⟩ : ∃ W2, W2 = W1.drewN nq := ⟨_, rfl⟩
        rw [← hW2]
        have s4 : W2.cell? ⟨s, 4, none⟩ = some (.slice (some ⟨g, 0, none⟩) sl sl) := by rw [hW2]; exact r4
        have s5 : W2.cell? ⟨g, q * 2, none⟩ = some (.int .i64 zz) := by rw [hW2]; exact rz
        have KAi2 : ∀ nn, Calls Tryz.prog 74 #[.pointer (some ⟨s, 0, none⟩), .int .i64 q] (W2.drewN nn) (Qt (W2.drewN nn) (.int .i64 bi)) := fun nn => by have := KAi1 (nq + nn); rw [hW2, World.drewN_drewN]; exact this
        have HW2 : Hid (∃ m, W2 = w.drewN m) := ⟨_, by rw [hW2, HW1.out, World.drewN_drewN]⟩
        clear KAi1 hW2 HW1 r4 rz
        go_upto_region 7 with fail
        go_quiet ((go_at_call 74; exact Calls.quiet_of (KAi2 _)))
        go_wp2_with fail
        go_ret2
        obtain ⟨m2, hm2⟩ := HW2.out
        exact ⟨rfl, _, by rw [hm2, World.drewN_drewN]⟩
    · have HV : Hid ((if q < x.S.length ∧ a - bi < (x.S.getD q (0, 0)).1 then some (k, q) else none) = none) := if_neg (fun h => hql h.1)
      rw [HV.out]
      show Calls Tryz.prog 73 #[.pointer (some ⟨p, ox, none⟩), .int .i64 a] w (Qt w (.tuple #[.pointer none, .int .i64 0]))
      have g1 : decide ((x.S.length : Int) ≤ q) = true := decide_eq_true (by omega)
      have g2 : decide (x.S.length ≤ q) = true := decide_eq_true (by omega)
      have g3 : (x.S.length : Int) ≤ q := by omega
      clear HV hm hO hH hol hS hi hk hxs ho hle hP1 h8 h65 hSl hb0 hbi hqb hq8 hq0 hx hmm hq x1 x2 hiP hsp h1 h2 hql KAi
      generalize O.length = len at *
      generalize x.S.length = sl at *
      generalize (sb x.st).1 = s at *
      generalize (sb x.st).2 = g at *
      generalize x.rm = rm at *
      go_enter Tryz.func73, Tryz.ntmps73
      go_upto_region 3 with (first | (go_at_call 106; (with_reducible refine met (K0 _) ?_)) | (go_at_call 106; (with_reducible refine met (K1 _) ?_)) | fail "no arm")
      go_quiet ((go_at_call 106; exact Calls.quiet_of_same (K0 _)))
      clear K0 K1 hat hc
      obtain ⟨W1, hW1⟩ : ∃ W1, W1 = w.drewN nq := ⟨_, rfl⟩
      rw [← hW1]
      have HW1 := hid hW1
      have r2 : W1.cell? ⟨s, 2, none⟩ = some (.int .i64 rm) := by rw [hW1]; exact c2
      have r4 : W1.cell? ⟨s, 4, none⟩ = some (.slice (some ⟨g, 0, none⟩) sl sl) := by rw [hW1]; exact c4
      have KA0' : ∀ nn, Calls Tryz.prog 74 #[.pointer (some ⟨s, 0, none⟩), .int .i64 0] (W1.drewN nn) (Qt (W1.drewN nn) (.int .i64 b0)) := fun nn => by have := KA0 (nq + nn); rw [hW1, World.drewN_drewN]; exact this
      clear KA0 hW1 c2 c4
      go_upto_region 6 with fail
      go_quiet ((go_at_call 74; exact Calls.quiet_of (KA0' _)))
      clear KA0' r2
      obtain ⟨W2, hW2⟩ : ∃ W2, W2 = W1.drewN nq := ⟨_, rfl⟩
      rw [← hW2]
      have s4 : W2.cell? ⟨s, 4, none⟩ = some (.slice (some ⟨g, 0, none⟩) sl sl) := by rw [hW2]; exact r4
      have HW2 : Hid (∃ m, W2 = w.drewN m) := ⟨_, by rw [hW2, HW1.out, World.drewN_drewN]⟩
      clear hW2 HW1 r4
      go_upto_region 7 with fail
      go_quiet (fail)
      go_wp2_with fail
      go_ret2
      obtain ⟨m2, hm2⟩ := HW2.out
      exact ⟨rfl, _, by rw [hm2, World.drewN_drewN]⟩

end Go.Proofs.YtjbbomokgpoilaaGreatDoor

/-
  How a heap turns, as plain data: a slot taken or dropped, a span that comes or goes; no statement is proved here.
-/
namespace Go.Proofs.YtjbbomokgpoilaaGreatDoor

/-! ### slots -/

/-- The lowest free slot. -/
def fz (S : List Slot) : Nat := S.findIdx fun y => decide (y.1 = 0)
theorem fz_spec {S : List Slot} (h : us S < S.length) (hz : ∀ y ∈ S, 0 ≤ y.1) : fz S < S.length ∧ (S.getD (fz S) (0, 0)).1 = 0 ∧ ∀ j, j < fz S → 0 < (S.getD j (0, 0)).1 := by
  have h1 : fz S < S.length := by
    unfold fz
    rw [List.findIdx_lt_length]
    have : ¬ ∀ y ∈ S, decide (0 < y.1) = true := fun q => by
      have := List.countP_eq_length.2 q
      unfold us at h; omega
    simp only [Classical.not_forall] at this
    obtain ⟨y, hy, hp⟩ := this
    exact ⟨y, hy, by have := hz y hy; simp at hp; simp; omega⟩
  refine ⟨h1, ?_, fun j hj => ?_⟩
  · have := List.findIdx_getElem (xs := S) (p := fun (y : Slot) => decide (y.1 = 0)) (w := h1)
    simp at this
    rw [List.getD_eq_getElem?_getD, List.getElem?_eq_getElem h1]
    exact this
  · have hjl : j < S.length := by omega
    have := List.not_of_lt_findIdx hj
    simp at this
    rw [List.getD_eq_getElem?_getD, List.getElem?_eq_getElem hjl]
    have := hz S[j] (List.getElem_mem hjl)
    simp; omega
theorem us_le (S : List Slot) : us S ≤ S.length := List.countP_le_length
theorem us_set {S : List Slot} {k : Nat} (hk : k < S.length) (y : Slot) : us (S.set k y) + (if 0 < (S.getD k (0, 0)).1 then 1 else 0) = us S + (if 0 < y.1 then 1 else 0) := by
  unfold us
  rw [List.countP_set hk]
  have e : S.getD k (0, 0) = S[k] := by simp [List.getD, hk]
  rw [e]
  have : 0 < S[k].1 → 1 ≤ S.countP fun y => decide (0 < y.1) := fun h => List.countP_pos_iff.2 ⟨S[k], List.getElem_mem hk, by simpa using h⟩
  by_cases h1 : 0 < S[k].1 <;> by_cases h2 : 0 < y.1 <;> simp [h1, h2] <;> (try have := this h1) <;> omega
theorem us_rep (n : Nat) : us (List.replicate n (0, 0)) = 0 := by
  unfold us; rw [List.countP_eq_zero]; intro y hy; rw [List.mem_replicate] at hy; rw [hy.2]; simp
theorem fz_rep {n : Nat} (_h : 1 ≤ n) : fz (List.replicate n (0, 0)) = 0 := by
  obtain ⟨m, rfl⟩ : ∃ m, n = m + 1 := ⟨n - 1, by omega⟩
  simp [fz, List.replicate_succ, List.findIdx_cons]

def tkS (x : Spn) (size tag : Int) : Spn := { x with S := x.S.set (fz x.S) (size, tag) }
def dpS (x : Spn) (j : Nat) : Spn := { x with S := x.S.set j (0, 0) }
def newS (st n rm : Nat) : Spn := ⟨st, n, rm, List.replicate (n * 256 / rm) (0, 0)⟩

/-! ### rooms -/

def roomN (size : Int) : Nat := (rmV size).toNat
def pgN (size : Int) : Nat := (pgV size).toNat
theorem room_ok {size : Int} (h : Ok size) : (rmV size = roomN size) ∧ (pgV size = pgN size) ∧ 1 ≤ pgN size ∧ pgN size ≤ 256 ∧ roomN size % 8 = 0 ∧ 8 ≤ roomN size ∧ roomN size ≤ 65536 ∧ size ≤ roomN size ∧ roomN size ≤ pgN size * 256 ∧ ((roomN size ≤ 128 ∧ pgN size = 1 ∧ ∃ c, c < 8 ∧ (roomN size : Int) = sz c) ∨ roomN size = pgN size * 256) := by
  have e1 : pgV size = (size + 255) / 256 := by unfold pgV; rw [if_pos h]
  have e2 : rmV size = (if size ≤ 128 then sz (clsN size) else (size + 255) / 256 * 256) := by unfold rmV; rw [if_pos h]
  have hs := h.1
  have hs2 := h.2
  have e3 : (pgN size : Int) = (size + 255) / 256 := by unfold pgN; rw [e1]; omega
  by_cases h128 : size ≤ 128
  · rw [if_pos h128] at e2
    have hc := clsN_lt size
    have hq : size ≤ sz (clsN size) ∧ sz (clsN size) % 8 = 0 := by
      unfold clsN
      repeat' split
      all_goals simp [sz]; try omega
    have h1 := sz_le hc
    have e4 : (roomN size : Int) = sz (clsN size) := by unfold roomN; rw [e2]; omega
    refine ⟨by unfold roomN; omega, by unfold pgN; omega, by omega, by omega, by omega, by omega, by omega, by omega, by omega, .inl ⟨by omega, by omega, clsN size, hc, e4⟩⟩
  · rw [if_neg h128] at e2
    have e4 : (roomN size : Int) = (size + 255) / 256 * 256 := by unfold roomN; rw [e2]; omega
    refine ⟨by unfold roomN; omega, by unfold pgN; omega, by omega, by omega, by omega, by omega, by omega, by omega, by omega, .inr (by omega)⟩

/-! ### pages' owners -/

theorem ownL_get (O : List (Option Nat)) (st : Nat) (x : Option Nat) : ∀ (n i : Nat), i < O.length → (ownL O st x n).getD i none = if st ≤ i ∧ i < st + n then x else O.getD i none
  | 0, i, _ => by rw [if_neg (by omega)]; rfl
  | n + 1, i, h => by
    have ih := ownL_get O st x n i h
    rw [ownL, List.getD_eq_getElem?_getD, List.getElem?_set]
    by_cases e : st + n = i
    · rw [if_pos e, if_pos (by rw [ownL_len]; omega), if_pos (by omega)]; rfl
    · rw [if_neg e, ← List.getD_eq_getElem?_getD, ih]
      by_cases hc : st ≤ i ∧ i < st + n
      · rw [if_pos hc, if_pos (by omega)]
      · rw [if_neg hc, if_neg (by omega)]

theorem spanAt_run (L : List Spn) (i : Nat) : (spanAt L i).map Spn.st = ((L.map Spn.run).find? fun r => decide (r.s ≤ i) && decide (i < r.s + r.n)).map Rn.s := by
  unfold spanAt
  rw [List.find?_map]
  cases h : L.find? ((fun r => decide (r.s ≤ i) && decide (i < r.s + r.n)) ∘ Spn.run) with
  | none =>
    have : (L.find? fun x => decide (x.st ≤ i) && decide (i < x.st + x.n)) = none := h
    rw [this]; rfl
  | some y =>
    have : (L.find? fun x => decide (x.st ≤ i) && decide (i < x.st + x.n)) = some y := h
    rw [this]; rfl
theorem spanAt_same {L L' : List Spn} (h : L'.map Spn.run = L.map Spn.run) (sb : Nat → Nat × Nat) (i : Nat) : (spanAt L' i).map (fun x => (sb x.st).1) = (spanAt L i).map (fun x => (sb x.st).1) := by
  have := spanAt_run L' i
  rw [h, ← spanAt_run L i] at this
  have h2 := congrArg (Option.map fun s => (sb s).1) this
  simpa [Option.map_map, Function.comp_def] using h2

/-! ### a slot is written -/

theorem map_run_set {L : List Spn} {k : Nat} {x x' : Spn} (hx : L[k]? = some x) (h1 : x'.st = x.st) (h2 : x'.n = x.n) : (L.set k x').map Spn.run = L.map Spn.run := by
  rw [List.map_set]
  have : x'.run = x.run := by unfold Spn.run; rw [h1, h2]
  rw [this]
  apply List.ext_getElem?
  intro i
  rw [List.getElem?_set]
  split
  · rename_i e; subst e
    rw [List.getElem?_map, hx]
    simp [(List.getElem?_eq_some_iff.1 hx).1]
  · rfl

theorem Spn.Ok.set {x : Spn} (h : x.Ok) {j : Nat} {y : Slot} (hy : 0 ≤ y.1 ∧ y.1 ≤ x.rm) (ht : 0 ≤ y.2 ∧ y.2 ≤ 2147483647) (hu : 1 ≤ Go.Proofs.YtjbbomokgpoilaaGreatDoor.us (x.S.set j y)) : ({ x with S := x.S.set j y } : Spn).Ok := by
  refine ⟨h.n1, h.rm8, h.rm1, h.rm2, h.kd, by simpa using h.len, fun z hz => ?_, fun z hz => ?_, hu⟩
  · rcases List.mem_or_eq_of_mem_set hz with q | rfl
    · exact h.sz z q
    · exact hy
  · rcases List.mem_or_eq_of_mem_set hz with q | rfl
    · exact h.tg z q
    · exact ht

theorem Hv.set {H : Hs} (h : Hv H) {k : Nat} {x x' : Spn} (hx : H.sp[k]? = some x) (h1 : x'.st = x.st) (h2 : x'.n = x.n) (ho : x'.Ok) {B' : List Int} (hb : B'.length = H.B.length) (ht : Bts B') : Hv { H with sp := H.sp.set k x', B := B' } := by
  refine ⟨h.inv, ?_, fun y hy => ?_, by rw [hb]; exact h.bl, ht⟩
  · rw [map_run_set hx h1 h2]; exact h.run
  · rcases List.mem_or_eq_of_mem_set hy with q | rfl
    · exact h.ok y q
    · exact ho

theorem Hv.bytes {H : Hs} (h : Hv H) {B' : List Int} (hb : B'.length = H.B.length) (ht : Bts B') : Hv { H with B := B' } := ⟨h.inv, h.run, h.ok, by rw [hb]; exact h.bl, ht⟩

/-! ### a span that comes -/

/-- The place of a new span among the spans, where run i is taken. -/
def insK (R : List Rn) (i : Nat) : Nat := (used (R.take i)).length
def insS (L : List Spn) (k : Nat) (x : Spn) : List Spn := L.take k ++ x :: L.drop k
theorem mem_insS {L : List Spn} {k : Nat} {x y : Spn} : y ∈ insS L k x ↔ y = x ∨ y ∈ L := by
  unfold insS
  rw [List.mem_append, List.mem_cons]
  have : y ∈ L ↔ y ∈ L.take k ∨ y ∈ L.drop k := by
    conv => lhs; rw [← List.take_append_drop k L, List.mem_append]
  rw [this]
  constructor
  · rintro (h | h | h)
    · exact .inr (.inl h)
    · exact .inl h
    · exact .inr (.inr h)
  · rintro (h | h | h)
    · exact .inr (.inl h)
    · exact .inl h
    · exact .inr (.inr h)

/-- The first free run of n pages. -/
def hole (R : List Rn) (n : Nat) : Option Nat := R.findIdx? fun r => !r.u && decide (n ≤ r.n)
theorem hole_some {R : List Rn} {n i : Nat} (h : hole R n = some i) : i < R.length ∧ (rnAt R i).u = false ∧ n ≤ (rnAt R i).n ∧ ∀ j, j < i → (rnAt R j).u = true ∨ (rnAt R j).n < n := by
  unfold hole at h
  rw [List.findIdx?_eq_some_iff_getElem] at h
  obtain ⟨hi, h1, h2⟩ := h
  have e : ∀ j, (hj : j < R.length) → rnAt R j = R[j] := fun j hj => by simp [rnAt, List.getD, hj]
  simp at h1
  refine ⟨hi, by rw [e i hi]; exact h1.1, by rw [e i hi]; exact h1.2, fun j hj => ?_⟩
  have := h2 j hj
  rw [e j (by omega)]
  simp at this
  cases hu : R[j].u
  · right; exact this hu
  · left; rfl
theorem hole_none {R : List Rn} {n : Nat} (h : hole R n = none) : ∀ j, j < R.length → (rnAt R j).u = true ∨ (rnAt R j).n < n := by
  unfold hole at h
  rw [List.findIdx?_eq_none_iff] at h
  intro j hj
  have := h _ (rnAt_mem hj)
  simp at this
  cases hu : (rnAt R j).u
  · right; exact this hu
  · left; rfl

theorem Hv.ins {H : Hs} (h : Hv H) {i n : Nat} (hi : i < H.R.length) (hu : (rnAt H.R i).u = false) (h1 : 1 ≤ n) (hn : n ≤ (rnAt H.R i).n) {x : Spn} (hx : x.st = (rnAt H.R i).s) (hxn : x.n = n) (ho : x.Ok) {B' : List Int} (hb : B'.length = H.B.length) (ht : Bts B') :
    Hv ⟨H.P, takeL H.R i n, insS H.sp (insK H.R i) x, B'⟩ := by
  have hs := split_at H.R i hi
  generalize hA : H.R.take i = A at *
  generalize hB : H.R.drop (i + 1) = Bq at *
  generalize hy : rnAt H.R i = y at *
  have hAl : A.length = i := by rw [← hA]; simp; omega
  refine ⟨?_, ?_, fun z hz => ?_, by rw [hb]; exact h.bl, ht⟩
  · have := inv_take (A := A) (B := Bq) (x := y) (n := n) (by rw [← hs]; exact h.inv) hu h1 hn
    rw [← hs, hAl] at this
    exact this
  · have hr := h.run
    rw [hs, used_append, used_cons_f _ hu] at hr
    have hk : insK H.R i = (used A).length := by unfold insK; rw [hA]
    have ht := used_take (A := A) (B := Bq) (x := y) (n := n) hu
    rw [← hs, hAl] at ht
    show (insS H.sp (insK H.R i) x).map Spn.run = used (takeL H.R i n)
    rw [ht, hk]
    unfold insS
    rw [List.map_append, List.map_cons, List.map_take, List.map_drop, hr, List.take_left, List.drop_left]
    congr 2
    unfold Spn.run
    rw [hx, hxn]
  · rcases mem_insS.1 hz with rfl | hz
    · exact ho
    · exact h.ok z hz

theorem new_ok {size tag : Int} (h : Ok size) (ht : 0 ≤ tag ∧ tag ≤ 2147483647) (st : Nat) : (tkS (newS st (pgN size) (roomN size)) size tag).Ok ∧ fz (newS st (pgN size) (roomN size)).S = 0 ∧ 1 ≤ pgN size * 256 / roomN size := by
  obtain ⟨_, _, p1, p2, r8, r1, r2, sr, rp, kd⟩ := room_ok h
  have hl : 1 ≤ pgN size * 256 / roomN size := (Nat.le_div_iff_mul_le (by omega)).2 (by omega)
  have hf : fz (newS st (pgN size) (roomN size)).S = 0 := fz_rep hl
  have hu := us_set (S := List.replicate (pgN size * 256 / roomN size) ((0 : Int), (0 : Int))) (k := 0) (by rw [List.length_replicate]; omega) (size, tag)
  rw [getD_rep, us_rep, if_neg (by simp), if_pos (by simpa using (show 0 < size by have := h.1; omega))] at hu
  refine ⟨⟨p1, r8, r1, r2, kd, by simp [tkS, newS], fun y hy => ?_, fun y hy => ?_, ?_⟩, hf, hl⟩
  · simp only [tkS] at hy
    rcases List.mem_or_eq_of_mem_set hy with q | rfl
    · rw [newS, List.mem_replicate] at q; rw [q.2]; simp
    · exact ⟨by have := h.1; simp only; omega, sr⟩
  · simp only [tkS] at hy
    rcases List.mem_or_eq_of_mem_set hy with q | rfl
    · rw [newS, List.mem_replicate] at q; rw [q.2]; simp
    · exact ht
  · simp only [tkS, hf]
    simp only [newS]; omega

/-! ### a span that goes -/

theorem Hv.run_at {H : Hs} (h : Hv H) {x : Spn} (hx : x ∈ H.sp) : ∃ i, i < H.R.length ∧ (rnAt H.R i).u = true ∧ (rnAt H.R i).s = x.st ∧ (rnAt H.R i).n = x.n ∧ ∀ j, j < H.R.length → (rnAt H.R j).s = x.st → j = i := by
  have h1 : x.run ∈ used H.R := by rw [← h.run]; exact List.mem_map_of_mem hx
  obtain ⟨i, hi⟩ := List.getElem?_of_mem (List.mem_filter.1 h1).1
  have hil := (List.getElem?_eq_some_iff.1 hi).1
  have e : rnAt H.R i = x.run := by simp [rnAt, List.getD, hi]
  refine ⟨i, hil, by rw [e]; rfl, by rw [e]; rfl, by rw [e]; rfl, fun j hj hs => ?_⟩
  have a1 := Tl_at h.inv.tl hj
  have a2 := Tl_at h.inv.tl hil
  rw [e] at a2
  have mono : ∀ k d, k + d < H.R.length → endAt 0 (H.R.take k) + d ≤ endAt 0 (H.R.take (k + d)) := by
    intro k d
    induction d with
    | zero => intro _; exact Nat.le_refl _
    | succ d ih =>
      intro hk
      have := ih (by omega)
      have b := (Tl_at h.inv.tl (k := k + d) (by omega)).2.1
      rw [show k + (d + 1) = (k + d) + 1 by omega, List.take_add_one, rnAt_get (by omega), endAt_append]
      simp only [Option.toList, endAt]
      omega
  rcases Nat.lt_trichotomy j i with q | q | q
  · have := mono j (i - j) (by omega)
    rw [show j + (i - j) = i by omega] at this
    have : x.run.s = x.st := rfl
    omega
  · exact q
  · have := mono i (j - i) (by omega)
    rw [show i + (j - i) = j by omega] at this
    have : x.run.s = x.st := rfl
    omega

/-- The run of a span. -/
def runK (R : List Rn) (st : Nat) : Nat := R.findIdx fun r => r.u && decide (r.s = st)
theorem Hv.runK {H : Hs} (h : Hv H) {x : Spn} (hx : x ∈ H.sp) : runK H.R x.st < H.R.length ∧ (rnAt H.R (runK H.R x.st)).u = true ∧ (rnAt H.R (runK H.R x.st)).s = x.st ∧ (rnAt H.R (runK H.R x.st)).n = x.n ∧ ∀ j, j < runK H.R x.st → (rnAt H.R j).u = false ∨ (rnAt H.R j).s ≠ x.st := by
  obtain ⟨i, hi, h1, h2, h3, h4⟩ := h.run_at hx
  have e : ∀ j, (hj : j < H.R.length) → rnAt H.R j = H.R[j] := fun j hj => by simp [rnAt, List.getD, hj]
  have hk : Go.Proofs.YtjbbomokgpoilaaGreatDoor.runK H.R x.st < H.R.length := by
    unfold Go.Proofs.YtjbbomokgpoilaaGreatDoor.runK
    rw [List.findIdx_lt_length]
    exact ⟨rnAt H.R i, rnAt_mem hi, by simp [h1, h2]⟩
  have hp := List.findIdx_getElem (xs := H.R) (p := fun (r : Rn) => r.u && decide (r.s = x.st)) (w := hk)
  simp at hp
  have hki : Go.Proofs.YtjbbomokgpoilaaGreatDoor.runK H.R x.st = i := h4 _ hk (by rw [e _ hk]; exact hp.2)
  refine ⟨hk, by rw [e _ hk]; exact hp.1, by rw [e _ hk]; exact hp.2, by rw [hki]; exact h3, fun j hj => ?_⟩
  have := List.not_of_lt_findIdx (xs := H.R) (p := fun (r : Rn) => r.u && decide (r.s = x.st)) hj
  rw [e j (by omega)]
  simp at this
  cases hu : H.R[j].u
  · left; rfl
  · right; exact this hu

theorem Hv.del {H : Hs} (h : Hv H) {k : Nat} {x : Spn} (hx : H.sp[k]? = some x) : Hv ⟨H.P, relL H.R (Go.Proofs.YtjbbomokgpoilaaGreatDoor.runK H.R x.st), H.sp.eraseIdx k, H.B⟩ := by
  have hm := List.mem_of_getElem? hx
  obtain ⟨hi, h1, h2, h3, _⟩ := h.runK hm
  generalize hq : Go.Proofs.YtjbbomokgpoilaaGreatDoor.runK H.R x.st = i at *
  refine ⟨inv_rel h.inv hi, ?_, fun z hz => h.ok z (List.mem_of_mem_eraseIdx hz), h.bl, h.bt⟩
  show (H.sp.eraseIdx k).map Spn.run = used (relL H.R i)
  rw [used_rel hi]
  have hs := split_at H.R i hi
  have hr := h.run
  conv at hr => rhs; rw [hs, used_append, used_cons_t _ h1]
  -- the place k is that of the run
  have hkl := (List.getElem?_eq_some_iff.1 hx).1
  have hxr : (H.sp.map Spn.run)[k]? = some x.run := by rw [List.getElem?_map, hx]; rfl
  have hlen : (used (H.R.take i)).length = k := by
    have hs2 := List.pairwise_iff_getElem.1 h.sorted
    have hkk : (used (H.R.take i)).length < H.sp.length := by
      have := congrArg List.length hr
      simp at this; omega
    have hget : (H.sp.map Spn.run)[(used (H.R.take i)).length]? = some (rnAt H.R i) := by
      rw [hr, List.getElem?_append_right (Nat.le_refl _), Nat.sub_self]; rfl
    rw [List.getElem?_map, List.getElem?_eq_getElem hkk] at hget
    simp only [Option.map_some, Option.some.injEq] at hget
    have hst : H.sp[(used (H.R.take i)).length].st = x.st := by
      have := congrArg Rn.s hget
      rw [h2] at this; exact this
    refine h.same (List.getElem?_eq_getElem hkk) hx (i := x.st) ⟨by omega, ?_⟩ ⟨Nat.le_refl _, by have := (h.ok x hm).n1; omega⟩
    have := (h.ok _ (List.getElem_mem hkk)).n1
    omega
  rw [List.eraseIdx_eq_take_drop_succ, List.map_append, List.map_take, List.map_drop, hr, ← hlen, List.take_left]
  congr 1
  rw [show used (H.R.take i) ++ rnAt H.R i :: used (H.R.drop (i + 1)) = (used (H.R.take i) ++ [rnAt H.R i]) ++ used (H.R.drop (i + 1)) by simp, List.drop_left' (by simp)]

theorem mem_del {H : Hs} (h : Hv H) {k : Nat} {x : Spn} (hx : H.sp[k]? = some x) {y : Spn} : y ∈ H.sp.eraseIdx k ↔ y ∈ H.sp ∧ y.st ≠ x.st := by
  have hxm := List.mem_of_getElem? hx
  constructor
  · intro hy
    refine ⟨List.mem_of_mem_eraseIdx hy, fun e => ?_⟩
    rw [List.mem_eraseIdx_iff_getElem?] at hy
    obtain ⟨l, hl, hyl⟩ := hy
    have hn := (h.ok x hxm).n1
    have hn2 := (h.ok y (List.mem_of_getElem? hyl)).n1
    have := h.same hyl hx (i := x.st) ⟨by omega, by omega⟩ ⟨Nat.le_refl _, by omega⟩
    omega
  · rintro ⟨hy, hne⟩
    obtain ⟨l, hl⟩ := List.getElem?_of_mem hy
    rw [List.mem_eraseIdx_iff_getElem?]
    refine ⟨l, ?_, hl⟩
    rintro rfl
    rw [hx] at hl; cases hl
    exact hne rfl

end Go.Proofs.YtjbbomokgpoilaaGreatDoor

/-
  within, Base, object, Info: what is known of an address; no statement is proved here.
-/
namespace Go.Proofs.YtjbbomokgpoilaaGreatDoor
open Go.RowKit

def slotAt (H : Hs) (k j : Nat) : Slot := (spAt H k).S.getD j (0, 0)
/-- Where the object in a slot begins. -/
def adrAt (H : Hs) (k j : Nat) : Nat := adr (spAt H k) j

/-- What is known of a slot that holds an object. -/
structure Slt (H : Hs) (k j : Nat) : Prop where
  kl : k < H.sp.length
  jl : j < (spAt H k).S.length
  ok : (spAt H k).Ok
  mem : spAt H k ∈ H.sp
  st : (spAt H k).st + (spAt H k).n ≤ H.P
  P1 : H.P ≤ 1024
  j1 : j ≤ 65536
  lo : 256 ≤ adrAt H k j
  hi : adrAt H k j + (spAt H k).rm ≤ (H.P + 1) * 256
  sz : 0 ≤ (slotAt H k j).1 ∧ (slotAt H k j).1 ≤ (spAt H k).rm
  tg : 0 ≤ (slotAt H k j).2 ∧ (slotAt H k j).2 ≤ 2147483647
  ad : (adrAt H k j : Int) = (((spAt H k).st : Int) + 1) * 256 + j * (spAt H k).rm
theorem Hv.slt {H : Hs} (h : Hv H) {k j : Nat} (hk : k < H.sp.length) (hj : j < (spAt H k).S.length) : Slt H k j := by
  have hm := spAt_mem hk
  have ho := h.ok _ hm
  have hle := h.le hm
  have hP := h.P1
  have hl := ho.len2 (by omega)
  have hs := ho.slot hj
  rw [Nat.add_mul, Nat.one_mul] at hs
  have hy : (spAt H k).S.getD j (0, 0) ∈ (spAt H k).S := by
    rw [List.getD_eq_getElem?_getD, List.getElem?_eq_getElem hj]; exact List.getElem_mem hj
  refine ⟨hk, hj, ho, hm, hle, hP, by omega, ?_, ?_, ho.sz _ hy, ho.tg _ hy, ?_⟩
  · unfold adrAt adr; omega
  · unfold adrAt adr; omega
  · unfold adrAt adr; simp
/-- .. at an address that is one of its bytes. -/
theorem Hv.hit {H : Hs} (h : Hv H) {k j : Nat} {a : Int} (hf : fnd H a = some (k, j)) : Slt H k j ∧ (adrAt H k j : Int) ≤ a ∧ a < adrAt H k j + (slotAt H k j).1 := by
  obtain ⟨x, y, hx, hy, h1, h2⟩ := h.fnd_iff.1 hf
  have e := spAt_eq hx
  have hk := (List.getElem?_eq_some_iff.1 hx).1
  have hj := (List.getElem?_eq_some_iff.1 hy).1
  have e2 : slotAt H k j = y := by unfold slotAt; rw [e]; simp [List.getD, hy]
  refine ⟨h.slt hk (by rw [e]; exact hj), ?_, ?_⟩
  · unfold adrAt; rw [e]; exact h1
  · rw [e2]; unfold adrAt; rw [e]; exact h2
theorem Hv.hit_of {H : Hs} (h : Hv H) {k j : Nat} {a : Int} (hk : k < H.sp.length) (hj : j < (spAt H k).S.length) (h1 : (adrAt H k j : Int) ≤ a) (h2 : a < adrAt H k j + (slotAt H k j).1) : fnd H a = some (k, j) := by
  rw [h.fnd_iff]
  exact ⟨spAt H k, slotAt H k j, spAt_get hk, by unfold slotAt; simp [hj], h1, h2⟩

def witE (H : Hs) (a n : Int) : Int := if n < 0 then 2 else match fnd H a with
  | none => 5
  | some (k, j) => if (adrAt H k j : Int) + (slotAt H k j).1 - a < n then 5 else 0
theorem witE_vals (H : Hs) (a n : Int) : witE H a n = 0 ∨ witE H a n = 2 ∨ witE H a n = 5 := by
  unfold witE; split; simp; split; simp; split <;> simp
theorem witE_ok {H : Hs} {a n : Int} (h : witE H a n = 0) : 0 ≤ n ∧ ∃ k j, fnd H a = some (k, j) ∧ a + n ≤ adrAt H k j + (slotAt H k j).1 := by
  unfold witE at h
  split at h
  · simp at h
  · split at h
    · simp at h
    · rename_i k j hf
      split at h
      · simp at h
      · exact ⟨by omega, k, j, hf, by omega⟩

section
variable {p ox : Nat} {T : TypeId} {cs : Array Value} {F : Nat → Prop} {H : Hs} {ag og : Nat} {V : Value} {sb : Nat → Nat × Nat} {O : List (Option Nat)}

theorem Hm.addr_dr {w : World} (hH : Hm w p ox T cs F H ag og V sb O) {k j : Nat} (hs : Slt H k j) (W : World) (hW : Ext [] w W) : ∀ n, Calls Tryz.prog 74 #[.pointer (some ⟨(sb (spAt H k).st).1, 0, none⟩), .int .i64 j] (W.drewN n) (Qt (W.drewN n) (.int .i64 (adrAt H k j))) := fun n => by
  have := Go.Proofs.YtjbbomokgpoilaaGreatDoor.addr_dr _ _ _ _ _ _ j _ (W.drewN n) ((hH.spans _ hs.mem).keep (hW.trans (Ext.drewN [] W n)) (by simp) (by simp)) (by have := hs.st; have := hs.P1; omega) (by have := hs.ok.rm2; omega) (by have := hs.j1; omega)
  rw [← hs.ad] at this
  exact this

set_option maxRecDepth 100000 in
set_option maxHeartbeats 4000000 in
theorem within_any (a n : Int) (w : World) (hH : Hm w p ox T cs F H ag og V sb O) :
    Calls Tryz.prog 70 #[.pointer (some ⟨p, ox, none⟩), .int .i64 a, .int .i64 n] w (Qt w (.int .i64 (witE H a n))) := by
  unfold witE
  by_cases hn : n < 0
  · rw [if_pos hn]
    clear hH
    go_enter Tryz.func70, Tryz.ntmps70
    go_wp2
    go_ret
    exact ⟨rfl, 0, rfl⟩
  · rw [if_neg hn]
    have K := find_any a w hH
    cases hf : fnd H a with
    | none =>
      simp only
      rw [hf] at K
      simp only [fdV] at K
      clear hH hf
      go_enter Tryz.func70, Tryz.ntmps70
      go_wp2_with (first | (go_at_call 73; refine K.mono ?_; clear K; rintro e w1 ⟨rfl, m, rfl⟩) | fail "no arm")
      go_quiet (fail)
      go_wp2_with fail
      go_ret
      exact ⟨rfl, _, by rw [World.drewN_drewN]⟩
    | some q =>
      obtain ⟨k, j⟩ := q
      simp only
      obtain ⟨hs, h1, h2⟩ := hH.ok.hit hf
      rw [hf] at K
      simp only [fdV] at K
      have KA := hH.addr_dr hs
      have hxs := hH.spans _ hs.mem
      have c4 := hxs.c4
      have cz := (hxs.at_ hs.jl).1
      have hj3 : (j : Int) < ((spAt H k).S.length : Nat) := by have := hs.jl; omega
      have hb := hs.hi
      have hb2 := hs.P1
      have hb3 := hs.sz
      have hrm2 := hs.ok.rm2
      have hlo := hs.lo
      have e1 : IntKind.i64.wrap ((adrAt H k j : Int) + (slotAt H k j).1) = (adrAt H k j : Int) + (slotAt H k j).1 := by rw [IntKind.wrap_i64]; omega
      have e2 : IntKind.i64.wrap ((adrAt H k j : Int) + (slotAt H k j).1 - a) = (adrAt H k j : Int) + (slotAt H k j).1 - a := by rw [IntKind.wrap_i64]; omega
      unfold slotAt at e1 e2 ⊢
      clear hb hb2 hb3 hrm2 hlo h1 h2 hH hf hxs hs
      generalize ((spAt H k).S.getD j (0, 0)).1 = zz at *
      generalize (spAt H k).S.length = sl at *
      generalize (sb (spAt H k).st).1 = s at *
      generalize (sb (spAt H k).st).2 = g at *
      generalize adrAt H k j = ad at *
      by_cases hc : (ad : Int) + zz - a < n
      · rw [if_pos hc]
        go_enter Tryz.func70, Tryz.ntmps70
        go_wp2_with (first | (go_at_call 73; refine K.mono ?_; clear K; rintro e w1 ⟨rfl, hm⟩; replace hm := hid hm) | fail "no arm")
        obtain ⟨m, hw1⟩ := hm.out
        have d4 : w1.cell? ⟨s, 4, none⟩ = some (.slice (some ⟨g, 0, none⟩) sl sl) := by rw [hw1]; exact c4
        have d5 : w1.cell? ⟨g, j * 2, none⟩ = some (.int .i64 zz) := by rw [hw1]; exact cz
        have KA1 := KA w1 (by rw [hw1]; exact Ext.drewN _ _ _)
        have HW := hid hw1
        clear KA c4 cz hw1 hm
        go_quiet ((go_at_call 74; exact Calls.quiet_of (KA1 _)))
        go_wp2_with fail
        go_ret
        exact ⟨rfl, _, by rw [HW.out, World.drewN_drewN]⟩
      · rw [if_neg hc]
        go_enter Tryz.func70, Tryz.ntmps70
        go_wp2_with (first | (go_at_call 73; refine K.mono ?_; clear K; rintro e w1 ⟨rfl, hm⟩; replace hm := hid hm) | fail "no arm")
        obtain ⟨m, hw1⟩ := hm.out
        have d4 : w1.cell? ⟨s, 4, none⟩ = some (.slice (some ⟨g, 0, none⟩) sl sl) := by rw [hw1]; exact c4
        have d5 : w1.cell? ⟨g, j * 2, none⟩ = some (.int .i64 zz) := by rw [hw1]; exact cz
        have KA1 := KA w1 (by rw [hw1]; exact Ext.drewN _ _ _)
        have HW := hid hw1
        clear KA c4 cz hw1 hm
        go_quiet ((go_at_call 74; exact Calls.quiet_of (KA1 _)))
        go_wp2_with fail
        go_ret
        exact ⟨rfl, _, by rw [HW.out, World.drewN_drewN]⟩

/-- Base's answer. -/
def baV (H : Hs) : Option (Nat × Nat) → Value
  | some (k, j) => .tuple #[.int .i64 (adrAt H k j), .int .i64 0]
  | none => .tuple #[.int .i64 0, .int .i64 4]
end

end Go.Proofs.YtjbbomokgpoilaaGreatDoor

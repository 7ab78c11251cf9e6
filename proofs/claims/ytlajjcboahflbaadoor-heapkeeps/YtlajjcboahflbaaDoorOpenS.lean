/-
  open: the lowest span that has a free slot of a size; no statement is proved here.
-/
import Derived.Test.YtlajjcboahflbaaDoorSpans
import Derived.Test.YtlajjcboahflbaaDoorQuietR
namespace Go.Proofs.YtlajjcboahflbaaDoor
open Go.RowKit Go.Shelf

attribute [local go_sem] Oper.semAt_some

/-- A span with a free slot of that room. -/
def fitS (rm : Nat) (x : Spn) : Bool := decide (x.rm = rm) && decide (us x.S < x.S.length)
def OpPost (sb : Nat → Nat × Nat) (w : World) (r : Option Spn) (e : Ending) (w' : World) : Prop := e = .returned (.pointer (r.map fun x => ⟨(sb x.st).1, 0, none⟩)) ∧ Ext [] w w'
theorem ksK_b {K : List Nat} {w : World} (h1 : ∀ b ∈ K, b < w.heap.size) (W : World) (l : Nat) (o o' : Obj) (hl : w.heap.size ≤ l) (_ : W.heap[l]? = some o) (_ : o.isCells = false) (_ : o.isWalk = false) : Ks K W (W.putObj l o') :=
  fun b hb _ ho => (World.putObj_heap_other (by have := h1 b hb; omega)).trans ho
theorem ksK_t {K : List Nat} {A B C : World} (h : Ks K A B) (k : Ks K B C) : Ks K A C := h.trans k
theorem ofind_snoc {α : Type} {L : List α} {p : α → Bool} {x : α} (h : L.find? p = none) : (L ++ [x]).find? p = if p x then some x else none := by
  rw [List.find?_append, h]
  simp [List.find?_cons]
  cases p x <;> rfl
theorem ofind_prefix {α : Type} {A B : List α} {p : α → Bool} {x : α} (h : A.find? p = some x) (hp : A <+: B) : B.find? p = some x := by
  obtain ⟨t, rfl⟩ := hp
  rw [List.find?_append, h]; rfl
theorem ofind_attach {H : Hs} (p : Spn → Bool) : (H.sp.attach.find? fun x => p x.val).map Subtype.val = H.sp.find? p := by
  conv => rhs; rw [← List.attach_map_subtype_val H.sp, List.find?_map]
  rfl
theorem oload85 {w : World} {g : Nat} {v : Value} (h : Boxed w g 85 v) : (loadVar 85 ⟨g, 0, none⟩).run Tryd.prog w = .ok v w := by
  have := h.cell
  simp [go_sem, this]
theorem results_cell1 {P : Program} {fn : Func} {p : Tmp} {ty : TypeId} (h : fn.results = #[.cell p ty]) (tmps : Array Value) (w : World) (a : Addr) (v : Value)
    (hp : tmps.getD p undef = .pointer (some a)) (h1 : (loadVar ty a).run P w = .ok v w) : (results fn tmps).run P w = .ok v w := by
  have hp' : tmps[p]?.getD undef = .pointer (some a) := by simpa using hp
  simp [results, h, hp', asAddr, h1]
theorem keepsOthers_drewN (W : World) (n : Nat) : KeepsOthers W (W.drewN n) := ⟨Nat.le_refl _, fun _ _ h _ => h⟩
theorem below_drewN {z : Nat} {w W : World} (h : Below z w W) (n : Nat) : Below z w (W.drewN n) := h.trans ⟨rfl, rfl, rfl, Nat.le_refl _, fun _ _ => rfl⟩

theorem Kb_lt {w : World} {p ox : Nat} {T : TypeId} {cs : Array Value} {F : Nat → Prop} {H : Hs} {ag og : Nat} {V : Value} {sb : Nat → Nat × Nat} {O : List (Option Nat)} (h : Hm w p ox T cs F H ag og V sb O) {Bn : Nat} {n : Nat} (hb : Bn < n) (hn : w.heap.size ≤ n) : ∀ b ∈ Kb Bn p og H sb, b < n := by
  intro b hbm
  simp only [Kb, List.mem_cons, List.mem_map] at hbm
  rcases hbm with rfl | rfl | rfl | ⟨x, hx, rfl⟩
  · exact hb
  · have := h.pt; omega
  · have := lt_of_heap h.owners; omega
  · have := lt_of_heap (h.spans x hx).box; omega

set_option maxRecDepth 100000 in
set_option maxHeartbeats 4000000 in
theorem open_any {p ox : Nat} {T : TypeId} {cs : Array Value} {F : Nat → Prop} {H : Hs} {ag og : Nat} {V : Value} {sb : Nat → Nat × Nat} {O : List (Option Nat)} (room : Nat) (w : World) (hH : Hm w p ox T cs F H ag og V sb O) :
    Calls Tryd.prog 39 #[.pointer (some ⟨p, ox, none⟩), .int .i64 room] w (OpPost sb w (H.sp.find? (fitS room))) := by
  refine (callsIn_wide (n := 8)).1 ?_
  refine callsIn_of_wp_marks Tryd.func39 rfl trivial ?_ rfl
  simp only [Tryd.ntmps39, List.size_toArray, List.length_cons, List.length_nil, Nat.reduceAdd, Nat.reduceSub, Array.replicate_succ, Array.replicate_zero, List.push_toArray, List.append_toArray, List.nil_append, List.cons_append]
  have K := fun u => spans_any (some ⟨p, ox, none⟩) u
  have HO := hid hH
  clear hH
  gi_wp2_with (refine ⟨trivial, ?_⟩; gi_at_call 52; refine (callsIn_wide.2 (K _)).mono ?_; rintro e w' ⟨rfl, rfl⟩)
  clear K
  obtain ⟨z, hz⟩ : ∃ z, z = w.heap.size := ⟨_, rfl⟩
  have hE0 : Ext [] w (((w.alloc (.cells #[.int .i64 room] 3)).alloc (.cells #[.pointer none] 85)).alloc (.cells #[.pointer (some ⟨p, ox, none⟩)] 23)) := ((Ext.alloc [] _ _).trans (Ext.alloc [] _ _)).trans (Ext.alloc [] _ _)
  have bR := ((Boxed.new w 3 (.int .i64 room)).alloc (.cells #[.pointer none] 85)).alloc (.cells #[.pointer (some ⟨p, ox, none⟩)] 23)
  have bP := (Boxed.new (w.alloc (.cells #[.int .i64 room] 3)) 85 (.pointer none)).alloc (.cells #[.pointer (some ⟨p, ox, none⟩)] 23)
  have bN := Boxed.new ((w.alloc (.cells #[.int .i64 room] 3)).alloc (.cells #[.pointer none] 85)) 23 (.pointer (some ⟨p, ox, none⟩))
  simp only [World.size_alloc] at bP bN
  have hsz : (((w.alloc (.cells #[.int .i64 room] 3)).alloc (.cells #[.pointer none] 85)).alloc (.cells #[.pointer (some ⟨p, ox, none⟩)] 23)).heap.size = w.heap.size + 3 := by simp
  obtain ⟨W0, hW0⟩ : ∃ W0, ((w.alloc (.cells #[.int .i64 room] 3)).alloc (.cells #[.pointer none] 85)).alloc (.cells #[.pointer (some ⟨p, ox, none⟩)] 23) = W0 := ⟨_, rfl⟩
  rw [hW0] at bR bP bN hE0 hsz ⊢
  clear hW0
  have hIt := (HO.out.keep0 hE0).it bN
  have hKb : ∀ b ∈ Kb (w.heap.size + 1 + 1) p og H sb, b < W0.heap.size := Kb_lt HO.out (by omega) (by omega)
  have HBz := hid hE0.below
  rw [← hz] at bR bP bN hIt hKb HBz hsz ⊢
  have hzw : z ≤ w.heap.size := by omega
  have HZ := hid hz
  clear hz hE0 bN
  refine wpIn_rangeFunc_ownH rfl (by omega) (gf := 77) (lb := #[.pointer (some ⟨z + 1 + 1, 0, none⟩)]) rfl trivial (enters_of Tryd.func77 (by kernel_rfl) rfl)
    (spans_stops Fence.wide _ trivial rfl (by omega) (z + 1 + 1) p og H sb O W0 hIt) ksK_t (ksK_b hKb) (Below.refl _ _) (fun _ => rfl)
    (fun pre W => ((Boxed W z 3 (.int .i64 room) ∧ Boxed W (z + 1) 85 (.pointer none)) ∧ Below z w W) ∧ pre.find? (fun x => fitS room x.val) = none)
    (fun c pre W => ∃ x : Os H, (Boxed W (z + 1) 85 (.pointer (some ⟨(sb x.val.st).1, 0, none⟩)) ∧ Below z w W) ∧ pre.find? (fun x => fitS room x.val) = some x ∧ c = .ret)
    (OwnFrom.and (OwnFrom.and (OwnFrom.and (Own.from (boxed_own _ _ _) _) (Own.from (boxed_own _ _ _) _)) (ownFrom_below (by omega) (by omega))) (ownFrom_pure _ _))
    (fun c pre X Y row hs hg hr => by
      obtain ⟨x, ⟨h2, h3⟩, h4, h5⟩ := hs
      exact ⟨x, ⟨boxed_own (z + 1) 85 (fun _ : Unit => .pointer (some ⟨(sb x.val.st).1, 0, none⟩)) () X Y row h2 hg (fun r e => (hr r e).2), ownFrom_below (by omega) (show z ≤ W0.heap.size by omega) () X Y row h3 hg hr⟩, h4, h5⟩)
    ⟨⟨⟨bR, bP⟩, HBz.out⟩, rfl⟩
    (fun x a' _ => a' = { tmps := #[.pointer (some ⟨p, ox, none⟩), .int .i64 room, undef, .pointer (some ⟨z, 0, none⟩), .pointer (some ⟨z + 1, 0, none⟩), .pointer (some ⟨(sb x.val.st).1, 0, none⟩), .pointer (some ⟨p, ox, none⟩), sitv (z + 1 + 1), .pointer (some ⟨(sb x.val.st).1, 0, none⟩), undef, undef, undef, undef, undef, undef, undef, undef, undef, undef, undef, undef, undef, undef, undef, undef, undef, undef, undef], defers := [] })
    (fun x a' _ X Y row hs hg hr => hs)
    ?assign ?body ?done ?stop
  case assign =>
    rintro l pre x W K hI hK
    gi_wp2
    exact hK _ _ (KeepsFrom.refl _ _) (Ks.refl _ _) hI rfl
  case body =>
    rintro l pre x a' W hl ⟨r, hr⟩ ⟨⟨⟨bR1, bP1⟩, hB1⟩, hf⟩ rfl _
    have hx : Ext [] w W := by rw [HZ.out] at hB1; exact below_ext hB1
    have hs := (HO.out.spans x.val x.property).keep hx (by simp) (by simp)
    have cR := bR1.cell
    have c2 := hs.c2
    have c3 := hs.c3
    have c4 := hs.c4
    have HI := hid (And.intro (And.intro (And.intro bR1 bP1) hB1) hf)
    have hsn : Hid ((pre ++ [x]).find? (fun x => fitS room x.val) = if fitS room x.val then some x else none) := ofind_snoc hf
    clear bR1 bP1 hB1 hf hr hx hs
    have hfit : Hid (fitS room x.val = (decide (x.val.rm = room) && decide (us x.val.S < x.val.S.length))) := rfl
    have HD : Hid (∀ n, ((Boxed (W.drewN n) z 3 (.int .i64 room) ∧ Boxed (W.drewN n) (z + 1) 85 (.pointer none)) ∧ Below z w (W.drewN n)) ∧ pre.find? (fun x => fitS room x.val) = none) := fun n =>
      ⟨⟨⟨(Ext.drewN [] W n).keep HI.out.1.1.1 (by simp), (Ext.drewN [] W n).keep HI.out.1.1.2 (by simp)⟩, below_drewN HI.out.1.2 n⟩, HI.out.2⟩
    clear HI
    generalize x.val.rm = rm at *
    generalize us x.val.S = uu at *
    generalize x.val.S.length = nn at *
    generalize (sb x.val.st).2 = sg at *
    generalize hsx : (sb x.val.st).1 = sx at *
    by_cases hrm : rm = room
    · subst hrm
      by_cases hun : uu < nn
      · have hT : Hid (fitS rm x.val = true) := by show _ = _; rw [hfit.out]; simp [hun]
        have hun1 : decide ((uu : Int) < nn) = true := by simp; omega
        have hun2 : (uu : Int) < nn := by omega
        clear hfit
        gi_wp2_with fail
        refine wpIn_region_quietR (by kernel_rfl) (by kernel_rfl) (by kernel_rfl) ?_
        repeat (gi_big_quiet_step (fail))
        refine wpQuietIn_nil ?_
        rintro _ ⟨nq, rfl⟩
        have hD := HD.out nq
        have cP' := hD.1.1.2.cell
        have fP' := hD.1.1.2.frozen
        have HD2 := hid hD
        clear cR c2 c3 c4 HD hD
        gi_wp2_with fail
        refine ⟨((keepsOthers_drewN _ _).trans (KeepsOthers.setCell _ _ _)).from _, x, ⟨by rw [hsx]; exact HD2.out.1.1.2.set _, ?_⟩, by rw [hsn.out, hT.out]; rfl, rfl⟩
        exact HD2.out.1.2.setCell (p := ⟨z + 1, 0, none⟩) (Nat.le_succ _) _
      · have hT : Hid (fitS rm x.val = false) := by show _ = _; rw [hfit.out]; simp [hun]
        have hun1 : decide ((uu : Int) < nn) = false := by simp; omega
        have hun2 : ¬ (uu : Int) < nn := by omega
        clear hfit
        gi_wp2_with fail
        refine wpIn_region_quietR (by kernel_rfl) (by kernel_rfl) (by kernel_rfl) ?_
        repeat (gi_big_quiet_step (fail))
        refine wpQuietIn_nil ?_
        rintro _ ⟨nq, rfl⟩
        have HD2 := hid (HD.out nq)
        clear cR c2 c3 c4 HD
        gi_wp2_with fail
        exact ⟨(keepsOthers_drewN _ _).from _, Ks.of_ext0 (Ext.drewN [] W nq), HD2.out.1, by rw [hsn.out, hT.out]; rfl⟩
    · have hrb : ((rm : Int) == (room : Int)) = false := by simp; omega
      have hT : Hid (fitS room x.val = false) := by show _ = _; rw [hfit.out]; simp [hrm]
      clear hfit
      gi_wp2_with fail
      refine wpIn_region_quietR (by kernel_rfl) (by kernel_rfl) (by kernel_rfl) ?_
      repeat (gi_big_quiet_step (fail))
      refine wpQuietIn_nil ?_
      rintro _ ⟨nq, rfl⟩
      have HD2 := hid (HD.out nq)
      clear cR c2 c3 c4 HD
      gi_wp2_with fail
      exact ⟨(keepsOthers_drewN _ _).from _, Ks.of_ext0 (Ext.drewN [] W nq), HD2.out.1, by rw [hsn.out, hT.out]; rfl⟩
  case done =>
    rintro D zs W hD rfl ⟨⟨⟨bR1, bP1⟩, hB1⟩, hf⟩ hK
    have cP := bP1.cell
    have fP := bP1.frozen
    have HP := hid bP1
    have HF := hid hf
    have HB1 := hid hB1
    have HK := hid hK
    clear bR1 bP1 hB1 hf hK
    gi_wp2
    have hK2 := (KeepsOthers.setCell W ⟨z + 1, 0, none⟩ (.pointer none)).same _ _ HK.out rfl
    refine ⟨by simp, .inl ⟨_, _, rfl, run_takeDeferred hK2, ?_⟩⟩
    have hP := grownBy_putObj' (W.setCell ⟨z + 1, 0, none⟩ (.pointer none)) D (.deferred none)
    have hr := HP.out.set (.pointer none)
    have hq : Boxed _ _ _ _ := (hP.block (z + 1) (lt_of_heap hr) (by simp; omega)).trans hr
    refine ⟨_, results_cell1 rfl _ _ ⟨z + 1, 0, none⟩ _ rfl (oload85 hq), ?_, ?_⟩
    · have : H.sp.find? (fitS room) = none := by rw [← ofind_attach, HF.out]; rfl
      rw [this]; rfl
    · have hx : Ext [] w W := by rw [HZ.out] at HB1; exact below_ext HB1.out
      have hz2 := HZ.out
      exact ((hx.on (Ext.setCell [z + 1] W ⟨z + 1, 0, none⟩ (.pointer none) (by simp)) (by simp; omega)).on (Ext.grown (S := [D]) hP (by simp)) (by simp; omega))
  case stop =>
    rintro D c pre W hD hSp ⟨x, ⟨bP1, hB1⟩, hf, rfl⟩ hK
    have HF := hid hf
    have HB1 := hid hB1
    have HK := hid hK
    have HP := hid bP1
    clear bP1 hB1 hf hK
    gi_wp2
    refine ⟨by simp, .inl ⟨_, _, rfl, run_takeDeferred HK.out, ?_⟩⟩
    have hP := grownBy_putObj' W D (.deferred none)
    have hq : Boxed _ _ _ _ := (hP.block (z + 1) (lt_of_heap HP.out) (by simp; omega)).trans HP.out
    refine ⟨_, results_cell1 rfl _ _ ⟨z + 1, 0, none⟩ _ rfl (oload85 hq), ?_, ?_⟩
    · have : H.sp.find? (fitS room) = some x.val := by rw [← ofind_attach, ofind_prefix HF.out hSp]; rfl
      rw [this]; rfl
    · have hx : Ext [] w W := by rw [HZ.out] at HB1; exact below_ext HB1.out
      have hz2 := HZ.out
      exact hx.on (Ext.grown (S := [D]) hP (by simp)) (by simp; omega)

end Go.Proofs.YtlajjcboahflbaaDoor

/-
  Place: the number of a group's place; no statement is proved here.
-/
import Derived.Test.YtljflcjlmgnjjaaRef
import Derived.Scope
namespace Go.Proofs.Ytljflcjlmgnjjaa
open Go.RowKit Go.Shelf

attribute [local go_sem] Oper.semAt_some

theorem results_slots2 {P : Program} {fn : Func} {p q : Tmp} (h : fn.results = #[.tmp p, .tmp q]) (tmps : Array Value) (w : World) (v v' : Value)
    (hp : tmps.getD p undef = v) (hq : tmps.getD q undef = v') : (results fn tmps).run P w = .ok (.tuple #[v, v']) w := by
  have hp' : tmps[p]?.getD undef = v := by simpa using hp
  have hq' : tmps[q]?.getD undef = v' := by simpa using hq
  simp [results, h, hp', hq']

/-- A scope without jumps behind a first piece. -/
theorem wpIn_seq_scope {n : Nat} {P : Program} {A B : Code} {Q : Exit → Act → World → Prop} {a : Act} {w : World}
    (h : ∀ K : Act → World → Prop, (∀ a w, B.wpIn Fence.wide n P (Exit.noGoto Q) a w → K a w) → A.wpIn Fence.wide n P (Exit.then K (Exit.noGoto Q)) a w) : (A.seq B.scope).wpIn Fence.wide n P Q a w := by
  refine wpIn_seq (Code.wpIn_mono (fun e a w q => ?_) (h _ fun _ _ h => h))
  cases e with
  | normal => exact wpIn_wide.2 (wp_scope_straight (wpIn_wide.1 q))
  | goto l => exact q.elim
  | exit id => exact q
  | ret => exact q
  | panic ch => exact q
  | outgrown => exact q

theorem place_bad (h : Nat) (G i : Int) (hb : ¬ GpI G ∨ i < 0 ∨ G ≤ i) (w : World) : Calls Try.prog 13 #[.int .u64 h, .int .i64 G, .int .i64 i] w (SayPost w (.tuple #[.int .i64 0, .int .i64 2])) := by
  obtain ⟨L, er, hL⟩ := ord_ex h G
  have K := seq_any h G L er hL (w.alloc (.cells #[.int .i64 i] 3))
  have HE0 := hid (Ext.alloc [] w (.cells #[.int .i64 i] 3))
  have HB0 := hid (Boxed.new w 3 (.int .i64 i))
  by_cases hG : GpI G
  · have he : er = 0 := by
      rcases hL with ⟨g, rfl, hg, rfl, rfl⟩ | ⟨hn, rfl, rfl⟩
      · rfl
      · exact absurd hG hn
    subst he
    have K2 := fun W => within_out i G (hb.resolve_left (fun q => q hG)) W
    clear hL hG hb
    go_enter Try.func13, Try.ntmps13
    go_wp2_with fail
    go_step3
    go_wp2_with fail
    refine K.mono ?_
    rintro e w1 ⟨gf, lb, S, rfl, _, hE1⟩
    clear K
    have hc := (show Boxed w1 w.heap.size 3 (.int .i64 i) from hE1.keep HB0.out (by simp)).cell
    have HE1 := hid (HE0.out.trans hE1)
    clear hE1 HE0 HB0
    go_wp2_with fail
    refine met (K2 _) ?_
    clear K2
    go_wp2
    go_ret2
    exact ⟨rfl, HE1.out⟩
  · have he : er = 2 := by
      rcases hL with ⟨g, rfl, hg, rfl, rfl⟩ | ⟨hn, rfl, rfl⟩
      · exact absurd (gpI_nat.2 hg) hG
      · rfl
    subst he
    clear hL hG hb
    go_enter Try.func13, Try.ntmps13
    go_wp2_with fail
    go_step3
    go_wp2_with fail
    refine K.mono ?_
    rintro e w1 ⟨gf, lb, S, rfl, _, hE1⟩
    clear K
    have HE1 := hid (HE0.out.trans hE1)
    clear hE1 HE0 HB0
    go_wp2
    go_ret2
    exact ⟨rfl, HE1.out⟩

theorem pre_at {h g k x : Nat} {pre : List Nat} (hg : Gp g) (hk : k < g) (hkx : pl h g k = x) (hp : pre ++ [x] <+: sq h g) : pre.length = k := by
  obtain ⟨t, ht⟩ := hp
  have hlen : pre.length < g := by
    have := congrArg List.length ht
    simp [sq_len] at this
    omega
  have h1 := sq_at h g hlen
  rw [← ht] at h1
  simp at h1
  exact pl_inj hg hlen hk (h1.symm.trans hkx.symm)

set_option maxRecDepth 100000 in
set_option maxHeartbeats 4000000 in
theorem place_ok (h g x k : Nat) (hg : Gp g) (hk : k < g) (hkx : pl h g k = x) (w : World) : Calls Try.prog 13 #[.int .u64 h, .int .i64 g, .int .i64 x] w (SayPost w (.tuple #[.int .i64 k, .int .i64 0])) := by
  have hL : ordL h g (sq h g) 0 := .inl ⟨g, rfl, hg, rfl, rfl⟩
  have hlen := sq_len h g
  have hle := hg.le
  have hx : x < g := by rw [← hkx]; exact pl_lt h hg.pos k
  have K2 := fun W => within_in x g hx W
  have HAt : Hid (∀ pre, pre ++ [x] <+: sq h g → pre.length = k) := fun pre hp => pre_at hg hk hkx hp
  have HMem : Hid (x ∈ sq h g) := List.mem_iff_getElem?.2 ⟨k, by rw [sq_at h g hk, hkx]⟩
  refine (callsIn_wide (n := 8)).1 ?_
  refine callsIn_of_wp_marks Try.func13 rfl trivial ?_ rfl
  simp only [Try.ntmps13, List.size_toArray, List.length_cons, List.length_nil, Nat.reduceAdd, Nat.reduceSub, Array.replicate_succ, Array.replicate_zero, List.push_toArray, List.append_toArray, List.nil_append, List.cons_append]
  have K := seq_any h g _ 0 hL (w.alloc (.cells #[.int .i64 (x : Nat)] 3))
  have HE0 := hid (Ext.alloc [] w (.cells #[.int .i64 (x : Nat)] 3))
  have HB0 := hid (Boxed.new w 3 (.int .i64 (x : Nat)))
  clear hL hg hkx
  refine wpIn_seq_scope fun K hK => ?_
  gi_wp2_with fail
  refine ⟨trivial, ?_⟩
  refine (callsIn_wide.2 K).mono ?_
  clear K
  rintro e w1 ⟨gf, lb, S, rfl, hIt, hE1⟩
  have HIt := hid hIt
  have hB1 : Boxed w1 w.heap.size 3 (.int .i64 (x : Nat)) := hE1.keep HB0.out (by simp)
  have hc := hB1.cell
  have HB1 := hid hB1
  have HE1 := hid (HE0.out.trans hE1)
  have hz1 : w.heap.size < w1.heap.size := HB1.out.lt
  clear HE0 hE1 hIt HB0 hB1
  gi_wp2_with fail
  refine ⟨trivial, ?_⟩
  refine (callsIn_wide.2 (K2 _)).mono ?_
  rintro _ wz ⟨rfl, hwz⟩
  rw [hwz]
  clear K2 hwz hc
  gi_wp2_with fail
  refine wpIn_label ?_
  gi_wp2_with fail
  have hEa := Ext.alloc [] w1 (.cells #[.int .i64 0] 3)
  have bX := hid (HB1.out.alloc (.cells #[.int .i64 0] 3))
  have bI := hid (Boxed.new w1 3 (.int .i64 0))
  have hIt0 := hid (HIt.out.on hEa)
  have hSl := hid HIt.out.lt
  have hB0 := hid (hEa.below)
  have hsz : (w1.alloc (.cells #[.int .i64 0] 3)).heap.size = w1.heap.size + 1 := by simp
  obtain ⟨W0, hW0⟩ : ∃ W0, w1.alloc (.cells #[.int .i64 0] 3) = W0 := ⟨_, rfl⟩
  rw [hW0] at bX bI hB0 hsz hIt0 ⊢
  clear hW0 hEa
  refine wpIn_rangeFunc_ownH rfl (by omega) (gf := gf) (lb := lb) rfl trivial HIt.out.enters
    (hIt0.out.stops _ (by omega) W0 (Below.refl _ _)) kq_t (kq_b hIt0.out.lt) (Below.refl _ _) (fun _ => rfl)
    (fun pre W => (Boxed W w1.heap.size 3 (.int .i64 (pre.length : Nat)) ∧ Below w1.heap.size w1 W) ∧ x ∉ pre)
    (fun cd pre W => ∃ pre', pre = pre' ++ [x] ∧ (Boxed W w1.heap.size 3 (.int .i64 (pre'.length : Nat)) ∧ Below w1.heap.size w1 W) ∧ cd = .exit 0)
    (OwnFrom.and (OwnFrom.and (Own.from (boxed_own _ _ _) _) (ownFrom_below (Nat.le_refl _) (by omega))) (ownFrom_pure _ _))
    (fun cd pre X Y row hs hg hr => by
      obtain ⟨pre', hp, ⟨h1, h2⟩, h3⟩ := hs
      exact ⟨pre', hp, ⟨boxed_own w1.heap.size 3 (fun _ : Unit => .int .i64 (pre'.length : Nat)) () X Y row h1 hg (fun r e => (hr r e).2), ownFrom_below (β := Unit) (Nat.le_refl _) (show w1.heap.size ≤ W0.heap.size by omega) () X Y row h2 hg hr⟩, h3⟩)
    ⟨⟨bI.out, hB0.out⟩, by simp⟩
    (fun y a' _ => a' = { tmps := #[.int .u64 h, .int .i64 g, .int .i64 x, undef, undef, .pointer (some ⟨w.heap.size, 0, none⟩), .int .i64 0, .int .i64 0, .func (.func gf) #[] lb, .int .i64 0, .pointer (some ⟨w1.heap.size, 0, none⟩), .int .i64 (y : Nat), .tuple #[.func (.func gf) #[] lb, .int .i64 0], .int .u64 h, .int .i64 g, .tuple #[.func (.func gf) #[] lb, .int .i64 0], .func (.func gf) #[] lb, .int .i64 0, .int .i64 0, .bool false, .bool false, .int .i64 x, .int .i64 g, .bool true, .bool false, .bool false, .func (.func gf) #[] lb, .int .i64 (y : Nat), undef, undef, undef, undef, undef, undef, undef], defers := [] })
    (fun y a' _ X Y row hs hg hr => hs)
    ?assign ?body ?done ?stop
  case assign =>
    rintro l pre y W K h1 hK
    have HKx := hid hK
    have H1 := hid h1
    clear hK h1
    gi_wp2
    exact HKx.out _ _ (KeepsFrom.refl _ _) (Kq.refl _ _) H1.out rfl
  case body =>
    rintro l pre y a' W hl ⟨lr, hlr⟩ ⟨⟨bI1, hB1⟩, hno⟩ rfl hlt
    have cI := bI1.cell
    have fI := bI1.frozen
    have bX1 : Boxed W w.heap.size 3 (.int .i64 (x : Nat)) := (below_ext hB1).keep HB1.out (by simp)
    have cX := bX1.cell
    have HI := hid bI1
    have HB := hid hB1
    have HNo := hid hno
    have hpl : pre.length < 4096 := by omega
    clear hlr bI1 hB1 bX1 hno hlt
    by_cases e : y = x
    · subst e
      gi_wp2_with fail
      exact ⟨(KeepsOthers.refl _).from _, pre, rfl, ⟨HI.out, HB.out⟩, rfl⟩
    · have hne : ((y : Int) == (x : Int)) = false := by simp only [beq_eq_false_iff_ne]; omega
      have HPl : Hid ((pre ++ [y]).length = pre.length + 1) := by show _ = _; simp
      have HN2 : Hid (x ∉ pre ++ [y]) := by show x ∉ _; simp [HNo.out]; exact fun q => e q.symm
      clear e HNo
      generalize hpk : pre.length = j at *
      clear hpk
      gi_wp2_with fail
      refine ⟨(KeepsOthers.setCell _ _ _).from _, Kq.of_below ((Below.refl w1.heap.size W).setCell (p := ⟨w1.heap.size, 0, none⟩) (Nat.le_refl _) _) hSl.out, ⟨?_, HB.out.setCell (p := ⟨w1.heap.size, 0, none⟩) (Nat.le_refl _) _⟩, HN2.out⟩
      rw [HPl.out]
      exact HI.out.set _
  case done =>
    rintro D zs W hD rfl ⟨_, hno⟩ _
    exact absurd HMem.out hno
  case stop =>
    rintro D cd pre W hD hSp ⟨pre', rfl, ⟨bI1, hB1⟩, rfl⟩ hK
    have cI := bI1.cell
    rw [HAt.out pre' hSp] at cI
    have HB := hid hB1
    have HK := hid hK
    have HD := hid hD
    clear bI1 hB1 hK hSp hD
    gi_wp2_with fail
    rw [Exit.noGoto_ret]
    refine ⟨by simp, .inl ⟨_, _, rfl, run_takeDeferred HK.out, _, results_slots2 rfl _ _ _ _ rfl rfl, rfl, ?_⟩⟩
    have hD2 := HD.out
    have hx : Ext [] w W := HE1.out.trans (below_ext HB.out)
    exact hx.on (Ext.grown (S := [D]) (grownBy_putObj' W D (.deferred none)) (by simp)) (by simp; omega)
theorem place_any (h : Nat) (G i r er : Int) (ha : FindAt h G i r er) (w : World) : Calls Try.prog 13 #[.int .u64 h, .int .i64 G, .int .i64 i] w (SayPost w (.tuple #[.int .i64 r, .int .i64 er])) := by
  rcases ha with ⟨g, x, k, rfl, rfl, hg, hk, hkx, rfl, rfl⟩ | ⟨hb, rfl, rfl⟩
  · exact place_ok h g x k hg hk hkx w
  · exact place_bad h G i hb w
end Go.Proofs.Ytljflcjlmgnjjaa

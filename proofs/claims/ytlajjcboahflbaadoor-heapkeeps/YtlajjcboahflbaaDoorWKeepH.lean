/-
  HeapKeeps, walked through; its frame is in LawKeepH.
-/
import Derived.Test.YtlajjcboahflbaaDoorBkD
import Derived.Sort.BigQuietIn
import Derived.Shelf.RegionOpen
namespace Go.Proofs.YtlajjcboahflbaaDoor
open Go.RowKit Go.Shelf

attribute [local go_sem] Oper.semAt_some

theorem wpIn_out {n : Nat} {P : Program} {C : Code} {Q : Exit → Act → World → Prop} {a : Act} {w : World} (R : Act → World → Prop) (h : C.wp P (fun e a2 w2 => e = Exit.normal ∧ R a2 w2) a w) (hq : ∀ a2 w2, R a2 w2 → Q .normal a2 w2) : C.wpIn Fence.wide n P Q a w :=
  Code.wpIn_mono (fun e a2 w2 ⟨h1, h2⟩ => by subst h1; exact hq _ _ h2) (wpIn_wide.2 h)
theorem Ext.celleq {u w : World} (h : Ext [] u w) : ∀ a : Addr, (u.cell? a).isSome = true → w.cell? a = u.cell? a := fun a ha => by
  obtain ⟨v, hv⟩ := Option.isSome_iff_exists.1 ha
  rw [hv]
  exact h.cell hv (by simp)
theorem Ext.frzeq {u w : World} (h : Ext [] u w) : ∀ a : Addr, (u.cell? a).isSome = true → w.frozen? a = u.frozen? a := fun a ha => by
  obtain ⟨v, hv⟩ := Option.isSome_iff_exists.1 ha
  have := h.block a.block (block_lt_of_cell hv) (by simp)
  unfold World.frozen?
  rw [this]
theorem ext_res1 {b : World} {k : Nat} (v0 v1 v2 v3 : Value) : Ext [k] b ((((b.setCell ⟨k, 0, none⟩ v0).setCell ⟨k, 1, none⟩ v1).setCell ⟨k, 2, none⟩ v2).setCell ⟨k, 3, none⟩ v3) :=
  (((Ext.setCell [k] _ _ _ (by simp)).trans (Ext.setCell [k] _ _ _ (by simp))).trans (Ext.setCell [k] _ _ _ (by simp))).trans (Ext.setCell [k] _ _ _ (by simp))
theorem ext_res {w b : World} {k : Nat} (h : Ext [] w b) (hk : w.heap.size ≤ k) (v0 v1 v2 v3 : Value) : Ext [] w ((((b.setCell ⟨k, 0, none⟩ v0).setCell ⟨k, 1, none⟩ v1).setCell ⟨k, 2, none⟩ v2).setCell ⟨k, 3, none⟩ v3) :=
  Ext.on h (ext_res1 _ _ _ _) (by simp; omega)
theorem keep_two {w1 wb : World} {k : Nat} {a1 a2 : Addr} {x1 x2 : Value} (h : Ext [] w1 wb) (hk : w1.heap.size ≤ k) (h1 : w1.cell? a1 = some x1) (h2 : w1.cell? a2 = some x2) (v0 v1 v2 v3 : Value) :
    ((((wb.setCell ⟨k, 0, none⟩ v0).setCell ⟨k, 1, none⟩ v1).setCell ⟨k, 2, none⟩ v2).setCell ⟨k, 3, none⟩ v3).cell? a1 = some x1 ∧ ((((wb.setCell ⟨k, 0, none⟩ v0).setCell ⟨k, 1, none⟩ v1).setCell ⟨k, 2, none⟩ v2).setCell ⟨k, 3, none⟩ v3).cell? a2 = some x2 :=
  ⟨(ext_res h hk _ _ _ _).cell h1 (by simp), (ext_res h hk _ _ _ _).cell h2 (by simp)⟩

set_option maxRecDepth 100000 in
set_option maxHeartbeats 16000000 in
theorem keepsWalk (pages : Int) (sa : Option Addr) (c : Nat) (S : List Oq) (at0 : Int) (w : World) (hG : Gl w) (hS : Sc w sa S) :
    Calls Tryd.prog 7 #[.int .i64 pages, .slice sa S.length c, .int .i64 at0] w (SayPost w (.bool true)) := by
  have HKG : Hid (∀ W, Ext [] w W → Calls Tryd.prog 9 #[.int .i64 pages, .slice sa S.length c] W (fun e w' => ∃ p cs F va vc, e = .returned (.tuple #[.pointer (some ⟨p, 0, none⟩), .slice va (growH (newH (pgsOf pages)) [] S).2.length vc]) ∧ GwI W w' p cs (growH (newH (pgsOf pages)) [] S).1 (.slice va (growH (newH (pgsOf pages)) [] S).2.length vc) (growH (newH (pgsOf pages)) [] S).2 F)) := fun W h => (grown_any pages sa c S W (hG.keep0 h) (hS.keep0 h)).mono (by
    rintro e w' ⟨p, cs, F, v, rfl, hI⟩
    obtain ⟨va, vc, rfl, _⟩ := hI.gv.slice
    exact ⟨p, cs, F, va, vc, rfl, hI⟩)
  have HG := hid hG
  clear hS hG
  refine (callsIn_wide (n := 8)).1 ?_
  refine callsIn_of_wp_marks Tryd.func7 rfl trivial ?_ rfl
  simp only [Tryd.ntmps7, List.size_toArray, List.length_cons, List.length_nil, Nat.reduceAdd, Nat.reduceSub, Array.replicate_succ, Array.replicate_zero, List.push_toArray, List.append_toArray, List.nil_append, List.cons_append]
  generalize (growH (newH (pgsOf pages)) [] S).1 = H at *
  generalize (growH (newH (pgsOf pages)) [] S).2 = L at *
  generalize S.length = n at *
  have K := HKG.out w (Ext.refl _ _)
  gi_wp2_with fail
  refine ⟨trivial, ?_⟩
  refine (callsIn_wide.2 K).mono ?_
  clear K
  rintro e w1 ⟨p, cs, F, va, vc, rfl, hI1⟩
  have HI1 := hid hI1
  have HE1 := hid (hI1.ext.trans (Ext.alloc [] w1 (.cells #[.pointer (some ⟨p, 0, none⟩)] 23)))
  have HB1 := hid (Boxed.new w1 23 (.pointer (some ⟨p, 0, none⟩)))
  have K := HKG.out _ HE1.out
  clear hI1 HKG
  gi_wp2_with fail
  refine ⟨trivial, ?_⟩
  refine (callsIn_wide.2 K).mono ?_
  clear K
  rintro e w2 ⟨p2, cs2, F2, va2, vc2, rfl, hI2⟩
  have HI2 := hid hI2
  have HE2 := hid (HE1.out.trans hI2.ext)
  have hb1 : Boxed w2 w1.heap.size 23 (.pointer (some ⟨p, 0, none⟩)) := hI2.ext.keep HB1.out (by simp)
  have hs1 : (w1.alloc (.cells #[.pointer (some ⟨p, 0, none⟩)] 23)).heap.size = w1.heap.size + 1 := by simp
  have HS2 : Hid (w1.heap.size < w2.heap.size) := by have := hI2.ext.size; show _ < _; omega
  have HW1 := hid (HI1.out.hw.keep0 ((Ext.alloc [] w1 (.cells #[.pointer (some ⟨p, 0, none⟩)] 23)).trans hI2.ext))
  have HV1 := hid (HI1.out.gv.keep0 ((Ext.alloc [] w1 (.cells #[.pointer (some ⟨p, 0, none⟩)] 23)).trans hI2.ext))
  clear HB1 hI2 HE1
  gi_wp2_with fail
  refine ⟨trivial, ?_⟩
  refine (callsIn_wide.2 (awake_any w2 (HG.out.keep0 HE2.out))).mono ?_
  rintro e w3 ⟨rfl, hE3⟩
  have hc1 := (show Boxed w3 w1.heap.size 23 _ from hE3.keep hb1 (by simp)).cell
  have HB3 : Hid (Boxed w3 w1.heap.size 23 (.pointer (some ⟨p, 0, none⟩))) := hE3.keep hb1 (by simp)
  have HE3 := hid (HE2.out.trans hE3)
  have HX23 := hid hE3
  have HS3 : Hid (w2.heap.size ≤ w3.heap.size) := hE3.size
  replace HW1 := hid (HW1.out.keep0 hE3)
  have K := whole_any HW1.out
  clear hE3 hb1 HE2
  gi_wp2_with fail
  refine ⟨trivial, ?_⟩
  refine (callsIn_wide.2 K).mono ?_
  clear K
  rintro e w4 ⟨v1, v2, v3, rfl, o1, o2, o3, g1, g2, g3, hE4⟩
  obtain ⟨a1, k1, rfl, _⟩ := own_slice o1
  obtain ⟨a2, k2, rfl, _⟩ := own_slice o2
  obtain ⟨a3, k3, rfl, _⟩ := own_slice o3
  have hEb := Ext.alloc [] w4 (.cells #[.slice a1 (objs H.sp).length k1] 28)
  have HB4 := hid (Boxed.new w4 28 (.slice a1 (objs H.sp).length k1))
  have HO4 := hid (own_keep0 o1 hEb)
  have HG4 := hid g1
  have hx := hE4.trans hEb
  have HE4 := hid (HE3.out.trans hx)
  have HX24 := hid (HX23.out.trans hx)
  replace HW1 := hid (HW1.out.keep0 hx)
  have hbb : Boxed _ w1.heap.size 23 _ := hx.keep HB3.out (by simp)
  have hc2 := hbb.cell
  replace HB3 := hid hbb
  have HS4 : Hid (w3.heap.size ≤ w4.heap.size) := hE4.size
  obtain ⟨ag, og, V, sb, O, hm⟩ := HW1.out
  have K := objects_of (some ⟨p, 0, none⟩) H sb _ _ hm.ok hm.spans hm.spit
  clear o1 o2 o3 g1 g2 g3 hE4 hEb hx hbb hm HE3 HX23
  have hse : (w4.alloc (.cells #[.slice a1 (objs H.sp).length k1] 28)).heap.size = w4.heap.size + 1 := by simp
  have e64 := eqlf 64 (by simp)
  gi_wp2_with fail
  refine ⟨trivial, ?_⟩
  refine (callsIn_wide.2 K).mono ?_
  clear K
  rintro e w5 ⟨Bn, vo, rfl, bBn, hLo, hBn, hvo, hE5⟩
  have HE5 := hid (HE4.out.trans hE5)
  have HX25 := hid (HX24.out.trans hE5)
  replace HW1 := hid (HW1.out.keep0 hE5)
  have hbb : Boxed w5 w1.heap.size 23 _ := hE5.keep HB3.out (by simp)
  have hc3 := hbb.cell
  have HB5 := hid hbb
  have HL5 : Hid (Boxed w5 w4.heap.size 28 (.slice a1 (objs H.sp).length k1)) := hE5.keep HB4.out (by simp)
  have HO5 := hid (own_keep0 HO4.out hE5)
  have HV5 := hid (HV1.out.keep0 HX25.out)
  have HW2 := hid (HI2.out.hw.keep0 HX25.out)
  have HS5 : Hid (w1.heap.size < w2.heap.size ∧ w2.heap.size ≤ w3.heap.size ∧ w3.heap.size ≤ w4.heap.size ∧ w4.heap.size + 1 ≤ Bn ∧ Bn < w5.heap.size ∧ w4.heap.size < w5.heap.size) := by
    have h1 := HS2.out
    have h2 := HS3.out
    have h3 := HS4.out
    have h4 := Boxed.lt bBn
    have h5 := hBn
    rw [hse] at h5
    exact ⟨h1, h2, h3, h5, h4, by omega⟩
  obtain ⟨T, hT⟩ : ∃ T : Nat → Prop, T = fun b => (w1.heap.size ≤ b ∧ b < w5.heap.size) ∨ (Value.slice va L.length vc).ownBlock = some b := ⟨_, rfl⟩
  have HT : Hid (∀ b, T b ↔ ((w1.heap.size ≤ b ∧ b < w5.heap.size) ∨ (Value.slice va L.length vc).ownBlock = some b)) := fun b => by rw [hT]
  clear hT
  have hgl := HI1.out.gv.lt
  have hpl := HI1.out.hw.lt
  have HTl : Hid (∀ b, T b → b < w5.heap.size) := fun b hb => by
    rcases (HT.out b).1 hb with h | h
    · exact h.2
    · have := hgl b h; have := HS5.out; omega
  have HTp : Hid (¬ T p) := fun hb => by
    rcases (HT.out p).1 hb with h | h
    · omega
    · exact (HI1.out.vn p h).2.1 rfl
  have HZ5 : Hid (Hz w T p cs w5) := ⟨_, _, HW1.out.typ, fun b hb => ⟨fun hTb => by
      rcases (HT.out b).1 hTb with h | h
      · have := (HI1.out.fn b hb.1).2; omega
      · exact (HI1.out.vn b h).2.2 hb.1, (HI1.out.fn b hb.1).1, hb.2⟩⟩
  have K := hz_alloc 16 3 HG.out HTl.out HTp.out HI1.out.pn HZ5.out HE5.out
  have HBn := hid bBn
  have HLo := hid hLo
  have HVo : Hid (∀ g, vo.ownBlock = some g → T g) := fun g hg => (HT.out g).2 (.inl ⟨by have := hvo g hg; have := HS5.out; omega, (own_lt hLo g hg).2⟩)
  clear hE5 hbb bBn hLo hvo hBn HB3 HB4 HO4 HV1 HX24 HE4 hgl hpl hc1 hc2 hse hs1
  unfold ovit
  gi_wp2_with fail
  refine ⟨trivial, ?_⟩
  refine (callsIn_wide.2 K).mono ?_
  clear K
  rintro e w6 ⟨⟨r6, rfl⟩, hz6, hk6, hE6, hs6⟩
  have hEa := Ext.alloc [] w6 (.cells #[.slice none 0 0] 28)
  have HK6 : Hid (∀ b, T b → (w6.alloc (.cells #[.slice none 0 0] 28)).heap[b]? = w5.heap[b]?) := fun b hb => (hEa.block b (by have := HTl.out b hb; omega) (by simp)).trans (hk6 b hb)
  have HJ : Hid (Jq w (w6.alloc (.cells #[.slice none 0 0] 28)) T p cs w6.heap.size [] (w6.alloc (.cells #[.slice none 0 0] 28))) := ⟨⟨_, Boxed.new w6 28 (.slice none 0 0), own_nil _ _ _ _, trivial⟩, hz6.keep hEa.size hEa.os hEa.tape hEa.output (fun b hb => hEa.block b (by obtain ⟨c, t, q, _⟩ := hb; exact lt_of_heap q) (by simp)), fun _ _ => rfl, Nat.le_refl _, hE6.trans hEa⟩
  have HSa : Hid (w5.heap.size ≤ w6.heap.size ∧ (w6.alloc (.cells #[.slice none 0 0] 28)).heap.size = w6.heap.size + 1) := ⟨hs6, by simp⟩
  clear hz6 hk6 hE6 hs6 hEa
  gi_wp2_with fail
  obtain ⟨W6, hW6⟩ : ∃ W6, W6 = w6.alloc (.cells #[.slice none 0 0] 28) := ⟨_, rfl⟩
  obtain ⟨ab, hab⟩ : ∃ ab, ab = w6.heap.size := ⟨_, rfl⟩
  rw [← hW6, ← hab] at HJ HSa ⊢
  rw [← hW6] at HK6
  clear hW6 hab
  have HN : Hid ((objs H.sp).length ≤ 100000) := by
    obtain ⟨_, _, _, _, _, hm⟩ := HI1.out.hw
    have hl := hm.ok.splen
    have hP := hm.ok.P1
    have hr := hm.ok.inv.len
    have ho := hm.ok.objs
    show _ ≤ _
    omega
  have HT6 : Hid (∀ b, T b → b < W6.heap.size ∧ b ≠ ab) := fun b hb => by have := HTl.out b hb; have := HSa.out; omega
  have HKW : Hid (∀ pre W, Jq w W6 T p cs ab pre W → ∀ b, T b → W.heap[b]? = w5.heap[b]?) := fun pre W h b hb => (h.keep b hb).trans (HK6.out b hb)
  have HwW : Hid (w.heap.size ≤ W6.heap.size ∧ w.heap.size ≤ ab) := by have h1 := HE5.out.size; have := HSa.out; show _ ∧ _; omega
  have ht1 : T w1.heap.size := (HT.out _).2 (.inl (by have := HS5.out; omega))
  have ht4 : T w4.heap.size := (HT.out _).2 (.inl (by have := HS5.out; omega))
  have htB : T Bn := (HT.out _).2 (.inl (by have := HS5.out; omega))
  have HTs := hid (And.intro ht1 (And.intro ht4 htB))
  have hpn := HI1.out.pn
  have HPn := hid hpn
  have Hob : Hid (Boxed W6 Bn 28 vo ∧ Obl W6 vo (objs H.sp)) := ⟨(HK6.out _ htB).trans HBn.out, HLo.out.1, by
    rcases HLo.out.2 with q | ⟨g, cap, cur, z0, z1, z2, z3⟩
    · exact .inl q
    · exact .inr ⟨g, cap, cur, z0, z1, (HK6.out g (HVo.out g (by rw [z0]; rfl))).trans z2, z3⟩⟩
  have hJO : OwnFrom W6.heap.size (Jq w W6 T p cs ab) := jq_own (fun b hb => (HT6.out b hb).1) HwW.out.1 (Nat.le_refl _)
  have hgb := fun g hg => (own_lt Hob.out.2 g hg).2
  clear ht1 ht4 htB hpn hc3 e64
  generalize hn1 : (objs H.sp).length = n1 at *
  refine wpIn_rangeFunc_ownH rfl (by omega) (gf := 78) (lb := #[.pointer (some ⟨Bn, 0, none⟩)]) (by kernel_rfl) trivial (enters_of Tryd.func78 (by kernel_rfl) rfl)
    (vals78_stops Fence.wide _ trivial rfl (by omega) Bn vo (objs H.sp) (by have := HN.out; omega) W6 Hob.out.1 Hob.out.2) klK_t (klK_b (HT6.out _ HTs.out.2.2).1 hgb) (Below.refl _ _) (fun _ => rfl)
    (Jq w W6 T p cs ab)
    (fun _ _ _ => False)
    hJO
    (fun _ _ _ _ _ hs _ _ => hs)
    HJ.out
    (fun x a' W => ∃ Bx, W.heap[Bx]? = some (.cells #[.int .i64 x.1, .int .i64 x.2.1, .int .i64 x.2.2, .slice none 0 0] 34 (0, 0)) ∧ a' = { tmps := #[.int .i64 pages, .slice sa n c, .int .i64 at0, undef, undef, undef, .bool false, .pointer (some ⟨w1.heap.size, 0, none⟩), .slice va L.length vc, .pointer (some ⟨p2, 0, none⟩), .slice va2 L.length vc2, .pointer (some ⟨w4.heap.size, 0, none⟩), .slice a2 H.sp.length k2, .slice a3 (fr H.R).length k3, .bool true, .func (.func 78) #[] #[.pointer (some ⟨Bn, 0, none⟩)], .pointer (some ⟨ab, 0, none⟩), .pointer (some ⟨Bx, 0, none⟩), undef, undef, undef, undef, undef, undef, undef, undef, undef, undef, undef, undef, undef, undef, .tuple #[.pointer (some ⟨p, 0, none⟩), .slice va L.length vc], .int .i64 pages, .slice sa n c, .tuple #[.pointer (some ⟨p, 0, none⟩), .slice va L.length vc], .pointer (some ⟨p, 0, none⟩), .slice va L.length vc, .tuple #[.pointer (some ⟨p2, 0, none⟩), .slice va2 L.length vc2], .int .i64 pages, .slice sa n c, .tuple #[.pointer (some ⟨p2, 0, none⟩), .slice va2 L.length vc2], .pointer (some ⟨p2, 0, none⟩), .slice va2 L.length vc2, .bool true, .bool false, .bool false, .pointer (some ⟨p, 0, none⟩), .bool false, .bool false, .bool false, .pointer (some ⟨p2, 0, none⟩), .bool false, .bool false, .tuple #[.slice a1 n1 k1, .slice a2 H.sp.length k2, .slice a3 (fr H.R).length k3, .bool true], .pointer (some ⟨p, 0, none⟩), .tuple #[.slice a1 n1 k1, .slice a2 H.sp.length k2, .slice a3 (fr H.R).length k3, .bool true], .slice a1 n1 k1, .slice a2 H.sp.length k2, .slice a3 (fr H.R).length k3, .bool true, .pointer (some ⟨p, 0, none⟩), .func (.func 78) #[] #[.pointer (some ⟨Bn, 0, none⟩)], .func (.func 78) #[] #[.pointer (some ⟨Bn, 0, none⟩)], .bool false, .pointer (some ⟨p, 0, none⟩), r6, .func (.func 78) #[] #[.pointer (some ⟨Bn, 0, none⟩)], .agg #[.int .i64 x.1, .int .i64 x.2.1, .int .i64 x.2.2, .slice none 0 0], undef, undef, undef, undef, undef, undef, undef, undef, undef, undef, undef, undef, undef, undef, undef, undef, undef, undef, undef, undef, undef, undef, undef, undef, undef, undef, undef, undef, undef, undef, undef, undef, undef, undef, undef, undef, undef, undef, undef, undef, undef, undef, undef, undef, undef, undef, undef, undef, undef, undef, undef, undef, undef, undef, undef, undef, undef, undef, undef, undef, undef, undef, undef, undef, undef, undef, undef, undef, undef, undef, undef, undef, undef, undef, undef, undef, undef, undef, undef, undef, undef, undef, undef, undef, undef, undef, undef, undef, undef, undef, undef, undef, undef, undef, undef, undef, undef, undef], defers := [] })
    (fun x a' _ X Y row hs hg hr => by obtain ⟨Bx, h2, h3⟩ := hs; exact ⟨Bx, rowAt_own Bx 34 (fun _ : Unit => #[.int .i64 x.1, .int .i64 x.2.1, .int .i64 x.2.2, .slice none 0 0]) () X Y row h2 hg (fun r e => (hr r e).2), h3⟩)
    ?assign1 ?body1 ?done1 ?stop1
  case assign1 =>
    rintro l pre x W K hI hK
    clear HG HI1 HI2 HE5 HX25 HW1 HB5 HL5 HO5 HV5 HW2 HS5 HT HTl HTp HZ5 HBn HLo HVo HK6 HJ HSa HS2 HG4 HS4 HN HT6 HKW HwW HTs HPn Hob hgb
    gi_wp2
    exact hK _ _ ((KeepsOthers.alloc _ _).from _) (Kl.of_ext0 (Ext.alloc [] _ _)) (hJO.alloc _ hI) ⟨W.heap.size, heap_alloc_new _ _, rfl⟩
  case body1 =>
    rintro l pre x a' W hl ⟨r, hr⟩ hJ ⟨Bx, bX, rfl⟩ hlt
    obtain ⟨v, bC, hrow, _⟩ := hJ.has
    have HJw := hid hJ
    have hWs := hJ.size
    have hc := Boxed.cell bC
    have c0 : W.cell? ⟨Bx, 0, none⟩ = some (.int .i64 x.1) := by rw [cell_of_row _ _ _ _ _ _ bX]; rfl
    have c1 : W.cell? ⟨Bx, 1, none⟩ = some (.int .i64 x.2.1) := by rw [cell_of_row _ _ _ _ _ _ bX]; rfl
    have c2 : W.cell? ⟨Bx, 2, none⟩ = some (.int .i64 x.2.2) := by rw [cell_of_row _ _ _ _ _ _ bX]; rfl
    have c3 : W.cell? ⟨Bx, 3, none⟩ = some (.slice none 0 0) := by rw [cell_of_row _ _ _ _ _ _ bX]; rfl
    have Hpl : Hid (pre.length + 1 ≤ n1 ∧ pre.length + 1 ≤ 100000) := by have := HN.out; show _ ∧ _; omega
    have hxr : ∀ j u, (obc x)[j]? = some u → (W.alloc (.cells #[.int .i64 x.1, .int .i64 x.2.1, .int .i64 x.2.2, .slice none 0 0] 34)).cell? ((⟨W.heap.size, 0, none⟩ : Addr).add j) = some u := fun j u hu => by
      rw [Addr.add_lit, cell_of_row _ _ _ _ _ _ (heap_alloc_new W _), Nat.zero_add, ← hu]; simp [obc]
    have HX := hid hxr
    have HC := hid bC
    have Hrow := hid hrow
    obtain ⟨i0, hi, hz0, hz1', hz2⟩ := info_parts info34
    have HI0 := hid hi
    have HZ0 := hid hz0
    clear bC hrow hxr bX hr hi hz0 hJ hlt
    gi_wp2_with (gi_at_builtin; refine wpListIn_append_own _ rfl _ _ 28 rfl W6.heap.size 34 i0 _ 4 48 Tryd.underlying28 HI0.out HZ0.out hz1' hz2 rfl (by decide) _ _ _ rfl (Hrow.out.alloc _) ⟨W.heap.size, 0, none⟩ 1 1 (obc x) rfl rfl HX.out (by simp [obc, Value.oneCell']) (by have := Hpl.out; unfold maxLen; omega) (by have := Hpl.out; omega) (by simp; omega) ?_; intro v' w9 hown' hgrow _; obtain ⟨g', cap', rfl⟩ := ownsRow_succ hown'; obtain ⟨hv1, hv2, hst⟩ := coll_step (W0 := cutW W W6.heap.size) (t := 28) (e := 34) (s := 4) (x := x) (f := obc) (by decide) HC.out (by rw [cutW_size hWs]; exact Hrow.out) (cutW_ext hWs) (by rw [cutW_size hWs]; have := HSa.out; omega) (by rw [cutW_size hWs]; exact hown') hgrow; have hc1 := hv1.cell; have hf1 := hv1.frozen; have hj' := jq_step HT6.out HwW.out.1 HwW.out.2 HJw.out hst (by have := hgrow.size; simp at this ⊢; omega); have hc2 : Boxed _ w1.heap.size 23 _ := (HKW.out _ _ hj' _ HTs.out.1).trans HB5.out; have hc3 := hc2.cell; have Hst := hid hst; have HJ2 := hid hj'; clear hst hj' hv1 hv2 hc2)
    refine ⟨trivial, ((callsIn_wide.2 (jq_alloc 8 1 HG.out (fun b hb => (HT6.out b hb).1) HTp.out HPn.out HJ2.out)).inRound l).mono ?_⟩
    rintro e W' ⟨⟨r7, rfl⟩, hj3, hk3, _⟩
    obtain ⟨v3, b3, hr3, _⟩ := hj3.has
    obtain ⟨a7, k7, rfl, _⟩ := own_slice hr3
    have hd1 := b3.cell
    have hd2 := (show Boxed W' w4.heap.size 28 _ from (HKW.out _ _ hj3 _ HTs.out.2.1).trans HL5.out).cell
    have HJ3 := hid hj3
    have HK3 := hid hk3
    have hnl : (pre ++ [x]).length ≤ n1 := by have := Hpl.out; simp; omega
    generalize hpn : (pre ++ [x]).length = pn at *
    clear hj3 hk3 b3 hr3 hc1 hf1 hc3 c0 c1 c2 c3 hc hWs
    gi_wp2_with fail
    exact ⟨(Hst.out.keeps.from _).trans (HK3.out _), ⟨fun o ho => ((HKW.out _ _ HJ3.out _ HTs.out.2.2).trans (HKW.out _ _ HJw.out _ HTs.out.2.2).symm).trans ho, fun g hg o ho => ((HKW.out _ _ HJ3.out _ (HVo.out g hg)).trans (HKW.out _ _ HJw.out _ (HVo.out g hg)).symm).trans ho⟩, HJ3.out⟩
  case stop1 =>
    rintro D c pre W _ _ h _
    exact h.elim
  rintro D1 zs W8 hD1 hzs hI hK1
  rw [hzs] at hI
  have HJ8 := hid hI
  have HD1 : Hid (W6.heap.size ≤ D1 ∧ W8.heap[D1]? = some (.deferred (some []))) := ⟨hD1, hK1⟩
  have HK8 : Hid (∀ b, T b → W8.heap[b]? = w5.heap[b]?) := HKW.out _ _ hI
  obtain ⟨v8, b8, hr8, _⟩ := hI.has
  obtain ⟨a8, k8, rfl, _⟩ := own_slice hr8
  rw [hn1] at b8 hr8
  have hF2 : ∀ b, (b = p2 ∨ F2 b) → T b := fun b hb => (HT.out b).2 (.inl (by
    have h1 := HS5.out
    rcases hb with rfl | hb
    · have := HI2.out.pn; have := HI2.out.hw.lt; simp at *; omega
    · have h2 := HI2.out.fn b hb; simp at h2; omega))
  have HW8 : Hid (Hw W8 p2 0 97 cs2 F2 H) := HW2.out.keep (B := fun k => ¬ T k) ⟨hI.ext.os.trans HE5.out.os.symm, hI.ext.tape.trans HE5.out.tape.symm, hI.ext.output.trans HE5.out.output.symm, by have h1 := hI.size; have := HSa.out; omega, fun k _ hk => HK8.out k (Classical.not_not.1 hk)⟩ (fun q => q (hF2 _ (.inl rfl))) (fun k hk q => q (hF2 _ (.inr hk)))
  have HB8 := hid b8
  have HR8 := hid hr8
  have HL8 : Hid (Boxed W8 w4.heap.size 28 (.slice a1 n1 k1)) := (HK8.out _ HTs.out.2.1).trans HL5.out
  have HO8 : Hid (W8.ownsRow 0 34 4 (.slice a1 n1 k1) n1 (obcs (objs H.sp))) := by
    refine ⟨HO5.out.1, ?_⟩
    rcases HO5.out.2 with q | ⟨g, cap, cur, z0, z1, z2, z3⟩
    · exact .inl q
    · exact .inr ⟨g, cap, cur, z0, z1, (HK8.out g ((HT.out g).2 (.inl (by have := HG4.out g (by rw [z0]; rfl); have := lt_of_heap z2; have := HS5.out; omega)))).trans z2, z3⟩
  have HB7 : Hid (Boxed W8 w1.heap.size 23 (.pointer (some ⟨p, 0, none⟩))) := (HK8.out _ HTs.out.1).trans HB5.out
  clear hI b8 hr8 hK1 hzs hD1 hF2 hJO hgb
  have K := whole_any HW8.out
  gi_wp2_with fail
  refine ⟨trivial, (callsIn_wide.2 K).mono ?_⟩
  clear K
  rintro e W9 ⟨v1, v2, v3, rfl, o1, o2, o3, g1, g2, g3, hE9⟩
  obtain ⟨d1, m1, rfl, _⟩ := own_slice o1
  obtain ⟨d2, m2, rfl, _⟩ := own_slice o2
  obtain ⟨d3, m3, rfl, _⟩ := own_slice o3
  have HO9 := hid o1
  have HE9 := hid hE9
  have hl9 := (show Boxed W9 w4.heap.size 28 _ from hE9.keep HL8.out (by simp)).cell
  have hb9 := (show Boxed W9 ab 28 _ from hE9.keep HB8.out (by simp)).cell
  have hp9 := (show Boxed W9 w1.heap.size 23 _ from hE9.keep HB7.out (by simp)).cell
  clear o1 o2 o3 g1 g2 g3 hE9
  have HA9 : Hid (Obl W9 (.slice a1 n1 k1) (objs H.sp)) := by
    show W9.ownsRow 0 34 4 _ (objs H.sp).length _
    rw [hn1]; exact own_keep0 HO8.out HE9.out
  have HC9 : Hid (Obl W9 (.slice a8 n1 k8) (objs H.sp)) := by
    show W9.ownsRow 0 34 4 _ (objs H.sp).length _
    have h := own_keep0 HR8.out HE9.out
    rw [hn1]
    refine ⟨h.1, ?_⟩
    rcases h.2 with q | ⟨g, cap, cur, z0, _, z2, z3⟩
    · exact .inl q
    · exact .inr ⟨g, cap, cur, z0, Nat.zero_le _, z2, z3⟩
  have HM : Hid ((objs H.sp).length ≤ 1000000) := by have := HN.out; rw [hn1]; show _ ≤ _; omega
  rw [hn1] at HO9
  gi_wp2_with fail
  refine ⟨trivial, (callsIn_wide.2 (sameObjs_t _ _ _ W9 HA9.out HC9.out HM.out)).mono ?_⟩
  rintro e W10 ⟨rfl, hE10⟩
  have hl10 := (show Boxed W10 w4.heap.size 28 _ from hE10.keep (HE9.out.keep HL8.out (by simp)) (by simp)).cell
  have HE10 := hid (HE9.out.trans hE10)
  replace HA9 := hid (own_keep0 HA9.out hE10)
  replace HO9 := hid (own_keep0 HO9.out hE10)
  clear hE10
  gi_wp2_with fail
  refine ⟨trivial, (callsIn_wide.2 (sameObjs_t _ _ _ W10 HA9.out HO9.out HM.out)).mono ?_⟩
  rintro e W11 ⟨rfl, hE11⟩
  have HE11 := hid (HE10.out.trans hE11)
  have hp11 := (show Boxed W11 w1.heap.size 23 _ from HE11.out.keep HB7.out (by simp)).cell
  clear hE11 hl9 hb9 hp9 hl10
  have HX11 := hid (HJ8.out.ext.trans HE11.out)
  have HM11 : Hid (W11.heap[D1]? = some (.deferred (some []))) := HE11.out.keep HD1.out.2 (by simp)
  have HwD : Hid (w.heap.size ≤ D1) := Nat.le_trans HwW.out.1 HD1.out.1
  by_cases hin : 0 ≤ at0 ∧ at0 < L.length
  rotate_left
  · gi_wp2_with fail
    all_goals exact leaves_marks [D1] _ (fun D hD => by simp only [List.mem_singleton] at hD; subst hD; exact HM11.out) (by simp) (fun W' hX => ⟨_, results_tmp rfl _ _ _, rfl, HX11.out.on hX (by have := HwD.out; simp; omega)⟩)
  obtain ⟨i, rfl⟩ : ∃ i : Nat, at0 = i := ⟨at0.toNat, by omega⟩
  have hil : i < L.length := by omega
  have HV8 : Hid (Gv W8 (.slice va L.length vc) L) := by
    refine ⟨HV5.out.1, ?_⟩
    rcases HV5.out.2 with q | ⟨g, cap, cur, z0, z1, z2, z3⟩
    · exact .inl q
    · exact .inr ⟨g, cap, cur, z0, z1, (HK8.out g ((HT.out g).2 (.inr (by rw [z0]; rfl)))).trans z2, z3⟩
  have hgt := (HV8.out.keep0 HE11.out).at_ (by omega)
  obtain ⟨g, gc, hgv, _, hcell⟩ := hgt
  simp only [Value.slice.injEq] at hgv
  obtain ⟨rfl, hgv1, rfl⟩ := hgv
  clear hgv1
  have hc0 := hcell i hil
  obtain ⟨b, hb⟩ : ∃ b, b = L.getD i 0 := ⟨_, rfl⟩
  rw [← hb] at hc0
  clear hcell hb hin
  obtain ⟨F', H', hw8, _⟩ := HJ8.out.hz
  have HWx := hid (hw8.keep0 HE11.out)
  have HOK := hid hw8.ok
  clear hw8
  have KI : ∀ u, Ext [] W11 u → Calls Tryd.prog 12 #[.pointer (some ⟨p, 0, none⟩), .int .i64 b] u (fun e w' => ∃ A T E : Int, e = .returned (.tuple #[.agg #[.int .i64 A, .int .i64 (szO H' b), .int .i64 T, .slice none 0 0], .int .i64 E]) ∧ Ext [] u w' ∧ (∀ a : Addr, (u.cell? a).isSome = true → w'.cell? a = u.cell? a) ∧ ∀ a : Addr, (u.cell? a).isSome = true → w'.frozen? a = u.frozen? a) := fun u hu => (hinfo_w b u (HWx.out.keep0 hu)).mono (by
    rintro e w' ⟨rfl, hE⟩
    obtain ⟨A, T, E, he⟩ := infV_sz H' b
    rw [he]
    exact ⟨A, T, E, rfl, hE, hE.celleq, hE.frzeq⟩)
  have KR : Hid (∀ u, Ext [] W11 u → Calls Tryd.prog 13 #[.pointer (some ⟨p, 0, none⟩), .int .i64 b, .int .i64 (szO H' b)] u (fun e w' => ∃ ra, ∃ E : Int, e = .returned (.tuple #[.slice ra (rdO H' b).length (rdO H' b).length, .int .i64 E]) ∧ Hid (Bs u w' ra (rdO H' b)) ∧ Ext [] u w')) := fun u hu => (hread_w b (szO H' b) u (HWx.out.keep0 hu)).mono (by
    rintro e w' ⟨ra, rfl, h1, hE⟩
    exact ⟨ra, _, rfl, h1, hE⟩)
  have HRl := hid (rdO_len HOK.out b)
  clear HA9 HC9 HO9 HM HE10 HE9 HL8 HB8 HR8 HO8 HB7 HW8 HV8 HK8 HJ8 HKW HT6 HwW HN Hob HTs HPn HSa HJ HK6 HVo HLo HBn HZ5 HTp HTl HT HS5 HW2 HV5 HO5 HL5 HB5 HW1 HX25 HE5 HS3 HS4 HG4 HS2 HI2 HI1 HD1 HWx HOK HG hn1
  generalize L.length = ln at *
  have hiN : (i : Int) < (ln : Nat) := by omega
  generalize szO H' b = sz at *
  gi_wp2_with fail
  refine wpIn_out (R := fun aa w2 => ∃ (zb : Nat) (A T E : Int), aa = { tmps := #[.int .i64 pages, .slice sa n c, .int .i64 (i : Int), undef, undef, undef, .bool false, .pointer (some ⟨w1.heap.size, 0, none⟩), .slice (some ⟨g, 0, none⟩) ln vc, .pointer (some ⟨p2, 0, none⟩), .slice va2 ln vc2, .pointer (some ⟨w4.heap.size, 0, none⟩), .slice a2 H.sp.length k2, .slice a3 (fr H.R).length k3, .bool true, .func (.func 78) #[] #[.pointer (some ⟨Bn, 0, none⟩)], .pointer (some ⟨ab, 0, none⟩), undef, .slice d1 n1 m1, .slice d2 H.sp.length m2, .slice d3 (fr H.R).length m3, .bool true, .pointer (some ⟨zb, 0, none⟩), .int .i64 E, undef, undef, undef, undef, undef, undef, undef, undef, .tuple #[.pointer (some ⟨p, 0, none⟩), .slice (some ⟨g, 0, none⟩) ln vc], .int .i64 pages, .slice sa n c, .tuple #[.pointer (some ⟨p, 0, none⟩), .slice (some ⟨g, 0, none⟩) ln vc], .pointer (some ⟨p, 0, none⟩), .slice (some ⟨g, 0, none⟩) ln vc, .tuple #[.pointer (some ⟨p2, 0, none⟩), .slice va2 ln vc2], .int .i64 pages, .slice sa n c, .tuple #[.pointer (some ⟨p2, 0, none⟩), .slice va2 ln vc2], .pointer (some ⟨p2, 0, none⟩), .slice va2 ln vc2, .bool true, .bool false, .bool false, .pointer (some ⟨p, 0, none⟩), .bool false, .bool false, .bool false, .pointer (some ⟨p2, 0, none⟩), .bool false, .bool false, .tuple #[.slice a1 n1 k1, .slice a2 H.sp.length k2, .slice a3 (fr H.R).length k3, .bool true], .pointer (some ⟨p, 0, none⟩), .tuple #[.slice a1 n1 k1, .slice a2 H.sp.length k2, .slice a3 (fr H.R).length k3, .bool true], .slice a1 n1 k1, .slice a2 H.sp.length k2, .slice a3 (fr H.R).length k3, .bool true, .pointer (some ⟨p, 0, none⟩), .func (.func 78) #[] #[.pointer (some ⟨Bn, 0, none⟩)], .func (.func 78) #[] #[.pointer (some ⟨Bn, 0, none⟩)], .bool false, .pointer (some ⟨p, 0, none⟩), r6, .func (.func 78) #[] #[.pointer (some ⟨Bn, 0, none⟩)], undef, undef, undef, undef, undef, undef, undef, undef, undef, undef, undef, undef, .tuple #[.slice d1 n1 m1, .slice d2 H.sp.length m2, .slice d3 (fr H.R).length m3, .bool true], .pointer (some ⟨p2, 0, none⟩), .tuple #[.slice d1 n1 m1, .slice d2 H.sp.length m2, .slice d3 (fr H.R).length m3, .bool true], .slice d1 n1 m1, .slice d2 H.sp.length m2, .slice d3 (fr H.R).length m3, .bool true, .bool true, .bool false, .bool false, .bool true, .bool false, .bool false, .bool false, .slice a1 n1 k1, .slice a8 n1 k8, .bool true, .bool false, .bool false, .bool false, .slice a1 n1 k1, .slice d1 n1 m1, .bool true, .bool false, .bool false, .int .i64 (i : Int), .bool (decide ((i : Int) < 0)), .bool (decide ((i : Int) < 0)), .int .i64 (i : Int), .slice (some ⟨g, 0, none⟩) ln vc, .int .i64 ↑ln, .bool false, .bool (decide ((i : Int) < 0)), .tuple #[.agg #[.int .i64 A, .int .i64 sz, .int .i64 T, .slice none 0 0], .int .i64 E], .pointer (some ⟨p, 0, none⟩), .slice (some ⟨g, 0, none⟩) ln vc, .int .i64 (i : Int), .pointer (some ⟨g, i, none⟩), .int .i64 b, .tuple #[.agg #[.int .i64 A, .int .i64 sz, .int .i64 T, .slice none 0 0], .int .i64 E], .agg #[.int .i64 A, .int .i64 sz, .int .i64 T, .slice none 0 0], .int .i64 E, undef, undef, undef, undef, undef, undef, undef, undef, undef, undef, undef, undef, undef, undef, undef, undef, undef, undef, undef, undef, undef, undef, undef, undef, undef, undef, undef, undef, undef, undef, undef, undef, undef, undef, undef, undef, undef, undef, undef, undef, undef, undef, undef, undef, undef], defers := [{ target := .collected D1, args := #[] }] } ∧ w2.cell? ⟨zb, 1, none⟩ = some (.int .i64 sz) ∧ Ext [] W11 w2) ?reg21 ?_
  case reg21 =>
    go_region_held3 (fun u => u.cell? ⟨w1.heap.size, 0, none⟩ = some (.pointer (some ⟨p, 0, none⟩)) ∧ u.cell? ⟨g, i, none⟩ = some (.int .i64 b))
      (first | exact ⟨Ext.cell (by (repeat (first | (with_reducible exact Ext.refl [] _) | (with_reducible exact Ext.drew [] _) | (with_reducible exact Ext.alloc [] _ _) | (with_reducible assumption) | (with_reducible refine Ext.trans ?_ (Ext.drew [] _)) | (with_reducible refine Ext.trans ?_ (Ext.alloc [] _ _)) | (with_reducible refine Ext.trans ?_ (by assumption)) | fail "no chain"))) hp11 (by simp), Ext.cell (by (repeat (first | (with_reducible exact Ext.refl [] _) | (with_reducible exact Ext.drew [] _) | (with_reducible exact Ext.alloc [] _ _) | (with_reducible assumption) | (with_reducible refine Ext.trans ?_ (Ext.drew [] _)) | (with_reducible refine Ext.trans ?_ (Ext.alloc [] _ _)) | (with_reducible refine Ext.trans ?_ (by assumption)) | fail "no chain"))) hc0 (by simp)⟩ | exact keep_two (w1 := W11) (by (repeat (first | (with_reducible exact Ext.refl [] _) | (with_reducible exact Ext.drew [] _) | (with_reducible exact Ext.alloc [] _ _) | (with_reducible assumption) | (with_reducible refine Ext.trans ?_ (Ext.drew [] _)) | (with_reducible refine Ext.trans ?_ (Ext.alloc [] _ _)) | (with_reducible refine Ext.trans ?_ (by assumption)) | fail "no chain"))) (Ext.size (S := []) (by (repeat (first | (with_reducible exact Ext.refl [] _) | (with_reducible exact Ext.drew [] _) | (with_reducible exact Ext.alloc [] _ _) | (with_reducible assumption) | (with_reducible refine Ext.trans ?_ (Ext.drew [] _)) | (with_reducible refine Ext.trans ?_ (Ext.alloc [] _ _)) | (with_reducible refine Ext.trans ?_ (by assumption)) | fail "no chain")))) hp11 hc0 _ _ _ _ | go_keep)
      (first | (go_at_call 12; (with_reducible refine Calls.mono (KI _ ?_) ?_); (repeat (first | (with_reducible exact Ext.refl [] _) | (with_reducible exact Ext.drew [] _) | (with_reducible exact Ext.alloc [] _ _) | (with_reducible assumption) | (with_reducible refine Ext.trans ?_ (Ext.drew [] _)) | (with_reducible refine Ext.trans ?_ (Ext.alloc [] _ _)) | (with_reducible refine Ext.trans ?_ (by assumption)) | fail "no chain")); rintro e wt ⟨A, T, E, rfl, hEt, ct, ft⟩) | fail "no arm")
    all_goals
      refine ⟨rfl, _, A, T, E, rfl, ?_, ?_⟩
      · go_simp
      · first
          | exact ext_res (by (repeat (first | (with_reducible exact Ext.refl [] _) | (with_reducible exact Ext.drew [] _) | (with_reducible exact Ext.alloc [] _ _) | (with_reducible assumption) | (with_reducible refine Ext.trans ?_ (Ext.drew [] _)) | (with_reducible refine Ext.trans ?_ (Ext.alloc [] _ _)) | (with_reducible refine Ext.trans ?_ (by assumption)) | fail "no chain"))) (Ext.size (S := []) (by (repeat (first | (with_reducible exact Ext.refl [] _) | (with_reducible exact Ext.drew [] _) | (with_reducible exact Ext.alloc [] _ _) | (with_reducible assumption) | (with_reducible refine Ext.trans ?_ (Ext.drew [] _)) | (with_reducible refine Ext.trans ?_ (Ext.alloc [] _ _)) | (with_reducible refine Ext.trans ?_ (by assumption)) | fail "no chain")))) _ _ _ _
          | ((repeat (first | (with_reducible exact Ext.refl [] _) | (with_reducible exact Ext.drew [] _) | (with_reducible exact Ext.alloc [] _ _) | (with_reducible assumption) | (with_reducible refine Ext.trans ?_ (Ext.drew [] _)) | (with_reducible refine Ext.trans ?_ (Ext.alloc [] _ _)) | (with_reducible refine Ext.trans ?_ (by assumption)) | fail "no chain")); done)
  rintro a2 W12 ⟨zb, A, T, E, rfl, hz1, hE12⟩
  have hp12 := hE12.cell hp11 (by simp)
  have hc12 := hE12.cell hc0 (by simp)
  have HE12 := hid hE12
  have HSG : Hid (g < W11.heap.size ∧ w1.heap.size < W11.heap.size) := ⟨block_lt_of_cell hc0, block_lt_of_cell hp11⟩
  have KR12 := fun u hu => KR.out u (hE12.trans hu)
  generalize hxl : (rdO H' b).length = xl at *
  have HXL := hid hxl
  clear hE12 hp11 hc0 hxl KI
  gi_wp2_with fail
  refine wpIn_out (R := fun aa w2 => ∃ ra, ∃ E2 : Int, aa = { tmps := #[.int .i64 pages, .slice sa n c, .int .i64 (i : Int), undef, undef, undef, .bool false, .pointer (some ⟨w1.heap.size, 0, none⟩), .slice (some ⟨g, 0, none⟩) ln vc, .pointer (some ⟨p2, 0, none⟩), .slice va2 ln vc2, .pointer (some ⟨w4.heap.size, 0, none⟩), .slice a2 H.sp.length k2, .slice a3 (fr H.R).length k3, .bool true, .func (.func 78) #[] #[.pointer (some ⟨Bn, 0, none⟩)], .pointer (some ⟨ab, 0, none⟩), undef, .slice d1 n1 m1, .slice d2 H.sp.length m2, .slice d3 (fr H.R).length m3, .bool true, .pointer (some ⟨zb, 0, none⟩), .int .i64 E, .slice ra xl xl, .int .i64 E2, undef, undef, undef, undef, undef, undef, .tuple #[.pointer (some ⟨p, 0, none⟩), .slice (some ⟨g, 0, none⟩) ln vc], .int .i64 pages, .slice sa n c, .tuple #[.pointer (some ⟨p, 0, none⟩), .slice (some ⟨g, 0, none⟩) ln vc], .pointer (some ⟨p, 0, none⟩), .slice (some ⟨g, 0, none⟩) ln vc, .tuple #[.pointer (some ⟨p2, 0, none⟩), .slice va2 ln vc2], .int .i64 pages, .slice sa n c, .tuple #[.pointer (some ⟨p2, 0, none⟩), .slice va2 ln vc2], .pointer (some ⟨p2, 0, none⟩), .slice va2 ln vc2, .bool true, .bool false, .bool false, .pointer (some ⟨p, 0, none⟩), .bool false, .bool false, .bool false, .pointer (some ⟨p2, 0, none⟩), .bool false, .bool false, .tuple #[.slice a1 n1 k1, .slice a2 H.sp.length k2, .slice a3 (fr H.R).length k3, .bool true], .pointer (some ⟨p, 0, none⟩), .tuple #[.slice a1 n1 k1, .slice a2 H.sp.length k2, .slice a3 (fr H.R).length k3, .bool true], .slice a1 n1 k1, .slice a2 H.sp.length k2, .slice a3 (fr H.R).length k3, .bool true, .pointer (some ⟨p, 0, none⟩), .func (.func 78) #[] #[.pointer (some ⟨Bn, 0, none⟩)], .func (.func 78) #[] #[.pointer (some ⟨Bn, 0, none⟩)], .bool false, .pointer (some ⟨p, 0, none⟩), r6, .func (.func 78) #[] #[.pointer (some ⟨Bn, 0, none⟩)], undef, undef, undef, undef, undef, undef, undef, undef, undef, undef, undef, undef, .tuple #[.slice d1 n1 m1, .slice d2 H.sp.length m2, .slice d3 (fr H.R).length m3, .bool true], .pointer (some ⟨p2, 0, none⟩), .tuple #[.slice d1 n1 m1, .slice d2 H.sp.length m2, .slice d3 (fr H.R).length m3, .bool true], .slice d1 n1 m1, .slice d2 H.sp.length m2, .slice d3 (fr H.R).length m3, .bool true, .bool true, .bool false, .bool false, .bool true, .bool false, .bool false, .bool false, .slice a1 n1 k1, .slice a8 n1 k8, .bool true, .bool false, .bool false, .bool false, .slice a1 n1 k1, .slice d1 n1 m1, .bool true, .bool false, .bool false, .int .i64 (i : Int), .bool (decide ((i : Int) < 0)), .bool (decide ((i : Int) < 0)), .int .i64 (i : Int), .slice (some ⟨g, 0, none⟩) ln vc, .int .i64 ↑ln, .bool false, .bool (decide ((i : Int) < 0)), .tuple #[.agg #[.int .i64 A, .int .i64 sz, .int .i64 T, .slice none 0 0], .int .i64 E], .pointer (some ⟨p, 0, none⟩), .slice (some ⟨g, 0, none⟩) ln vc, .int .i64 (i : Int), .pointer (some ⟨g, i, none⟩), .int .i64 b, .tuple #[.agg #[.int .i64 A, .int .i64 sz, .int .i64 T, .slice none 0 0], .int .i64 E], .agg #[.int .i64 A, .int .i64 sz, .int .i64 T, .slice none 0 0], .int .i64 E, .tuple #[.slice ra xl xl, .int .i64 E2], .pointer (some ⟨p, 0, none⟩), .slice (some ⟨g, 0, none⟩) ln vc, .int .i64 (i : Int), .pointer (some ⟨g, i, none⟩), .int .i64 b, .pointer (some ⟨zb, 1, none⟩), .int .i64 sz, .tuple #[.slice ra xl xl, .int .i64 E2], .slice ra xl xl, .int .i64 E2, undef, undef, undef, undef, undef, undef, undef, undef, undef, undef, undef, undef, undef, undef, undef, undef, undef, undef, undef, undef, undef, undef, undef, undef, undef, undef, undef, undef, undef, undef, undef, undef, undef, undef], defers := [{ target := .collected D1, args := #[] }] } ∧ Hid (Bs W12 w2 ra (rdO H' b)) ∧ Ext [] W12 w2) ?reg22 ?_
  case reg22 =>
    go_region_held3 (fun u => u.cell? ⟨w1.heap.size, 0, none⟩ = some (.pointer (some ⟨p, 0, none⟩)) ∧ u.cell? ⟨g, i, none⟩ = some (.int .i64 b) ∧ u.cell? ⟨zb, 1, none⟩ = some (.int .i64 sz))
      (first | exact ⟨Ext.cell (by (repeat (first | (with_reducible exact Ext.refl [] _) | (with_reducible exact Ext.drew [] _) | (with_reducible exact Ext.alloc [] _ _) | (with_reducible assumption) | (with_reducible refine Ext.trans ?_ (Ext.drew [] _)) | (with_reducible refine Ext.trans ?_ (Ext.alloc [] _ _)) | (with_reducible refine Ext.trans ?_ (by assumption)) | fail "no chain"))) hp12 (by simp), Ext.cell (by (repeat (first | (with_reducible exact Ext.refl [] _) | (with_reducible exact Ext.drew [] _) | (with_reducible exact Ext.alloc [] _ _) | (with_reducible assumption) | (with_reducible refine Ext.trans ?_ (Ext.drew [] _)) | (with_reducible refine Ext.trans ?_ (Ext.alloc [] _ _)) | (with_reducible refine Ext.trans ?_ (by assumption)) | fail "no chain"))) hc12 (by simp), Ext.cell (by (repeat (first | (with_reducible exact Ext.refl [] _) | (with_reducible exact Ext.drew [] _) | (with_reducible exact Ext.alloc [] _ _) | (with_reducible assumption) | (with_reducible refine Ext.trans ?_ (Ext.drew [] _)) | (with_reducible refine Ext.trans ?_ (Ext.alloc [] _ _)) | (with_reducible refine Ext.trans ?_ (by assumption)) | fail "no chain"))) hz1 (by simp)⟩ | go_keep)
      (first | (go_at_call 13; (with_reducible refine Calls.mono (KR12 _ ?_) ?_); (repeat (first | (with_reducible exact Ext.refl [] _) | (with_reducible exact Ext.drew [] _) | (with_reducible exact Ext.alloc [] _ _) | (with_reducible assumption) | (with_reducible refine Ext.trans ?_ (Ext.drew [] _)) | (with_reducible refine Ext.trans ?_ (Ext.alloc [] _ _)) | (with_reducible refine Ext.trans ?_ (by assumption)) | fail "no chain")); rintro e wt ⟨ra, E2, rfl, hBt, hEt⟩) | fail "no arm")
    exact ⟨rfl, ra, E2, rfl, hBt.out.old (Nat.le_refl _), (by (repeat (first | (with_reducible exact Ext.refl [] _) | (with_reducible exact Ext.drew [] _) | (with_reducible exact Ext.alloc [] _ _) | (with_reducible assumption) | (with_reducible refine Ext.trans ?_ (Ext.drew [] _)) | (with_reducible refine Ext.trans ?_ (Ext.alloc [] _ _)) | (with_reducible refine Ext.trans ?_ (by assumption)) | fail "no chain")))⟩
  rintro a2 W13 ⟨ra, E2, rfl, hB13, hE13⟩
  have hp13 := hE13.cell hp12 (by simp)
  have hc13 := hE13.cell hc12 (by simp)
  have hz13 := hE13.cell hz1 (by simp)
  have HE13 := hid hE13
  have HSZ : Hid (zb < W12.heap.size ∧ g < W11.heap.size ∧ w1.heap.size < W11.heap.size) := ⟨block_lt_of_cell hz1, HSG.out⟩
  have KR13 := fun u hu => KR12 u (hE13.trans hu)
  clear hE13 hp12 hc12 hz1 KR12
  gi_wp2_with fail
  refine wpIn_out (R := fun aa w2 => ∃ rb, ∃ E3 : Int, aa = { tmps := #[.int .i64 pages, .slice sa n c, .int .i64 (i : Int), undef, undef, undef, .bool false, .pointer (some ⟨w1.heap.size, 0, none⟩), .slice (some ⟨g, 0, none⟩) ln vc, .pointer (some ⟨p2, 0, none⟩), .slice va2 ln vc2, .pointer (some ⟨w4.heap.size, 0, none⟩), .slice a2 H.sp.length k2, .slice a3 (fr H.R).length k3, .bool true, .func (.func 78) #[] #[.pointer (some ⟨Bn, 0, none⟩)], .pointer (some ⟨ab, 0, none⟩), undef, .slice d1 n1 m1, .slice d2 H.sp.length m2, .slice d3 (fr H.R).length m3, .bool true, .pointer (some ⟨zb, 0, none⟩), .int .i64 E, .slice ra xl xl, .int .i64 E2, .slice rb xl xl, .int .i64 E3, undef, undef, undef, undef, .tuple #[.pointer (some ⟨p, 0, none⟩), .slice (some ⟨g, 0, none⟩) ln vc], .int .i64 pages, .slice sa n c, .tuple #[.pointer (some ⟨p, 0, none⟩), .slice (some ⟨g, 0, none⟩) ln vc], .pointer (some ⟨p, 0, none⟩), .slice (some ⟨g, 0, none⟩) ln vc, .tuple #[.pointer (some ⟨p2, 0, none⟩), .slice va2 ln vc2], .int .i64 pages, .slice sa n c, .tuple #[.pointer (some ⟨p2, 0, none⟩), .slice va2 ln vc2], .pointer (some ⟨p2, 0, none⟩), .slice va2 ln vc2, .bool true, .bool false, .bool false, .pointer (some ⟨p, 0, none⟩), .bool false, .bool false, .bool false, .pointer (some ⟨p2, 0, none⟩), .bool false, .bool false, .tuple #[.slice a1 n1 k1, .slice a2 H.sp.length k2, .slice a3 (fr H.R).length k3, .bool true], .pointer (some ⟨p, 0, none⟩), .tuple #[.slice a1 n1 k1, .slice a2 H.sp.length k2, .slice a3 (fr H.R).length k3, .bool true], .slice a1 n1 k1, .slice a2 H.sp.length k2, .slice a3 (fr H.R).length k3, .bool true, .pointer (some ⟨p, 0, none⟩), .func (.func 78) #[] #[.pointer (some ⟨Bn, 0, none⟩)], .func (.func 78) #[] #[.pointer (some ⟨Bn, 0, none⟩)], .bool false, .pointer (some ⟨p, 0, none⟩), r6, .func (.func 78) #[] #[.pointer (some ⟨Bn, 0, none⟩)], undef, undef, undef, undef, undef, undef, undef, undef, undef, undef, undef, undef, .tuple #[.slice d1 n1 m1, .slice d2 H.sp.length m2, .slice d3 (fr H.R).length m3, .bool true], .pointer (some ⟨p2, 0, none⟩), .tuple #[.slice d1 n1 m1, .slice d2 H.sp.length m2, .slice d3 (fr H.R).length m3, .bool true], .slice d1 n1 m1, .slice d2 H.sp.length m2, .slice d3 (fr H.R).length m3, .bool true, .bool true, .bool false, .bool false, .bool true, .bool false, .bool false, .bool false, .slice a1 n1 k1, .slice a8 n1 k8, .bool true, .bool false, .bool false, .bool false, .slice a1 n1 k1, .slice d1 n1 m1, .bool true, .bool false, .bool false, .int .i64 (i : Int), .bool (decide ((i : Int) < 0)), .bool (decide ((i : Int) < 0)), .int .i64 (i : Int), .slice (some ⟨g, 0, none⟩) ln vc, .int .i64 ↑ln, .bool false, .bool (decide ((i : Int) < 0)), .tuple #[.agg #[.int .i64 A, .int .i64 sz, .int .i64 T, .slice none 0 0], .int .i64 E], .pointer (some ⟨p, 0, none⟩), .slice (some ⟨g, 0, none⟩) ln vc, .int .i64 (i : Int), .pointer (some ⟨g, i, none⟩), .int .i64 b, .tuple #[.agg #[.int .i64 A, .int .i64 sz, .int .i64 T, .slice none 0 0], .int .i64 E], .agg #[.int .i64 A, .int .i64 sz, .int .i64 T, .slice none 0 0], .int .i64 E, .tuple #[.slice ra xl xl, .int .i64 E2], .pointer (some ⟨p, 0, none⟩), .slice (some ⟨g, 0, none⟩) ln vc, .int .i64 (i : Int), .pointer (some ⟨g, i, none⟩), .int .i64 b, .pointer (some ⟨zb, 1, none⟩), .int .i64 sz, .tuple #[.slice ra xl xl, .int .i64 E2], .slice ra xl xl, .int .i64 E2, .tuple #[.slice rb xl xl, .int .i64 E3], .pointer (some ⟨p, 0, none⟩), .slice (some ⟨g, 0, none⟩) ln vc, .int .i64 (i : Int), .pointer (some ⟨g, i, none⟩), .int .i64 b, .pointer (some ⟨zb, 1, none⟩), .int .i64 sz, .tuple #[.slice rb xl xl, .int .i64 E3], .slice rb xl xl, .int .i64 E3, undef, undef, undef, undef, undef, undef, undef, undef, undef, undef, undef, undef, undef, undef, undef, undef, undef, undef, undef, undef, undef, undef, undef], defers := [{ target := .collected D1, args := #[] }] } ∧ Hid (Bs W13 w2 rb (rdO H' b)) ∧ Ext [] W13 w2) ?reg23 ?_
  case reg23 =>
    go_region_held3 (fun u => u.cell? ⟨w1.heap.size, 0, none⟩ = some (.pointer (some ⟨p, 0, none⟩)) ∧ u.cell? ⟨g, i, none⟩ = some (.int .i64 b) ∧ u.cell? ⟨zb, 1, none⟩ = some (.int .i64 sz))
      (first | exact ⟨Ext.cell (by (repeat (first | (with_reducible exact Ext.refl [] _) | (with_reducible exact Ext.drew [] _) | (with_reducible exact Ext.alloc [] _ _) | (with_reducible assumption) | (with_reducible refine Ext.trans ?_ (Ext.drew [] _)) | (with_reducible refine Ext.trans ?_ (Ext.alloc [] _ _)) | (with_reducible refine Ext.trans ?_ (by assumption)) | fail "no chain"))) hp13 (by simp), Ext.cell (by (repeat (first | (with_reducible exact Ext.refl [] _) | (with_reducible exact Ext.drew [] _) | (with_reducible exact Ext.alloc [] _ _) | (with_reducible assumption) | (with_reducible refine Ext.trans ?_ (Ext.drew [] _)) | (with_reducible refine Ext.trans ?_ (Ext.alloc [] _ _)) | (with_reducible refine Ext.trans ?_ (by assumption)) | fail "no chain"))) hc13 (by simp), Ext.cell (by (repeat (first | (with_reducible exact Ext.refl [] _) | (with_reducible exact Ext.drew [] _) | (with_reducible exact Ext.alloc [] _ _) | (with_reducible assumption) | (with_reducible refine Ext.trans ?_ (Ext.drew [] _)) | (with_reducible refine Ext.trans ?_ (Ext.alloc [] _ _)) | (with_reducible refine Ext.trans ?_ (by assumption)) | fail "no chain"))) hz13 (by simp)⟩ | go_keep)
      (first | (go_at_call 13; (with_reducible refine Calls.mono (KR13 _ ?_) ?_); (repeat (first | (with_reducible exact Ext.refl [] _) | (with_reducible exact Ext.drew [] _) | (with_reducible exact Ext.alloc [] _ _) | (with_reducible assumption) | (with_reducible refine Ext.trans ?_ (Ext.drew [] _)) | (with_reducible refine Ext.trans ?_ (Ext.alloc [] _ _)) | (with_reducible refine Ext.trans ?_ (by assumption)) | fail "no chain")); rintro e wt ⟨rb, E3, rfl, hBt, hEt⟩) | fail "no arm")
    exact ⟨rfl, rb, E3, rfl, hBt.out.old (Nat.le_refl _), (by (repeat (first | (with_reducible exact Ext.refl [] _) | (with_reducible exact Ext.drew [] _) | (with_reducible exact Ext.alloc [] _ _) | (with_reducible assumption) | (with_reducible refine Ext.trans ?_ (Ext.drew [] _)) | (with_reducible refine Ext.trans ?_ (Ext.alloc [] _ _)) | (with_reducible refine Ext.trans ?_ (by assumption)) | fail "no chain")))⟩
  rintro a2 W14 ⟨rb, E3, rfl, hB14, hE14⟩
  have hp14 := hE14.cell hp13 (by simp)
  have hc14 := hE14.cell hc13 (by simp)
  have hz14 := hE14.cell hz13 (by simp)
  have HB13 : Hid (Bs W12 W13 ra (rdO H' b)) := hB13.out
  have HB14 := hid hB14.out
  have HS14 : Hid (W11.heap.size ≤ W12.heap.size ∧ W12.heap.size ≤ W13.heap.size ∧ W13.heap.size ≤ W14.heap.size ∧ zb < W12.heap.size ∧ g < W11.heap.size ∧ w1.heap.size < W11.heap.size) := ⟨HE12.out.size, HE13.out.size, hE14.size, HSZ.out⟩
  have HE14 := hid hE14
  obtain ⟨v15, W15, hr15, a15, c15, rfl, hS15, hb15, hE15⟩ := copy_bytes W14 ra xl (rdO H' b) ((HB13.out.keep0 hE14).sl HRl.out.2) (by have := HRl.out.1; have := HXL.out; omega) (W14.alloc (.cells #[] 5)) (Ext.refl _ _) 40
  rw [HXL.out] at hr15
  have HS15 := hid hS15
  have Hb15 := hid hb15
  have HE15 := hid hE15
  have hxn : xl ≤ 262400 := HRl.out.1
  have HXn := hid hxn
  have K26 := book_apart (u0 := W12) (u1 := W13) (u2 := W14) (w := W15) HXL.out hxn HB13.out HB14.out ((HB13.out.keep0 hE14).keep0 hE15) (HB14.out.keep0 hE15) HS14.out.2.1 HS14.out.2.2.1
  clear hE14 hE15 hS15 hb15 hp13 hc13 hz13 hB13 hB14 hxn KR13 HSZ
  gi_wp2_with (gi_at_builtin; refine wpListIn_append_run rfl _ _ 40 rfl _ _ _ rfl rfl hr15 ?_)
  refine ⟨trivial, (callsIn_wide.2 K26).mono ?_⟩
  clear K26
  rintro e W16 ⟨rfl, S16, hS16, hE16⟩
  have hx15 : Ext [] W14 ((W15.alloc (.cells #[.slice ra xl xl, .slice rb xl xl] 40)).alloc (.cells #[.slice none 0 0, .slice none 0 0, .slice (some ⟨W15.heap.size, 0, none⟩) 2 2, .slice none 0 0] 70)) := HE15.out.trans ((Ext.alloc [] _ _).trans (Ext.alloc [] _ _))
  have hn16 : ∀ k, k < W12.heap.size → k ∉ S16 := fun k hk hm => by have := (hS16 k hm).1; omega
  have hz := HS14.out
  have hp16 := hE16.cell (hx15.cell hp14 (by simp)) (hn16 _ (show w1.heap.size < _ by omega))
  have hc16 := hE16.cell (hx15.cell hc14 (by simp)) (hn16 _ (show g < _ by omega))
  have hz16 := hE16.cell (hx15.cell hz14 (by simp)) (hn16 _ (show zb < _ by omega))
  have hx14 := (HE12.out.trans HE13.out).trans HE14.out
  have HX16 : Hid (Ext [] W11 W16) := (hx14.trans hx15).on hE16 (fun x hx => by have := (hS16 x hx).1; omega)
  have HS16 : Hid (Sl W16 a15 (rdO H' b)) := (HS15.out.keep ((Ext.alloc [] _ _).trans (Ext.alloc [] _ _)) (by simp)).keep hE16 (fun ad had hm => by have := (hS16 _ hm).2; have := Hb15.out ad had; omega)
  have HM16 : Hid (W16.heap[D1]? = some (.deferred (some []))) := HX16.out.keep HM11.out (by simp)
  have KR16 := fun u hu => KR.out u (HX16.out.trans hu)
  clear hE16 hS16 hx15 hn16 hz hx14 hp14 hc14 hz14 hr15 HB13 HB14 HS14 HE14 HE15 HE13 HE12 Hb15 HS15 KR
  gi_wp2_with fail
  refine wpIn_out (R := fun aa w2 => ∃ rz, ∃ E9 : Int, aa = { tmps := #[.int .i64 pages, .slice sa n c, .int .i64 (i : Int), undef, undef, undef, .bool false, .pointer (some ⟨w1.heap.size, 0, none⟩), .slice (some ⟨g, 0, none⟩) ln vc, .pointer (some ⟨p2, 0, none⟩), .slice va2 ln vc2, .pointer (some ⟨w4.heap.size, 0, none⟩), .slice a2 H.sp.length k2, .slice a3 (fr H.R).length k3, .bool true, .func (.func 78) #[] #[.pointer (some ⟨Bn, 0, none⟩)], .pointer (some ⟨ab, 0, none⟩), undef, .slice d1 n1 m1, .slice d2 H.sp.length m2, .slice d3 (fr H.R).length m3, .bool true, .pointer (some ⟨zb, 0, none⟩), .int .i64 E, .slice ra xl xl, .int .i64 E2, .slice rb xl xl, .int .i64 E3, .slice a15 xl c15, .pointer (some ⟨W15.heap.size + 1, 0, none⟩), .slice rz xl xl, .int .i64 E9, .tuple #[.pointer (some ⟨p, 0, none⟩), .slice (some ⟨g, 0, none⟩) ln vc], .int .i64 pages, .slice sa n c, .tuple #[.pointer (some ⟨p, 0, none⟩), .slice (some ⟨g, 0, none⟩) ln vc], .pointer (some ⟨p, 0, none⟩), .slice (some ⟨g, 0, none⟩) ln vc, .tuple #[.pointer (some ⟨p2, 0, none⟩), .slice va2 ln vc2], .int .i64 pages, .slice sa n c, .tuple #[.pointer (some ⟨p2, 0, none⟩), .slice va2 ln vc2], .pointer (some ⟨p2, 0, none⟩), .slice va2 ln vc2, .bool true, .bool false, .bool false, .pointer (some ⟨p, 0, none⟩), .bool false, .bool false, .bool false, .pointer (some ⟨p2, 0, none⟩), .bool false, .bool false, .tuple #[.slice a1 n1 k1, .slice a2 H.sp.length k2, .slice a3 (fr H.R).length k3, .bool true], .pointer (some ⟨p, 0, none⟩), .tuple #[.slice a1 n1 k1, .slice a2 H.sp.length k2, .slice a3 (fr H.R).length k3, .bool true], .slice a1 n1 k1, .slice a2 H.sp.length k2, .slice a3 (fr H.R).length k3, .bool true, .pointer (some ⟨p, 0, none⟩), .func (.func 78) #[] #[.pointer (some ⟨Bn, 0, none⟩)], .func (.func 78) #[] #[.pointer (some ⟨Bn, 0, none⟩)], .bool false, .pointer (some ⟨p, 0, none⟩), r6, .func (.func 78) #[] #[.pointer (some ⟨Bn, 0, none⟩)], undef, undef, undef, undef, undef, undef, undef, undef, undef, undef, undef, undef, .tuple #[.slice d1 n1 m1, .slice d2 H.sp.length m2, .slice d3 (fr H.R).length m3, .bool true], .pointer (some ⟨p2, 0, none⟩), .tuple #[.slice d1 n1 m1, .slice d2 H.sp.length m2, .slice d3 (fr H.R).length m3, .bool true], .slice d1 n1 m1, .slice d2 H.sp.length m2, .slice d3 (fr H.R).length m3, .bool true, .bool true, .bool false, .bool false, .bool true, .bool false, .bool false, .bool false, .slice a1 n1 k1, .slice a8 n1 k8, .bool true, .bool false, .bool false, .bool false, .slice a1 n1 k1, .slice d1 n1 m1, .bool true, .bool false, .bool false, .int .i64 (i : Int), .bool (decide ((i : Int) < 0)), .bool (decide ((i : Int) < 0)), .int .i64 (i : Int), .slice (some ⟨g, 0, none⟩) ln vc, .int .i64 ↑ln, .bool false, .bool (decide ((i : Int) < 0)), .tuple #[.agg #[.int .i64 A, .int .i64 sz, .int .i64 T, .slice none 0 0], .int .i64 E], .pointer (some ⟨p, 0, none⟩), .slice (some ⟨g, 0, none⟩) ln vc, .int .i64 (i : Int), .pointer (some { block := g, off := i }), .int .i64 b, .tuple #[.agg #[.int .i64 A, .int .i64 sz, .int .i64 T, .slice none 0 0], .int .i64 E], .agg #[.int .i64 A, .int .i64 sz, .int .i64 T, .slice none 0 0], .int .i64 E, .tuple #[.slice ra xl xl, .int .i64 E2], .pointer (some ⟨p, 0, none⟩), .slice (some ⟨g, 0, none⟩) ln vc, .int .i64 (i : Int), .pointer (some { block := g, off := i }), .int .i64 b, .pointer (some { block := zb, off := 1 }), .int .i64 sz, .tuple #[.slice ra xl xl, .int .i64 E2], .slice ra xl xl, .int .i64 E2, .tuple #[.slice rb xl xl, .int .i64 E3], .pointer (some ⟨p, 0, none⟩), .slice (some ⟨g, 0, none⟩) ln vc, .int .i64 (i : Int), .pointer (some { block := g, off := i }), .int .i64 b, .pointer (some { block := zb, off := 1 }), .int .i64 sz, .tuple #[.slice rb xl xl, .int .i64 E3], .slice rb xl xl, .int .i64 E3, .slice (some ⟨W14.heap.size, 0, none⟩) 0 0, .slice ra xl xl, .slice a15 xl c15, .slice ra xl xl, .slice rb xl xl, .slice (some ⟨W15.heap.size, 0, none⟩) 2 2, .agg #[.slice none 0 0, .slice none 0 0, .slice (some ⟨W15.heap.size, 0, none⟩) 2 2, .slice none 0 0], .bool true, .bool false, .tuple #[.slice rz xl xl, .int .i64 E9], .pointer (some ⟨p, 0, none⟩), .slice (some ⟨g, 0, none⟩) ln vc, .int .i64 (i : Int), .pointer (some ⟨g, i, none⟩), .int .i64 b, .pointer (some ⟨zb, 1, none⟩), .int .i64 sz, .tuple #[.slice rz xl xl, .int .i64 E9], .slice rz xl xl, .int .i64 E9, undef, undef, undef], defers := [{ target := .collected D1, args := #[] }] } ∧ Hid (Bs W16 w2 rz (rdO H' b)) ∧ Ext [] W16 w2) ?reg28 ?_
  case reg28 =>
    go_region_held3 (fun u => u.cell? ⟨w1.heap.size, 0, none⟩ = some (.pointer (some ⟨p, 0, none⟩)) ∧ u.cell? ⟨g, i, none⟩ = some (.int .i64 b) ∧ u.cell? ⟨zb, 1, none⟩ = some (.int .i64 sz))
      (first | exact ⟨Ext.cell (by (repeat (first | (with_reducible exact Ext.refl [] _) | (with_reducible exact Ext.drew [] _) | (with_reducible exact Ext.alloc [] _ _) | (with_reducible assumption) | (with_reducible refine Ext.trans ?_ (Ext.drew [] _)) | (with_reducible refine Ext.trans ?_ (Ext.alloc [] _ _)) | (with_reducible refine Ext.trans ?_ (by assumption)) | fail "no chain"))) hp16 (by simp), Ext.cell (by (repeat (first | (with_reducible exact Ext.refl [] _) | (with_reducible exact Ext.drew [] _) | (with_reducible exact Ext.alloc [] _ _) | (with_reducible assumption) | (with_reducible refine Ext.trans ?_ (Ext.drew [] _)) | (with_reducible refine Ext.trans ?_ (Ext.alloc [] _ _)) | (with_reducible refine Ext.trans ?_ (by assumption)) | fail "no chain"))) hc16 (by simp), Ext.cell (by (repeat (first | (with_reducible exact Ext.refl [] _) | (with_reducible exact Ext.drew [] _) | (with_reducible exact Ext.alloc [] _ _) | (with_reducible assumption) | (with_reducible refine Ext.trans ?_ (Ext.drew [] _)) | (with_reducible refine Ext.trans ?_ (Ext.alloc [] _ _)) | (with_reducible refine Ext.trans ?_ (by assumption)) | fail "no chain"))) hz16 (by simp)⟩ | go_keep)
      (first | (go_at_call 13; (with_reducible refine Calls.mono (KR16 _ ?_) ?_); (repeat (first | (with_reducible exact Ext.refl [] _) | (with_reducible exact Ext.drew [] _) | (with_reducible exact Ext.alloc [] _ _) | (with_reducible assumption) | (with_reducible refine Ext.trans ?_ (Ext.drew [] _)) | (with_reducible refine Ext.trans ?_ (Ext.alloc [] _ _)) | (with_reducible refine Ext.trans ?_ (by assumption)) | fail "no chain")); rintro e wt ⟨rz, E9, rfl, hBt, hEt⟩) | fail "no arm")
    exact ⟨rfl, rz, E9, rfl, hBt.out.old (Nat.le_refl _), (by (repeat (first | (with_reducible exact Ext.refl [] _) | (with_reducible exact Ext.drew [] _) | (with_reducible exact Ext.alloc [] _ _) | (with_reducible assumption) | (with_reducible refine Ext.trans ?_ (Ext.drew [] _)) | (with_reducible refine Ext.trans ?_ (Ext.alloc [] _ _)) | (with_reducible refine Ext.trans ?_ (by assumption)) | fail "no chain")))⟩
  rintro a2 W17 ⟨rz, E9, rfl, hB17, hE17⟩
  have K17 := same_true rz a15 xl xl c15 (rdO H' b) W17 (hB17.out.sl HRl.out.2) (HS16.out.keep hE17 (by simp)) HXL.out (by have := HXn.out; unfold maxLen; omega)
  have HE17 := hid hE17
  clear hE17 hp16 hc16 hz16 KR16 hB17
  gi_wp2_with fail
  refine ⟨trivial, (callsIn_wide.2 K17).mono ?_⟩
  clear K17
  rintro e W18 ⟨rfl, hE18⟩
  have HX18 : Hid (Ext [] w W18) := ((HX11.out.trans HX16.out).trans HE17.out).trans hE18
  have HM18 : Hid (W18.heap[D1]? = some (.deferred (some []))) := (HE17.out.trans hE18).keep HM16.out (by simp)
  clear hE18
  gi_wp2_with fail
  exact leaves_marks [D1] _ (fun D hD => by simp only [List.mem_singleton] at hD; subst hD; exact HM18.out) (by simp) (fun W' hX => ⟨_, results_tmp rfl _ _ _, rfl, HX18.out.on hX (by have := HwD.out; simp; omega)⟩)
end Go.Proofs.YtlajjcboahflbaaDoor

/-
  A sound table stays sound with a further sound type behind it, and its types are what they were: the function TypesMore answers true and leaves its arguments as they were, for every table, every type and every number; the condition is what the program's own table of parts holds when the call begins.
-/
import Derived.Test.YtfjbhpjgidgjaaaDoorPoint
import Derived.Deep.AppendLies
import Derived.Test.YtfjbhpjgidgjaaaDoorOpen
import Derived.Test.YtfjbhpjgidgjaaaDoorCards
import Derived.Test.YtfjbhpjgidgjaaaDoorTie
namespace Go.Proofs.YtfjbhpjgidgjaaaDoor
open Go.RowKit

theorem tab_one {W : World} {H : Nat} {t : Ty} {fa : Option Addr} {fc : Nat} (hb : W.heap[H]? = some (.cells #[.int .i64 t.kind, .int .i64 t.elem, .int .i64 t.key, .int .i64 t.len, .slice fa t.fields.length fc] 48 (0, 0))) (hF : FOk W t fa) : Tab W (some ⟨H, 0, none⟩) [t] := by
  refine ⟨.inr ⟨H, 0, rfl, fun i hi => ⟨fa, fc, ?_⟩⟩, by simp⟩
  obtain rfl : i = 0 := by simp at hi; omega
  have e : tyAt [t] (0 : Nat) = t := rfl
  rw [e]
  refine ⟨?_, ?_, ?_, ?_, ?_, hF⟩ <;> (rw [cell_of_row _ _ _ _ _ _ hb]; rfl)

theorem rows_ext {ts us : List Ty} {G H : Nat → Option Addr × Nat} : ∀ k, (∀ i : Nat, i < k → tyAt ts i = tyAt us i ∧ G i = H i) → rows ts G k = rows us H k
  | 0, _ => rfl
  | k + 1, h => by rw [rows, rows, rows_ext k (fun i hi => h i (by omega)), (h k (by omega)).1, (h k (by omega)).2]

theorem tyAt_left {ts us : List Ty} {i : Nat} (h : i < ts.length) : tyAt (ts ++ us) i = tyAt ts i := by
  simp [tyAt, List.getD, List.getElem?_append_left h]
theorem tyAt_last (ts : List Ty) (m : Ty) : tyAt (ts ++ [m]) (ts.length : Nat) = m := by
  simp [tyAt, List.getD]

/-- What append makes of two copies. -/
theorem long_tab {w0 w : World} {g cap n : Nat} {ts : List Ty} {more : Ty} {G G' : Nat → Option Addr × Nat} (hn : ts.length = n) (hl : n ≤ 64)
    (hO : w.ownsRow w0.heap.size 48 5 (.slice (some ⟨g, 0, none⟩) (n + 1) cap) (n + 1) (rows ts G n ++ rows [more] G' 1)) (hF : Fs w0 w ts G n) (hF' : Fs w0 w [more] G' 1) (hfl : ∀ i, i < n → (tyAt ts i).fields.length ≤ 17592186044416) (hfm : more.fields.length ≤ 17592186044416) :
    Tab w (some ⟨g, 0, none⟩) (ts ++ [more]) := by
  have hr : rows ts G n ++ rows [more] G' 1 = rows (ts ++ [more]) (fun i => if i < n then G i else G' 0) (n + 1) := by
    have h1 : rows (ts ++ [more]) (fun i => if i < n then G i else G' 0) n = rows ts G n := rows_ext n (fun i hi => ⟨tyAt_left (by omega), by simp [hi]⟩)
    rw [show rows (ts ++ [more]) (fun i => if i < n then G i else G' 0) (n + 1) = rows (ts ++ [more]) (fun i => if i < n then G i else G' 0) n ++ tyRow (tyAt (ts ++ [more]) (n : Nat)) (if n < n then G n else G' 0) from rfl, h1]
    congr 1
    subst hn
    rw [tyAt_last]
    simp [rows, tyAt]
  rw [hr] at hO
  have hcp : Cp w0 w (some ⟨g, 0, none⟩) (n + 1) cap (ts ++ [more]) (fun i => if i < n then G i else G' 0) := ⟨hO, fun i hi => by
    by_cases e : i < n
    · simp only [e, if_true]
      rw [tyAt_left (by omega)]
      exact hF i e
    · obtain rfl : i = n := by omega
      simp only [Nat.lt_irrefl, if_false]
      subst hn
      rw [tyAt_last]
      exact hF' 0 (by omega)⟩
  refine hcp.tab (by simp [hn]) (by omega) (fun i hi => ?_)
  by_cases e : i < n
  · rw [tyAt_left (by omega)]; exact hfl i e
  · obtain rfl : i = n := by omega
    subst hn
    rw [tyAt_last]; exact hfm

theorem Fs.keep {S : List Nat} {w0 w w' : World} {ts : List Ty} {G : Nat → Option Addr × Nat} {k : Nat} (h : Fs w0 w ts G k) (e : Ext S w w') (hs : ∀ q ∈ S, ∃ cur, w.heap[q]? = some (.cells cur 48 (0, 0))) : Fs w0 w' ts G k := fun i hi =>
  own_keep (h i hi) e (fun q hq => by obtain ⟨cur, hc⟩ := hs q hq; exact own_ne (h i hi) hc (by decide))
theorem Fs.base {w0 w1 w : World} {ts : List Ty} {G : Nat → Option Addr × Nat} {k : Nat} (h : Fs w1 w ts G k) (hb : w0.heap.size ≤ w1.heap.size) : Fs w0 w ts G k := fun i hi => own_base (h i hi) hb

/-- A copy of one type lies somewhere. -/
theorem one_at {w0 w : World} {a : Option Addr} {c : Nat} {t : Ty} {G : Nat → Option Addr × Nat} (h : Cp w0 w a 1 c [t] G) : ∃ g, a = some ⟨g, 0, none⟩ ∧ ∀ j u, (rows [t] G 1)[j]? = some u → w.cell? ((⟨g, 0, none⟩ : Addr).add j) = some u := by
  rcases h.own.2 with ⟨_, h2⟩ | ⟨g, cap, cur, h0, h1, h2, h3, h4, h5, h6⟩
  · omega
  · cases h0
    refine ⟨g, rfl, fun j u hu => ?_⟩
    have hj : j < 5 := by have := (List.getElem?_eq_some_iff.1 hu).1; rw [length_rows] at this; omega
    rw [Addr.add_lit, Nat.zero_add, cell_of_row w g _ _ _ _ h2, ← hu, ← h6, List.getElem?_take, if_pos (by omega)]
    simp

theorem rows_one (ts : List Ty) (G : Nat → Option Addr × Nat) : ∀ k, ∀ u ∈ rows ts G k, u.oneCell' = true
  | 0, u, h => by simp [rows] at h
  | k + 1, u, h => by
    rw [rows, List.mem_append] at h
    rcases h with h | h
    · exact rows_one ts G k u h
    · simp only [tyRow, List.mem_cons, List.not_mem_nil, or_false] at h
      rcases h with rfl | rfl | rfl | rfl | rfl <;> rfl

set_option maxRecDepth 100000 in
set_option maxHeartbeats 2000000 in
theorem moreOf (a : Option Addr) (ts : List Ty) (n c : Nat) (more : Ty) (fa : Option Addr) (fc : Nat) (t : Int) (w : World) (hT : Tab w a ts) (hn : ts.length = n) (hF : FOk w more fa) (hG : Gl w) :
    Calls Tryd.prog 7 #[.slice a n c, tyVal more fa fc, .int .i64 t] w (SayPost w (.bool true)) := by
  unfold tyVal
  have HN := hid hn
  have hfl : ∀ i, i < n → (tyAt ts i).fields.length ≤ 17592186044416 := fun i hi => by
    obtain ⟨b, o, _, h2⟩ := hT.addr (by omega)
    obtain ⟨fa, fc, h3⟩ := h2 i (by omega)
    exact h3.f.2
  have HFL := hid hfl
  have hE0 := Ext.alloc [] w (.cells #[.int .i64 more.kind, .int .i64 more.elem, .int .i64 more.key, .int .i64 more.len, .slice fa more.fields.length fc] 48)
  have HB0 := hid (Boxed.new w more fa fc)
  have HT := hid (hT.keep0 hE0)
  have HF := hid (hF.keep0 hE0)
  have HG := hid (hG.keep0 hE0)
  have HE0 := hid hE0
  clear hT hn hF hG hE0 hfl
  go_enter Tryd.func7, Tryd.ntmps7
  go_wp2_with fail
  generalize w.alloc (.cells #[.int .i64 more.kind, .int .i64 more.elem, .int .i64 more.key, .int .i64 more.len, .slice fa more.fields.length fc] 48) = w0 at *
  refine (awake_any w0 HG.out).mono ?_
  rintro e w1 ⟨rfl, hE1⟩
  have HE1 := hid hE1
  clear hE1
  go_wp2_with fail
  refine (copy_any a ts n c w1 (HT.out.keep0 HE1.out) HN.out).mono ?_
  rintro e w2 ⟨a2, c2, G2, rfl, hac2, _, hT2, hE2⟩
  have HE2 := hid (HE1.out.trans hE2)
  have HT2 := hid hT2
  clear hE2 hT2 HE1
  go_wp2_with fail
  refine (check_any a2 ts n c2 w2 HT2.out HN.out hac2 (HG.out.keep0 HE2.out)).mono ?_
  rintro e w3 ⟨rfl, hE3⟩
  have HE3 := hid (HE2.out.trans hE3)
  clear hE3 HT2 HE2
  by_cases hs : Sound ts
  · rw [chk_yes hs]
    have HS := hid hs
    have hn64 : n ≤ 64 := by have := hs.1; have := HN.out; omega
    clear hs
    obtain ⟨d0, d1, d2, d3, d4⟩ := HB0.out.keep0 HE3.out
    have HF3 := hid (HF.out.keep0 HE3.out)
    have HT3 := hid (HT.out.keep0 HE3.out)
    obtain ⟨i48, hi, hz0, hz1, hz2⟩ := info_parts info48
    have HD : ∀ W, Ext [] w3 W → (W.cell? ⟨w.heap.size, 0, none⟩ = some (.int .i64 more.kind) ∧ W.cell? ⟨w.heap.size, 1, none⟩ = some (.int .i64 more.elem) ∧ W.cell? ⟨w.heap.size, 2, none⟩ = some (.int .i64 more.key) ∧ W.cell? ⟨w.heap.size, 3, none⟩ = some (.int .i64 more.len) ∧ W.cell? ⟨w.heap.size, 4, none⟩ = some (.slice fa more.fields.length fc)) := fun W h => h.five (by simp) ⟨d0, d1, d2, d3, d4⟩
    have HHD := hid HD
    have KA : ∀ W, Ext [] w3 W → Calls Tryd.prog 11 #[.slice a n c] W (CopyPost W ts n) := fun W h => copy_any a ts n c W (HT3.out.keep0 h) HN.out
    have KB : ∀ W (H : Nat), W.heap[H]? = some (.cells #[.int .i64 more.kind, .int .i64 more.elem, .int .i64 more.key, .int .i64 more.len, .slice fa more.fields.length fc] 48 (0, 0)) → Ext [] w3 W → Calls Tryd.prog 11 #[.slice (some ⟨H, 0, none⟩) 1 1] W (CopyPost W [more] 1) := fun W H hb h => copy_any (some ⟨H, 0, none⟩) [more] 1 1 W (tab_one hb (HF3.out.keep0 h)) rfl
    have HKA := hid KA
    have HKB := hid KB
    have HI := hid hi
    have HZ0 := hid hz0
    clear HD KA KB hi hz0
    go_wp2_with fail
    go_region_held3 (fun w' => w'.cell? ⟨w.heap.size, 0, none⟩ = some (.int .i64 more.kind) ∧ w'.cell? ⟨w.heap.size, 1, none⟩ = some (.int .i64 more.elem) ∧ w'.cell? ⟨w.heap.size, 2, none⟩ = some (.int .i64 more.key) ∧ w'.cell? ⟨w.heap.size, 3, none⟩ = some (.int .i64 more.len) ∧ w'.cell? ⟨w.heap.size, 4, none⟩ = some (.slice fa more.fields.length fc))
      (first | exact HHD.out _ hX6 | exact HHD.out _ hX5 | exact HHD.out _ (hX4.trans (Ext.alloc [] _ _)) | exact HHD.out _ hX4 | exact HHD.out _ ((Ext.drew [] _).trans (Ext.alloc [] _ _)) | exact HHD.out _ (Ext.drew [] _))
      (first
        | (have := HKA; go_at_call 11; refine (HKA.out _ (by first | exact Ext.drew [] _ | exact (Ext.drew [] _).trans (Ext.alloc [] _ _))).mono ?_; clear HKA; rintro e w4 ⟨a4, c4, G4, rfl, hac4, hC4, _, hE4⟩; have hX4 : Ext [] w3 w4 := (by first | exact (Ext.drew [] _).trans hE4 | exact ((Ext.drew [] _).trans (Ext.alloc [] _ _)).trans hE4))
        | (have := HKB; go_at_call 11; refine (HKB.out _ _ (by first | exact heap_alloc_new _ _ | exact hE4.keep (heap_alloc_new _ _) (by simp)) (by first | exact hX4.trans (Ext.alloc [] _ _) | exact hX4)).mono ?_; clear HKB; rintro e w5 ⟨a5, c5, G5, rfl, hac5, hC5, _, hE5⟩; have hX5 : Ext [] w3 w5 := (by first | exact hX4.trans hE5 | exact (hX4.trans (Ext.alloc [] _ _)).trans hE5); obtain ⟨g5, rfl, hnews5⟩ := one_at hC5; have hO4 : w5.ownsRow w3.heap.size 48 5 (.slice a4 n c4) n (rows ts G4 n) := (by first | exact own_keep0 (own_base hC4.own (by simp)) hE5 | exact own_keep0 (own_keep0 (own_base hC4.own (by simp)) (Ext.alloc [] _ _)) hE5); have hF4 : Fs w3 w5 ts G4 n := (by first | exact (hC4.fs.base (by simp)).keep hE5 (by simp) | exact ((hC4.fs.base (by simp)).keep (Ext.alloc [] _ _) (by simp)).keep hE5 (by simp)); have hF5 : Fs w3 w5 [more] G5 1 := hC5.fs.base (by have := hX4.size; simp; omega))
        | (refine step_append_lies _ (by rfl) _ _ _ (by rfl) w3.heap.size 48 i48 _ 5 56 Tryd.underlying22 HI.out HZ0.out hz1 hz2 rfl (by decide) (.slice a4 n c4) n (rows ts G4 n) (by rfl) hO4 ⟨g5, 0, none⟩ 1 c5 (rows [more] G5 1) (by rfl) (by rw [length_rows]) hnews5 (rows_one _ _ _) (by omega) (by unfold maxLen; omega) (by omega) hX5.size _ rfl ?_; intro g cap w6 hO6 hgrow hat hlt; have hX56 : Ext (Value.slice a4 n c4).ownBlock.toList w5 w6 := Ext.grown hgrow (by intro q hq; simp [hq]); have hX6 : Ext [] w3 w6 := hX5.on hX56 (fun x hx => (own_lt hO4 x (by simpa using hx)).1)))
    all_goals
      have hT6 : Tab w6 (some ⟨g, 0, none⟩) (ts ++ [more]) := long_tab HN.out hn64 hO6 (hF4.keep hX56 (fun q hq => own_at hO4 (by simpa using hq))) (hF5.keep hX56 (fun q hq => own_at hO4 (by simpa using hq))) HFL.out HF.out.2
      have hcap : n + 1 ≤ cap := by obtain ⟨_, _, he, hh⟩ := own_slice hO6; cases he; exact hh
      have HT6 := hid hT6
      have HX6 := hid (HE3.out.trans hX6)
      have HNL : Hid ((ts ++ [more]).length = n + 1) := by show _ = _; rw [List.length_append, HN.out]; rfl
      clear hT6 hX6 hX56 hO6 hgrow hat hlt hF4 hF5 hO4 hnews5 hX5 hX4 hC4 hC5 hE4 hE5
      generalize hlong : ts ++ [more] = long at *
      have HLG := hid hlong
      clear hlong
      go_wp2_with fail
      refine (check_any (some ⟨g, 0, none⟩) long (n + 1) cap w6 HT6.out HNL.out hcap (HG.out.keep0 HX6.out)).mono ?_
      rintro e w7 ⟨rfl, hE7⟩
      have HE7 := hid (HX6.out.trans hE7)
      have HT7 := hid (HT6.out.keep0 hE7)
      clear hE7 HT6 HX6
      by_cases hsl : Sound long
      · rw [chk_yes hsl]
        have HSL := hid hsl
        clear hsl
        go_wp2_with fail
        refine (copy_any a ts n c w7 (HT.out.keep0 HE7.out) HN.out).mono ?_
        rintro e w8 ⟨a8, c8, G8, rfl, hac8, _, hT8, hE8⟩
        have HE8 := hid (HE7.out.trans hE8)
        have HL8 := hid (HT7.out.keep0 hE8)
        have HT8 := hid hT8
        clear hE8 hT8 HT7 HE7
        go_wp2_with fail
        refine (pointers_any a8 ts n c8 t w8 HT8.out HN.out hac8 (HG.out.keep0 HE8.out)).mono ?_
        rintro e w9 ⟨pa, pc, rfl, hP9, hE9, _⟩
        have HE9 := hid (HE8.out.trans hE9)
        have HL9 := hid (HL8.out.keep0 hE9)
        have HP9 := hid hP9
        clear hE9 hP9 HL8 HE8 HT8
        go_wp2_with fail
        refine (copy_any (some ⟨g, 0, none⟩) long (n + 1) cap w9 HL9.out HNL.out).mono ?_
        rintro e w10 ⟨a10, c10, G10, rfl, hac10, _, hT10, hE10⟩
        have HE10 := hid (HE9.out.trans hE10)
        have HP10 := hid (HP9.out.keep0 hE10)
        have HT10 := hid hT10
        clear hE10 hT10 HL9 HE9 HP9
        go_wp2_with fail
        refine (pointers_any a10 long (n + 1) c10 t w10 HT10.out HNL.out hac10 (HG.out.keep0 HE10.out)).mono ?_
        rintro e w11 ⟨qa, qc, rfl, hQ11, hE11, _⟩
        have HE11 := hid (HE10.out.trans hE11)
        have HP11 := hid (HP10.out.keep0 hE11)
        have HQ11 := hid hQ11
        clear hE11 hQ11 HT10 HE10 HP10
        by_cases hr : 0 ≤ t ∧ t < n
        · have hb1 : bad ts t = 0 := bad_ok HS.out (by rw [HN.out]; exact hr)
          have hb2 : bad long t = 0 := bad_ok HSL.out (by rw [HNL.out]; omega)
          obtain ⟨j, rfl⟩ : ∃ j : Nat, t = j := ⟨t.toNat, by omega⟩
          have hm : M long j = M ts j := by rw [← HLG.out]; exact M_append ts [more] j (by have := HN.out; omega)
          rw [mo_ok hb1] at HP11 ⊢
          rw [mo_ok hb2, hm] at HQ11 ⊢
          rw [hb1, hb2]
          obtain ⟨hf, h16⟩ := sound_fit HS.out (i := j) (by have := HN.out; omega)
          have hl1 := hf.len
          have hl2 := hf.dw
          have KS := sameBools_true pa qa (M ts j).ptrs.length pc qc (M ts j).ptrs w11 HP11.out HQ11.out rfl (by omega)
          generalize M ts j = m at *
          clear hf h16 hl1 hl2 hm
          go_wp2_with fail
          refine KS.mono ?_
          rintro e w12 ⟨rfl, hE12⟩
          have HE12 := hid ((HE0.out.trans HE11.out).trans hE12)
          clear hE12 KS
          go_wp2_with fail
          go_ret
          exact ⟨rfl, HE12.out⟩
        · have hb1 : bad ts t = 2 := bad_arg HS.out (by rw [HN.out]; exact hr)
          rw [hb1]
          have HEF := hid (HE0.out.trans HE11.out)
          rcases (by omega : t < 0 ∨ (0 ≤ t ∧ n ≤ t)) with h | ⟨h, h'⟩
          · clear hr hb1
            generalize bad long t = y at *
            go_wp2_with fail
            go_ret
            exact ⟨rfl, HEF.out⟩
          · clear hr hb1
            have hd : decide ((n : Int) ≤ t) = true := decide_eq_true (by omega)
            generalize bad long t = y at *
            go_wp2_with fail
            go_ret
            exact ⟨rfl, HEF.out⟩
      · rw [chk_no hsl]
        clear hsl
        go_wp2_with fail
        go_ret
        exact ⟨rfl, HE0.out.trans HE7.out⟩
  · rw [chk_no hs]
    clear hs
    go_wp2_with fail
    refine (awake_any w3 (HG.out.keep0 HE3.out)).mono ?_
    rintro e w4 ⟨rfl, hE4⟩
    have HE4 := hid ((HE0.out.trans HE3.out).trans hE4)
    clear hE4
    go_wp2_with fail
    go_ret
    exact ⟨rfl, HE4.out⟩

end Go.Proofs.YtfjbhpjgidgjaaaDoor

namespace Go.Proofs.YtfjbhpjgidgjaaaDoor.typesMore
open Go.ChangeShapes Go.WideShapes Go.ChangeAt Go.RowKit

set_option maxRecDepth 100000 in
theorem lifted (os : Go.Os) (started : os.Started) (H : Type) (enc : TypeId × Value → H) :
    ReturnsInHanded {} Tryd.checked os 7 .any (fun w args => (Rows.typesMoreSpec.pre enc Tryd.prog Tryd.f7 [] false w args ∧ laidMetH Tryd.prog [("heddle/types.partsOf", Rows.laid_heddle_types_partsOf)] w) ∧ sizedMet enc Tryd.prog Tryd.f7 (OpenSpec.ofChange Rows.typesMoreSpec) false w args)
      (Rows.typesMoreSpec.post enc Tryd.prog Tryd.f7 false true false false) := by
  refine returnsInHanded_of_change_and (C := Tryd.checked) (X := fun w _ => laidMetH Tryd.prog [("heddle/types.partsOf", Rows.laid_heddle_types_partsOf)] w) (fun _ _ _ hh h => h.of_heap hh) own started (by kernel_rfl) Tryd.func7
    (ChangeSpec.witness_shaped (enc := enc) (C := Tryd.checked) (os := os) (X := fun w _ => laidMetH Tryd.prog [("heddle/types.partsOf", Rows.laid_heddle_types_partsOf)] w) false (World.laidAll Tryd.prog os [("heddle/types.partsOf", Rows.laid_heddle_types_partsOf)]) #[.slice none 0 0, .agg #[.int .i64 0, .int .i64 0, .int .i64 0, .int .i64 0, .slice none 0 0], .int .i64 0] 8 (World.laidAll_os _ _ _)
      (World.shaped_of_ZipB (by kernel_rfl) (by kernel_rfl)) (by kernel_rfl) (by kernel_rfl) (by kernel_rfl)
      (by rw [MakeChecks.laidMetH_plain _ _ _ (by kernel_rfl)]; exact laidMet_laidAll _ (by kernel_rfl) (by kernel_rfl))) ?_
  intro W base args ds gs before hval0 hW _ hsz0 hL _
  have hval : ∀ (j : Nat) t v, Tryd.f7.params[j]? = some t → args[j]? = some v → Value.okWide Tryd.prog W .any base t v := hval0
  have hW' := hW
  obtain ⟨p, q, hA0, hV, rfl, hfz, hnd⟩ := hW
  have hA : DataW.TrodAll enc Tryd.prog W 0 (fun _ => true) true Tryd.f7.params.toList args.toList ds p := hA0
  rw [Tryd.params7] at hA hval
  obtain ⟨v0, vs0, d0, ds0, p0, q0, hargs, rfl, rfl, h0, r0⟩ := trodAll_cons hA
  obtain ⟨v1, vs1, d1, ds1, p1, q1, rfl, rfl, rfl, h1, r1⟩ := trodAll_cons r0
  obtain ⟨v2, vs2, d2, ds2, p2, q2, rfl, rfl, rfl, h2, r2⟩ := trodAll_cons r1
  obtain ⟨rfl, rfl, rfl⟩ := trodAll_nil r2
  obtain rfl : args = #[v0, v1, v2] := by cases args; simp_all
  obtain ⟨rfl, rfl⟩ := trodVars_none hV
  obtain ⟨a2, rfl, rfl, rfl, w2⟩ := open_int Tryd.underlying3 (hval 2 3 v2 rfl rfl) h2
  obtain ⟨a0, len0, cap0, rfl⟩ := okWide_slice Tryd.underlying22 (hval 0 22 v0 rfl rfl)
  obtain ⟨cs1, rfl, hcs1⟩ := okWide_struct Tryd.underlying48 (hval 1 48 v1 rfl rfl)
  rw [cells48] at hcs1
  have k0 := h0
  have lt0 : ∀ x ∈ p0, x.block < W.heap.size := by obtain ⟨m, hm⟩ := k0; exact DataW.trod_lt m _ _ _ hm
  have k1 := h1
  have lt1 : ∀ x ∈ p1, x.block < W.heap.size := by obtain ⟨m, hm⟩ := k1; exact DataW.trod_lt m _ _ _ hm
  have hsz : (DataW.weightsEach Tryd.prog [22, 48, 3] [d0, d1, _]).all (· ≤ reachBytes) = true := hsz0
  have hwd : ∀ y ∈ d0.weights Tryd.prog 22, y ≤ 140737488351232 := by
    intro y hy
    have := List.all_eq_true.1 hsz y (DataW.weights_mem_each (j := 0) (t := 22) rfl rfl y hy)
    have h2 := of_decide_eq_true this
    simpa [reachBytes] using h2
  have hwd1 : ∀ y ∈ d1.weights Tryd.prog 48, y ≤ 140737488351232 := by
    intro y hy
    have := List.all_eq_true.1 hsz y (DataW.weights_mem_each (j := 1) (t := 48) rfl rfl y hy)
    have h2 := of_decide_eq_true this
    simpa [reachBytes] using h2
  obtain ⟨fuel, hf⟩ := h0
  obtain ⟨ts, hT, hn, _⟩ := open_table (n := len0) (c := cap0) hf hwd
  obtain ⟨fuel1, hf1⟩ := h1
  have hf1' : DataW.trod enc Tryd.prog W 0 (fun _ => true) true fuel1 48 cs1.toList = some (d1, p1) := hf1
  obtain ⟨more, fa, fc, hcs, hF⟩ := open_cells (by simpa using hcs1) hf1' hwd1
  obtain rfl : cs1 = #[.int .i64 more.kind, .int .i64 more.elem, .int .i64 more.key, .int .i64 more.len, .slice fa more.fields.length fc] := Array.toList_inj.1 hcs
  clear hA0 hval0
  refine (moreOf a0 ts len0 cap0 more fa fc a2 W hT hn hF (gl_of hL)).mono fun e W' ⟨he, hext⟩ => ?_
  subst he
  have bel := hext.below
  exact ⟨_, rfl, _, _, _, [], _, [], hW', trodAll_mk1 (shut_bool Tryd.underlying4 _), (trodAll_cons_mk (Below.trod laidOut (by kernel_rfl) (of_decide_eq_true (by kernel_rfl)) k0 bel lt0) (trodAll_cons_mk (Below.trod laidOut (by kernel_rfl) (of_decide_eq_true (by kernel_rfl)) k1 bel lt1) (trodAll_cons_mk (shut_int Tryd.underlying3 w2) trodAll_mk0))), rfl, bel.frame _, fun h => by cases h⟩

theorem over : Rows.typesMoreRow.holds Tryd.pinned (OpenSpec.ofChange Rows.typesMoreSpec) :=
  OpenClaim.holds_of_wide 7 Tryd.f7 rfl rfl rfl rfl rfl rfl rfl ⟨rfl, rfl, rfl, rfl, rfl⟩ rfl rfl rfl rfl rfl (by kernel_rfl) Tryd.func7 (by kernel_rfl)
    (of_decide_eq_true (by kernel_rfl)) (by unfold Func.isWrapper; first | (rw [if_pos (by decide +kernel)]; kernel_rfl) | (rw [if_neg (by decide +kernel)]; exact ⟨rfl, rfl⟩))
    (fun os started H enc _ => lifted os started H enc)

theorem card : Rows.TypesMoreCardSaid :=
  Claim7.holds_tied_plain_at .later [] [.data] true (true, "dccc4470837eee4712a4c475a00d14631d066eb7b5e192dd9888e39c476ec522") false over (fun _ h => by cases h) (by kernel_rfl) (fun _ h => by cases h) typesMore_row_tie rfl ⟨rfl, rfl⟩ (by kernel_rfl) rfl
    (fun f fn hf hfn => by
      obtain rfl : f = 7 := Option.some.inj ((show Tryd.prog.funcNamed "heddle/heddlelaw02.TypesMore" = some 7 by kernel_rfl).symm.trans hf) |>.symm
      obtain rfl : fn = Tryd.f7 := (Option.some.inj (Tryd.func7.symm.trans hfn)).symm
      exact ⟨by kernel_rfl, fun j t ht => by
        rw [Tryd.params7] at ht
        have hm : t ∈ [22, 48, 3] := by simpa using Array.mem_of_getElem? ht
        have hall : ([22, 48, 3].all fun u => !Tryd.prog.wantsStandIn u) = true := by kernel_rfl
        exact (show Tryd.prog.wantsStandIn t = false by simpa using List.all_eq_true.1 hall t hm)⟩)
    (by kernel_rfl)

end Go.Proofs.YtfjbhpjgidgjaaaDoor.typesMore

namespace Go.Proofs.YtfjbhpjgidgjaaaDoor
theorem typesMore_holds : Rows.TypesMoreCardSaid := typesMore.card
#print axioms typesMore_holds
end Go.Proofs.YtfjbhpjgidgjaaaDoor

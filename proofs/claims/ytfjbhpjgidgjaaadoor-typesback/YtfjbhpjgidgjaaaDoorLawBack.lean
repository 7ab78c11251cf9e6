/-
  A sound table's bytes are read as it, and no other bytes write it: the function TypesBack answers true and leaves its arguments as they were, for every table and every list of bytes; the condition is what the program's own table of parts holds when the call begins.
-/
import Derived.Test.YtfjbhpjgidgjaaaDoorRefU
import Derived.Test.YtfjbhpjgidgjaaaDoorSame
import Derived.Test.YtfjbhpjgidgjaaaDoorCards
import Derived.Test.YtfjbhpjgidgjaaaDoorTie
namespace Go.Proofs.YtfjbhpjgidgjaaaDoor
open Go.RowKit

theorem writ_all {ts : List Ty} (h : Sound ts) : ∀ t ∈ ts, Writ t := fun t ht => by
  obtain ⟨i, hi, rfl⟩ := List.getElem_of_mem ht
  have := (h.small hi).2
  simpa [tyAt, List.getD, hi] using this
theorem encTab_len {ts : List Ty} (h : Sound ts) : (encTab ts).length ≤ 40000 := by
  have h1 := encMany_len h ts.length (Nat.le_refl _)
  rw [List.take_length] at h1
  have h2 := vb_len5 (n := ts.length) (by have := h.1; omega)
  have := h.1
  unfold encTab
  simp only [List.length_append]
  omega
/-- There and back. -/
theorem dec_enc {ts : List Ty} (h : Sound ts) : dec (encTab ts) = (ts, 0, 0) := by
  have hl := encTab_len h
  exact dec_yes (by omega) (rdTab_enc ts (by have := h.1; unfold lim; omega) (writ_all h)) rfl h
/-- And back again. -/
theorem dec_ok {L : List Int} (hv : ∀ x ∈ L, 0 ≤ x ∧ x < 256) {ts : List Ty} {x : Nat} (h : dec L = (ts, x, 0)) : Sound ts ∧ encTab ts = L ∧ L.length ≤ 65536 := by
  by_cases hl : 65536 < L.length
  · rw [dec_large hl] at h; simp at h
  cases hr : rdTab L with
  | bad y => rw [dec_bad hl hr] at h; simp at h
  | good us y =>
    by_cases hy : y = L.length
    · by_cases hs : Sound us
      · rw [dec_yes hl hr hy hs] at h
        simp only [Prod.mk.injEq] at h
        obtain ⟨rfl, _, _⟩ := h
        subst hy
        exact ⟨hs, rdTab_back hv hr, by omega⟩
      · rw [dec_form hl hr hy hs] at h; simp at h
    · rw [dec_short hl hr hy] at h; simp at h
theorem dec_nil {L : List Int} {ts : List Ty} {x : Nat} {k : Int} (h : dec L = (ts, x, k)) (hk : k ≠ 0) : ts = [] := by
  by_cases hl : 65536 < L.length
  · rw [dec_large hl] at h; simp only [Prod.mk.injEq] at h; exact h.1.symm
  cases hr : rdTab L with
  | bad y => rw [dec_bad hl hr] at h; simp only [Prod.mk.injEq] at h; exact h.1.symm
  | good us y =>
    by_cases hy : y = L.length
    · by_cases hs : Sound us
      · rw [dec_yes hl hr hy hs] at h; simp only [Prod.mk.injEq] at h; exact absurd h.2.2.symm hk
      · rw [dec_form hl hr hy hs] at h; simp only [Prod.mk.injEq] at h; exact h.1.symm
    · rw [dec_short hl hr hy] at h; simp only [Prod.mk.injEq] at h; exact h.1.symm

theorem vb_byte : ∀ (b n : Nat), n < b → ∀ x ∈ vb n, 0 ≤ x ∧ x < 256
  | 0, _, h, _, _ => by omega
  | b + 1, n, h, x, hx => by
    by_cases h1 : n < 128
    · rw [vb_lo h1] at hx
      simp at hx
      omega
    · rw [vb_hi h1] at hx
      rcases List.mem_cons.1 hx with h2 | h2
      · omega
      · exact vb_byte b (n / 128) (by omega) x h2
theorem vb_by {n : Nat} {x : Int} (h : x ∈ vb n) : 0 ≤ x ∧ x < 256 := vb_byte (n + 1) n (by omega) x h
theorem encFields_by : ∀ (fs : List Int) (x : Int), x ∈ encFields fs → 0 ≤ x ∧ x < 256
  | [], _, h => by simp [encFields] at h
  | f :: r, x, h => by
    rw [encFields] at h
    rcases List.mem_append.1 h with h | h
    · exact vb_by h
    · exact encFields_by r x h
theorem encTy_by {t : Ty} {x : Int} (h : x ∈ encTy t) : 0 ≤ x ∧ x < 256 := by
  unfold encTy at h
  rcases List.mem_append.1 h with h | h
  · exact vb_by h
  · split at h
    · exact vb_by h
    · split at h
      · rcases List.mem_append.1 h with h | h <;> exact vb_by h
      · split at h
        · rcases List.mem_append.1 h with h | h
          · exact vb_by h
          · exact encFields_by _ x h
        · split at h
          · rcases List.mem_append.1 h with h | h <;> exact vb_by h
          · simp at h
theorem encMany_by : ∀ (ts : List Ty) (x : Int), x ∈ encMany ts → 0 ≤ x ∧ x < 256
  | [], _, h => by simp [encMany] at h
  | f :: r, x, h => by
    rw [encMany] at h
    rcases List.mem_append.1 h with h | h
    · exact encTy_by h
    · exact encMany_by r x h
theorem encTab_by {ts : List Ty} {x : Int} (h : x ∈ encTab ts) : 0 ≤ x ∧ x < 256 := by
  unfold encTab at h
  rcases List.mem_append.1 h with h | h
  · exact vb_by h
  · exact encMany_by ts x h

set_option maxRecDepth 100000 in
set_option maxHeartbeats 4000000 in
theorem backOf (a : Option Addr) (ts : List Ty) (n c : Nat) (a1 : Option Addr) (L : List Int) (n1 c1 : Nat) (w : World) (hT : Tab w a ts) (hn : ts.length = n) (hI : Inp w a1 n1 c1 L) (hb : n1 ≤ 140737488351232) (hG : Gl w) :
    Calls Tryd.prog 5 #[.slice a n c, .slice a1 n1 c1] w (SayPost w (.bool true)) := by
  have HT := hid hT
  have HN := hid hn
  have HI := hid hI
  have HG := hid hG
  clear hT hn hI hG
  go_enter Tryd.func5, Tryd.ntmps5
  go_wp2_with fail
  refine (awake_any w HG.out).mono ?_
  rintro e w1 ⟨rfl, hE1⟩
  have HE1 := hid hE1
  clear hE1
  go_wp2_with fail
  refine (copy_any a ts n c w1 (HT.out.keep0 HE1.out) HN.out).mono ?_
  rintro e w2 ⟨a2, c2, G2, rfl, hac2, _, hT2, hE2⟩
  have HE2 := hid (HE1.out.trans hE2)
  have HT2 := hid hT2
  clear hE2 hT2
  go_wp2_with fail
  refine (encode_any a2 ts n c2 w2 HT2.out HN.out hac2 (HG.out.keep0 HE2.out)).mono ?_
  rintro e w3 ⟨v3, rfl, hO3, hE3⟩
  have HE3 := hid (HE2.out.trans hE3)
  have HO3 := hid hO3
  clear hE3 hO3
  go_wp2_with fail
  refine (rencode_any a ts n c w3 (HT.out.keep0 HE3.out) HN.out).mono ?_
  rintro e w4 ⟨v4, rfl, hO4, hE4⟩
  have HE4 := hid (HE3.out.trans hE4)
  have HO34 := hid (own_keep0 HO3.out hE4)
  obtain ⟨a4, c4, rfl, _⟩ := own_slice hO4
  obtain ⟨a3, c3, rfl, hac3⟩ := own_slice HO34.out
  have HO4 := hid hO4
  clear hE4 hO4
  have hel : (encR ts).length ≤ 40000 := by
    by_cases hs : Sound ts
    · rw [encR_yes hs]; exact encTab_len hs
    · rw [encR_no hs]; simp
  have KS := sameBytes_true a3 a4 (encR ts).length c3 c4 (encR ts) w4 (own_vs HO34.out) (own_vs HO4.out) rfl (by omega)
  have HEl := hid hel
  clear hel
  obtain ⟨x, hx⟩ : ∃ x, x = chk ts := ⟨_, rfl⟩
  rw [← hx]
  have HX := hid hx
  clear hx
  go_wp2_with fail
  refine KS.mono ?_
  clear KS
  rintro e w5 ⟨rfl, hE5⟩
  have HE5 := hid (HE4.out.trans hE5)
  have HO5 := hid (own_keep0 HO34.out hE5)
  clear hE5
  by_cases hs : Sound ts
  · have hx0 : x = 0 := by rw [HX.out]; exact chk_yes hs
    subst hx0
    have HS := hid hs
    have hIe : Inp w5 a3 (encR ts).length c3 (encTab ts) := ⟨by have := own_vs HO5.out; rw [encR_yes hs] at this; exact this, by rw [encR_yes hs], ?_, hac3⟩
    · obtain ⟨a6, c6, w6, hr, hI6, hE6⟩ := bytes_copy w5 hIe (by have := HEl.out; omega)
      have HI6 := hid hI6
      have HE6 := hid (HE5.out.trans hE6)
      clear hI6 hE6 hs hIe
      go_wp2_with (at_builtin; refine wpList_append_run rfl _ _ 36 rfl _ _ _ rfl rfl hr ?_)
      refine (decode_any a6 (encTab ts) _ c6 w6 HI6.out (HG.out.keep0 HE6.out)).mono ?_
      rw [dec_enc HS.out]
      rintro e w7 ⟨a7, c7, G7, rfl, _, _, hT7, hE7⟩
      have HE7 := hid (HE6.out.trans hE7)
      have HT7 := hid hT7
      clear hE7 hT7 hr
      have KM := same_true a7 a n c7 c ts w7 HT7.out (HT.out.keep0 HE7.out) HN.out
      simp only [HN.out]
      go_wp2_with fail
      refine KM.mono ?_
      clear KM
      rintro e w8 ⟨rfl, hE8⟩
      have HE8 := hid (HE7.out.trans hE8)
      clear hE8
      obtain ⟨a9, c9, w9, hr9, hI9, hE9⟩ := bytes_copy w8 (HI.out.keep0 HE8.out) hb
      have HI9 := hid hI9
      have HE9 := hid (HE8.out.trans hE9)
      clear hI9 hE9
      go_wp2_with (at_builtin; refine wpList_append_run rfl _ _ 36 rfl _ _ _ rfl rfl hr9 ?_)
      refine (decode_any a9 L n1 c9 w9 HI9.out (HG.out.keep0 HE9.out)).mono ?_
      obtain ⟨us, y, z, hd⟩ : ∃ us y z, dec L = (us, y, z) := ⟨_, _, _, rfl⟩
      have HD := hid hd
      rw [hd]
      rintro e w10 ⟨a10, c10, G10, rfl, hac10, _, hT10, hE10⟩
      simp only at hac10 hT10 ⊢
      have HE10 := hid (HE9.out.trans hE10)
      have HT10 := hid hT10
      clear hE10 hT10 hr9 hd
      by_cases hz : z = 0
      · subst hz
        have HOk := hid (dec_ok HI.out.hv HD.out)
        go_wp2_with fail
        refine (encode_any a10 us us.length c10 w10 HT10.out rfl hac10 (HG.out.keep0 HE10.out)).mono ?_
        rintro e w11 ⟨v11, rfl, hO11, hE11⟩
        have HE11 := hid (HE10.out.trans hE11)
        obtain ⟨a11, c11, rfl, _⟩ := own_slice hO11
        have hB11 := own_vs hO11
        have hlen : (encR us).length = n1 := by rw [encR_yes HOk.out.1, HOk.out.2.1]; exact HI.out.hn
        rw [encR_yes HOk.out.1, HOk.out.2.1] at hB11
        have KS2 := sameBytes_true a11 a1 n1 c11 c1 L w11 hB11 (HI.out.keep0 HE11.out).hb HI.out.hn (by omega)
        rw [hlen, chk_yes HOk.out.1]
        clear hO11 hE11 hB11 hlen
        go_wp2_with fail
        refine KS2.mono ?_
        clear KS2
        rintro e w12 ⟨rfl, hE12⟩
        have HE12 := hid (HE11.out.trans hE12)
        clear hE12
        go_wp2_with fail
        go_ret
        exact ⟨rfl, HE12.out⟩
      · have HU := hid (dec_nil HD.out hz)
        rw [HU.out] at HT10 ⊢
        have hzb : (z != 0) = true := by simpa using hz
        clear hz
        go_wp2_with fail
        go_ret
        exact ⟨rfl, HE10.out⟩
    · intro x hx
      exact encTab_by hx
  · have hx1 : (x == 0) = false := by rw [HX.out, chk_no hs]; rfl
    clear hs
    obtain ⟨a9, c9, w9, hr9, hI9, hE9⟩ := bytes_copy w5 (HI.out.keep0 HE5.out) hb
    have HI9 := hid hI9
    have HE9 := hid (HE5.out.trans hE9)
    clear hI9 hE9
    go_wp2_with (at_builtin; refine wpList_append_run rfl _ _ 36 rfl _ _ _ rfl rfl hr9 ?_)
    refine (decode_any a9 L n1 c9 w9 HI9.out (HG.out.keep0 HE9.out)).mono ?_
    obtain ⟨us, y, z, hd⟩ : ∃ us y z, dec L = (us, y, z) := ⟨_, _, _, rfl⟩
    have HD := hid hd
    rw [hd]
    rintro e w10 ⟨a10, c10, G10, rfl, hac10, _, hT10, hE10⟩
    simp only at hac10 hT10 ⊢
    have HE10 := hid (HE9.out.trans hE10)
    have HT10 := hid hT10
    clear hE10 hT10 hr9 hd
    by_cases hz : z = 0
    · subst hz
      have HOk := hid (dec_ok HI.out.hv HD.out)
      go_wp2_with fail
      refine (encode_any a10 us us.length c10 w10 HT10.out rfl hac10 (HG.out.keep0 HE10.out)).mono ?_
      rintro e w11 ⟨v11, rfl, hO11, hE11⟩
      have HE11 := hid (HE10.out.trans hE11)
      obtain ⟨a11, c11, rfl, _⟩ := own_slice hO11
      have hB11 := own_vs hO11
      have hlen : (encR us).length = n1 := by rw [encR_yes HOk.out.1, HOk.out.2.1]; exact HI.out.hn
      rw [encR_yes HOk.out.1, HOk.out.2.1] at hB11
      have KS2 := sameBytes_true a11 a1 n1 c11 c1 L w11 hB11 (HI.out.keep0 HE11.out).hb HI.out.hn (by omega)
      rw [hlen, chk_yes HOk.out.1]
      clear hO11 hE11 hB11 hlen
      go_wp2_with fail
      refine KS2.mono ?_
      clear KS2
      rintro e w12 ⟨rfl, hE12⟩
      have HE12 := hid (HE11.out.trans hE12)
      clear hE12
      go_wp2_with fail
      go_ret
      exact ⟨rfl, HE12.out⟩
    · have HU := hid (dec_nil HD.out hz)
      rw [HU.out] at HT10 ⊢
      have hzb : (z != 0) = true := by simpa using hz
      clear hz
      go_wp2_with fail
      go_ret
      exact ⟨rfl, HE10.out⟩

end Go.Proofs.YtfjbhpjgidgjaaaDoor

namespace Go.Proofs.YtfjbhpjgidgjaaaDoor.typesBack
open Go.ChangeShapes Go.WideShapes Go.ChangeAt Go.RowKit

set_option maxRecDepth 100000 in
theorem lifted (os : Go.Os) (started : os.Started) (H : Type) (enc : TypeId × Value → H) :
    ReturnsInHanded {} Tryd.checked os 5 .any (fun w args => (Rows.typesBackSpec.pre enc Tryd.prog Tryd.f5 [] false w args ∧ laidMetH Tryd.prog [("heddle/types.partsOf", Rows.laid_heddle_types_partsOf)] w) ∧ sizedMet enc Tryd.prog Tryd.f5 (OpenSpec.ofChange Rows.typesBackSpec) false w args)
      (Rows.typesBackSpec.post enc Tryd.prog Tryd.f5 false true false false) := by
  refine returnsInHanded_of_change_and (C := Tryd.checked) (X := fun w _ => laidMetH Tryd.prog [("heddle/types.partsOf", Rows.laid_heddle_types_partsOf)] w) (fun _ _ _ hh h => h.of_heap hh) own started (by kernel_rfl) Tryd.func5
    (ChangeSpec.witness_shaped (enc := enc) (C := Tryd.checked) (os := os) (X := fun w _ => laidMetH Tryd.prog [("heddle/types.partsOf", Rows.laid_heddle_types_partsOf)] w) false (World.laidAll Tryd.prog os [("heddle/types.partsOf", Rows.laid_heddle_types_partsOf)]) #[.slice none 0 0, .slice none 0 0] 8 (World.laidAll_os _ _ _)
      (World.shaped_of_ZipB (by kernel_rfl) (by kernel_rfl)) (by kernel_rfl) (by kernel_rfl) (by kernel_rfl)
      (by rw [MakeChecks.laidMetH_plain _ _ _ (by kernel_rfl)]; exact laidMet_laidAll _ (by kernel_rfl) (by kernel_rfl))) ?_
  intro W base args ds gs before hval0 hW _ hsz0 hL _
  have hval : ∀ (j : Nat) t v, Tryd.f5.params[j]? = some t → args[j]? = some v → Value.okWide Tryd.prog W .any base t v := hval0
  have hW' := hW
  obtain ⟨p, q, hA0, hV, rfl, hfz, hnd⟩ := hW
  have hA : DataW.TrodAll enc Tryd.prog W 0 (fun _ => true) true Tryd.f5.params.toList args.toList ds p := hA0
  rw [Tryd.params5] at hA hval
  obtain ⟨v0, vs0, d0, ds0, p0, q0, hargs, rfl, rfl, h0, r0⟩ := trodAll_cons hA
  obtain ⟨v1, vs1, d1, ds1, p1, q1, rfl, rfl, rfl, h1, r1⟩ := trodAll_cons r0
  obtain ⟨rfl, rfl, rfl⟩ := trodAll_nil r1
  obtain rfl : args = #[v0, v1] := by cases args; simp_all
  obtain ⟨rfl, rfl⟩ := trodVars_none hV
  obtain ⟨a0, len0, cap0, rfl⟩ := okWide_slice Tryd.underlying22 (hval 0 22 v0 rfl rfl)
  obtain ⟨a1, len1, cap1, rfl⟩ := okWide_slice Tryd.underlying36 (hval 1 36 v1 rfl rfl)
  have k0 := h0
  have lt0 : ∀ x ∈ p0, x.block < W.heap.size := by obtain ⟨m, hm⟩ := k0; exact DataW.trod_lt m _ _ _ hm
  have k1 := h1
  have lt1 : ∀ x ∈ p1, x.block < W.heap.size := by obtain ⟨m, hm⟩ := k1; exact DataW.trod_lt m _ _ _ hm
  have hsz : (DataW.weightsEach Tryd.prog [22, 36] [d0, d1]).all (· ≤ reachBytes) = true := hsz0
  have hwd : ∀ y ∈ d0.weights Tryd.prog 22, y ≤ 140737488351232 := by
    intro y hy
    have := List.all_eq_true.1 hsz y (DataW.weights_mem_each (j := 0) (t := 22) rfl rfl y hy)
    have h2 := of_decide_eq_true this
    simpa [reachBytes] using h2
  have hwd1 : ∀ y ∈ d1.weights Tryd.prog 36, y ≤ 140737488351232 := by
    intro y hy
    have := List.all_eq_true.1 hsz y (DataW.weights_mem_each (j := 1) (t := 36) rfl rfl y hy)
    have h2 := of_decide_eq_true this
    simpa [reachBytes] using h2
  obtain ⟨fuel, hf⟩ := h0
  obtain ⟨ts, hT, hn, _⟩ := open_table (n := len0) (c := cap0) hf hwd
  obtain ⟨fuel1, hf1⟩ := h1
  obtain ⟨L, hI, hb⟩ := open_bytes (n := len1) (c := cap1) hf1 hwd1
  clear hA0 hval0
  refine (backOf a0 ts len0 cap0 a1 L len1 cap1 W hT hn hI hb (gl_of hL)).mono fun e W' ⟨he, hext⟩ => ?_
  subst he
  have bel := hext.below
  exact ⟨_, rfl, _, _, _, [], _, [], hW', trodAll_mk1 (shut_bool Tryd.underlying4 _), (trodAll_cons_mk (Below.trod laidOut (by kernel_rfl) (of_decide_eq_true (by kernel_rfl)) k0 bel lt0) (trodAll_cons_mk (Below.trod laidOut (by kernel_rfl) (of_decide_eq_true (by kernel_rfl)) k1 bel lt1) trodAll_mk0)), rfl, bel.frame _, fun h => by cases h⟩

theorem over : Rows.typesBackRow.holds Tryd.pinned (OpenSpec.ofChange Rows.typesBackSpec) :=
  OpenClaim.holds_of_wide 5 Tryd.f5 rfl rfl rfl rfl rfl rfl rfl ⟨rfl, rfl, rfl, rfl, rfl⟩ rfl rfl rfl rfl rfl (by kernel_rfl) Tryd.func5 (by kernel_rfl)
    (of_decide_eq_true (by kernel_rfl)) (by unfold Func.isWrapper; first | (rw [if_pos (by decide +kernel)]; kernel_rfl) | (rw [if_neg (by decide +kernel)]; exact ⟨rfl, rfl⟩))
    (fun os started H enc _ => lifted os started H enc)

theorem card : Rows.TypesBackCardSaid :=
  Claim7.holds_tied_plain_at .later [] [.data] true (true, "dccc4470837eee4712a4c475a00d14631d066eb7b5e192dd9888e39c476ec522") false over (fun _ h => by cases h) (by kernel_rfl) (fun _ h => by cases h) typesBack_row_tie rfl ⟨rfl, rfl⟩ (by kernel_rfl) rfl
    (fun f fn hf hfn => by
      obtain rfl : f = 5 := Option.some.inj ((show Tryd.prog.funcNamed "heddle/heddlelaw02.TypesBack" = some 5 by kernel_rfl).symm.trans hf) |>.symm
      obtain rfl : fn = Tryd.f5 := (Option.some.inj (Tryd.func5.symm.trans hfn)).symm
      exact ⟨by kernel_rfl, fun j t ht => by
        rw [Tryd.params5] at ht
        have hm : t ∈ [22, 36] := by simpa using Array.mem_of_getElem? ht
        have hall : ([22, 36].all fun u => !Tryd.prog.wantsStandIn u) = true := by kernel_rfl
        exact (show Tryd.prog.wantsStandIn t = false by simpa using List.all_eq_true.1 hall t hm)⟩)
    (by kernel_rfl)

end Go.Proofs.YtfjbhpjgidgjaaaDoor.typesBack

namespace Go.Proofs.YtfjbhpjgidgjaaaDoor
theorem typesBack_holds : Rows.TypesBackCardSaid := typesBack.card
#print axioms typesBack_holds
end Go.Proofs.YtfjbhpjgidgjaaaDoor

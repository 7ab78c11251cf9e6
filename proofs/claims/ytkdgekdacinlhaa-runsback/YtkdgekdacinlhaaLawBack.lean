/-
  Pages that are taken and given back at once leave everything as it was, and a run that does not fit is refused just if no free one is as long: the function RunsBack answers true and leaves its arguments as they were, for every number of pages, every script and every n; no condition.
-/
import Derived.Test.YtkdgekdacinlhaaOpen
import Derived.SizedLaws
namespace Go.Proofs.Ytkdgekdacinlhaa
open Go.RowKit

theorem idx_split {q : Rn → Bool} {y : Rn} {C : List Rn} (hy : q y = true) : ∀ A : List Rn, (∀ r ∈ A, q r = false) → (A ++ (y :: C)).findIdx q = A.length
  | [], _ => by simp [List.findIdx_cons, hy]
  | r :: A, h => by
    have ih := idx_split (C := C) hy A (fun x hx => h x (by simp [hx]))
    rw [List.cons_append, List.findIdx_cons, h r (by simp), ih]; simp

theorem fr_of_take {P : Nat} {A B : List Rn} {x : Rn} {n : Nat} (h : Inv P (A ++ (x :: B))) (hu : x.u = false) (hn : n ≤ x.n) : frR (takeL (A ++ (x :: B)) A.length n) x.s = (A ++ (x :: B), (n : Int), 0) := by
  have hb := back_take (n := n) h hu hn
  have ht := h.tl
  rw [Tl_append] at ht
  have hA : ∀ r ∈ A, hit x.s r = false := by
    intro r hr
    have := mem_endAt ht.1 r hr
    have hx := ht.2.1
    simp only [hit, Bool.and_eq_false_iff, beq_eq_false_iff_ne]
    exact .inr (by omega)
  have hI : (takeL (A ++ (x :: B)) A.length n).findIdx (hit x.s) = A.length := by
    rw [takeL_eq]
    exact idx_split (by simp [hit]) A hA
  unfold frR
  rw [hI, hb, if_pos (by rw [takeL_eq]; simp)]
  rw [takeL_eq, rnAt_eq rfl rfl]

theorem own_of_take {P : Nat} {A B : List Rn} {x : Rn} {n : Nat} (h : Inv P (A ++ (x :: B))) (hu : x.u = false) (h1 : 1 ≤ n) (hn : n ≤ x.n) : (takeL (A ++ (x :: B)) A.length n).find? (tst x.s) = some ⟨x.s, n, true⟩ := by
  have hI := inv_take h hu h1 hn
  refine find_tile hI.tl (by rw [hI.end_]; exact hI.le) (by rw [takeL_eq]; simp) (by simp) (by simp; omega)

theorem big_lt (m : Int) (hm : 1 ≤ m) (L : List Rn) (h : ∀ r ∈ L, r.u = true ∨ (r.n : Int) < m) : (big L : Int) < m := by
  have key : ∀ (L : List Rn) (b : Nat), (b : Int) < m → (∀ r ∈ L, r.u = true ∨ (r.n : Int) < m) → ((L.foldl (fun m r => if r.u then m else max m r.n) b : Nat) : Int) < m := by
    intro L
    induction L with
    | nil => exact fun b hb _ => hb
    | cons r L ih =>
      intro b hb hr
      rw [List.foldl_cons]
      refine ih _ ?_ (fun x hx => hr x (by simp [hx]))
      rcases hr r (by simp) with h | h
      · rw [if_pos h]; exact hb
      · split
        · exact hb
        · rw [Nat.max_def]; split <;> omega
  exact key L 0 (by omega) h

namespace runsBack

set_option maxRecDepth 100000 in
set_option maxHeartbeats 4000000 in
theorem walk (pages : Int) (a : Option Addr) (n c : Nat) (S : List (Int × Int)) (m : Int) (w : World) (hS : Sc w a S) (hn : S.length = n) :
    Calls Try.prog 5 #[.int .i64 pages, .slice a n c, .int .i64 m] w (SayPost w (.bool true)) := by
  have KG := grown_any pages a n c S w hS hn
  have HI := hid (inv_gr pages S)
  clear hS hn
  generalize grL pages S = L at *
  generalize grP pages = P at *
  go_enter Try.func5, Try.ntmps5
  go_wp2_with fail
  refine KG.mono ?_
  clear KG
  rintro e w1 ⟨p, v, rfl, hR, hp, hv, hE⟩
  have HR := hid hR
  have HV := hid hv
  have HE := hid hE
  clear hR hv hE
  go_wp2_with fail
  refine (awake_any w1).mono ?_
  rintro e w2 ⟨rfl, hE2⟩
  have HR2 := hid (HR.out.keep0 hE2)
  have HE2 := hid (HE.out.trans hE2)
  clear hE2 HR HE
  have hLl : L.length ≤ 1024 := Nat.le_trans HI.out.len HI.out.le
  go_wp2_with fail
  refine (told_any p v L w2 HR2.out hLl).mono ?_
  rintro e w3 ⟨v3, rfl, hL3, hn3, hE3⟩
  have HR3 := hid (HR2.out.keep0 hE3)
  have HE3 := hid (HE2.out.trans hE3)
  have hpl := HR2.out.lt
  have hvl := HR2.out.row.lt
  have HD : Hid (v3.ownBlock ≠ some p ∧ ∀ g, v.ownBlock = some g → v3.ownBlock ≠ some g) :=
    ⟨fun h => by have := hn3 _ h; omega, fun g hg h => by have := hn3 _ h; have := hvl g hg; omega⟩
  have HL3 := hid hL3
  obtain ⟨a3, c3, rfl, _⟩ := hL3.slice
  have KA := alloc_any p m v L w3 HR3.out HI.out
  have hw23 := hE3.size
  have HL3l := hid (own_lt hL3)
  have HS : Hid (∀ e w4, AlPost w3 p v (alR L m).1 (.tuple #[.int .i64 (alR L m).2.1, .int .i64 (alR L m).2.2]) e w4 → e = .returned (.tuple #[.int .i64 (alR L m).2.1, .int .i64 (alR L m).2.2]) ∧ Lst w4 (.slice a3 L.length c3) L ∧ Ext [] w w4 ∧ ∃ v', Rs w4 p v' (alR L m).1 ∧ (∀ g, v'.ownBlock = some g → w.heap.size ≤ g) ∧ ∀ g, v'.ownBlock = some g → (Value.slice a3 L.length c3).ownBlock ≠ some g) := fun e w4 h => by
    have h2 := al_own HE3.out hp HV.out h
    obtain ⟨v', he, hR4, hv4, hE4⟩ := h2
    refine ⟨he, al_lst h HL3.out HD.out.1 HD.out.2, hE4, ?_⟩
    obtain ⟨v5, _, hR5, hON, hX5⟩ := h
    have e5 : v5 = v' := by
      have := hR5.cell.symm.trans hR4.cell
      simpa using this
    subst e5
    refine ⟨v5, hR4, hv4, fun g hg => ?_⟩
    rcases hON with h | h
    · exact HD.out.2 g (by rw [← h]; exact hg)
    · intro hq
      have := (HL3l.out g hq).2
      have := h g hg
      omega
  clear hL3 hn3 hE3 hvl
  go_wp2_with fail
  refine KA.mono ?_
  clear KA
  intro e w4 h
  obtain ⟨rfl, hL4, hE4, v4, hR4, hv4, hd4⟩ := HS.out e w4 h
  have HL4 := hid hL4
  have HE4 := hid hE4
  have HV4 := hid hv4
  have HD4 := hid hd4
  clear h hL4 hE4 HS HR2 HE2 HR3 HE3 HL3 hv4 hd4
  rcases al_cases L m with ⟨er, he0, hal, her, hno⟩ | ⟨i, hi, h1, hu, hmn, hal, hno⟩
  · rw [hal] at hR4
    rw [hal]
    have HR4 := hid hR4
    have hb1 : (er == 0) = false := by simp [he0]
    have hb2 : (er != 0) = true := by simp [he0]
    have HNo := hid hno
    clear hal he0 hR4 hno
    simp only
    go_wp2_with fail
    refine (told_any p v4 L w4 HR4.out hLl).mono ?_
    rintro e w5 ⟨v5, rfl, hL5, _, hE5⟩
    obtain ⟨a5, c5, rfl, _⟩ := hL5.slice
    have K := same_any (.slice a3 L.length c3) (.slice a5 L.length c5) L L w5 (HL4.out.keep0 hE5) hL5 (by omega)
    rw [show decide (L = L) = true by simp] at K
    have HR5 := hid (HR4.out.keep0 hE5)
    have HE5 := hid (HE4.out.trans hE5)
    clear hL5 hE5
    go_wp2_with fail
    refine K.mono ?_
    clear K
    rintro e w6 ⟨rfl, hE6⟩
    have HR6 := hid (HR5.out.keep0 hE6)
    have HE6 := hid (HE5.out.trans hE6)
    clear hE6
    rcases her with ⟨h1, rfl⟩ | ⟨h1, rfl⟩
    · go_wp2_with fail
      go_ret
      exact ⟨rfl, HE6.out⟩
    · have h2 : ¬ m < 1 := by omega
      have hbl : (big L : Int) < m := big_lt m h1 L (fun r hr => by
        obtain ⟨j, hj, rfl⟩ := List.getElem_of_mem hr
        have h := HNo.out j hj
        simp only [rnAt, List.getD, List.getElem?_eq_getElem hj, Option.getD_some] at h
        rcases h with h | h | h
        · exact .inl h
        · omega
        · exact .inr h)
      have K := largest_any p v4 L w6 HR6.out (by omega)
      generalize big L = bg at *
      go_wp2_with fail
      refine K.mono ?_
      clear K
      rintro e w7 ⟨rfl, hE7⟩
      have HE7 := hid (HE6.out.trans hE7)
      clear hE7
      go_wp2_with fail
      go_ret
      exact ⟨rfl, HE7.out⟩
  · obtain ⟨mn, rfl⟩ : ∃ mn : Nat, m = mn := ⟨m.toNat, by omega⟩
    rw [Int.toNat_natCast] at hal
    have hsp := split_at L i hi
    have hAl : (L.take i).length = i := by simp; omega
    have hI := HI.out
    rw [hsp] at hI
    have F1 := fr_of_take (n := mn) hI hu (by omega)
    have O1 := own_of_take (n := mn) hI hu (by omega) (by omega)
    rw [← hsp, hAl] at F1 O1
    rw [hal] at hR4
    rw [hal]
    simp only at hR4 ⊢
    have hI4 : Inv P (takeL L i mn) := by
      have := inv_al HI.out (mn : Int)
      rw [hal] at this
      exact this
    have KO := fun W (h : Rs W p v4 (takeL L i mn)) => owner_any p v4 (takeL L i mn) (rnAt L i).s W h (by have := hI4.len; have := hI4.le; omega)
    have KF := fun W (h : Rs W p v4 (takeL L i mn)) => free_any p (rnAt L i).s v4 (takeL L i mn) W h hI4
    rw [F1] at KF
    have O2 : ∀ W, OwnPost W (takeL L i mn) (rnAt L i).s = fun e w' => e = .returned (.tuple #[.agg #[.int .i64 (rnAt L i).s, .int .i64 mn, .bool true], .int .i64 0]) ∧ Ext [] W w' := fun W => by
      funext e w'
      simp only [OwnPost, ownR, ownE, O1]
      rfl
    simp only [O2] at KO
    simp only at KF
    have HR4 := hid hR4
    have HKO := hid KO
    have HKF := hid KF
    clear hal hR4 KO KF O1 O2 F1 hI4 hI hsp hAl hno hmn
    generalize (rnAt L i).s = s at *
    clear hu
    go_wp2_with fail
    refine (HKO.out w4 HR4.out).mono ?_
    rintro e w5 ⟨rfl, hE5⟩
    have hEa := Ext.alloc [] w5 (.cells #[.int .i64 s, .int .i64 mn, .bool true] 42)
    have HO5 : Hid (One (w5.alloc (.cells #[.int .i64 s, .int .i64 mn, .bool true] 42)) w5.heap.size ⟨s, mn, true⟩) := heap_alloc_new _ _
    have HR5 := hid (HR4.out.keep0 (hE5.trans hEa))
    have HL5 := hid (HL4.out.keep0 (hE5.trans hEa))
    have HE5 := hid (HE4.out.trans (hE5.trans hEa))
    have hps : p < w5.heap.size := by have := HR4.out.lt; have := hE5.size; omega
    have HVs := hid (fun g hg => Nat.lt_of_lt_of_le (HR4.out.row.lt g hg) hE5.size)
    clear hE5 hEa
    go_wp2_with fail
    refine (HKF.out _ HR5.out).mono ?_
    rintro e w6 h
    obtain ⟨v6, rfl, hR6, _, hE6⟩ := al_own HE5.out hp HV4.out h
    have HL6 := hid (al_lst h HL5.out HD.out.1 HD4.out)
    have ho6 : One w6 w5.heap.size ⟨s, mn, true⟩ := by
      obtain ⟨_, _, _, _, hX⟩ := h
      refine HO5.out.keep hX ?_
      simp only [List.mem_cons, Option.mem_toList, not_or]
      refine ⟨by omega, fun h => ?_⟩
      have := HVs.out _ h
      omega
    have HO6 := hid ho6
    have HR6 := hid hR6
    have HE6 := hid hE6
    clear h hR6 hE6 ho6
    go_wp2_with fail
    refine (told_any p v6 L w6 HR6.out hLl).mono ?_
    rintro e w7 ⟨v7, rfl, hL7, _, hE7⟩
    obtain ⟨a7, c7, rfl, _⟩ := hL7.slice
    have K := same_any (.slice a3 L.length c3) (.slice a7 L.length c7) L L w7 (HL6.out.keep0 hE7) hL7 (by omega)
    rw [show decide (L = L) = true by simp] at K
    have ho7 := HO6.out.keep hE7 (by simp)
    have d0 : w7.cell? ⟨w5.heap.size, 0, none⟩ = some (.int .i64 s) := by rw [cell_of_row _ _ _ _ _ _ ho7]; rfl
    have d1 : w7.cell? ⟨w5.heap.size, 1, none⟩ = some (.int .i64 mn) := by rw [cell_of_row _ _ _ _ _ _ ho7]; rfl
    have d2 : w7.cell? ⟨w5.heap.size, 2, none⟩ = some (.bool true) := by rw [cell_of_row _ _ _ _ _ _ ho7]; rfl
    have hq := fun W => eql_run ⟨s, mn, true⟩ ⟨s, mn, true⟩ W
    rw [show decide ((⟨s, mn, true⟩ : Rn) = ⟨s, mn, true⟩) = true by simp] at hq
    simp only at hq
    have HE7 := hid (HE6.out.trans hE7)
    clear hL7 hE7 ho7
    go_wp2_with fail
    refine K.mono ?_
    clear K
    rintro e w8 ⟨rfl, hE8⟩
    have HE8 := hid (HE7.out.trans hE8)
    clear hE8
    go_wp2_with fail
    go_ret
    exact ⟨rfl, HE8.out⟩

end runsBack
end Go.Proofs.Ytkdgekdacinlhaa

namespace Go.Proofs.Ytkdgekdacinlhaa.runsBack
open Go.ChangeShapes Go.WideShapes Go.ChangeAt Go.RowKit

set_option maxRecDepth 100000 in
theorem lifted (os : Os) (started : os.Started) (H : Type) (enc : TypeId × Value → H) :
    ReturnsInHanded {} Try.checked os 5 .any (Rows.runsBackSpec.pre6 enc Try.prog Try.f5 Rows.runsBackRow.domain false) (Rows.runsBackSpec.post enc Try.prog Try.f5 false true false false) := by
  refine returnsInHanded_of_change_sized (C := Try.checked) own started (by kernel_rfl) Try.func5
    (ChangeSpec.witness6 (enc := enc) (C := Try.checked) false ⟨#[], #[.int .i64 0, .slice none 0 0, .int .i64 0], []⟩ 8 (by kernel_rfl) (by kernel_rfl) (by kernel_rfl) (by kernel_rfl)) ?_
  intro W base args ds gs before hval0 hW hcnd hsz0 _
  have hval : ∀ (j : Nat) t v, Try.f5.params[j]? = some t → args[j]? = some v → Value.okWide Try.prog W .any base t v := hval0
  have hW' := hW
  obtain ⟨p, q, hA0, hV, rfl, hfz, hnd⟩ := hW
  have hA : DataW.TrodAll enc Try.prog W 0 (fun _ => true) true Try.f5.params.toList args.toList ds p := hA0
  rw [Try.params5] at hA hval
  obtain ⟨v0, vs0, d0, ds0, p0, q0, hargs, rfl, rfl, h0, r0⟩ := trodAll_cons hA
  obtain ⟨v1, vs1, d1, ds1, p1, q1, rfl, rfl, rfl, h1, r1⟩ := trodAll_cons r0
  obtain ⟨v2, vs2, d2, ds2, p2, q2, rfl, rfl, rfl, h2, r2⟩ := trodAll_cons r1
  obtain ⟨rfl, rfl, rfl⟩ := trodAll_nil r2
  obtain rfl : args = #[v0, v1, v2] := by cases args; simp_all
  obtain ⟨rfl, rfl⟩ := trodVars_none hV
  obtain ⟨a0, rfl, rfl, rfl, w0⟩ := open_int Try.underlying3 (hval 0 3 v0 rfl rfl) h0
  obtain ⟨a1, len1, cap1, rfl⟩ := okWide_slice Try.underlying22 (hval 1 22 v1 rfl rfl)
  have k1 := h1
  have lt1 : ∀ x ∈ p1, x.block < W.heap.size := by obtain ⟨m, hm⟩ := k1; exact DataW.trod_lt m _ _ _ hm
  obtain ⟨a2, rfl, rfl, rfl, w2⟩ := open_int Try.underlying3 (hval 2 3 v2 rfl rfl) h2
  have hsz : (DataW.weightsEach Try.prog [3, 22, 3] [_, d1, _]).all (· ≤ reachBytes) = true := hsz0
  have hwd : ∀ y ∈ d1.weights Try.prog 22, y ≤ 140737488351232 := by
    intro y hy
    have := List.all_eq_true.1 hsz y (DataW.weights_mem_each (j := 1) (t := 22) rfl rfl y hy)
    have h2 := of_decide_eq_true this
    simpa [reachBytes] using h2
  obtain ⟨fuel, hf⟩ := h1
  obtain ⟨S, hS, hSn⟩ := open_script (n := len1) (c := cap1) hf hwd
  clear hA0 hval0
  refine (walk a0 a1 len1 cap1 S a2 W hS hSn).mono fun e W' ⟨he, hext⟩ => ?_
  subst he
  have bel := hext.below
  exact ⟨_, rfl, _, _, _, [], _, [], hW', trodAll_mk1 (shut_bool Try.underlying4 _), (trodAll_cons_mk (shut_int Try.underlying3 w0) (trodAll_cons_mk (Below.trod laidOut (by kernel_rfl) (of_decide_eq_true (by kernel_rfl)) k1 bel lt1) (trodAll_cons_mk (shut_int Try.underlying3 w2) trodAll_mk0))), rfl, bel.frame _, fun h => by cases h⟩

theorem over : Rows.runsBackRow.holds Try.pinned (OpenSpec.ofChange Rows.runsBackSpec) :=
  OpenClaim.holds_of_wide 5 Try.f5 rfl rfl rfl rfl rfl rfl rfl ⟨rfl, rfl, rfl, rfl, rfl⟩ rfl rfl rfl rfl rfl (by kernel_rfl) Try.func5 (by kernel_rfl)
    (of_decide_eq_true (by kernel_rfl)) (by unfold Func.isWrapper; first | (rw [if_pos (by decide +kernel)]; kernel_rfl) | (rw [if_neg (by decide +kernel)]; exact ⟨rfl, rfl⟩))
    (fun os started H enc _ => lifted os started H enc)

end Go.Proofs.Ytkdgekdacinlhaa.runsBack

namespace Go.Proofs.Ytkdgekdacinlhaa
theorem runsBack_holds : Rows.RunsBackSaid := runsBack.over
#print axioms runsBack_holds
end Go.Proofs.Ytkdgekdacinlhaa

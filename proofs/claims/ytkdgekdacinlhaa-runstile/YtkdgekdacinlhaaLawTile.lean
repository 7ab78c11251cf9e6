/-
  The runs lie side by side over all pages, two free ones never touch, and each page's owner is the run in which it lies: the function RunsTile answers true and leaves its arguments as they were, for every number of pages and every script; no condition.
-/
import Derived.Test.YtkdgekdacinlhaaOpen
import Derived.SizedLaws
import Derived.Deep.CutRange
namespace Go.Proofs.Ytkdgekdacinlhaa
open Go.RowKit

/-- The run of a page, told. -/
theorem owner_in {P : Nat} {L : List Rn} (hI : Inv P L) {x : Rn} (hx : x ∈ L) {page : Int} (h1 : (x.s : Int) ≤ page) (h2 : page < x.s + x.n) (W : World) : OwnPost W L page = fun e w' => e = .returned (.tuple #[.agg #[.int .i64 x.s, .int .i64 x.n, .bool x.u], .int .i64 0]) ∧ Ext [] W w' := by
  have h := find_tile hI.tl (by rw [hI.end_]; exact hI.le) hx h1 h2
  funext e w'
  simp only [OwnPost, ownR, ownE, h]
  rfl
theorem owner_out {P : Nat} {L : List Rn} (hI : Inv P L) {page : Int} (h1 : page < 0 ∨ (P : Int) ≤ page) (W : World) : OwnPost W L page = fun e w' => e = .returned (.tuple #[.agg #[.int .i64 0, .int .i64 0, .bool false], .int .i64 2]) ∧ Ext [] W w' := by
  have h := find_out hI.tl (by rw [hI.end_]; exact hI.le) (page := page) (by rw [hI.end_]; exact h1)
  funext e w'
  simp only [OwnPost, ownR, ownE, h]
  rfl

namespace runsTile

set_option maxRecDepth 100000 in
set_option maxHeartbeats 4000000 in
theorem walk (pages : Int) (a : Option Addr) (n c : Nat) (S : List (Int × Int)) (w : World) (hS : Sc w a S) (hn : S.length = n) :
    Calls Try.prog 4 #[.int .i64 pages, .slice a n c] w (SayPost w (.bool true)) := by
  have KG := grown_any pages a n c S w hS hn
  have HI := hid (inv_gr pages S)
  clear hS hn
  generalize grL pages S = L at *
  generalize grP pages = P at *
  go_enter Try.func4, Try.ntmps4
  go_wp2_with fail
  refine KG.mono ?_
  clear KG
  rintro e w1 ⟨p, v, rfl, hR, hp, hv, hE⟩
  have HR := hid hR
  have HE := hid hE
  clear hR hv hE hp
  go_wp2_with fail
  refine (awake_any w1).mono ?_
  rintro e w2 ⟨rfl, hE2⟩
  have HR2 := hid (HR.out.keep0 hE2)
  have HE2 := hid (HE.out.trans hE2)
  clear hE2 HR HE
  have hLl : L.length ≤ 1024 := Nat.le_trans HI.out.len HI.out.le
  have hPl := HI.out.le
  go_wp2_with fail
  refine (told_any p v L w2 HR2.out hLl).mono ?_
  rintro e w3 ⟨v3, rfl, hL3, hn3, hE3⟩
  have HR3 := hid (HR2.out.keep0 hE3)
  have HE3 := hid (HE2.out.trans hE3)
  have HL3 := hid hL3
  obtain ⟨a3, c3, rfl, _⟩ := hL3.slice
  clear hL3 hn3 hE3 HR2 HE2
  have HKO : Hid (∀ W page, Ext [] w3 W → Calls Try.prog 17 #[.pointer (some ⟨p, 0, none⟩), .int .i64 page] W (OwnPost W L page)) := fun W page h => owner_any p v L page W (HR3.out.keep0 h) (by omega)
  go_wp2_with fail
  generalize hlen : L.length = len at *
  have HLen := hid hlen
  clear hlen
  go_loopg [8, 9, 10] len (fun g s8 s9 s10 wr => ∃ k : Nat, k + g = len ∧ s8 = .int .i64 (endAt 0 (L.take k) : Nat) ∧ s9 = .int .i64 (big (L.take k) : Nat) ∧ s10 = .int .i64 (k : Nat) ∧ Ext [] w3 wr)
  case atStart => exact ⟨0, by omega, rfl, rfl, rfl, Ext.refl _ _⟩
  case round =>
    obtain ⟨k, hkg, rfl, rfl, rfl, hE⟩ := hrel
    have HE5 := hid hE
    clear hE
    cases gk with
    | succ g =>
      have hkl : k < L.length := by rw [HLen.out]; omega
      obtain ⟨t1, t2, t3, _⟩ := Tl_at HI.out.tl hkl
      have hxm := rnAt_mem hkl
      have hmem := HI.out.mem _ hxm
      obtain ⟨gb, c', hv, hz1, _, _, hcs⟩ := (HL3.out.keep0 HE5.out).at_ (by omega)
      simp only [Value.slice.injEq] at hv
      obtain ⟨rfl, hz2, rfl⟩ := hv
      clear hz1 hz2
      obtain ⟨c0, c1, c2⟩ := hcs k hkl
      have HC := hid hcs
      have HPrev : Hid (0 < k → (rnAt L k).u = false → (rnAt L (k - 1)).u = true) := fun h0 hu => by
        obtain ⟨j, rfl⟩ : ∃ j, k = j + 1 := ⟨k - 1, by omega⟩
        rw [Nat.add_sub_cancel]
        cases hq : (rnAt L j).u
        · rw [lf_take false L j (by omega), hq] at t3
          have := t3 rfl
          rw [hu] at this
          cases this
        · rfl
      have O1 := fun W => owner_in HI.out hxm (page := ((rnAt L k).s : Int)) (by omega) (by omega) W
      have O2 := fun W => owner_in HI.out hxm (page := ((rnAt L k).s : Int) + (rnAt L k).n - 1) (by omega) (by omega) W
      have KO1 := fun W h => HKO.out W ((rnAt L k).s : Int) h
      have KO2 := fun W h => HKO.out W (((rnAt L k).s : Int) + (rnAt L k).n - 1) h
      simp only [O1] at KO1
      simp only [O2] at KO2
      rw [← t1]
      have HNx : Hid (endAt 0 (L.take (k + 1)) = (rnAt L k).s + (rnAt L k).n) := by
        show _ = _
        rw [List.take_add_one, rnAt_get hkl, endAt_append, t1]; rfl
      have HBg : Hid (big (L.take (k + 1)) = if (rnAt L k).u then big (L.take k) else max (big (L.take k)) (rnAt L k).n) := by
        show _ = _
        rw [List.take_add_one, rnAt_get hkl]
        exact big_snoc _ _
      have HKO1 := hid KO1
      have HKO2 := hid KO2
      clear hcs O1 O2 t1 t3 hxm hkl KO1 KO2
      go_upto_region 9 with fail
      go_cut [72] from 31 to 133 (fun q wc => q = .bool false ∧ wc = wr)
      case first =>
        have hb0 : (((rnAt L k).s : Int) != ((rnAt L k).s : Int)) = false := by simp
        have hb1 : ¬ ((rnAt L k).n : Int) < 1 := by omega
        cases hu : (rnAt L k).u
        · rw [hu] at c2
          by_cases h0 : 0 < k
          · obtain ⟨_, _, d2⟩ := HC.out (k - 1) (by rw [HLen.out]; omega)
            have hpu := HPrev.out h0 hu
            rw [hpu] at d2
            have e1 : ((k : Int) - 1) = ((k - 1 : Nat) : Int) := by omega
            have hkl : k - 1 < len := by omega
            have hd : decide ((k : Int) > 0) = true := by simp; omega
            clear hu hpu
            generalize rnAt L k = x at *
            generalize k - 1 = j at *
            go_wp2_with fail
            go_meet
            exact ⟨rfl, rfl⟩
          · have hd : decide ((k : Int) > 0) = false := by simp; omega
            clear hu
            generalize rnAt L k = x at *
            go_wp2_with fail
            go_meet
            exact ⟨rfl, rfl⟩
        · rw [hu] at c2
          clear hu
          generalize rnAt L k = x at *
          by_cases h0 : 0 < k
          · have hd : decide ((k : Int) > 0) = true := by simp; omega
            go_wp2_with fail
            go_meet
            exact ⟨rfl, rfl⟩
          · have hd : decide ((k : Int) > 0) = false := by simp; omega
            go_wp2_with fail
            go_meet
            exact ⟨rfl, rfl⟩
      case rest =>
        obtain ⟨rfl, rfl⟩ := hcut
        clear HPrev HC
        obtain ⟨wr, hwr⟩ : ∃ x, x = wc := ⟨_, rfl⟩
        subst hwr
        generalize rnAt L k = x at *
        have hq := fun W => neq_run x x W
        rw [show decide (x = x) = true by simp] at hq
        simp only [Bool.not_true] at hq
        go_wp2_with fail
        refine (HKO1.out wr HE5.out).mono ?_
        rintro e w5 ⟨rfl, hE6⟩
        have hEa := Ext.alloc [] w5 (.cells #[.int .i64 x.s, .int .i64 x.n, .bool x.u] 42)
        have HO5 : Hid (One (w5.alloc (.cells #[.int .i64 x.s, .int .i64 x.n, .bool x.u] 42)) w5.heap.size x) := heap_alloc_new _ _
        have c1' := (hE6.trans hEa).cell c1 (by simp)
        have HE6 := hid (hE6.trans hEa)
        have hlt5 : w5.heap.size < (w5.alloc (.cells #[.int .i64 x.s, .int .i64 x.n, .bool x.u] 42)).heap.size := by simp
        clear hE6 hEa
        go_wp2_with fail
        refine (HKO2.out _ (HE5.out.trans HE6.out)).mono ?_
        rintro e w6 ⟨rfl, hE7⟩
        have hEb := Ext.alloc [] w6 (.cells #[.int .i64 x.s, .int .i64 x.n, .bool x.u] 42)
        have HO7 : Hid (One (w6.alloc (.cells #[.int .i64 x.s, .int .i64 x.n, .bool x.u] 42)) w6.heap.size x) := heap_alloc_new _ _
        have ho := HO5.out.keep (hE7.trans hEb) (by simp)
        have hE8 := HE6.out.trans (hE7.trans hEb)
        have e0 := hE8.cell c0 (by simp)
        have e1 := hE8.cell c1 (by simp)
        have e2 := hE8.cell c2 (by simp)
        have HE8 := hid (HE5.out.trans hE8)
        clear c0 c1 c2 c1' hE7 hEb hE8 hlt5
        obtain ⟨W7, hW7⟩ : ∃ W7, W7 = w6.alloc (.cells #[.int .i64 x.s, .int .i64 x.n, .bool x.u] 42) := ⟨_, rfl⟩
        rw [← hW7] at HO7 ho e0 e1 e2 HE8
        have f0 : W7.cell? ⟨w5.heap.size, 0, none⟩ = some (.int .i64 x.s) := by rw [cell_of_row _ _ _ _ _ _ ho]; rfl
        have f1 : W7.cell? ⟨w5.heap.size, 1, none⟩ = some (.int .i64 x.n) := by rw [cell_of_row _ _ _ _ _ _ ho]; rfl
        have f2 : W7.cell? ⟨w5.heap.size, 2, none⟩ = some (.bool x.u) := by rw [cell_of_row _ _ _ _ _ _ ho]; rfl
        have g0 : W7.cell? ⟨w6.heap.size, 0, none⟩ = some (.int .i64 x.s) := by rw [cell_of_row _ _ _ _ _ _ HO7.out]; rfl
        have g1 : W7.cell? ⟨w6.heap.size, 1, none⟩ = some (.int .i64 x.n) := by rw [cell_of_row _ _ _ _ _ _ HO7.out]; rfl
        have g2 : W7.cell? ⟨w6.heap.size, 2, none⟩ = some (.bool x.u) := by rw [cell_of_row _ _ _ _ _ _ HO7.out]; rfl
        have HW7 := hid hW7
        clear ho hW7
        go_upto_region 13 with fail
        rw [← HW7.out]
        clear HW7
        go_quiet (fail)
        cases hu : x.u
        · rw [hu] at e2 HBg
          have HBg2 : Hid (big (L.take (k + 1)) = max (big (L.take k)) x.n) := by
            show _ = _
            have := HBg.out
            simpa using this
          clear HBg hu
          generalize big (L.take k) = bg at *
          by_cases hbx : bg < x.n
          · have hb2 : (bg : Int) < x.n := by omega
            go_wp2_with fail
            go_roundg g
            case measure => omega
            case rel => exact ⟨k + 1, by omega, by rw [HNx.out]; go_num, by rw [HBg2.out, show max bg x.n = x.n by omega], by go_num, HE8.out.trans (Ext.drewN [] _ _)⟩
          · have hb2 : ¬ (bg : Int) < x.n := by omega
            go_wp2_with fail
            go_roundg g
            case measure => omega
            case rel => exact ⟨k + 1, by omega, by rw [HNx.out]; go_num, by rw [HBg2.out, show max bg x.n = bg by omega], by go_num, HE8.out.trans (Ext.drewN [] _ _)⟩
        · rw [hu] at e2 HBg
          have HBg2 : Hid (big (L.take (k + 1)) = big (L.take k)) := by
            show _ = _
            have := HBg.out
            simpa using this
          clear HBg hu
          generalize big (L.take k) = bg at *
          go_wp2_with fail
          go_roundg g
          case measure => omega
          case rel => exact ⟨k + 1, by omega, by rw [HNx.out]; go_num, by rw [HBg2.out], by go_num, HE8.out.trans (Ext.drewN [] _ _)⟩
    | zero =>
      obtain rfl : k = len := by omega
      have hPe : endAt 0 (L.take k) = P := by rw [← HLen.out, List.take_length]; exact HI.out.end_
      have hbe : big (L.take k) = big L := by rw [← HLen.out, List.take_length]
      rw [hPe, hbe]
      have O1 := fun W => owner_out HI.out (page := (P : Int)) (by omega) W
      have KO := fun W h => HKO.out W (P : Int) h
      simp only [O1] at KO
      have HKO1 := hid KO
      have HKL : Hid (∀ W, Ext [] w3 W → Calls Try.prog 18 #[.pointer (some ⟨p, 0, none⟩)] W (SayPost W (.int .i64 (big L)))) := fun W h => largest_any p v L W (HR3.out.keep0 h) (by rw [HLen.out]; omega)
      clear O1 KO hPe hbe
      generalize big L = bg at *
      have hkk : ¬ ((k : Int) < k) := by omega
      go_wp2_with fail
      refine (HKO1.out wr HE5.out).mono ?_
      rintro e w5 ⟨rfl, hE6⟩
      have HE6 := hid (HE5.out.trans (hE6.trans (Ext.alloc [] w5 (.cells #[.int .i64 0, .int .i64 0, .bool false] 42))))
      clear hE6
      go_wp2_with fail
      refine (HKL.out _ HE6.out).mono ?_
      rintro e w6 ⟨rfl, hE7⟩
      have HE7 := hid (HE6.out.trans hE7)
      clear hE7
      have hbb : ((bg : Int) == bg) = true := by simp
      go_wp2_with fail
      go_ret
      exact ⟨rfl, HE3.out.trans HE7.out⟩

end runsTile
end Go.Proofs.Ytkdgekdacinlhaa

namespace Go.Proofs.Ytkdgekdacinlhaa.runsTile
open Go.ChangeShapes Go.WideShapes Go.ChangeAt Go.RowKit

set_option maxRecDepth 100000 in
theorem lifted (os : Os) (started : os.Started) (H : Type) (enc : TypeId × Value → H) :
    ReturnsInHanded {} Try.checked os 4 .any (Rows.runsTileSpec.pre6 enc Try.prog Try.f4 Rows.runsTileRow.domain false) (Rows.runsTileSpec.post enc Try.prog Try.f4 false true false false) := by
  refine returnsInHanded_of_change_sized (C := Try.checked) own started (by kernel_rfl) Try.func4
    (ChangeSpec.witness6 (enc := enc) (C := Try.checked) false ⟨#[], #[.int .i64 0, .slice none 0 0], []⟩ 8 (by kernel_rfl) (by kernel_rfl) (by kernel_rfl) (by kernel_rfl)) ?_
  intro W base args ds gs before hval0 hW hcnd hsz0 _
  have hval : ∀ (j : Nat) t v, Try.f4.params[j]? = some t → args[j]? = some v → Value.okWide Try.prog W .any base t v := hval0
  have hW' := hW
  obtain ⟨p, q, hA0, hV, rfl, hfz, hnd⟩ := hW
  have hA : DataW.TrodAll enc Try.prog W 0 (fun _ => true) true Try.f4.params.toList args.toList ds p := hA0
  rw [Try.params4] at hA hval
  obtain ⟨v0, vs0, d0, ds0, p0, q0, hargs, rfl, rfl, h0, r0⟩ := trodAll_cons hA
  obtain ⟨v1, vs1, d1, ds1, p1, q1, rfl, rfl, rfl, h1, r1⟩ := trodAll_cons r0
  obtain ⟨rfl, rfl, rfl⟩ := trodAll_nil r1
  obtain rfl : args = #[v0, v1] := by cases args; simp_all
  obtain ⟨rfl, rfl⟩ := trodVars_none hV
  obtain ⟨a0, rfl, rfl, rfl, w0⟩ := open_int Try.underlying3 (hval 0 3 v0 rfl rfl) h0
  obtain ⟨a1, len1, cap1, rfl⟩ := okWide_slice Try.underlying22 (hval 1 22 v1 rfl rfl)
  have k1 := h1
  have lt1 : ∀ x ∈ p1, x.block < W.heap.size := by obtain ⟨m, hm⟩ := k1; exact DataW.trod_lt m _ _ _ hm
  have hsz : (DataW.weightsEach Try.prog [3, 22] [_, d1]).all (· ≤ reachBytes) = true := hsz0
  have hwd : ∀ y ∈ d1.weights Try.prog 22, y ≤ 140737488351232 := by
    intro y hy
    have := List.all_eq_true.1 hsz y (DataW.weights_mem_each (j := 1) (t := 22) rfl rfl y hy)
    have h2 := of_decide_eq_true this
    simpa [reachBytes] using h2
  obtain ⟨fuel, hf⟩ := h1
  obtain ⟨S, hS, hSn⟩ := open_script (n := len1) (c := cap1) hf hwd
  clear hA0 hval0
  refine (walk a0 a1 len1 cap1 S W hS hSn).mono fun e W' ⟨he, hext⟩ => ?_
  subst he
  have bel := hext.below
  exact ⟨_, rfl, _, _, _, [], _, [], hW', trodAll_mk1 (shut_bool Try.underlying4 _), (trodAll_cons_mk (shut_int Try.underlying3 w0) (trodAll_cons_mk (Below.trod laidOut (by kernel_rfl) (of_decide_eq_true (by kernel_rfl)) k1 bel lt1) trodAll_mk0)), rfl, bel.frame _, fun h => by cases h⟩

theorem over : Rows.runsTileRow.holds Try.pinned (OpenSpec.ofChange Rows.runsTileSpec) :=
  OpenClaim.holds_of_wide 4 Try.f4 rfl rfl rfl rfl rfl rfl rfl ⟨rfl, rfl, rfl, rfl, rfl⟩ rfl rfl rfl rfl rfl (by kernel_rfl) Try.func4 (by kernel_rfl)
    (of_decide_eq_true (by kernel_rfl)) (by unfold Func.isWrapper; first | (rw [if_pos (by decide +kernel)]; kernel_rfl) | (rw [if_neg (by decide +kernel)]; exact ⟨rfl, rfl⟩))
    (fun os started H enc _ => lifted os started H enc)

end Go.Proofs.Ytkdgekdacinlhaa.runsTile

namespace Go.Proofs.Ytkdgekdacinlhaa
theorem runsTile_holds : Rows.RunsTileSaid := runsTile.over
#print axioms runsTile_holds
end Go.Proofs.Ytkdgekdacinlhaa

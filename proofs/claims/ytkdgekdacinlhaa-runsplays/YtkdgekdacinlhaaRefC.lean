/-
  The statements' own reference: its All and Owner; no statement is proved here.
-/
import Derived.Test.YtkdgekdacinlhaaRefB
namespace Go.Proofs.Ytkdgekdacinlhaa
open Go.RowKit

def RAllPost (w : World) (L : List Rn) (e : Ending) (w' : World) : Prop :=
  ∃ v, e = .returned v ∧ Lst w' v L ∧ (∀ g, v.ownBlock = some g → w.heap.size ≤ g) ∧ Ext [] w w'

set_option maxRecDepth 100000 in
set_option maxHeartbeats 8000000 in
theorem rall_any {P : Nat} (q : Nat) (v : Value) (L : List Rn) (O : List Int) (w : World) (hR : Rf w q v O) (hI : Inv P L) (hO : Of P L O) :
    Calls Try.prog 15 #[.pointer (some ⟨q, 0, none⟩)] w (RAllPost w L) := by
  obtain ⟨a, c, rfl, hnc⟩ := hR.slice
  have hlen : O.length ≤ 1024 := by rw [hO.len]; exact hI.le
  have hLl : L.length ≤ 1024 := Nat.le_trans hI.len hI.le
  -- where the i-th run lies, and what its pages hold
  have HE : Hid (endAt 0 (L.take 0) = 0 ∧ endAt 0 (L.take L.length) = O.length ∧ (∀ i, i < L.length → endAt 0 (L.take (i + 1)) = endAt 0 (L.take i) + (rnAt L i).n) ∧ (∀ i, i < L.length → endAt 0 (L.take i) < O.length)) := by
    refine ⟨rfl, by rw [List.take_length, hI.end_, hO.len], fun i hi => ?_, fun i hi => ?_⟩
    · rw [List.take_add_one, rnAt_get hi, endAt_append]; rfl
    · have h1 := Tl_at hI.tl hi
      have h2 := hI.mem _ (rnAt_mem hi)
      rw [hO.len]; omega
  have HX : Hid (∀ i, i < L.length → (rnAt L i).s = endAt 0 (L.take i) ∧ 1 ≤ (rnAt L i).n ∧ (rnAt L i).s + (rnAt L i).n ≤ O.length ∧ (∀ k, k < (rnAt L i).n → ofAt O ((rnAt L i).s + k) = rv (rnAt L i)) ∧ ((rnAt L i).s + (rnAt L i).n < O.length → ofAt O ((rnAt L i).s + (rnAt L i).n) ≠ rv (rnAt L i)) ∧ decide (0 < rv (rnAt L i)) = (rnAt L i).u) := by
    intro i hi
    have h1 := Tl_at hI.tl hi
    have hmem := rnAt_mem hi
    have h2 := hI.mem _ hmem
    refine ⟨h1.1, h2.1, by rw [hO.len]; exact h2.2, fun k hk => hO.val _ hmem _ (by omega) (by omega), fun hq => ?_, ?_⟩
    · obtain ⟨r', hr', h3, h4⟩ := hI.at_ (j := (rnAt L i).s + (rnAt L i).n) (by rw [← hO.len]; exact hq)
      rw [hO.val r' hr' _ h3 h4]
      cases hu : (rnAt L i).u
      · rw [rv, rv, hu, tile_free hI.tl hmem hr' hu h3 h4, if_pos rfl]; simp; omega
      · have hns : r'.s ≠ (rnAt L i).s := fun e => by
          have hm' := hI.mem r' hr'
          have := hI.one hmem hr' (j := r'.s) (by omega) (by omega) (by omega) (by omega)
          subst this
          omega
        cases hu' : r'.u
        · rw [rv, rv, hu, hu']; simp; omega
        · rw [rv, rv, hu, hu']; simp; omega
    · cases hu : (rnAt L i).u
      · simp [rv, hu]
      · simp [rv, hu]
  have HR := hid hR
  have HL0 : Hid (L.take L.length = L) := by show _ = _; simp
  have HLs : Hid (∀ i, i < L.length → L.take (i + 1) = L.take i ++ [rnAt L i]) := fun i hi => by rw [List.take_add_one, rnAt_get hi]; rfl
  have HLl : Hid (∀ i, i ≤ L.length → (L.take i).length = i) := fun i hi => by simp; omega
  clear hI hO hR
  generalize O.length = n at *
  obtain ⟨Z, hZ⟩ : ∃ Z : Nat → Nat, ∀ i, Z i = endAt 0 (L.take i) := ⟨_, fun _ => rfl⟩
  simp only [← hZ] at HE HX
  clear hZ
  obtain ⟨LL, hLL⟩ : ∃ LL : Nat → List Rn, ∀ i, LL i = L.take i := ⟨_, fun _ => rfl⟩
  have HLL0 : Hid (LL 0 = []) := by show _ = _; rw [hLL]; rfl
  simp only [← hLL] at HL0 HLs HLl
  clear hLL
  generalize hN : L.length = N at *
  have HN := hid hN
  clear hN
  go_enter Try.func15, Try.ntmps15
  go_wp2_with fail
  go_loopw [3, 4] (fun x y wr => ∃ (i : Nat) (v' : Value), x = v' ∧ y = .int .i64 (Z i) ∧ i ≤ N ∧ Lst wr v' (LL i) ∧ (∀ g, v'.ownBlock = some g → w.heap.size ≤ g) ∧ Ext [] w wr) (fun _ y _ => (n - (intOf y)).toNat)
  case atStart => exact ⟨0, _, rfl, by rw [HE.out.1]; rfl, by omega, by rw [HLL0.out]; exact lst_nil _, by simp [Value.ownBlock], Ext.refl _ _⟩
  case round =>
    obtain ⟨i, v', rfl, rfl, hi, hL, hg, hE⟩ := hrel
    obtain ⟨av, cv, rfl, _⟩ := hL.slice
    have hc := (HR.out.keep0 hE).cell
    have HL := hid hL
    have HG := hid hg
    have HEr := hid hE
    clear hL hg hE
    by_cases hlt : i < N
    · obtain ⟨x1, x2, x3, x4, x5, x6⟩ := HX.out i hlt
      have hZn := HE.out.2.2.2 i hlt
      have HZs := hid (HE.out.2.2.1 i hlt)
      have HLn := hid (HLs.out i hlt)
      have hll := HLl.out i hi
      have X4 := hid x4
      have X5 := hid x5
      have X6 := hid x6
      generalize rnAt L i = r at *
      rw [x1] at x3 X4 X5
      have X1 := hid x1
      clear x4 x5 x1 x6
      generalize Z i = p at *
      rw [hll]
      have hOn : O.length = n := by
        obtain ⟨_, _, h, _⟩ := HR.out.slice
        cases h; rfl
      obtain ⟨g0, c0, hv, _, _, _, _⟩ := HR.out.at_ (by omega)
      rw [hOn] at hv
      simp only [Value.slice.injEq, true_and] at hv
      obtain ⟨rfl, rfl⟩ := hv
      clear hOn
      have X40 : Hid (ofAt O p = rv r) := X4.out 0 (by omega)
      generalize rv r = y at *
      go_upto_region 5 with fail
      clear hc
      go_loopw [5] (fun z wr2 => ∃ k : Nat, z = .int .i64 k ∧ 1 ≤ k ∧ k ≤ r.n ∧ Ext [] wr wr2) (fun z _ => (r.n - (intOf z)).toNat)
      case atStart => exact ⟨1, rfl, by omega, by omega, Ext.refl _ _⟩
      case round =>
        obtain ⟨k, rfl, hk1, hk2, hE2⟩ := hrel
        rename_i wr2
        have hRr := HR.out.keep0 (HEr.out.trans hE2)
        have hc2 := hRr.cell
        have c0 := hRr.cat (i := p) (by omega)
        rw [X40.out] at c0
        have HE2 := hid hE2
        have HRr := hid hRr
        clear hE2 hRr
        by_cases hkn : k < r.n
        · have ck := HRr.out.cat (i := p + k) (by omega)
          rw [X4.out k hkn] at ck
          have hwr : IntKind.i64.wrap ((p : Int) + (k : Int)) = (p : Int) + (k : Int) := by rw [IntKind.wrap_i64]; omega
          have hd : decide ((p : Int) + (k : Int) < (n : Int)) = true := by simp; omega
          have hyy : (y == y) = true := by simp
          go_wp2_with fail
          go_quiet (fail)
          go_wp2_with fail
          go_roundw
          case rel => exact ⟨k + 1, by go_num, by omega, by omega, HE2.out.trans (Ext.drewN [] _ _)⟩
          case measure => simp [intOf]; omega
        · obtain rfl : k = r.n := by omega
          have HL2 := hid (HL.out.keep0 HE2.out)
          by_cases hq : p + r.n < n
          · have ck := HRr.out.cat (i := p + r.n) hq
            have hne := X5.out hq
            generalize ofAt O (p + r.n) = y2 at *
            have hne2 : (y2 == y) = false := by simp [hne]
            clear hne
            have hwr : IntKind.i64.wrap ((p : Int) + (r.n : Int)) = (p : Int) + (r.n : Int) := by rw [IntKind.wrap_i64]; omega
            have hd : decide ((p : Int) + (r.n : Int) < (n : Int)) = true := by simp; omega
            go_wp2_with fail
            go_quiet (fail)
            have x6 := X6.out
            have hLk := HL2.out.keep0 ((Ext.drewN [] wr nq).trans (Ext.alloc [] _ (.cells #[.int .i64 (p : Nat), .int .i64 (r.n : Nat), .bool r.u] 42)))
            obtain ⟨v2, w2, hap, hL2, hON, hE3⟩ := app_run ((wr.drewN nq).alloc (.cells #[.int .i64 (p : Nat), .int .i64 (r.n : Nat), .bool r.u] 42)) (.slice av (LL i).length cv) (LL i) hLk (by omega) wr.heap.size ⟨p, r.n, r.u⟩ (heap_alloc_new _ _) 34 1
            rw [hll] at hap hON hE3
            have hc3 : (wr.drewN nq).cell? ⟨q, 0, none⟩ = some (.slice (some ⟨g0, 0, none⟩) n c) := hc2
            have c03 : (wr.drewN nq).cell? ⟨g0, p, none⟩ = some (.int .i64 y) := c0
            have HFin : Hid (∃ (i2 : Nat) (v3 : Value), v2 = v3 ∧ Value.int .i64 ((p : Int) + (r.n : Int)) = .int .i64 (Z i2) ∧ i2 ≤ N ∧ Lst w2 v3 (LL i2) ∧ (∀ g, v3.ownBlock = some g → w.heap.size ≤ g) ∧ Ext [] w w2) := by
              have hEw : Ext [] w ((wr.drewN nq).alloc (.cells #[.int .i64 (p : Nat), .int .i64 (r.n : Nat), .bool r.u] 42)) := ((HEr.out.trans HE2.out).trans (Ext.drewN [] wr nq)).trans (Ext.alloc [] _ _)
              refine ⟨i + 1, v2, rfl, ?_, by omega, ?_, ?_, ?_⟩
              · rw [HZs.out]; rfl
              · rw [HLn.out]
                rw [show (⟨p, r.n, r.u⟩ : Rn) = r by rw [← X1.out]] at hL2
                exact hL2
              · intro g hg
                rcases hON with e | h
                · exact HG.out g (by rw [hll]; rw [← e]; exact hg)
                · have h1 := h g hg
                  have h2 := hEw.size
                  omega
              · exact hEw.on hE3 (fun b hb => HG.out b (by rw [hll]; simpa using hb))
            clear hL2 hON hE3 hc2 c0 hLk
            go_wp2_with (at_builtin; refine wpList_append_run rfl _ _ 34 rfl _ _ _ rfl rfl hap ?_)
            exact ⟨HFin.out, by simp [intOf]; omega⟩
          · have hwr : IntKind.i64.wrap ((p : Int) + (r.n : Int)) = (p : Int) + (r.n : Int) := by rw [IntKind.wrap_i64]; omega
            have hd : decide ((p : Int) + (r.n : Int) < (n : Int)) = false := by simp; omega
            go_wp2_with fail
            go_quiet (fail)
            have x6 := X6.out
            have hLk := HL2.out.keep0 ((Ext.drewN [] wr nq).trans (Ext.alloc [] _ (.cells #[.int .i64 (p : Nat), .int .i64 (r.n : Nat), .bool r.u] 42)))
            obtain ⟨v2, w2, hap, hL2, hON, hE3⟩ := app_run ((wr.drewN nq).alloc (.cells #[.int .i64 (p : Nat), .int .i64 (r.n : Nat), .bool r.u] 42)) (.slice av (LL i).length cv) (LL i) hLk (by omega) wr.heap.size ⟨p, r.n, r.u⟩ (heap_alloc_new _ _) 34 1
            rw [hll] at hap hON hE3
            have hc3 : (wr.drewN nq).cell? ⟨q, 0, none⟩ = some (.slice (some ⟨g0, 0, none⟩) n c) := hc2
            have c03 : (wr.drewN nq).cell? ⟨g0, p, none⟩ = some (.int .i64 y) := c0
            have HFin : Hid (∃ (i2 : Nat) (v3 : Value), v2 = v3 ∧ Value.int .i64 ((p : Int) + (r.n : Int)) = .int .i64 (Z i2) ∧ i2 ≤ N ∧ Lst w2 v3 (LL i2) ∧ (∀ g, v3.ownBlock = some g → w.heap.size ≤ g) ∧ Ext [] w w2) := by
              have hEw : Ext [] w ((wr.drewN nq).alloc (.cells #[.int .i64 (p : Nat), .int .i64 (r.n : Nat), .bool r.u] 42)) := ((HEr.out.trans HE2.out).trans (Ext.drewN [] wr nq)).trans (Ext.alloc [] _ _)
              refine ⟨i + 1, v2, rfl, ?_, by omega, ?_, ?_, ?_⟩
              · rw [HZs.out]; rfl
              · rw [HLn.out]
                rw [show (⟨p, r.n, r.u⟩ : Rn) = r by rw [← X1.out]] at hL2
                exact hL2
              · intro g hg
                rcases hON with e | h
                · exact HG.out g (by rw [hll]; rw [← e]; exact hg)
                · have h1 := h g hg
                  have h2 := hEw.size
                  omega
              · exact hEw.on hE3 (fun b hb => HG.out b (by rw [hll]; simpa using hb))
            clear hL2 hON hE3 hc2 c0 hLk
            go_wp2_with (at_builtin; refine wpList_append_run rfl _ _ 34 rfl _ _ _ rfl rfl hap ?_)
            exact ⟨HFin.out, by simp [intOf]; omega⟩
    · obtain rfl : i = N := by omega
      have e1 := HE.out.2.1
      have hll := HLl.out i (Nat.le_refl _)
      have HLe : Hid (LL i = L) := HL0.out
      rw [e1]
      go_wp2_with fail
      go_ret
      refine ⟨_, rfl, ?_, HG.out, HEr.out⟩
      have := HL.out
      rw [HLe.out] at this ⊢
      exact this

end Go.Proofs.Ytkdgekdacinlhaa

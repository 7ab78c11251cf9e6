/-
  The statements' own reference: its Owner, and its Alloc and Free beside the program's; no statement is proved here.
-/
import Derived.Test.YtkdgekdacinlhaaRefC
namespace Go.Proofs.Ytkdgekdacinlhaa
open Go.RowKit

theorem results_cell_tmp {P : Program} {fn : Func} {p q : Tmp} {ty : TypeId} (h : fn.results = #[.cell p ty, .tmp q]) (tmps : Array Value) (w : World) (a : Addr) (v : Value)
    (hp : tmps.getD p undef = .pointer (some a)) (h1 : (loadVar ty a).run P w = .ok v w) : (results fn tmps).run P w = .ok (.tuple #[v, tmps.getD q undef]) w := by
  have hp' : tmps[p]?.getD undef = .pointer (some a) := by simpa using hp
  simp [results, h, hp', asAddr, h1]

theorem One.store {w : World} {b : Nat} {x : Rn} (h : One w b x) (y : Rn) : One (((w.setCell ⟨b, 0, none⟩ (.int .i64 y.s)).setCell ⟨b, 1, none⟩ (.int .i64 y.n)).setCell ⟨b, 2, none⟩ (.bool y.u)) b y :=
  heap_setCell_same _ b 2 _ _ _ (heap_setCell_same _ b 1 _ _ _ (heap_setCell_same _ b 0 _ _ _ h))

set_option maxRecDepth 100000 in
set_option maxHeartbeats 8000000 in
theorem rowner_any {P : Nat} (q : Nat) (v : Value) (L : List Rn) (O : List Int) (page : Int) (w : World) (hR : Rf w q v O) (hI : Inv P L) (hO : Of P L O) (hp : page ≤ 9223372036854775807) :
    Calls Try.prog 23 #[.pointer (some ⟨q, 0, none⟩), .int .i64 page] w (OwnPost w L page) := by
  have hE0 := Ext.alloc [] w (.cells #[.int .i64 0, .int .i64 0, .bool false] 42)
  have K := rall_any q v L O _ (hR.keep0 hE0) hI hO
  have hLl : L.length ≤ 1024 := Nat.le_trans hI.len hI.le
  have HX : Hid (∀ i, i < L.length → (rnAt L i).s + (rnAt L i).n ≤ 1024 ∧ ((((rnAt L i).s : Int) ≤ page ∧ page < (rnAt L i).s + (rnAt L i).n) → L.find? (tst page) = some (rnAt L i))) := fun i hi => by
    have hm := hI.mem _ (rnAt_mem hi)
    have hl := hI.le
    exact ⟨by omega, fun h => find_tile hI.tl (by rw [hI.end_]; exact hI.le) (rnAt_mem hi) h.1 h.2⟩
  have HNo : Hid ((∀ j, j < L.length → tst page (rnAt L j) = false) → L.find? (tst page) = none) := fun h => by
    rw [List.find?_eq_none]
    intro r hr
    obtain ⟨k, hk, rfl⟩ := mem_at hr
    simp [h k hk]
  have HE0 := hid hE0
  have o0 : One (w.alloc (.cells #[.int .i64 0, .int .i64 0, .bool false] 42)) w.heap.size ⟨0, 0, false⟩ := heap_alloc_new _ _
  have HO0 := hid o0
  clear hR hI hO hE0 o0
  go_enter Try.func23, Try.ntmps23
  go_upto_region 1 with fail
  go_wp2_with (go_at_call 15; refine K.mono ?_; rintro e w1 ⟨v1, rfl, hL1, hg1, hE1⟩; obtain ⟨a1, c1, rfl, _⟩ := hL1.slice; have HL1 := hid hL1; have HE1 := hid hE1; clear hL1 hg1 hE1 K)
  go_loopw [7] (fun y wr => ∃ i : Nat, y = .int .i64 i ∧ i ≤ L.length ∧ (∀ j, j < i → tst page (rnAt L j) = false) ∧ Ext [] w1 wr) (fun y _ => (L.length - (intOf y)).toNat)
  case atStart => exact ⟨0, rfl, by omega, fun j h => by omega, Ext.refl _ _⟩
  case round =>
    obtain ⟨i, rfl, hi, hT, hE⟩ := hrel
    have HT := hid hT
    have HE := hid hE
    have oW : One wr w.heap.size ⟨0, 0, false⟩ := hE.keep (HE1.out.keep HO0.out (by simp)) (by simp)
    have HOw := hid oW
    have r0 : wr.cell? ⟨w.heap.size, 0, none⟩ = some (.int .i64 0) := by rw [cell_of_row _ _ _ _ _ _ oW]; rfl
    have r1 : wr.cell? ⟨w.heap.size, 1, none⟩ = some (.int .i64 0) := by rw [cell_of_row _ _ _ _ _ _ oW]; rfl
    have r2 : wr.cell? ⟨w.heap.size, 2, none⟩ = some (.bool false) := by rw [cell_of_row _ _ _ _ _ _ oW]; rfl
    have f0 := fun k => frozen_of_row wr w.heap.size k _ _ oW
    have HEw := hid ((HE0.out.trans HE1.out).trans hE)
    clear hT hE oW
    by_cases hlt : i < L.length
    · obtain ⟨g, c', hv, _, _, _, hcs⟩ := (HL1.out.keep0 HE.out).at_ (by omega)
      simp only [Value.slice.injEq, true_and] at hv
      obtain ⟨rfl, rfl⟩ := hv
      obtain ⟨d0, d1, d2⟩ := hcs i hlt
      obtain ⟨hb, hfd⟩ := HX.out i hlt
      have HTn : Hid (tst page (rnAt L i) = false → ∀ j, j < i + 1 → tst page (rnAt L j) = false) := fun h j hj => by
        by_cases e : j = i
        · rw [e]; exact h
        · exact HT.out j (by omega)
      have HFd := hid hfd
      have HTi := hid (tst_iff hb page)
      clear hcs hfd
      generalize rnAt L i = x at *
      by_cases h1 : (x.s : Int) ≤ page
      · have hw1 : IntKind.i64.wrap (page - (x.s : Int)) = page - (x.s : Int) := by rw [IntKind.wrap_i64]; omega
        have hd1 : decide ((x.s : Int) ≤ page) = true := by simp [h1]
        by_cases h2 : page < x.s + x.n
        · have hd2 : decide (page - (x.s : Int) < (x.n : Int)) = true := by simp; omega
          have HF2 := hid (HFd.out ⟨h1, h2⟩)
          go_wp2_with fail
          go_quiet (fail)
          go_wp2_with fail
          have oS : One (((((wr.drewN nq).setCell ⟨w.heap.size, 0, none⟩ (.int .i64 x.s)).setCell ⟨w.heap.size, 1, none⟩ (.int .i64 x.n)).setCell ⟨w.heap.size, 2, none⟩ (.bool x.u))) w.heap.size x := One.store (w := wr.drewN nq) HOw.out x
          refine bodyPost_ret (results_cell_tmp rfl _ _ ⟨w.heap.size, 0, none⟩ _ rfl (load42 oS)) rfl ⟨by simp only [ownR, ownE, HF2.out]; rfl, ?_⟩
          exact (HEw.out.trans (Ext.drewN [] _ _)).on (S := [w.heap.size]) (((Ext.setCell [w.heap.size] _ _ _ (by simp)).trans (Ext.setCell [w.heap.size] _ _ _ (by simp))).trans (Ext.setCell [w.heap.size] _ _ _ (by simp))) (by simp)
        · have hd2 : decide (page - (x.s : Int) < (x.n : Int)) = false := by simp; omega
          have HF2 := hid (HTn.out (by cases hq : tst page x; · rfl
                                       · exact absurd (HTi.out.1 hq).2 h2))
          go_wp2_with fail
          go_quiet (fail)
          go_wp2_with fail
          go_roundw
          case rel => exact ⟨i + 1, by go_num, by omega, HF2.out, HE.out.trans (Ext.drewN [] _ _)⟩
          case measure => simp [intOf]; omega
      · have hd1 : decide ((x.s : Int) ≤ page) = false := by simp; omega
        have HF2 := hid (HTn.out (by cases hq : tst page x; · rfl
                                     · exact absurd (HTi.out.1 hq).1 h1))
        go_wp2_with fail
        go_quiet (fail)
        go_wp2_with fail
        go_roundw
        case rel => exact ⟨i + 1, by go_num, by omega, HF2.out, HE.out.trans (Ext.drewN [] _ _)⟩
        case measure => simp [intOf]; omega
    · obtain rfl : i = L.length := by omega
      have HF2 := hid (HNo.out HT.out)
      go_wp2_with fail
      have oS : One (((wr.setCell ⟨w.heap.size, 0, none⟩ (.int .i64 0)).setCell ⟨w.heap.size, 1, none⟩ (.int .i64 0)).setCell ⟨w.heap.size, 2, none⟩ (.bool false)) w.heap.size ⟨0, 0, false⟩ := HOw.out.store ⟨0, 0, false⟩
      refine bodyPost_ret (results_cell_tmp rfl _ _ ⟨w.heap.size, 0, none⟩ _ rfl (load42 oS)) rfl ⟨by simp only [ownR, ownE, HF2.out]; rfl, ?_⟩
      exact HEw.out.on (S := [w.heap.size]) (((Ext.setCell [w.heap.size] _ _ _ (by simp)).trans (Ext.setCell [w.heap.size] _ _ _ (by simp))).trans (Ext.setCell [w.heap.size] _ _ _ (by simp))) (by simp)

/-! ### beside the program's -/

/-- What the reference's pages have become, and its answer. -/
def RePost (w : World) (q : Nat) (v : Value) (P : Nat) (x : List Rn × Int × Int) (e : Ending) (w' : World) : Prop :=
  ∃ O', e = .returned (.tuple #[.int .i64 x.2.1, .int .i64 x.2.2]) ∧ Rf w' q v O' ∧ Of P x.1 O' ∧ Ext v.ownBlock.toList w w'

theorem ralloc_any {P : Nat} (q : Nat) (n : Int) (v : Value) (L : List Rn) (O : List Int) (w : World) (hR : Rf w q v O) (hI : Inv P L) (hO : Of P L O) :
    Calls Try.prog 25 #[.pointer (some ⟨q, 0, none⟩), .int .i64 n] w (RePost w q v P (alR L n)) := by
  rcases al_cases L n with ⟨er, _, e1, ⟨h1, rfl⟩ | ⟨h1, rfl⟩, hno⟩ | ⟨i, hi, h1, hu, hn, e1, hno⟩
  · rw [e1]
    exact (ralloc_arg q n w h1).mono (by rintro e w' ⟨rfl, rfl⟩; exact ⟨O, rfl, hR, hO, Ext.refl _ _⟩)
  · rw [e1]
    refine (ralloc_full q n v L O w hR hI hO h1 (fun r hr => ?_)).mono (by rintro e w' ⟨rfl, rfl⟩; exact ⟨O, rfl, hR, hO, Ext.refl _ _⟩)
    obtain ⟨k, hk, rfl⟩ := mem_at hr
    rcases hno k hk with h | h | h
    · exact .inl h
    · omega
    · exact .inr h
  · rw [e1]
    obtain ⟨m, rfl⟩ : ∃ m : Nat, n = (m : Int) := ⟨n.toNat, by omega⟩
    have hs := split_at L i hi
    have hl : (L.take i).length = i := by simp; omega
    have hI2 := hI
    have hO2 := hO
    rw [hs] at hI2 hO2
    have hA : ∀ r ∈ L.take i, r.u = true ∨ r.n < m := fun r hr => by
      obtain ⟨k, hk, rfl⟩ := mem_at hr
      rw [hl] at hk
      have e : rnAt (L.take i) k = rnAt L k := by simp [rnAt, List.getD, hk]
      rw [e]
      rcases hno k hk with h | h
      · exact .inl h
      · exact .inr (by omega)
    refine (ralloc_hit q m v _ _ _ O w hR hI2 hO2 (by omega) hu (by omega) hA).mono ?_
    rintro e w' ⟨rfl, hR', hE⟩
    have hT := of_take hI2 hO2 hu (n := m) (by omega)
    rw [hl, ← hs] at hT
    exact ⟨_, rfl, hR', by simpa using hT, hE⟩

theorem fr_cases (L : List Rn) (s : Int) : (frR L s = (L, 0, 4) ∧ ∀ r ∈ L, r.u = false ∨ (r.s : Int) ≠ s) ∨
    (∃ i, i < L.length ∧ (rnAt L i).u = true ∧ ((rnAt L i).s : Int) = s ∧ frR L s = (relL L i, ((rnAt L i).n : Int), 0)) := by
  by_cases h2 : L.findIdx (hit s) < L.length
  · have hq := idx_at h2
    simp only [hit, Bool.and_eq_true, beq_iff_eq] at hq
    exact .inr ⟨L.findIdx (hit s), h2, hq.1, hq.2, by simp [frR, h2]⟩
  · refine .inl ⟨by simp [frR, h2], fun r hr => ?_⟩
    obtain ⟨k, hk, rfl⟩ := mem_at hr
    have := idx_lt (q := hit s) (j := k) (L := L) (by have := List.findIdx_le_length (p := hit s) (xs := L); omega) hk
    simp only [hit, Bool.and_eq_false_iff, beq_eq_false_iff_ne] at this
    exact this

theorem rfr_any {P : Nat} (q : Nat) (s : Int) (v : Value) (L : List Rn) (O : List Int) (w : World) (hR : Rf w q v O) (hI : Inv P L) (hO : Of P L O) :
    Calls Try.prog 22 #[.pointer (some ⟨q, 0, none⟩), .int .i64 s] w (RePost w q v P (frR L s)) := by
  have hlen : O.length ≤ 1024 := by rw [hO.len]; exact hI.le
  rcases fr_cases L s with ⟨e1, hno⟩ | ⟨i, hi, hu, hs, e1⟩
  · rw [e1]
    refine (rfr_none q s v O w hR hlen ?_).mono (by rintro e w' ⟨rfl, rfl⟩; exact ⟨O, rfl, hR, hO, Ext.refl _ _⟩)
    by_cases h0 : s < 0
    · exact .inl h0
    · by_cases h1 : (O.length : Int) ≤ s
      · exact .inr (.inl h1)
      · refine .inr (.inr ⟨by omega, by omega, fun e => ?_⟩)
        obtain ⟨r, hr, h2, h3⟩ := hI.at_ (j := s.toNat) (by rw [← hO.len]; omega)
        rw [hO.val r hr _ h2 h3, rv] at e
        rcases hno r hr with h | h
        · rw [h] at e; simp at e; omega
        · cases hu : r.u
          · rw [hu] at e; simp at e; omega
          · rw [hu] at e; simp at e; omega
  · rw [e1]
    subst hs
    have hm := hI.mem _ (rnAt_mem hi)
    refine (rfr_hit q (rnAt L i).s (rnAt L i).n v O w hR hlen hm.1 (by rw [hO.len]; exact hm.2) (fun k hk => ?_) (fun hq => ?_)).mono ?_
    · rw [hO.val _ (rnAt_mem hi) _ (by omega) (by omega), rv, hu]; rfl
    · obtain ⟨r', hr', h3, h4⟩ := hI.at_ (j := (rnAt L i).s + (rnAt L i).n) (by rw [← hO.len]; exact hq)
      rw [hO.val r' hr' _ h3 h4, rv]
      intro e
      cases hu' : r'.u
      · rw [hu'] at e; simp at e; omega
      · rw [hu'] at e
        simp only [if_true] at e
        have := hI.one (rnAt_mem hi) hr' (j := r'.s) (by omega) (by omega) (by omega) (by have := hI.mem r' hr'; omega)
        subst this
        omega
    · rintro e w' ⟨rfl, hR', hE⟩
      exact ⟨_, rfl, hR', of_rel hI hO hi, hE⟩

/-- Neither lies in the other's way. -/
theorem rf_keep_rs {w w' : World} {p q : Nat} {v vq : Value} {L : List Rn} {O : List Int} (hR : Rs w p v L) (hF : Rf w q vq O) (x : Ext (p :: v.ownBlock.toList) w w') : Rf w' q vq O := by
  have h42 : ∀ g, v.ownBlock = some g → ∃ cs, w.heap[g]? = some (.cells cs 42 (0, 0)) := fun g hg => by
    rcases hR.row.2 with ⟨rfl, _⟩ | ⟨g', cap, cur, rfl, _, h2, _⟩
    · simp [Value.ownBlock] at hg
    · simp [Value.ownBlock] at hg; subst hg; exact ⟨_, h2⟩
  refine hF.keep x ?_ ?_
  · intro hq
    simp only [List.mem_cons, Option.mem_toList] at hq
    rcases hq with rfl | hq
    · have := hR.box.symm.trans hF.box; simp at this
    · obtain ⟨cs, h⟩ := h42 q hq
      have := h.symm.trans hF.box; simp at this
  · intro b hb
    simp only [List.mem_cons, Option.mem_toList] at hb
    rcases hb with rfl | hb
    · exact own_ne hF.row hR.box (by decide)
    · obtain ⟨cs, h⟩ := h42 b hb
      exact own_ne hF.row h (by decide)
theorem rs_keep_rf {w w' : World} {p q : Nat} {v vq : Value} {L : List Rn} {O : List Int} (hR : Rs w p v L) (hF : Rf w q vq O) (x : Ext vq.ownBlock.toList w w') : Rs w' p v L := by
  have h3 : ∀ g, vq.ownBlock = some g → ∃ cs, w.heap[g]? = some (.cells cs 3 (0, 0)) := fun g hg => by
    rcases hF.row.2 with ⟨rfl, _⟩ | ⟨g', cap, cur, rfl, _, h2, _⟩
    · simp [Value.ownBlock] at hg
    · simp [Value.ownBlock] at hg; subst hg; exact ⟨_, h2⟩
  refine hR.keep x ?_ ?_
  · intro hq
    simp only [Option.mem_toList] at hq
    obtain ⟨cs, h⟩ := h3 p hq
    have := h.symm.trans hR.box; simp at this
  · intro b hb
    simp only [Option.mem_toList] at hb
    obtain ⟨cs, h⟩ := h3 b hb
    exact own_ne hR.row h (by decide)

end Go.Proofs.Ytkdgekdacinlhaa

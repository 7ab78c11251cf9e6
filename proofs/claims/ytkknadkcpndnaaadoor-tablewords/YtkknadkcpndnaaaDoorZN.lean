/-
  RfI, Det, RfJ, RfK: joined by program; no statement is proved here.
-/
import Derived.Test.YtkknadkcpndnaaaDoorZM
import Derived.Test.YtkknadkcpndnaaaDoorZI
/-
  The document's new table; no statement is proved here.
-/
namespace Go.Proofs.YtkknadkcpndnaaaDoor.Rf
open Go.RowKit Go.Shelf
open Pr (Gp GpI sq pl pl_step pl_lt pl_zero sq_len sq_take sq_at)
attribute [local go_sem] Oper.semAt_some run_store_func

theorem info80 : (Tryd.prog.info? 80).map (fun i => (i.zero, i.size, i.bytes)) = some (some (.agg #[.int .u8 0, .int .u64 0, .int .u64 0]), 3, 24) := by kernel_rfl
theorem made_at (n k : Nat) (hk : k < n) : (madeCells #[.int .u8 0, .int .u64 0, .int .u64 0] (n * 3))[k * 3]? = some (.int .u8 0) ∧ (madeCells #[.int .u8 0, .int .u64 0, .int .u64 0] (n * 3))[k * 3 + 1]? = some (.int .u64 0) ∧ (madeCells #[.int .u8 0, .int .u64 0, .int .u64 0] (n * 3))[k * 3 + 2]? = some (.int .u64 0) := by
  have e0 : k * 3 < n * 3 := by omega
  have e1 : k * 3 + 1 < n * 3 := by omega
  have e2 : k * 3 + 2 < n * 3 := by omega
  refine ⟨?_, ?_, ?_⟩ <;> simp [madeCells, e0, e1, e2, Nat.add_mod]
theorem sT_new {G k : Nat} (hk : k < 8 * G) : sT (newT G) k = (128, 0, 0) := by
  have h1 : k / 8 < G := by omega
  have h2 : k % 8 < 8 := by omega
  have h3 := new_hs (G := G) (k := G) h1 h2
  have h4 : bt (newT G) (k / 8) (k % 8) = 128 := by unfold bt newT; rw [new_cw h1 h1]; exact byt_new _ h2
  unfold sT
  rw [h4]
  unfold newT
  rw [h3.1, h3.2]
/-- The first j slots are empty, the others not yet. -/
structure Nw (w : World) (q n j : Nat) : Prop where
  row : ∃ cs, w.heap[q]? = some (.cells cs 80 (0, 0)) ∧ ∀ k, k < n → cs[k * 3]? = some (.int .u8 (((if k < j then 128 else 0 : Nat)) : Nat)) ∧ cs[k * 3 + 1]? = some (.int .u64 0) ∧ cs[k * 3 + 2]? = some (.int .u64 0)
theorem Nw.frz {w : World} {q n j : Nat} (h : Nw w q n j) (i : Nat) : w.frozen? ⟨q, i, none⟩ = false := by
  obtain ⟨cs, h1, _⟩ := h.row
  exact frozen_of_row w q i cs 80 h1
theorem Nw.set {w : World} {q n j : Nat} (h : Nw w q n j) (hj : j < n) : Nw (w.setCell ⟨q, j * 3, none⟩ (.int .u8 128)) q n (j + 1) := by
  obtain ⟨cs, h1, h2⟩ := h.row
  refine ⟨cs.setIfInBounds (j * 3) (.int .u8 128), heap_setCell_same w q (j * 3) cs 80 _ h1, fun k hk => ?_⟩
  obtain ⟨a0, a1, a2⟩ := h2 k hk
  have l0 : j * 3 < cs.size := (Array.getElem?_eq_some_iff.1 (h2 j hj).1).1
  by_cases e : k = j
  · subst e
    simp [l0, a1, a2]
  · simp only [Array.getElem?_setIfInBounds, show ¬ j * 3 = k * 3 from by omega, show ¬ j * 3 = k * 3 + 1 from by omega, show ¬ j * 3 = k * 3 + 2 from by omega, if_false]
    refine ⟨?_, a1, a2⟩
    rw [a0]
    by_cases q1 : k < j
    · rw [if_pos q1, if_pos (by omega)]
    · rw [if_neg q1, if_neg (by omega)]
set_option maxRecDepth 100000 in
set_option maxHeartbeats 400000 in
theorem rnew_ok (G : Nat) (hG : Gp G) (w : World) : Calls Tryd.prog 26 #[.int .i64 (G : Nat)] w fun e w' => ∃ p q, e = .returned (.tuple #[.pointer (some ⟨p, 0, none⟩), .int .i64 0]) ∧ Rt w' p q (8 * G) G (newT G) ∧ w.heap.size ≤ p ∧ w.heap.size ≤ q ∧ Ext [] w w' := by
  have K := Pr.groups_any G true (by simp [Pr.gpI_nat, hG]) w
  have hle := hG.le
  obtain ⟨i80, hi80, hz80, hs80, hy80⟩ := info_parts info80
  have hr := run_make (P := Tryd.prog) w 44 80 i80 _ Tryd.underlying44 hi80 hz80 .i64 .i64 ((8 * G : Nat) : Int) ((8 * G : Nat) : Int) (by omega) (Int.le_refl _) (by rw [hy80]; omega) (by omega)
  rw [hs80] at hr
  simp only [Int.toNat_natCast] at hr
  rw [show (((8 * G : Nat) : Int)) = 8 * (G : Int) by omega] at hr
  have hN : Nw (w.alloc (.cells (madeCells (Value.agg #[.int .u8 0, .int .u64 0, .int .u64 0]).cells (8 * G * 3)) 80)) w.heap.size (8 * G) 0 := ⟨_, heap_alloc_new w _, fun k hk => made_at (8 * G) k hk⟩
  have hE := Ext.alloc [] w (.cells (madeCells (Value.agg #[.int .u8 0, .int .u64 0, .int .u64 0]).cells (8 * G * 3)) 80)
  have hsz := World.size_alloc w (.cells (madeCells (Value.agg #[.int .u8 0, .int .u64 0, .int .u64 0]).cells (8 * G * 3)) 80)
  generalize w.alloc (.cells (madeCells (Value.agg #[.int .u8 0, .int .u64 0, .int .u64 0]).cells (8 * G * 3)) 80) = w1 at hr hN hE hsz
  have HN := hid hN
  have HE := hid hE
  have HSz := hid hsz
  clear hG hN hE hi80 hz80 hs80 hy80 hsz
  go_enter Tryd.func26, Tryd.ntmps26
  go_wp2_with fail
  refine met K ?_
  clear K
  go_wp2_with fail
  have hp0 := heap_alloc_new w1 (.cells #[.int .i64 (G : Nat), .slice (some ⟨w.heap.size, 0, none⟩) (8 * G) (8 * G)] 77)
  have hE3 := Ext.alloc [] w1 (.cells #[.int .i64 (G : Nat), .slice (some ⟨w.heap.size, 0, none⟩) (8 * G) (8 * G)] 77)
  obtain ⟨W3, hW3⟩ : ∃ W3, w1.alloc (.cells #[.int .i64 (G : Nat), .slice (some ⟨w.heap.size, 0, none⟩) (8 * G) (8 * G)] 77) = W3 := ⟨_, rfl⟩
  rw [hW3] at hp0 hE3 ⊢
  have HN3 := hid (show Nw W3 w.heap.size (8 * G) 0 from by
    obtain ⟨cs, h1, h2⟩ := HN.out.row
    exact ⟨cs, hE3.keep h1 (by simp), h2⟩)
  have HP3 := hid hp0
  have HE3 := hid (HE.out.trans hE3)
  have hqp : w.heap.size < w1.heap.size := by have := HSz.out; omega
  have HQp := hid hqp
  have HW := hid (show w.heap.size ≤ w.heap.size from Nat.le_refl _)
  clear hW3 hE3 hp0 HN HE HSz hr hqp
  go_loopw [5] (fun u wr => ∃ j : Nat, u = .int .i64 j ∧ j ≤ 8 * G ∧ wr.heap[w1.heap.size]? = some (.cells #[.int .i64 (G : Nat), .slice (some ⟨w.heap.size, 0, none⟩) (8 * G) (8 * G)] 77 (0, 0)) ∧ Nw wr w.heap.size (8 * G) j ∧ Ext [] w wr) (fun u _ => (8 * G - (intOf u)).toNat)
  case atStart => exact ⟨0, rfl, by omega, HP3.out, HN3.out, HE3.out⟩
  case round =>
    obtain ⟨j, rfl, hj, hP, hN, hX⟩ := hrel
    have f1 : wr.cell? ⟨w1.heap.size, 1, none⟩ = some (.slice (some ⟨w.heap.size, 0, none⟩) (8 * G) (8 * G)) := by rw [cell_of_row _ _ _ _ _ _ hP]; rfl
    by_cases hjG : j < 8 * G
    · have z0 := hN.frz (j * 3)
      obtain ⟨cs, h1, h2⟩ := hN.row
      have c0 : wr.cell? ⟨w.heap.size, j * 3, none⟩ = some (.int .u8 (((if j < j then 128 else 0 : Nat)) : Nat)) := by rw [cell_of_row _ _ _ _ _ _ h1]; exact (h2 j hjG).1
      have hS := Ext.setCell [w.heap.size] wr ⟨w.heap.size, j * 3, none⟩ (.int .u8 128) (by simp)
      have HA := hid (And.intro (hS.keep hP (by have := HQp.out; simp; omega)) (And.intro (hN.set hjG) (hX.on hS (by simp))))
      clear hP hN hX h1 h2 hS
      go_wp2
      go_roundw
      case rel => exact ⟨j + 1, by go_num, by omega, HA.out.1, HA.out.2.1, HA.out.2.2⟩
      case measure => simp [intOf]; omega
    · obtain rfl : j = 8 * G := by omega
      have HP := hid hP
      have HNN := hid hN
      have HX := hid hX
      clear hP hN hX
      go_wp2
      go_ret2
      refine ⟨w1.heap.size, w.heap.size, rfl, ⟨HP.out, ?_⟩, Nat.le_of_lt HQp.out, Nat.le_refl _, HX.out⟩
      obtain ⟨cs, h1, h2⟩ := HNN.out.row
      refine ⟨cs, h1, fun k hk => ?_⟩
      rw [sT_new hk]
      have := h2 k hk
      rw [if_pos hk] at this
      exact this
set_option maxRecDepth 100000 in
theorem rnew_bad (G : Int) (hG : ¬ GpI G) (w : World) : Calls Tryd.prog 26 #[.int .i64 G] w fun e w' => e = .returned (.tuple #[.pointer none, .int .i64 2]) ∧ w' = w := by
  have K := Pr.groups_any G false (by simp [hG]) w
  clear hG
  go_enter Tryd.func26, Tryd.ntmps26
  go_wp2_with fail
  refine met K ?_
  clear K
  go_wp2
  go_ret2
  exact ⟨rfl, rfl⟩
end Go.Proofs.YtkknadkcpndnaaaDoor.Rf

/-
  What Insert makes is one thing alone; no statement is proved here.
-/
namespace Go.Proofs.YtkknadkcpndnaaaDoor
open Pr (Gp GpI sq pl)

theorem first_uniq {f : Nat → List Nat} : ∀ {A A' C C' : List Nat} {g g' : Nat}, A ++ g :: C = A' ++ g' :: C' → (∀ x ∈ A, f x = []) → (∀ x ∈ A', f x = []) → f g ≠ [] → f g' ≠ [] → g = g'
  | [], [], _, _, _, _, e, _, _, _, _ => by
    injection e
  | [], a' :: A', _, _, g, g', e, _, h2, h3, _ => by
    injection e with e1 e2
    exact absurd (h2 g (by rw [e1]; simp)) h3
  | a :: A, [], _, _, g, g', e, h1, _, _, h4 => by
    injection e with e1 e2
    exact absurd (h1 g' (by rw [← e1]; simp)) h4
  | a :: A, a' :: A', _, _, g, g', e, h1, h2, h3, h4 => by
    injection e with e1 e2
    exact first_uniq (A := A) (A' := A') e2 (fun x hx => h1 x (by simp [hx])) (fun x hx => h2 x (by simp [hx])) h3 h4
theorem fst_uniq {T : List Nat} {h G g i g' i' : Nat} (h1 : Fst T h G g i) (h2 : Fst T h G g' i') : g = g' ∧ i = i' := by
  obtain ⟨A, C, l, e, ha, ho⟩ := h1
  obtain ⟨A', C', l', e', ha', ho'⟩ := h2
  have hg : g = g' := first_uniq (f := opn T) (e ▸ e') ha ha' (by rw [ho]; simp) (by rw [ho']; simp)
  subst hg
  rw [ho] at ho'
  injection ho' with q _
  exact ⟨rfl, q⟩
theorem insT_det {T A B : List Nat} {G h d : Nat} (h1 : InsT T G h d (some A)) (h2 : InsT T G h d (some B)) : A = B := by
  obtain ⟨g, i, hf, _, rfl⟩ := h1
  obtain ⟨g', i', hf', _, rfl⟩ := h2
  obtain ⟨rfl, rfl⟩ := fst_uniq hf hf'
  rfl
theorem insT_one {T A : List Nat} {G h d : Nat} (h1 : InsT T G h d (some A)) (h2 : InsT T G h d none) : False := by
  obtain ⟨g, i, hf, hno, _⟩ := h1
  exact hno (h2 g i hf)
end Go.Proofs.YtkknadkcpndnaaaDoor

/-
  The document's Insert and Delete beside the program's, in plain words; no statement is proved here.
-/
namespace Go.Proofs.YtkknadkcpndnaaaDoor.Rf
open Go.RowKit Go.Shelf
open Pr (Gp GpI sq pl pl_step pl_lt pl_zero sq_len sq_take sq_at)

theorem Sd.byte {T : List Nat} {G g i : Nat} (hS : Sd T G) (hg : g < G) (hi : i < 8) : bt T g i < 128 ∨ bt T g i = 128 ∨ bt T g i = 254 := (scB_iff.1 (hS.ctl g hg)).1 i hi
theorem Sd.sole {T : List Nat} {G g i j : Nat} (hS : Sd T G) (hg : g < G) (hi : i < 8) (hj : j < 8) (h1 : bt T g i = 254) : bt T g j ≠ 128 := by
  rcases (scB_iff.1 (hS.ctl g hg)).2 with q | q
  · exact q j hj
  · exact absurd h1 (q i hi)
theorem knt_full (T : List Nat) (G : Nat) : knt (fun x => decide (x < 128)) T (8 * G) = nfl T G := by rw [knt_tot, nfl_tot]
theorem knt_used {T : List Nat} {G : Nat} (hS : Sd T G) : knt (fun x => decide (x ≠ 128)) T (8 * G) = nus T G := by
  rw [knt_tot, nus_tot]
  refine tot_same fun g hg => cnt_congr fun i hi => ?_
  rcases Sd.byte hS hg hi with q | q | q
  · simp [q, show bt T g i ≠ 128 by omega]
  · simp [q]
  · simp [q]
theorem opn_ful {T : List Nat} {g : Nat} (hg : ∀ j, j < 8 → bt T g j < 128) : opn T g = [] := by
  rw [opn_eq, List.filter_eq_nil_iff]
  intro i hi
  have := hg i (by simpa using hi)
  simp
  omega
theorem opn_first {T : List Nat} {G g i : Nat} (hS : Sd T G) (hg : g < G) (hi : i < 8) (h1 : ∀ j, j < i → bt T g j < 128) (h2 : ¬ bt T g i < 128) : ∃ l, opn T g = i :: l := by
  rw [opn_eq, show List.range 8 = List.range' 0 i ++ i :: List.range' (i + 1) (8 - i - 1) from by
    rw [List.range_eq_range', show 8 = i + ((8 - i - 1) + 1) by omega, ← List.range'_append_1, List.range'_succ]
    simp]
  rw [List.filter_append, List.filter_cons, if_pos (by rcases Sd.byte hS hg hi with q | q | q <;> simp [q] <;> omega)]
  have : (List.range' 0 i).filter (fun i => decide (bt T g i = 128) || decide (bt T g i = 254)) = [] := by
    rw [List.filter_eq_nil_iff]
    intro j hj
    simp [List.mem_range'] at hj
    have := h1 j (by omega)
    simp
    omega
  rw [this]
  exact ⟨_, rfl⟩
/-- What the document's Insert makes is what the program's makes. -/
theorem ins_agree {T : List Nat} {p q c G h d : Nat} {w' : World} {e : Ending} (hS : Sd T G) (hh : h < 18446744073709551616) (hd : d < 18446744073709551616) (hI : RIns T p q c G h d w' e) :
    (∃ T', InsT T G h d (some T') ∧ e = .returned (.bool true) ∧ Rt w' p q c G T') ∨ (InsT T G h d none ∧ e = .returned (.bool false) ∧ Rt w' p q c G T) := by
  have hlt : ∀ x ∈ sq (h / 128) G, x < G := fun x hx => by
    obtain ⟨n, _, rfl⟩ := List.mem_map.1 hx
    exact pl_lt _ hS.shp.gp.pos n
  have hk := knt_used hS
  have hu := hS.use
  rcases hI with ⟨h1, rfl, hR⟩ | ⟨A, g, C, i, hsq, hg, hi, hA, hj, hn, hc⟩
  · refine .inr ⟨?_, rfl, hR⟩
    rintro g i ⟨A, C, l, e1, _, e2⟩
    rw [opn_ful (h1 g (by rw [e1]; simp))] at e2
    cases e2
  · obtain ⟨l, hl⟩ := opn_first hS hg hi hj hn
    have hF : Fst T h G g i := ⟨A, C, l, hsq, fun x hx => opn_ful (hA x hx), hl⟩
    have hm : mt (cw T g) 128 ≠ 0 ↔ bt T g i = 128 := by
      constructor
      · intro q
        rcases Sd.byte hS hg hi with r | r | r
        · exact absurd r hn
        · exact r
        · exact absurd (mt_zero.2 fun j hj => Sd.sole hS hg hi hj r) q
      · intro r q
        exact mt_zero.1 q i hi r
    rcases hc with ⟨h1, h2, rfl, hR⟩ | ⟨h1, rfl, hR⟩
    · refine .inr ⟨?_, rfl, hR⟩
      intro g' i' hF'
      obtain ⟨rfl, rfl⟩ := fst_uniq hF hF'
      exact ⟨hm.2 h1, by omega⟩
    · have hno : ¬ (mt (cw T g) 128 ≠ 0 ∧ T.getD 2 0 = 0) := fun r => h1 ⟨hm.1 r.1, by omega⟩
      exact .inl ⟨_, ⟨g, i, hF, hno, rfl⟩, rfl, hR _ (ins_sd hS hh hd hF hno).2.1⟩
/-- What the document's Delete makes is what the program's makes. -/
theorem del_agree {T : List Nat} {p q c G h d : Nat} {w' : World} {e : Ending} (hS : Sd T G) (hI : RDel T p q c G h d (wk T (sq (h / 128) G)) w' e) :
    (∃ T', DelT T G h d (some T') ∧ e = .returned (.bool true) ∧ Rt w' p q c G T') ∨ (DelT T G h d none ∧ e = .returned (.bool false) ∧ Rt w' p q c G T) := by
  have hlt : ∀ x ∈ wk T (sq (h / 128) G), x < G := fun x hx => by
    obtain ⟨n, _, rfl⟩ := List.mem_map.1 ((wk_pre T (sq (h / 128) G)).subset hx)
    exact pl_lt _ hS.shp.gp.pos n
  have hits : ∀ A : List Nat, (∀ x ∈ A, x < G) → (∀ x ∈ A, ∀ j, j < 8 → ¬ Its T h d x j) → ∀ p ∈ mtl T h A, idw T p.1 p.2 ≠ d := fun A hA hn p hp => by
    unfold mtl at hp
    obtain ⟨x, hx, hpx⟩ := List.mem_flatMap.1 hp
    rw [mgr_eq hS (hA x hx)] at hpx
    obtain ⟨i, hi, rfl⟩ := List.mem_map.1 hpx
    rw [List.mem_filter] at hi
    have hq := hi.2
    simp only [Bool.and_eq_true, decide_eq_true_eq] at hq
    exact fun r => hn x hx i (by simpa using hi.1) ⟨hq.1, hq.2, r⟩
  rcases hI with ⟨h1, rfl, hR⟩ | ⟨A, g, C, i, hL, hg, hi, hA, hj, hn, rfl, hR⟩
  · exact .inr ⟨hits _ hlt h1, rfl, hR⟩
  · have hx : mgr T h g = (((List.range' 0 i).filter fun i => decide (bt T g i < 128) && decide (hsw T g i = h)).map fun i => (g, i)) ++ (g, i) :: (((List.range' (i + 1) (8 - i - 1)).filter fun i => decide (bt T g i < 128) && decide (hsw T g i = h)).map fun i => (g, i)) := by
      rw [mgr_eq hS hg, show List.range 8 = List.range' 0 i ++ i :: List.range' (i + 1) (8 - i - 1) from by
        rw [List.range_eq_range', show 8 = i + ((8 - i - 1) + 1) by omega, ← List.range'_append_1, List.range'_succ]
        simp]
      rw [List.filter_append, List.filter_cons, if_pos (by simp [hn.1, hn.2.1]), List.map_append, List.map_cons]
    refine .inl ⟨_, ⟨mtl T h A ++ (((List.range' 0 i).filter fun i => decide (bt T g i < 128) && decide (hsw T g i = h)).map fun i => (g, i)), (g, i), (((List.range' (i + 1) (8 - i - 1)).filter fun i => decide (bt T g i < 128) && decide (hsw T g i = h)).map fun i => (g, i)) ++ mtl T h C, ?_, ?_, hn.2.2, rfl⟩, rfl, ?_⟩
    · unfold mts
      rw [hL]
      unfold mtl
      rw [List.flatMap_append, List.flatMap_cons, hx]
      simp only [List.append_assoc, List.cons_append]
    · intro p hp
      rw [List.mem_append] at hp
      rcases hp with hp | hp
      · exact hits A (fun x hx => hlt x (by rw [hL]; simp [hx])) hA p hp
      · obtain ⟨j, hj2, rfl⟩ := List.mem_map.1 hp
        rw [List.mem_filter] at hj2
        have hq := hj2.2
        simp only [Bool.and_eq_true, decide_eq_true_eq] at hq
        have hji : j < i := by
          have := hj2.1
          simp [List.mem_range'] at this
          exact this
        exact fun r => hj j hji ⟨hq.1, hq.2, r⟩
    · refine hR _ ?_
      have u := (del_sd hS hg hi hn.1).2.1
      have e : (if mt (cw T g) 128 = 0 then 254 else 128) = (if hasE T g = true then 128 else 254) := by
        unfold hasE
        by_cases q : mt (cw T g) 128 = 0 <;> simp [q]
      rw [e] at u
      exact u
/-- What the document finds is what the program finds. -/
theorem find_agree {T : List Nat} {G : Nat} (hS : Sd T G) (h : Nat) : (wk T (sq (h / 128) G)).flatMap (sl T h) = fnd T h G := by
  unfold fnd mts mtl
  rw [List.map_flatMap]
  refine flatMap_same fun g hg => ?_
  obtain ⟨n, _, rfl⟩ := List.mem_map.1 ((wk_pre T (sq (h / 128) G)).subset hg)
  rw [mgr_eq hS (pl_lt _ hS.shp.gp.pos n), List.map_map]
  rfl
end Go.Proofs.YtkknadkcpndnaaaDoor.Rf

/-
  All that the document's table holds; no statement is proved here.
-/
namespace Go.Proofs.YtkknadkcpndnaaaDoor.Rf
open Go.RowKit Go.Shelf
open Pr (Gp GpI sq pl pl_step pl_lt pl_zero sq_len sq_take sq_at)
attribute [local go_sem] Oper.semAt_some run_store_func

/-- The full slots among the first k. -/
def asl (T : List Nat) (k : Nat) : List (Nat × Nat × Nat) := ((List.range k).map (sT T)).filter fun s => decide (s.1 < 128)
def scl (L : List (Nat × Nat × Nat)) : List Value := L.flatMap fun s => [.int .u8 (s.1 : Nat), .int .u64 (s.2.1 : Nat), .int .u64 (s.2.2 : Nat)]
theorem scl_app (A B : List (Nat × Nat × Nat)) : scl (A ++ B) = scl A ++ scl B := by simp [scl]
theorem scl_len (L : List (Nat × Nat × Nat)) : (scl L).length = L.length * 3 := by
  induction L with
  | nil => rfl
  | cons a L ih =>
    have : scl (a :: L) = [.int .u8 (a.1 : Nat), .int .u64 (a.2.1 : Nat), .int .u64 (a.2.2 : Nat)] ++ scl L := rfl
    rw [this, List.length_append, ih, List.length_cons]
    simp
    omega
theorem asl_succ (T : List Nat) (k : Nat) : asl T (k + 1) = asl T k ++ if (sT T k).1 < 128 then [sT T k] else [] := by
  unfold asl
  rw [List.range_succ, List.map_append, List.filter_append]
  by_cases h : (sT T k).1 < 128 <;> simp [h]
theorem asl_len (T : List Nat) (k : Nat) : (asl T k).length ≤ k := by
  have := List.length_filter_le (fun s : Nat × Nat × Nat => decide (s.1 < 128)) ((List.range k).map (sT T))
  simpa [asl] using this
theorem app_slot (w0 w : World) (hE : Ext [] w0 w) (v : Value) (n : Nat) (xs : List Value) (hown : w.ownsRow w0.heap.size 80 3 v n xs) (a : Nat) (x y z : Nat) (hn : n ≤ 1000000) (hrow : w.heap[a]? = some (.cells #[.int .u8 (x : Nat), .int .u64 (y : Nat), .int .u64 (z : Nat)] 80 (0, 0))) :
    ∃ v' w', (Builtin.append_ #[44, 44] 44 #[v, .slice (some ⟨a, 0, none⟩) 1 1]).run Tryd.prog w = .ok v' w' ∧ w'.ownsRow w0.heap.size 80 3 v' (n + 1) (xs ++ [.int .u8 (x : Nat), .int .u64 (y : Nat), .int .u64 (z : Nat)]) ∧ Ext [] w0 w' := by
  obtain ⟨i, hi0, hz0, hz1, hz2⟩ := info_parts info80
  have hlt := own_lt hown
  obtain ⟨v', w', hr, ho, hg, _⟩ := run_append_own (P := Tryd.prog) w w0.heap.size 44 44 80 i _ 3 24 Tryd.underlying44 hi0 hz0 hz1 hz2 rfl (by decide) v n xs hown ⟨a, 0, none⟩ 1 1 [.int .u8 (x : Nat), .int .u64 (y : Nat), .int .u64 (z : Nat)] rfl (fun j u hu => by
    rw [Addr.add_lit, Nat.zero_add, cell_of_row _ _ _ _ _ _ hrow]
    simpa using hu) (by simp [Value.oneCell']) (by unfold maxLen; omega) (by omega) hE.size
  refine ⟨v', w', hr, ho, ?_⟩
  have h2 := Ext.grown (S := v.ownBlock.toList) hg (by intro k hk; simp [hk])
  exact hE.on h2 (fun x hx => (hlt x (by simpa using hx)).1)
def AlPost (w : World) (L : List (Nat × Nat × Nat)) (e : Ending) (w' : World) : Prop := ∃ v, e = .returned v ∧ w'.ownsRow w.heap.size 80 3 v L.length (scl L) ∧ Ext [] w w'
set_option maxRecDepth 100000 in
set_option maxHeartbeats 2000000 in
theorem rall_any (p q c G : Nat) (T : List Nat) (w : World) (h : Rt w p q c G T) (hG : G ≤ 4096) : Calls Tryd.prog 23 #[.pointer (some ⟨p, 0, none⟩)] w (AlPost w (asl T (8 * G))) := by
  have HR := hid h
  have HL := hid (fun k => asl_len T k)
  have HN := hid (fun k => asl_succ T k)
  clear h
  go_enter Tryd.func23, Tryd.ntmps23
  go_wp2_with fail
  go_loopw [3, 4] (fun v u wr => ∃ k : Nat, u = .int .i64 k ∧ k ≤ 8 * G ∧ wr.ownsRow w.heap.size 80 3 v (asl T k).length (scl (asl T k)) ∧ Ext [] w wr) (fun _ u _ => (8 * G - (intOf u)).toNat)
  case atStart => exact ⟨0, rfl, by omega, own_nil _ _ _ _, Ext.refl _ _⟩
  case round =>
    obtain ⟨k, rfl, hk, hO, hX⟩ := hrel
    have hRr := HR.out.keep0 hX
    obtain ⟨_, f1⟩ := hRr.flds
    by_cases hkG : k < 8 * G
    · obtain ⟨s0, s1, s2⟩ := hRr.slot (k := k) hkG
      have hl := HL.out k
      have HNk := hid (HN.out k)
      have HX := hid hX
      clear hRr hX
      generalize sT T k = s at HNk s0 s1 s2
      obtain ⟨x, y, z⟩ := s
      simp only at s0 s1 s2
      by_cases hs : x < 128
      · have hs2 : (x : Int) < 128 := by omega
        have hn := HNk.out
        rw [if_pos hs] at hn
        have hE1 := Ext.alloc [] wr (.cells #[.int .u8 (x : Nat), .int .u64 (y : Nat), .int .u64 (z : Nat)] 80)
        obtain ⟨v', w', hr, hO', hE'⟩ := app_slot w _ (HX.out.trans hE1) _ _ _ (own_keep0 hO hE1) wr.heap.size x y z (by omega) (heap_alloc_new wr _)
        have hO2 : w'.ownsRow w.heap.size 80 3 v' (asl T (k + 1)).length (scl (asl T (k + 1))) := by
          rw [hn, scl_app, List.length_append]
          exact hO'
        obtain ⟨a0, c0, rfl, _⟩ := own_slice hO
        obtain ⟨a1, c1, rfl, _⟩ := own_slice hO'
        have HO := hid hO2
        have HE := hid hE'
        clear hO' hE' hE1 hO hO2 hn hs hl
        go_wp2_with (at_builtin; refine wpList_append_run rfl _ _ 44 rfl _ _ _ rfl rfl hr ?_)
        go_roundw
        case rel => exact ⟨k + 1, by go_num, by omega, HO.out, HE.out⟩
        case measure => simp [intOf]; omega
      · have hs2 : ¬ (x : Int) < 128 := by omega
        have hn := HNk.out
        rw [if_neg hs, List.append_nil] at hn
        have hO2 := hO
        rw [← hn] at hO2
        have HO := hid hO2
        clear hO hO2 hn hs hl
        go_wp2
        go_roundw
        case rel => exact ⟨k + 1, by go_num, by omega, HO.out, HX.out⟩
        case measure => simp [intOf]; omega
    · obtain rfl : k = 8 * G := by omega
      have HO := hid hO
      have HX := hid hX
      clear hO hX hRr
      go_wp2
      go_ret
      exact ⟨_, rfl, HO.out, HX.out⟩
end Go.Proofs.YtkknadkcpndnaaaDoor.Rf

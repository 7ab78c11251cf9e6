/-
  The statements' own 'net': what the live nodes name; no statement is proved here.
-/
import Derived.Test.YtfgdoehiocgkhaaNetA
import Derived.Deep.LoopGhost
import Derived.Deep.CutBlock
namespace Go.Proofs.Ytfgdoehiocgkhaa
open Go.RowKit

theorem lives_sorted (G : Gs) : (lives G).Pairwise (· < ·) := List.Pairwise.filter _ List.pairwise_lt_range
def lvAt (G : Gs) (k : Nat) : Nat := (lives G).getD k 0
theorem lvAt_get {G : Gs} {k : Nat} (h : k < (lives G).length) : (lives G)[k] = lvAt G k := by simp [lvAt, List.getD, h]
theorem lvAt_lt {G : Gs} {i j : Nat} (hij : i < j) (hj : j < (lives G).length) : lvAt G i < lvAt G j := by
  have := List.pairwise_iff_getElem.1 (lives_sorted G) i j (by omega) hj hij
  rwa [lvAt_get, lvAt_get] at this
theorem lvAt_lv {G : Gs} {k : Nat} (h : k < (lives G).length) : lvN G (lvAt G k) := mem_lives.1 (by rw [← lvAt_get h]; exact List.getElem_mem h)
theorem lv_at {G : Gs} {j : Nat} (h : lvN G j) : ∃ i, i < (lives G).length ∧ lvAt G i = j := by
  obtain ⟨i, hi, e⟩ := List.getElem_of_mem (mem_lives.2 h)
  exact ⟨i, hi, by rw [← lvAt_get hi]; exact e⟩

/-- How many nodes the net has when k live nodes were gone through. -/
def nK (G : Gs) (k : Nat) : Nat := if k = 0 then 0 else lvAt G (k - 1) + 1
theorem nK_succ (G : Gs) (k : Nat) : nK G (k + 1) = lvAt G k + 1 := by simp [nK]
theorem nK_le {G : Gs} {k : Nat} (h : k < (lives G).length) : nK G k ≤ lvAt G k := by
  unfold nK
  split
  · exact Nat.zero_le _
  · exact lvAt_lt (by omega) h
theorem nK_gap {G : Gs} {k j : Nat} (h : k < (lives G).length) (h1 : nK G k ≤ j) (h2 : j < lvAt G k) : ¬ lvN G j := fun q => by
  obtain ⟨i, hi, rfl⟩ := lv_at q
  rcases Nat.lt_trichotomy i k with r | r | r
  · unfold nK at h1
    rw [if_neg (by omega)] at h1
    rcases Nat.lt_or_ge i (k - 1) with s | s
    · have := lvAt_lt s (show k - 1 < (lives G).length by omega); omega
    · have : i = k - 1 := by omega
      rw [this] at h1; omega
  · subst r; omega
  · have := lvAt_lt r hi; omega
theorem nK_all {G : Gs} {j : Nat} (h : lvN G j) : j < nK G (lives G).length := by
  obtain ⟨i, hi, rfl⟩ := lv_at h
  unfold nK
  rw [if_neg (by omega)]
  rcases Nat.lt_or_ge i ((lives G).length - 1) with s | s
  · have := lvAt_lt s (show (lives G).length - 1 < (lives G).length by omega); omega
  · have : i = (lives G).length - 1 := by omega
    rw [← this]; omega
theorem nK_len {G : Gs} : nK G (lives G).length ≤ G.ns.length := by
  unfold nK
  split
  · exact Nat.zero_le _
  · exact lvN_lt (lvAt_lv (by omega))

/-- What a node names. -/
def nbr (G : Gs) (j : Nat) : List Int := if lvN G j then (ndAt G.ns j).s.filter (fun x => decide (0 ≤ x)) else []
def netM (G : Gs) (n : Nat) : List (List Int) := (List.range n).map (nbr G)
theorem netM_len (G : Gs) (n : Nat) : (netM G n).length = n := by simp [netM]
theorem netM_succ (G : Gs) (n : Nat) : netM G (n + 1) = netM G n ++ [nbr G n] := by simp [netM, List.range_succ]
theorem netM_at {G : Gs} {n j : Nat} (h : j < n) : lsAt (netM G n) j = nbr G j := by simp [lsAt, netM, List.getD, h]
theorem netM_gap {G : Gs} {n : Nat} (h : ¬ lvN G n) : netM G (n + 1) = netM G n ++ [[]] := by rw [netM_succ, nbr, if_neg h]
theorem nbr_len {G : Gs} (hI : Iv G) (j : Nat) : (nbr G j).length ≤ 8192 := by
  unfold nbr
  split
  · exact Nat.le_trans (List.length_filter_le _ _) (hI.sl j)
  · simp
theorem nbr_lt {G : Gs} (hI : Iv G) {j : Nat} {x : Int} (h : x ∈ nbr G j) : 0 ≤ x ∧ lvN G x.toNat := by
  unfold nbr at h
  split at h
  · rename_i hl
    simp only [List.mem_filter, decide_eq_true_eq] at h
    rcases hI.cl j hl x h.1 with q | q
    · omega
    · exact lvB_iff.1 q
  · cases h
theorem filter_take {l : List Int} {q : Nat} (h : q < l.length) : (l.take (q + 1)).filter (fun x => decide (0 ≤ x)) = (l.take q).filter (fun x => decide (0 ≤ x)) ++ if 0 ≤ l.getD q 0 then [l.getD q 0] else [] := by
  have e : l.take (q + 1) = l.take q ++ [l.getD q 0] := by rw [List.take_add_one]; simp [h]
  rw [e, List.filter_append]
  congr 1
  by_cases h0 : 0 ≤ l.getD q 0
  · rw [if_pos h0]; simp only [List.filter_cons, decide_eq_true h0, if_true, List.filter_nil]
  · rw [if_neg h0]; simp only [List.filter_cons, decide_eq_false h0, Bool.false_eq_true, if_false, List.filter_nil]

def NePost (w : World) (M : List (List Int)) (e : Ending) (w' : World) : Prop := ∃ a c H, e = .returned (.slice a M.length c) ∧ M.length ≤ c ∧ Nb w w' (.slice a M.length c) M H ∧ Ext [] w w'

set_option maxRecDepth 100000 in
set_option maxHeartbeats 2000000 in
theorem net_any (p : Nat) (G : Gs) (B : Nat → Prop) (la : Option Addr) (ln lc : Nat) (w : World) (h : Gr w p G B) (hI : Iv G) (hL : Is w la (li (lives G))) (hln : (lives G).length = ln) : Calls Try.prog 13 #[.pointer (some ⟨p, 0, none⟩), .slice la ln lc] w (NePost w (netM G (nK G ln))) := by
  have hlen := hI.len
  have HH := hid h
  have HI := hid hI
  have HL := hid hL
  have HLn := hid hln
  have hl6 : ln ≤ 65536 := by rw [← hln]; exact Nat.le_trans (livK_len G G.ns.length) hlen
  have HK0 : Hid (nK G 0 = 0) := rfl
  clear h hI hL hln
  go_enter Try.func13, Try.ntmps13
  go_wp2_with fail
  go_loopw [5, 6] (fun v q wr => ∃ (k : Nat) (H : Nat → Option Addr × Nat), q = .int .i64 k ∧ k ≤ ln ∧ (∃ ad d, v = .slice ad (nK G k) d) ∧ Nb w wr v (netM G (nK G k)) H ∧ Ext [] w wr) (fun _ q _ => (ln - (intOf q)).toNat)
  case atStart => exact ⟨0, _, rfl, Nat.zero_le _, ⟨_, _, rfl⟩, nb_nil _ _, Ext.refl _ _⟩
  case round =>
    obtain ⟨k, H, rfl, hk, ⟨ad, d, rfl⟩, hN, hE⟩ := hrel
    have HN := hid hN
    have HE := hid hE
    clear hN hE
    by_cases hlt : k < ln
    · have hkl : k < (lives G).length := by rw [HLn.out]; exact hlt
      have hy := lvN_lt (lvAt_lv hkl)
      have HY := hid (lvAt_lv hkl)
      have hnk := nK_le hkl
      have HGap := hid (fun j => nK_gap (j := j) hkl)
      have HSu := hid (nK_succ G k)
      have hcell : ∃ b o, la = some ⟨b, o, none⟩ ∧ w.cell? ⟨b, o + k, none⟩ = some (.int .i64 (lvAt G k : Nat)) := by
        obtain ⟨b, o, e, c0⟩ := HL.out.cell (j := k) (by rw [li_len]; exact hkl)
        refine ⟨b, o, e, ?_⟩
        rw [c0]
        simp [li, lvAt, hkl]
      obtain ⟨b, o, rfl, c0⟩ := hcell
      have hbl : b < w.heap.size := block_lt_of_cell c0
      have HC0 := hid c0
      clear c0
      generalize nK G k = nk at *
      generalize lvAt G k = y at *
      have hy5 : y ≤ 65535 := by omega
      clear hkl
      go_wp2_with fail
      go_loopg [5] (y + 1 - nk) (fun f v wr => ∃ (z : Nat) (H : Nat → Option Addr × Nat) (M : List (List Int)), nk ≤ z ∧ z ≤ y + 1 ∧ f = y + 1 - z ∧ (∃ ad d, v = .slice ad z d) ∧ M.length = z ∧ (z ≤ y → M = netM G z) ∧ (z = y + 1 → M = netM G y ++ [[]] ∧ H y = (none, 0)) ∧ Nb w wr v M H ∧ Ext [] w wr)
      case atStart => exact ⟨nk, H, _, Nat.le_refl _, by omega, rfl, ⟨_, _, rfl⟩, netM_len _ _, fun _ => rfl, fun e => by omega, HN.out, HE.out⟩
      case round =>
        clear HN HE
        obtain ⟨z, H2, M, hz1, hz2, hgk, ⟨ad2, d2, rfl⟩, hMl, hM1, hM2, hN, hE⟩ := hrel
        have HN := hid hN
        have HE := hid hE
        have c0 := HE.out.cell HC0.out (by simp)
        clear hN hE
        by_cases hzy : z ≤ y
        · have hM := hM1 hzy
          obtain ⟨v', w', hr, hN2, hE2⟩ := HN.out.ext HE.out (by omega)
          have hrow := hN2.row
          simp only [List.length_append, List.length_singleton] at hrow
          rw [hMl] at hrow
          obtain ⟨a3, c3, rfl, _⟩ := own_slice hrow
          simp only [hMl] at hN2
          have HN2 := hid hN2
          have HE2 := hid hE2
          have HR1 : Hid (z + 1 ≤ y → M ++ [[]] = netM G (z + 1)) := fun q => by
            rw [hM, netM_gap (HGap.out z hz1 (by omega))]
          have HR2 : Hid (z + 1 = y + 1 → M ++ [[]] = netM G y ++ [[]] ∧ (if y = z then ((none, 0) : Option Addr × Nat) else H2 y) = (none, 0)) := fun q => by
            have e : z = y := by omega
            rw [hM, e]
            exact ⟨rfl, by simp⟩
          have hzi : (z : Int) ≤ y := by omega
          have HMl := hid hMl
          clear hN2 hE2 hrow hM1 hM2 hM HN HE hMl
          cases gk with
          | zero => omega
          | succ f =>
            go_wp2_with (at_builtin; refine wpList_append_run rfl _ _ 31 rfl _ _ _ rfl rfl hr ?_)
            go_roundg f
            case measure => omega
            case rel => exact ⟨z + 1, _, _, by omega, by omega, by omega, ⟨_, _, rfl⟩, by simp [HMl.out], HR1.out, HR2.out, HN2.out, HE2.out⟩
        · obtain rfl : z = y + 1 := by omega
          obtain ⟨hM, hH2⟩ := hM2 rfl
          subst hM
          have HH2 := hid hH2
          have K := slots_any p G B (y : Nat) wr (HH.out.keep0 HE.out) HI.out
          have hsv : slV G (y : Nat) = (ndAt G.ns y).s := by
            unfold slV
            rw [lvB_nat, decide_eq_true HY.out]
            simp
          rw [hsv] at K
          have hs1 := HI.out.sl y
          have HFi : Hid (nbr G y = (ndAt G.ns y).s.filter (fun x => decide (0 ≤ x))) := by
            show _ = _
            rw [nbr, if_pos HY.out]
          have hzi : ¬ ((y + 1 : Nat) : Int) ≤ y := by omega
          clear hsv hM1 hM2 hMl hH2
          generalize fl G (y : Nat) = er at *
          generalize (ndAt G.ns y).s = s at *
          go_wp2_with fail
          refine K.mono ?_
          clear K
          rintro e w4 ⟨v4, rfl, ho4, hE4⟩
          have HN4 := hid (HN.out.keep0 hE4)
          have HE4 := hid (HE.out.trans hE4)
          have HO4 := hid ho4
          obtain ⟨a4, c4, rfl, _⟩ := own_slice ho4
          have hlS := own_lt ho4
          have hbS : w.heap.size ≤ wr.heap.size := HE.out.size
          have hS4 : wr.heap.size ≤ w4.heap.size := hE4.size
          have HL4 : Hid (∀ g, (Value.slice (H2 y).1 0 (H2 y).2).ownBlock = some g → w4.heap.size ≤ g) := fun g hg => by rw [HH2.out] at hg; simp [Value.ownBlock] at hg
          clear ho4 hE4 HN HE c0
          obtain ⟨g, c5, hv5, _, _, _, _, _, _⟩ := HN4.out.last
          rw [netM_len] at hv5
          simp only [Value.slice.injEq, true_and] at hv5
          obtain ⟨rfl, rfl⟩ := hv5
          generalize hsl : s.length = sl at *
          have HSL := hid hsl
          clear hsl
          generalize wr.heap.size = B4 at *
          go_wp2_with fail
          go_loopw [9] (fun q w5 => ∃ (j : Nat) (H : Nat → Option Addr × Nat), q = .int .i64 j ∧ j ≤ sl ∧ Nb w w5 (.slice (some ⟨g, 0, none⟩) (y + 1) d2) (netM G y ++ [(s.take j).filter (fun x => decide (0 ≤ x))]) H ∧ Ext [] w w5 ∧ w5.ownsRow B4 3 1 (.slice a4 sl c4) sl (s.map (Value.int .i64)) ∧ (∀ gg, (Value.slice (H y).1 ((s.take j).filter (fun x => decide (0 ≤ x))).length (H y).2).ownBlock = some gg → w4.heap.size ≤ gg) ∧ w4.heap.size ≤ w5.heap.size) (fun q _ => (sl - (intOf q)).toNat)
          case atStart => exact ⟨0, H2, rfl, Nat.zero_le _, HN4.out, HE4.out, HO4.out, HL4.out, Nat.le_refl _⟩
          case round =>
            clear HN4 HE4 HO4 HL4
            obtain ⟨j, H3, rfl, hj, hN5, hE5, hO5, hB5, hz5⟩ := hrel
            have HN5 := hid hN5
            have HE5 := hid hE5
            have HO5 := hid hO5
            have HB5 := hid hB5
            clear hN5 hE5 hO5 hB5
            by_cases hjl : j < sl
            · have hjs : j < s.length := by rw [HSL.out]; exact hjl
              have c0 := HE5.out.cell HC0.out (by simp)
              obtain ⟨b4, o4, rfl, cs⟩ := Is.cell (show Is wr a4 s from own_vs HO5.out) hjs
              have HFt := hid (filter_take hjs)
              have hfl : ((s.take j).filter (fun x => decide (0 ≤ x))).length ≤ 8192 := by
                have h1 := List.length_filter_le (fun x : Int => decide (0 ≤ x)) (s.take j)
                rw [List.length_take] at h1
                have := HSL.out
                omega
              generalize (s.take j).filter (fun x => decide (0 ≤ x)) = r at *
              generalize s.getD j 0 = x at *
              by_cases hx0 : 0 ≤ x
              · have hF2 := HFt.out
                rw [if_pos hx0] at hF2
                have HF2 := hid hF2
                obtain ⟨g', c', hv, hc', cl, cfr, hgl, hgw, hol⟩ := HN5.out.last
                rw [netM_len] at hv hc' cl hol
                simp only [Value.slice.injEq, Option.some.injEq, Addr.mk.injEq, and_true, true_and] at hv
                obtain ⟨rfl, rfl⟩ := hv
                have cfy := cfr y
                have hyi : (y : Int) < ((y + 1 : Nat) : Int) := by omega
                have hjj : (j : Int) < sl := by omega
                obtain ⟨i3, hi3, hz3, hs3, hy3⟩ := info_parts info3
                have hEW : Ext [] wr (wr.drew.alloc (.cells #[.int .i64 x] 3)) := (Ext.drew [] _).trans (Ext.alloc [] _ _)
                have HEW := hid hEW
                have HOa := hid (own_keep0 hol hEW)
                have hna : ∀ (jj : Nat) (u : Value), [Value.int .i64 x][jj]? = some u → (wr.drew.alloc (.cells #[.int .i64 x] 3)).cell? (Addr.add ⟨wr.heap.size, 0, none⟩ jj) = some u := fun jj u hu => by
                  rw [Addr.add_lit, cell_of_row _ _ _ _ _ _ (show (wr.drew.alloc (.cells #[.int .i64 x] 3)).heap[wr.heap.size]? = _ from heap_alloc_new wr.drew _), Nat.zero_add, ← hu]; simp
                have HNA := hid hna
                have hbw : b < wr.heap.size := Nat.lt_of_lt_of_le hbl HE5.out.size
                have HWb : Hid (w.heap.size ≤ (wr.drew.alloc (.cells #[.int .i64 x] 3)).heap.size) := Nat.le_trans HE5.out.size hEW.size
                have H1c : Hid (∀ u ∈ [Value.int .i64 x], u.oneCell' = true) := by
                  show ∀ u ∈ _, _
                  simp [Value.oneCell']
                have HML : Hid (r.length + 1 ≤ maxLen) := by show _ ≤ _; unfold maxLen; omega
                have HBy : Hid ((r.length + 1) * 8 ≤ 140737488355328) := by show _ ≤ _; omega
                have HI3 := hid hi3
                have HZ3 := hid hz3
                have HST : Hid (∀ ga gcap wz, wz.ownsRow w.heap.size 3 1 (.slice (some ⟨ga, 0, none⟩) (r.length + 1) gcap) (r.length + 1) (r.map (Value.int .i64) ++ [.int .i64 x]) → (wr.drew.alloc (.cells #[.int .i64 x] 3)).grownBy wz (Value.slice (H3 y).1 r.length (H3 y).2).ownBlock → ((Value.slice (H3 y).1 r.length (H3 y).2).ownBlock = some ga ∨ ga = (wr.drew.alloc (.cells #[.int .i64 x] 3)).heap.size) →
                    wz.cell? ⟨b, o + k, none⟩ = some (.int .i64 y) ∧ wz.cell? ⟨g, y, none⟩ = some (.slice (H3 y).1 r.length (H3 y).2) ∧ wz.frozen? ⟨g, y, none⟩ = false ∧
                    (∃ H, Nb w (wz.setCell ⟨g, y, none⟩ (.slice (some ⟨ga, 0, none⟩) (r.length + 1) gcap)) (.slice (some ⟨g, 0, none⟩) (y + 1) d2) (netM G y ++ [r ++ [x]]) H ∧ (∀ gg, (Value.slice (H y).1 (r ++ [x]).length (H y).2).ownBlock = some gg → w4.heap.size ≤ gg)) ∧ Ext [] w (wz.setCell ⟨g, y, none⟩ (.slice (some ⟨ga, 0, none⟩) (r.length + 1) gcap)) ∧ (wz.setCell ⟨g, y, none⟩ (.slice (some ⟨ga, 0, none⟩) (r.length + 1) gcap)).ownsRow B4 3 1 (.slice (some ⟨b4, o4, none⟩) sl c4) sl (s.map (Value.int .i64)) ∧ w4.heap.size ≤ (wz.setCell ⟨g, y, none⟩ (.slice (some ⟨ga, 0, none⟩) (r.length + 1) gcap)).heap.size) := by
                  intro ga gcap wz hO8 hgr hat
                  have hX8 := ext_grown hgr
                  have hrowb : ∀ q, (Value.slice (H3 y).1 r.length (H3 y).2).ownBlock = some q → w4.heap.size ≤ q := HB5.out
                  have hno : ∀ q, q < w4.heap.size → q ∉ (Value.slice (H3 y).1 r.length (H3 y).2).ownBlock.toList := fun q hq r' => by
                    have := hrowb q (by simpa using r'); omega
                  have hgno : g ∉ (Value.slice (H3 y).1 r.length (H3 y).2).ownBlock.toList := fun r' => by
                    have hr0 := HN5.out.row
                    simp only [List.length_append, List.length_singleton, netM_len] at hr0
                    exact own_apart hr0 hol (by decide) g r' (by simp [Value.ownBlock])
                  have hN8 := Nb.grow (M := netM G y) (r := r) (x := x) (W := wr.drew.alloc (.cells #[.int .i64 x] 3)) (by rw [netM_len]; exact HN5.out) hEW (by rw [netM_len]; exact hX8) hO8 (by
                    rw [netM_len]
                    rcases hat with q | q
                    · exact .inl q
                    · right
                      rw [q]
                      exact hEW.size)
                  rw [netM_len] at hN8
                  have hsb : (Value.slice (some ⟨b4, o4, none⟩) sl c4).ownBlock = some b4 := rfl
                  have hs4 := hlS b4 rfl
                  have hbw4 : b < w4.heap.size := by omega
                  have hSet := Ext.setCell [g] wz ⟨g, y, none⟩ (.slice (some ⟨ga, 0, none⟩) (r.length + 1) gcap) (by simp)
                  have hz8 := hX8.size
                  have hzW := hEW.size
                  refine ⟨hX8.cell (hEW.cell c0 (by simp)) (hno b hbw4), hX8.cell (hEW.cell cl (by simp)) hgno, ?_, ⟨_, hN8, fun gg hg => ?_⟩, ?_, ?_, ?_⟩
                  · exact (World.frozen?_of_block (a := ⟨g, y, none⟩) (hX8.block g (Nat.lt_of_lt_of_le hgl hEW.size) hgno)).trans ((World.frozen?_of_block (a := ⟨g, y, none⟩) (hEW.block g hgl (by simp))).trans cfy)
                  · simp only [if_true, Value.ownBlock, Option.some.injEq] at hg
                    subst hg
                    rcases hat with q | q
                    · exact hrowb ga q
                    · rw [q]; omega
                  · exact ((HE5.out.trans hEW).on hX8 (fun q hq => (own_lt hol q (by simpa using hq)).1)).on hSet (by simpa using hgw)
                  · have q1 := own_keep0 HO5.out hEW
                    have q2 := own_keep q1 hX8 (fun q hq e => hno b4 (by have := hs4.2; omega) (by rw [hsb] at e; simp at e; subst e; exact hq))
                    refine own_keep q2 hSet ?_
                    have hr0 := own_keep0 HN5.out.row hEW
                    simp only [List.length_append, List.length_singleton, netM_len] at hr0
                    have := own_apart q1 hr0 (by decide) g (by simp [Value.ownBlock])
                    simpa using this
                  · simp; omega
                clear HFt hna hEW hi3 hz3 hol cfr
                clear HO5 HB5 HN5 HE5
                go_wp2_with fail
                go_region_law (refine step_append_lies _ (by rfl) _ _ _ (by rfl) w.heap.size 3 i3 _ 1 8 Try.underlying23 HI3.out HZ3.out hs3 hy3 rfl (by decide) (.slice (H3 y).1 r.length (H3 y).2) r.length (r.map (Value.int .i64)) (by rfl) HOa.out ⟨wr.heap.size, 0, none⟩ 1 1 [.int .i64 x] (by rfl) (by rfl) HNA.out H1c.out Nat.zero_lt_one HML.out HBy.out HWb.out _ rfl ?_; intro ga gcap wz hO8 hgrow hat hlt8; obtain ⟨e1, e2, e3, e4⟩ := HST.out ga gcap wz hO8 hgrow hat; have HE4 := hid e4; clear hO8 hgrow hat hlt8 e4)
                all_goals
                  go_wp2_with fail
                  obtain ⟨⟨H9, f1, f2⟩, f3, f4, f5⟩ := HE4.out
                  go_roundw
                  case rel => exact ⟨j + 1, H9, by go_num, by omega, by rw [HF2.out]; exact f1, f3, f4, by rw [HF2.out]; exact f2, f5⟩
                  case measure => simp [intOf]; omega
              · have hF2 := HFt.out
                rw [if_neg hx0, List.append_nil] at hF2
                have HF2 := hid hF2
                clear HFt hF2
                go_wp2_with fail
                go_roundw
                case rel => exact ⟨j + 1, H3, by go_num, by omega, by rw [HF2.out]; exact HN5.out, HE5.out, HO5.out, by rw [HF2.out]; exact HB5.out, hz5⟩
                case measure => simp [intOf]; omega
            · obtain rfl : j = sl := by omega
              have HFin : Hid (netM G y ++ [(s.take j).filter (fun x => decide (0 ≤ x))] = netM G (nK G (k + 1))) := by
                show _ = _
                rw [HSu.out, netM_succ, HFi.out, ← HSL.out, List.take_length]
              go_wp2_with fail
              go_roundw
              case rel => exact ⟨k + 1, H3, by go_num, by omega, ⟨_, _, by rw [HSu.out]⟩, by rw [← HFin.out]; exact HN5.out, HE5.out⟩
              case measure => simp [intOf]; omega
    · obtain rfl : k = ln := by omega
      have hLn : nK G k ≤ 65536 := by rw [← HLn.out]; exact Nat.le_trans nK_len hlen
      have hnt : Nt wr ad (netM G (nK G k)) := by
        have h1 := HN.out.row
        rw [netM_len] at h1
        refine nt_of h1 (by have := HN.out.fs; rwa [netM_len] at this) (netM_len _ _) (by omega) (fun i hi => ?_)
        rw [netM_at hi]
        have := nbr_len HI.out i
        omega
      have hcd : nK G k ≤ d := by
        obtain ⟨a', c', e, hc⟩ := own_slice HN.out.row
        simp only [Value.slice.injEq, netM_len] at e
        rw [netM_len] at hc
        omega
      have HNt := hid hnt
      have HAll : Hid (∀ i x, i < nK G k → x ∈ nbr G i → 0 ≤ x ∧ x < (nK G k : Nat)) := fun i x _ hx => by
        obtain ⟨h1, h2⟩ := nbr_lt HI.out hx
        have := nK_all h2
        rw [HLn.out] at this
        omega
      have HNl : Hid (∀ i, (nbr G i).length ≤ 8192) := nbr_len HI.out
      have HML : Hid (∀ i, i < nK G k → lsAt (netM G (nK G k)) i = nbr G i) := fun i hi => netM_at hi
      have HFin : Hid (NePost w (netM G (nK G k)) (.returned (.slice ad (nK G k) d)) wr) := ⟨ad, d, H, by rw [netM_len], by rw [netM_len]; exact hcd, by rw [netM_len]; exact HN.out, HE.out⟩
      have HLen : Hid ((netM G (nK G k)).length = nK G k) := netM_len _ _
      generalize netM G (nK G k) = M at *
      generalize nK G k = L at *
      clear hnt HN HE
      go_wp2_with fail
      go_loop [5, 10] (fun v q => v = .slice ad L d ∧ ∃ i : Nat, q = .int .i64 i ∧ i ≤ L) (fun _ q => (L - (intOf q)).toNat)
      case atStart => exact ⟨rfl, 0, rfl, Nat.zero_le _⟩
      case round =>
        obtain ⟨rfl, i, rfl, hi⟩ := hrel
        by_cases hil : i < L
        · obtain ⟨g, o2, rfl, hcs⟩ := HNt.out.addr (by rw [HLen.out]; omega)
          obtain ⟨fa, fc, c0, hIs, hfc, _⟩ := hcs i (by rw [HLen.out]; exact hil)
          rw [HML.out i hil] at c0 hIs hfc
          have hnl := HNl.out i
          have HA := hid (fun x => HAll.out i x hil)
          have HIs := hid hIs
          clear hcs hIs
          generalize nbr G i = r at *
          generalize hrl : r.length = rl at *
          have HRl := hid hrl
          clear hrl
          have hii : (i : Int) < L := by omega
          go_wp2_with fail
          go_loop [5, 11] (fun v q => v = .slice (some ⟨g, o2, none⟩) L d ∧ ∃ j : Nat, q = .int .i64 j ∧ j ≤ rl) (fun _ q => (rl - (intOf q)).toNat)
          case atStart => exact ⟨rfl, 0, rfl, Nat.zero_le _⟩
          case round =>
            obtain ⟨rfl, j, rfl, hj⟩ := hrel
            by_cases hjl : j < rl
            · have hjr : j < r.length := by rw [HRl.out]; exact hjl
              obtain ⟨b3, o3, rfl, c3⟩ := HIs.out.cell hjr
              have hx := HA.out (r.getD j 0) (by simp [List.getD, hjr])
              have hjj : (j : Int) < rl := by omega
              generalize r.getD j 0 = x at *
              have hx1 : ¬ (L : Int) ≤ x := by omega
              go_wp2_with fail
              go_loop [5] (fun v => v = .slice (some ⟨g, o2, none⟩) L d) (fun _ => 0)
              case atStart => rfl
              case round =>
                subst hrel
                go_wp2_with fail
                go_round
                case rel => exact ⟨rfl, j + 1, by go_num, by omega⟩
                case measure => simp [intOf]; omega
            · obtain rfl : j = rl := by omega
              go_wp2_with fail
              go_round
              case rel => exact ⟨rfl, i + 1, by go_num, by omega⟩
              case measure => simp [intOf]; omega
        · obtain rfl : i = L := by omega
          go_wp2_with fail
          go_ret
          exact HFin.out

end Go.Proofs.Ytfgdoehiocgkhaa

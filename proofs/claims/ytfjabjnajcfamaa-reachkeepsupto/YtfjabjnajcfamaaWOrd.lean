/-
  The function ReachOrder walked through; no statement is proved here.
-/
import Derived.Test.YtfjabjnajcfamaaOrd
import Derived.Deep.CutBlock
namespace Go.Proofs.Ytfjabjnajcfamaa
open Go.RowKit

theorem getD_at {α : Type} (l : List α) (d : α) {i : Nat} (h : i < l.length) : l.getD i d = l[i] := by simp [List.getD, h]
theorem get_some {α : Type} (l : List α) (d : α) {i : Nat} (h : i < l.length) : l[i]? = some (l.getD i d) := by simp [List.getD, h]
theorem take_snoc {α : Type} (l : List α) (i : Nat) (d : α) (h : i < l.length) : l.take (i + 1) = l.take i ++ [l.getD i d] := by
  rw [List.take_add_one]; simp [h]
theorem nodup_take {O : List Nat} (h : O.Nodup) {i : Nat} (hi : i < O.length) : O.getD i 0 ∉ O.take i := by
  have h1 : (O.take (i + 1)).Nodup := h.sublist (List.take_sublist _ _)
  rw [take_snoc O i 0 hi, List.nodup_append] at h1
  intro hm
  exact h1.2.2 _ hm _ (by simp) rfl
theorem mark_count {n : Nat} {O : List Nat} (h : O.Nodup) (hl : ∀ x ∈ O, x < n) : (mark n O).count true = O.length := by
  have key : ∀ i, i ≤ O.length → (mark n (O.take i)).count true = i := by
    intro i
    induction i with
    | zero => intro _; rw [List.take_zero, mark_nil]; simp [List.count_replicate]
    | succ i ih =>
      intro hi
      have hx : O.getD i 0 < n := hl _ (by simp [show i < O.length by omega])
      have hno := nodup_take h (i := i) (by omega)
      rw [take_snoc O i 0 (by omega), mark_snoc, List.count_set (by rw [mark_len]; exact hx), ih (by omega)]
      have : (mark n (O.take i))[O.getD i 0]'(by rw [mark_len]; exact hx) = false := by
        have h2 := mark_get n (O.take i) hx
        rw [getD_at _ _ (by rw [mark_len]; exact hx)] at h2
        rw [h2]
        simpa using hno
      rw [this]
      simp
  have := key O.length (Nat.le_refl _)
  rwa [List.take_length] at this
theorem bl_mark {N : List (List Nat)} {R O : List Nat} {wo : Int} {L : List Bool} (hB : Bl N R wo L) (hO : Ord N R wo O) : L = mark N.length O := by
  apply List.ext_getElem (by rw [hB.len, mark_len])
  intro i h1 h2
  have hi : i < N.length := by rw [← hB.len]; exact h1
  have h3 := hB.mem i hi
  have h4 := mark_get N.length O hi
  rw [getD_at _ _ h1] at h3
  rw [getD_at _ _ h2] at h4
  rw [h4, Bool.eq_iff_iff, h3, decide_eq_true_eq]
  exact (hO.mem i).symm

namespace reachOrder

set_option maxRecDepth 100000 in
set_option maxHeartbeats 4000000 in
theorem bad (a : Option Addr) (n c : Nat) (ra : Option Addr) (rn rc : Nat) (M : List (List Int)) (R : List Int) (w : World) (hN : Nt w a M) (hn : M.length = n) (hR : Is w ra R) (hrn : R.length = rn) (hrb : rn ≤ 17592186044416) (hne : errB M R [] ≠ 0) :
    Calls Try.prog 7 #[.slice a n c, .slice ra rn rc] w (SayPost w (.bool true)) := by
  have HN := hid hN
  have HR := hid hR
  have HNe := hid hne
  have HNn := hid hn
  have HRn := hid hrn
  clear hN hR hne hn hrn
  go_enter Try.func7, Try.ntmps7
  go_wp2_with fail
  refine (awake_any w).mono ?_
  rintro e w1 ⟨rfl, hE1⟩
  have HE1 := hid hE1
  have K := copied_any a n c M w1 (HN.out.keep0 hE1) HNn.out
  clear hE1
  go_wp2_with fail
  refine K.mono ?_
  clear K
  rintro e w2 ⟨a2, c2, rfl, _, hN2, hE2⟩
  have HN2 := hid hN2
  have HE2 := hid (HE1.out.trans hE2)
  have K := own_any ra rn rc R w2 (HR.out.keep0 HE2.out) HRn.out hrb
  clear hN2 hE2 HE1
  go_wp2_with fail
  refine K.mono ?_
  clear K
  rintro e w3 ⟨a3, c3, rfl, _, ho3, hE3⟩
  have K := set_bad a2 M.length c2 a3 R.length c3 M R w3 (HN2.out.keep0 hE3) rfl (own_vs ho3) rfl (by rw [HRn.out]; exact hrb) HNe.out
  have HE3 := hid (HE2.out.trans hE3)
  have K2 := told_bad a n c ra rn rc M R w3 (HN.out.keep0 HE3.out) HNn.out (HR.out.keep0 HE3.out) HRn.out hrb HNe.out
  clear ho3 hE3
  have hne2 : (errB M R [] != 0) = true := by simpa using HNe.out
  generalize errB M R [] = er at *
  go_wp2_with fail
  refine met K ?_
  clear K
  go_wp2_with fail
  refine K2.mono ?_
  clear K2
  rintro e w4 ⟨v, rfl, hL, _, hE4⟩
  obtain ⟨av, cv, rfl, _⟩ := hL.slice
  simp only [List.length_nil]
  have HE4 := hid (HE3.out.trans hE4)
  clear hE4 hL
  go_wp2_with fail
  go_ret
  exact ⟨rfl, HE4.out⟩

set_option maxRecDepth 100000 in
set_option maxHeartbeats 4000000 in
theorem good (a : Option Addr) (n c : Nat) (ra : Option Addr) (rn rc : Nat) (N : List (List Nat)) (R : List Nat) (w : World) (hN : Nt w a (cn N)) (hn : N.length = n) (hR : Is w ra (ci R)) (hrn : R.length = rn) (hrb : rn ≤ 17592186044416) (hGo : Good N R) :
    Calls Try.prog 7 #[.slice a n c, .slice ra rn rc] w (SayPost w (.bool true)) := by
  obtain ⟨O, hO⟩ := ord_exists hGo (-1)
  have HN := hid hN
  have HR := hid hR
  have HGo := hid hGo
  have HNn := hid hn
  have HRn := hid hrn
  have HO := hid hO
  clear hN hR hGo hn hrn hO
  go_enter Try.func7, Try.ntmps7
  go_wp2_with fail
  refine (awake_any w).mono ?_
  rintro e w1 ⟨rfl, hE1⟩
  have HE1 := hid hE1
  have K := copied_any a n c (cn N) w1 (HN.out.keep0 hE1) (by rw [cn_len]; exact HNn.out)
  clear hE1
  go_wp2_with fail
  refine K.mono ?_
  clear K
  rintro e w2 ⟨a2, c2, rfl, _, hN2, hE2⟩
  have HN2 := hid hN2
  have HE2 := hid (HE1.out.trans hE2)
  have K := own_any ra rn rc (ci R) w2 (HR.out.keep0 HE2.out) (by rw [ci_len]; exact HRn.out) hrb
  clear hN2 hE2 HE1
  go_wp2_with fail
  refine K.mono ?_
  clear K
  rintro e w3 ⟨a3, c3, rfl, _, ho3, hE3⟩
  have K := set_ok N R a2 (cn N).length c2 a3 (ci R).length c3 w3 (HN2.out.keep0 hE3) (by rw [cn_len]) HGo.out (own_vs ho3) (by rw [ci_len]) (by rw [ci_len, HRn.out]; exact hrb)
  have HE3 := hid (HE2.out.trans hE3)
  clear ho3 hE3 HE2 HN2
  go_wp2_with fail
  refine K.mono ?_
  clear K
  rintro e w4 ⟨v, L, rfl, hB, ho, hE⟩
  have HE4 := hid (HE3.out.trans hE)
  have HLm := hid (bl_mark hB HO.out)
  obtain ⟨av, cv, rfl, _⟩ := own_slice ho
  have HL := hid (show Os w4 av L from own_vs ho)
  have HLn : Hid (L.length = n) := by show _ = _; rw [hB.len, HNn.out]
  rw [HNn.out]
  have K2 := told_ok HO.out a n c ra rn rc w4 (HN.out.keep0 HE4.out) HNn.out HGo.out (HR.out.keep0 HE4.out) HRn.out hrb
  clear hE hB ho HE3
  go_wp2_with fail
  refine K2.mono ?_
  clear K2
  rintro e w5 ⟨v5, rfl, hL5, _, hE5⟩
  obtain ⟨a5, c5, rfl, _⟩ := hL5.slice
  have HV5 := hid (show Is w5 a5 (ci O) from own_vs hL5)
  rw [ci_len]
  have HL5 := hid (HL.out.keep0 hE5)
  have HE5 := hid (HE4.out.trans hE5)
  have HN5 := hid (HN.out.keep0 HE5.out)
  have HR5 := hid (HR.out.keep0 HE5.out)
  have hnb : n ≤ 65536 := by have := HGo.out.len; have := HNn.out; omega
  have hOb : O.length ≤ 65536 := by have := HO.out.len; have := HGo.out.len; omega
  have HCt : Hid (L.count true = O.length) := by
    show _ = _
    rw [HLm.out]
    exact mark_count HO.out.once HO.out.lt
  have HOlt : Hid (∀ x ∈ O, x < n) := fun x hx => by have := HO.out.lt x hx; rw [HNn.out] at this; exact this
  clear HL HE4 hL5 hE5 HN HR HLm
  obtain ⟨i4, hi4, hz4, hs4, hy4⟩ := info_parts info4
  have hr := run_make (P := Try.prog) w5 25 4 i4 _ Try.underlying25 hi4 hz4 .i64 .i64 n n (by omega) (Int.le_refl _) (by rw [hy4]; omega) (by omega)
  rw [hs4] at hr
  simp only [Int.toNat_natCast] at hr
  have hm : madeCells (Value.bool false).cells (n * 1) = ((mark n []).map Value.bool).toArray := by
    apply Array.toList_inj.1
    rw [show (Value.bool false).cells = #[.bool false] from rfl, toList_madeCells_one, mark_nil]
    simp
  rw [hm] at hr
  have hE0 := Ext.alloc [] w5 (.cells ((mark n []).map Value.bool).toArray 4)
  have HO0 : Hid ((w5.alloc (.cells ((mark n []).map Value.bool).toArray 4)).ownsRow w5.heap.size 4 1 (.slice (some ⟨w5.heap.size, 0, none⟩) n n) n ((mark n []).map Value.bool)) := by
    have := World.ownsRow_lit (base := w5.heap.size) (e := 4) (size := 1) w5 ((mark n []).map Value.bool).toArray n (Nat.le_refl _) (by unfold maxLen; omega) (by simp [mark])
    exact this
  have HE0 := hid hE0
  clear hm hi4 hz4 hs4 hy4 hE0
  go_upto_block 0 with fail
  generalize w5.alloc (.cells ((mark n []).map Value.bool).toArray 4) = w6 at *
  clear hr
  go_cut [10] from 42 (fun q wc => w6 = wc ∧ q = .int .i64 (O.length : Nat))
  case first =>
    go_wp2_with fail
    go_loopw [10, 11] (fun q u wr => w6 = wr ∧ ∃ i : Nat, q = .int .i64 ((L.take i).count true : Nat) ∧ u = .int .i64 i ∧ i ≤ n) (fun _ u _ => (n - (intOf u)).toNat)
    case atStart => exact ⟨rfl, 0, by simp, rfl, Nat.zero_le _⟩
    case round =>
      obtain ⟨rfl, i, rfl, rfl, hi⟩ := hrel
      by_cases hlt : i < n
      · obtain ⟨b, o, rfl, hc⟩ := (HL5.out.keep0 HE0.out).cell (j := i) (by rw [HLn.out]; exact hlt)
        have hiL : i < L.length := by rw [HLn.out]; exact hlt
        have HTk := hid (take_snoc L i false hiL)
        have hct : (L.take i).count true ≤ 65536 := by have := List.count_le_length (a := true) (l := L.take i); simp at this; omega
        clear hiL
        cases hg : L.getD i false
        · rw [hg] at hc HTk
          have HCn : Hid ((L.take (i + 1)).count true = (L.take i).count true) := by show _ = _; rw [HTk.out]; simp
          clear hg HTk
          go_wp2_with fail
          go_roundw
          case rel => exact ⟨by trivial, i + 1, by rw [HCn.out], by go_num, by omega⟩
          case measure => simp [intOf]; omega
        · rw [hg] at hc HTk
          have HCn : Hid ((L.take (i + 1)).count true = (L.take i).count true + 1) := by show _ = _; rw [HTk.out]; simp
          clear hg HTk
          go_wp2_with fail
          go_roundw
          case rel => exact ⟨by trivial, i + 1, by rw [HCn.out]; go_num, by go_num, by omega⟩
          case measure => simp [intOf]; omega
      · go_wp2_with fail
        go_meet
        case rel =>
          refine ⟨by trivial, ?_⟩
          rw [List.take_of_length_le (by rw [HLn.out]; omega), HCt.out]
  case rest =>
    obtain ⟨rfl, rfl⟩ := hcut
    go_upto_region 15 with fail
    go_loopg [12] O.length (fun g u wr => ∃ i : Nat, i + g = O.length ∧ u = .int .i64 i ∧ Ext [] w5 wr ∧ wr.ownsRow w5.heap.size 4 1 (.slice (some ⟨w5.heap.size, 0, none⟩) n n) n ((mark n (O.take i)).map Value.bool))
    case atStart => exact ⟨0, by omega, rfl, HE0.out, by simpa using HO0.out⟩
    case round =>
      clear HO0 HE0 HL5 HCt
      obtain ⟨i, hig, rfl, hE, ho⟩ := hrel
      have HE := hid hE
      have HOw := hid ho
      clear hE ho
      obtain ⟨G1, hG1⟩ : ∃ G1, G1 = gk := ⟨_, rfl⟩
      subst hG1
      cases G1 with
      | zero =>
        obtain rfl : i = O.length := by omega
        go_wp2_with fail
        go_ret
        exact ⟨rfl, HE5.out.trans HE.out⟩
      | succ g =>
        have hiO : i < O.length := by omega
        obtain ⟨b, o, rfl, hvs⟩ := (HV5.out.keep0 HE.out).at_ (by intro e; rw [← List.length_eq_zero_iff, ci_len] at e; omega)
        rw [ci_len] at hvs
        have HVs : Hid (∀ j, j < O.length → wr.cell? ⟨b, o + j, none⟩ = some (.int .i64 ((O.getD j 0 : Nat) : Int))) := fun j hj => by
          have := hvs j hj
          rwa [ci_get _ _ hj] at this
        have hc := HVs.out i hiO
        have hx := HOlt.out (O.getD i 0) (by simp [hiO])
        have hno : (mark n (O.take i)).getD (O.getD i 0) false = false := by
          rw [mark_get _ _ hx]
          simpa using nodup_take HO.out.once hiO
        have HTk := hid (take_snoc O i 0 hiO)
        have HEa := hid (HO.out.earlier i hiO)
        have k1 : wr.cell? ⟨w5.heap.size, O.getD i 0, none⟩ = some (.bool false) := by
          rw [HOw.out.cellAt _ (by omega), List.getElem?_map]
          rw [get_some (mark n (O.take i)) false (by rw [mark_len]; exact hx), hno]
          rfl
        have k2 : wr.frozen? ⟨w5.heap.size, O.getD i 0, none⟩ = false := HOw.out.frozenAt _
        have HSt := hid (HOw.out.stored (O.getD i 0) (.bool true)).1
        have K1 := in_any ra rn rc (ci R) ((O.getD i 0 : Nat) : Int) wr (HR5.out.keep0 HE.out) (by rw [ci_len]; exact HRn.out) hrb
        have HMr : Hid (O.getD i 0 ∈ R → decide (((O.getD i 0 : Nat) : Int) ∈ ci R) = true) := fun h => by
          simp only [decide_eq_true_eq]
          exact List.mem_map.2 ⟨_, h, rfl⟩
        clear hvs hno
        generalize O.getD i 0 = x at *
        generalize decide ((x : Int) ∈ ci R) = b0 at *
        go_wp2_with (go_at_call 24; refine met K1 ?_)
        clear K1
        obtain ⟨wo, hwo⟩ : ∃ wo, wo = wr := ⟨_, rfl⟩
        subst hwo
        go_loopg [13, 14] i (fun g2 q u wx => ∃ k : Nat, ∃ b1 : Bool, k + g2 = i ∧ q = .bool b1 ∧ u = .int .i64 k ∧ Ext [] wo wx ∧ ((x ∈ R ∨ ∃ k', k' < k ∧ x ∈ nxt N (O.getD k' 0)) → b1 = true))
        case atStart => exact ⟨0, b0, by omega, rfl, rfl, Ext.refl _ _, fun h => by
          rcases h with h | ⟨k', h, _⟩
          · exact HMr.out h
          · omega⟩
        case round =>
          clear HMr
          obtain ⟨k, b1, hkg, rfl, rfl, hE2, hb1⟩ := hrel
          have HB1 := hid hb1
          have HE2 := hid hE2
          have hc2 := hE2.cell hc (by simp)
          have k12 := hE2.cell k1 (by simp)
          have k22 : wr.frozen? ⟨w5.heap.size, x, none⟩ = false := (own_keep0 HOw.out hE2).frozenAt _
          clear hb1 hE2 hc k1 k2
          cases gk with
          | zero =>
            obtain rfl : k = i := by omega
            have hbt : b1 = true := HB1.out HEa.out
            subst hbt
            clear HB1
            go_wp2_with fail
            go_roundg g
            case measure => omega
            case rel =>
              refine ⟨k + 1, by omega, by go_num, (HE.out.trans HE2.out).on (Ext.setCell [w5.heap.size] _ _ _ (by simp)) (by simp), ?_⟩
              rw [HTk.out, mark_snoc, List.map_set]
              exact ((own_keep0 HOw.out HE2.out).stored x (.bool true)).1
          | succ g2 =>
            have hkO : k < O.length := by omega
            have hck := HE2.out.cell (HVs.out k hkO) (by simp)
            have hyn := HOlt.out (O.getD k 0) (by simp [hkO])
            have HBn : Hid ((x ∈ R ∨ ∃ k', k' < k + 1 ∧ x ∈ nxt N (O.getD k' 0)) → b1 = true ∨ x ∈ nxt N (O.getD k 0)) := fun h => by
              rcases h with h | ⟨k', h1, h2⟩
              · exact .inl (HB1.out (.inl h))
              · by_cases e : k' = k
                · subst e; exact .inr h2
                · exact .inl (HB1.out (.inr ⟨k', by omega, h2⟩))
            clear HB1
            generalize O.getD k 0 = y at *
            obtain ⟨nb, no, rfl, hcs⟩ := (HN5.out.keep0 (HE.out.trans HE2.out)).addr (by rw [cn_len, HNn.out]; omega)
            obtain ⟨fa, fc, hcn, hI, _, hfl⟩ := hcs y (by rw [cn_len, HNn.out]; exact hyn)
            rw [cn_get] at hcn hI hfl
            rw [ci_len] at hcn hfl
            have K := fun q => in_any fa (nxt N y).length fc (ci (nxt N y)) (x : Int) (wr.drewN q) (hI.keep0 (Ext.drewN [] _ _)) (ci_len _) hfl
            have HMy : Hid (x ∈ nxt N y → decide ((x : Int) ∈ ci (nxt N y)) = true) := fun h => by
              simp only [decide_eq_true_eq]
              exact List.mem_map.2 ⟨_, h, rfl⟩
            generalize decide ((x : Int) ∈ ci (nxt N y)) = b2 at *
            generalize (nxt N y).length = lx at *
            clear hcs hI hfl
            cases b1
            · go_wp2_with fail
              go_quiet (first | (go_at_call 24; refine Calls.quiet_of_same (K _)))
              go_wp2_with fail
              go_roundg g2
              case measure => omega
              case rel => exact ⟨k + 1, b2, by omega, rfl, by go_num, HE2.out.trans (Ext.drewN [] _ _), fun h => HMy.out ((HBn.out h).resolve_left (by simp))⟩
            · clear K
              go_wp2_with fail
              go_quiet (fail)
              go_wp2_with fail
              go_roundg g2
              case measure => omega
              case rel => exact ⟨k + 1, true, by omega, rfl, by go_num, HE2.out.trans (Ext.drewN [] _ _), fun _ => rfl⟩

end reachOrder
end Go.Proofs.Ytfjabjnajcfamaa

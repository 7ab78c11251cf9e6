/-
  A cycle ends with as much work as its slots, its nodes and those that come, and two: the function ColorEnds answers true and leaves its arguments as they were, for every script, all roots and every extra; no condition.
-/
import Derived.Test.YtfgdoehiocgkhaaTwo
import Derived.Test.YtfgdoehiocgkhaaMathE
namespace Go.Proofs.Ytfgdoehiocgkhaa
open Go.RowKit

theorem open_u8 {x : Int} (h : (Lit.int .u8 x).wf = true) : 0 ≤ x ∧ x < 256 := by
  have hmin : IntKind.u8.min = 0 := rfl
  have hmax : IntKind.u8.max = 255 := rfl
  simp only [Lit.wf, Bool.and_eq_true, decide_eq_true_eq] at h
  omega

namespace colorEnds

theorem cnt_take {S : List Oq} {k : Nat} (h : k < S.length) : cnt (S.take (k + 1)) = cnt (S.take k) + if isN (oqAt S k) then 1 else 0 := by
  have e : S.take (k + 1) = S.take k ++ [oqAt S k] := by rw [List.take_add_one]; simp [oqAt, h]
  rw [e]
  unfold cnt
  rw [List.filter_append, List.length_append]
  cases hb : isN (oqAt S k) <;> simp [hb]
theorem cnt_le (S : List Oq) : cnt S ≤ S.length := List.length_filter_le _ _

theorem count_any (a : Option Addr) (n c : Nat) (S : List Oq) (w : World) (hS : Sc w a S) (hn : S.length = n) : Calls Try.prog 26 #[.slice a n c] w fun e w' => e = .returned (.int .i64 (cnt S : Nat)) ∧ w' = w := by
  have hsl := hS.len
  rw [hn] at hsl
  have HS := hid hS
  have HN := hid hn
  clear hS hn
  go_enter Try.func26, Try.ntmps26
  go_wp2_with fail
  go_loop [4, 3] (fun q b => ∃ k : Nat, q = .int .i64 k ∧ k ≤ n ∧ b = .int .i64 (cnt (S.take k) : Nat)) (fun q _ => (n - (intOf q)).toNat)
  case atStart => exact ⟨0, rfl, Nat.zero_le _, rfl⟩
  case round =>
    obtain ⟨k, rfl, hk, rfl⟩ := hrel
    have hc1 : cnt (S.take k) ≤ k := by
      have := cnt_le (S.take k)
      rw [List.length_take] at this
      omega
    by_cases hlt : k < n
    · have hkS : k < S.length := by rw [HN.out]; exact hlt
      rcases HS.out.at_ with h0 | ⟨b, o, rfl, hcs⟩
      · rw [h0] at hkS; simp at hkS
      obtain ⟨_, _, c0, _⟩ := hcs k hkS
      have HT := hid (cnt_take hkS)
      clear hcs
      generalize cnt (S.take k) = m at *
      generalize hoq : oqAt S k = oo at *
      by_cases h1 : oo.kd < 1
      · have hi : isN oo = true := by simp [isN, h1]
        rw [hi] at HT
        clear hi hoq
        go_wp2_with fail
        go_round
        case rel => exact ⟨k + 1, by go_num, by omega, by rw [HT.out]; go_num⟩
        case measure => simp [intOf]; omega
      · by_cases h2 : 6 < oo.kd
        · have hi : isN oo = true := by simp [isN, h2]
          rw [hi] at HT
          clear hi hoq
          go_wp2_with fail
          go_round
          case rel => exact ⟨k + 1, by go_num, by omega, by rw [HT.out]; go_num⟩
          case measure => simp [intOf]; omega
        · have hi : isN oo = false := by simp [isN, h1, h2]
          rw [hi] at HT
          clear hi hoq
          go_wp2_with fail
          go_round
          case rel => exact ⟨k + 1, by go_num, by omega, by rw [HT.out]; simp⟩
          case measure => simp [intOf]; omega
    · obtain rfl : k = n := by omega
      go_wp2_with fail
      go_ret
      refine ⟨?_, rfl⟩
      rw [← HN.out, List.take_length]
      rfl

/-- The slots of the first k live nodes. -/
def slK (G : Gs) (k : Nat) : Nat := (((lives G).take k).map fun i => (ndAt G.ns i).s.length).sum
theorem slK_succ {G : Gs} {k : Nat} (h : k < (lives G).length) : slK G (k + 1) = slK G k + (ndAt G.ns ((lives G).getD k 0)).s.length := by
  have e : (lives G).take (k + 1) = (lives G).take k ++ [(lives G).getD k 0] := by rw [List.take_add_one]; simp [h]
  unfold slK
  rw [e, List.map_append, List.sum_append]
  simp
theorem slK_le {G : Gs} (hI : Iv G) : ∀ k, k ≤ (lives G).length → slK G k ≤ k * 8192
  | 0, _ => by simp [slK]
  | k + 1, h => by
    have := slK_le hI k (by omega)
    have := hI.sl ((lives G).getD k 0)
    rw [slK_succ (by omega)]
    omega
/-- What nodes that come leave as it was. -/
structure Ne (G1 : Gs) (c : Nat) (G : Gs) : Prop where
  iv : Iv G
  top : G.ns.length ≤ c ∨ ∃ j, lvN G j ∧ G.ns.length = j + 1
  costs : costs G.ns = costs G1.ns
  ph : G.ph = G1.ph
  cy : G.cy = G1.cy
theorem Ne.node {G1 G : Gs} {c : Nat} (h : Ne G1 c G) : Ne G1 c (node G 3).1 := ⟨iv_node h.iv 3, node_top h.iv 3 c h.top, (node_costs h.iv 3).trans h.costs, (node_fix G 3).1.trans h.ph, (node_fix G 3).2.trans h.cy⟩

theorem get_li {l : List Nat} {k : Nat} (h : k < l.length) : (li l).getD k 0 = ((l.getD k 0 : Nat) : Int) := by simp [li, h]
theorem lives_get {G : Gs} {k : Nat} (h : k < (lives G).length) : lvN G ((lives G).getD k 0) := mem_lives.1 (by simp [List.getD, h])

set_option maxRecDepth 100000 in
set_option maxHeartbeats 2000000 in
theorem walk (a : Option Addr) (n c : Nat) (S : List Oq) (ra : Option Addr) (rn rc : Nat) (R : List Int) (x : Int) (w : World) (hS : Sc w a S) (hn : S.length = n) (hR : Is w ra R) (hrn : R.length = rn) (hrb : rn ≤ 17592186044416) (hx : 0 ≤ x ∧ x < 256) :
    Calls Try.prog 5 #[.slice a n c, .slice ra rn rc, .int .u8 x] w (SayPost w (.bool true)) := by
  subst hrn
  have hsl := hS.len
  have K1 := grown_any a n c S w hS hn
  have HS := hid hS
  have HN := hid hn
  have HR := hid hR
  clear hS hn hR
  go_enter Try.func5, Try.ntmps5
  go_wp2_with fail
  refine K1.mono ?_
  clear K1
  rintro e w1 ⟨p, G, rfl, hf, hI, hcy, hg1, hE1⟩
  have HI := hid hI
  have hlenG := hI.len
  have hcnt : G.ns.length ≤ cnt S := by rw [hf.len]; exact scr_len S
  have Hg1 := hid hg1
  have HE1 := hid hE1
  clear hf hI hg1 hE1
  go_wp2_with fail
  refine (awake_any w1).mono ?_
  rintro e w2 ⟨rfl, hE2⟩
  have Hg2 := hid (Hg1.out.keep0 hE2)
  have HE2 := hid (HE1.out.trans hE2)
  clear hE2 Hg1 HE1
  have K3 := told_any p G _ w2 Hg2.out hlenG
  go_wp2_with fail
  refine K3.mono ?_
  clear K3
  rintro e w3 ⟨v3, rfl, hL3, hn3, hE3⟩
  have Hg3 := hid (Hg2.out.keep0 hE3)
  have HE3 := hid (HE2.out.trans hE3)
  have hgt := Hg2.out.there
  have HgT := hid (hgt.keep0 hE3)
  obtain ⟨a3, c3, rfl, hI3⟩ := lst_is hL3
  have HL3 := hid hL3
  have HI3 := hid hI3
  have hll : (lives G).length ≤ 65536 := Nat.le_trans (livK_len G G.ns.length) hlenG
  have hz3 := hE3.size
  clear hL3 hI3 hE3 Hg2 HE2 hgt
  rw [li_len] at *
  generalize hnl : (lives G).length = nl at *
  have HNL := hid hnl
  clear hnl
  have H0 : Hid (slK G 0 = 0) := rfl
  have HSl := hid (slK_le HI.out)
  go_wp2_with fail
  go_loopw [10, 11, 12] (fun q10 q11 q12 wr => ∃ (k t : Nat), q12 = .int .i64 k ∧ k ≤ nl ∧ q10 = .int .i64 (slK G k : Nat) ∧ q11 = .int .i64 t ∧ t ≤ 65536 ∧ Ext [] w3 wr) (fun _ _ q _ => (nl - (intOf q)).toNat)
  case atStart => exact ⟨0, 0, rfl, Nat.zero_le _, rfl, rfl, by omega, Ext.refl _ _⟩
  case round =>
    obtain ⟨k, t, rfl, hk, rfl, rfl, ht, hE⟩ := hrel
    have HE := hid hE
    clear hE
    have hsk := HSl.out k (by rw [HNL.out]; exact hk)
    by_cases hlt : k < nl
    · have hkl : k < (lives G).length := by rw [HNL.out]; exact hlt
      obtain ⟨b, o, rfl, c0⟩ := (HI3.out.keep0 HE.out).cell (j := k) (by rw [li_len]; exact hkl)
      rw [get_li hkl] at c0
      have hlv := lives_get hkl
      have hlvl := lvN_lt hlv
      have K := slots_any p G _ ((lives G).getD k 0 : Nat) wr (Hg3.out.keep0 HE.out) HI.out
      have hsv : slV G ((lives G).getD k 0 : Nat) = (ndAt G.ns ((lives G).getD k 0)).s := by
        unfold slV
        rw [lvB_nat, decide_eq_true hlv]
        simp
      rw [hsv] at K
      have hs1 := HI.out.sl ((lives G).getD k 0)
      have HSu := hid (slK_succ hkl)
      generalize (ndAt G.ns ((lives G).getD k 0)).s = sl at *
      generalize fl G ((lives G).getD k 0 : Nat) = er at *
      generalize slK G k = m at *
      generalize (lives G).getD k 0 = y at *
      clear hlv hsv hkl
      have hy : y ≤ 65535 := by omega
      have HTm : Hid (∀ m', m' = (if (t : Int) ≤ (y : Int) + 1 then (y : Int) + 1 else t) → ∃ t' : Nat, m' = (t' : Int) ∧ t' ≤ 65536) := fun m' h => by
        split at h
        · exact ⟨y + 1, by omega, by omega⟩
        · exact ⟨t, by omega, by omega⟩
      go_wp2_with fail
      refine K.mono ?_
      clear K
      rintro e w4 ⟨v4, rfl, ho4, hE4⟩
      obtain ⟨a4, c4, rfl, _⟩ := own_slice ho4
      have d0 := hE4.cell c0 (by simp)
      have HE4 := hid (HE.out.trans hE4)
      clear ho4 hE4 c0
      by_cases hto : (t : Int) ≤ (y : Int) + 1
      · go_wp2_with fail
        all_goals
          go_roundw
          case rel => exact ⟨k + 1, y + 1, by go_num, by omega, by rw [HSu.out]; go_num, by first | go_num | (simp only [Value.int.injEq, true_and]; omega), by omega, HE4.out⟩
          case measure => simp [intOf]; omega
      · have hto2 : (y : Int) + 1 ≤ t := by omega
        have hto3 : (y : Int) + 1 < t := by omega
        go_wp2_with fail
        all_goals
          go_roundw
          case rel => exact ⟨k + 1, t, by go_num, by omega, by rw [HSu.out]; go_num, by first | rfl | go_num | (simp only [Value.int.injEq, true_and]; omega), by omega, HE4.out⟩
          case measure => simp [intOf]; omega
    · obtain rfl : k = nl := by omega
      have hEw := HE3.out.trans HE.out
      obtain ⟨a4, c4, w4, hr4, hI4, hn4, hE4⟩ := app_copy wr ra R rc (HR.out.keep0 hEw) hrb
      have hEsz := HE.out.size
      have K4 := start_any p G _ a4 R.length c4 R w4 ((HgT.out.keep0 HE.out).keep0 hE4) HI.out hI4 rfl hrb (fun ad had q => by
        have := hn4 ad had
        have := q.2
        omega)
      have HE4 := hid (hEw.trans hE4)
      have HE34 := hid (HE.out.trans hE4)
      have hcyS := start_cy G R
      have hIv := iv_start HI.out R
      have hlS := start_len G R
      have HIv := hid hIv
      have HMu := hid (fun h => mu_start (G := G) (R := R) h)
      clear hI4 hn4 hEw hE4 hIv HE
      obtain ⟨y, rfl⟩ : ∃ y : Nat, x = y := ⟨x.toNat, by omega⟩
      have hy : y < 256 := by omega
      generalize (start G R).2 = er at *
      generalize (start G R).1 = G1 at *
      by_cases her : er = 0
      · subst her
        have HMu2 := hid (HMu.out rfl)
        clear HMu
        go_wp2_with (at_builtin; refine wpList_append_run rfl _ _ 23 rfl _ _ _ rfl rfl hr4 ?_)
        refine K4.mono ?_
        clear K4
        rintro e w5 ⟨rfl, hg5, hx5⟩
        have Hg5 := hid (hg5.mono (fun k (q : Nw _ _ k) => show w.heap.size ≤ k by
          rcases q with r | r
          · exact r.1
          · exact Nat.le_trans HE4.out.size r))
        have HE5 := hid (hx5.on HE4.out (fun k q => q.1))
        have hmu := HMu2.out
        have HNe : Hid (Ne G1 (cnt S) G1) := ⟨HIv.out, .inl (by omega), rfl, rfl, rfl⟩
        have HPh := hid hmu.2
        have hcs : costs G1.ns + G1.ns.length + 2 = ((lives G).map fun i => (ndAt G.ns i).s.length).sum + (lives G).length + G.ns.length + 2 := by
          have h1 := hmu.1
          unfold mu at h1
          rw [if_neg (by omega), if_pos hmu.2] at h1
          exact h1
        have HCs : Hid (costs G1.ns = slK G k + k) := by
          show _ = _
          have e1 : slK G k = ((lives G).map fun i => (ndAt G.ns i).s.length).sum := by
            unfold slK
            rw [← HNL.out, List.take_length]
          rw [HNL.out] at hcs
          omega
        have hm0 : 0 ≤ (y : Int) % 20 ∧ (y : Int) % 20 < 20 := by omega
        clear hg5 hx5 hmu hcs HMu2 HIv HE4 HE34 hr4
        go_wp2_with fail
        generalize (y : Int) % 20 = z at *
        obtain ⟨m, rfl⟩ : ∃ m : Nat, z = m := ⟨z.toNat, by omega⟩
        go_loopw [16] (fun q wr => ∃ (j : Nat) (G2 : Gs), q = .int .i64 j ∧ j ≤ m ∧ Ne G1 (cnt S) G2 ∧ Gr wr p G2 (fun k => w.heap.size ≤ k) ∧ Ext [] w wr) (fun q _ => (m - (intOf q)).toNat)
        case atStart => exact ⟨0, G1, rfl, Nat.zero_le _, HNe.out, Hg5.out, HE5.out⟩
        case round =>
          clear HNe Hg5 HE5
          obtain ⟨j, G2, rfl, hj, hne2, hg2, hE2⟩ := hrel
          have HNe2 := hid hne2
          have HE2 := hid hE2
          by_cases hjm : j < m
          · have K := node_any p G2 _ 3 wr hg2 hne2.iv
            have HST : Hid (∀ e w6, GPost wr p (node G2 3).1 (fun k => w.heap.size ≤ k) (.tuple #[.int .i64 (node G2 3).2.1, .int .i64 (node G2 3).2.2]) e w6 → e = .returned (.tuple #[.int .i64 (node G2 3).2.1, .int .i64 (node G2 3).2.2]) ∧ Gr w6 p (node G2 3).1 (fun k => w.heap.size ≤ k) ∧ Ext [] w w6) := fun e w6 hq => gpost_on hq HE2.out (fun _ q => q)
            have HNe3 := hid hne2.node
            clear hne2 hg2 hE2 HNe2 HE2
            generalize node G2 3 = res at *
            go_wp2_with fail
            refine K.mono ?_
            clear K
            intro e w6 hq
            obtain ⟨rfl, hg6, hE6⟩ := HST.out e w6 hq
            have Hg6 := hid hg6
            have HE6 := hid hE6
            clear hq hg6 hE6 HST
            go_wp2_with fail
            go_roundw
            case rel => exact ⟨j + 1, res.1, by go_num, by omega, HNe3.out, Hg6.out, HE6.out⟩
            case measure => simp [intOf]; omega
          · have hl2 := hne2.iv.len
            have K := told_any p G2 _ wr hg2 hl2
            have Hg2 := hid hg2
            have HNe3 := HNe2
            clear hne2 hg2 hE2 HNe2
            go_wp2_with fail
            refine K.mono ?_
            clear K
            rintro e w6 ⟨v6, rfl, hL6, _, hE6⟩
            obtain ⟨a6, c6, rfl, hI6⟩ := lst_is hL6
            have Hg6 := hid (Hg2.out.keep0 hE6)
            have HE6 := hid (HE2.out.trans hE6)
            have HI6 := hid hI6
            have hll6 : (lives G2).length ≤ 65536 := Nat.le_trans (livK_len G2 G2.ns.length) hl2
            clear hL6 hE6 hI6 Hg2 HE2
            rw [li_len] at *
            generalize hn2 : (lives G2).length = n2 at *
            have HN2 := hid hn2
            clear hn2
            go_wp2_with fail
            go_loopw [17, 20] (fun q17 q20 wr => ∃ (i t2 : Nat), q20 = .int .i64 i ∧ i ≤ n2 ∧ q17 = .int .i64 t2 ∧ t2 ≤ 65536 ∧ (∀ i', i' < i → (lives G2).getD i' 0 + 1 ≤ t2) ∧ Ext [] w6 wr) (fun _ q _ => (n2 - (intOf q)).toNat)
            case atStart => exact ⟨0, 0, rfl, Nat.zero_le _, rfl, by omega, fun i' h => by omega, Ext.refl _ _⟩
            case round =>
              obtain ⟨i, t2, rfl, hi, rfl, ht2, hall, hE7⟩ := hrel
              have HAll := hid hall
              have HE7 := hid hE7
              clear hall hE7
              by_cases hin : i < n2
              · have hil : i < (lives G2).length := by rw [HN2.out]; exact hin
                obtain ⟨b, o, rfl, c0⟩ := (HI6.out.keep0 HE7.out).cell (j := i) (by rw [li_len]; exact hil)
                rw [get_li hil] at c0
                have hyl := lvN_lt (lives_get hil)
                have HA2 : Hid (∀ t3, t2 ≤ t3 → (lives G2).getD i 0 + 1 ≤ t3 → ∀ i', i' < i + 1 → (lives G2).getD i' 0 + 1 ≤ t3) := fun t3 h1 h2 i' hi' => by
                  by_cases e : i' = i
                  · rw [e]; exact h2
                  · exact Nat.le_trans (HAll.out i' (by omega)) h1
                generalize (lives G2).getD i 0 = y2 at *
                clear hil HAll
                have hy2 : y2 ≤ 65535 := by omega
                by_cases hto : (t2 : Int) ≤ (y2 : Int) + 1
                · go_wp2_with fail
                  all_goals
                    go_roundw
                    case rel => exact ⟨i + 1, y2 + 1, by go_num, by omega, by first | go_num | (simp only [Value.int.injEq, true_and]; omega), by omega, HA2.out _ (by omega) (by omega), HE7.out⟩
                    case measure => simp [intOf]; omega
                · have hto2 : (y2 : Int) + 1 ≤ t2 := by omega
                  have hto3 : (y2 : Int) + 1 < t2 := by omega
                  go_wp2_with fail
                  all_goals
                    go_roundw
                    case rel => exact ⟨i + 1, t2, by go_num, by omega, by first | rfl | go_num | (simp only [Value.int.injEq, true_and]; omega), by omega, HA2.out _ (by omega) (by omega), HE7.out⟩
                    case measure => simp [intOf]; omega
              · obtain rfl : i = n2 := by omega
                have HMuN : Hid (mu G2 ≤ slK G k + k + max (cnt S) t2 + 2 ∧ slK G k ≤ 65536 * 8192 ∧ cnt S ≤ 2513169434917) := by
                  have h1 := HNe3.out
                  refine ⟨?_, ?_, Nat.le_trans (cnt_le S) hsl⟩
                  · unfold mu
                    rw [h1.ph, HPh.out]
                    simp only [Nat.one_ne_zero, if_false, if_true]
                    rw [h1.costs, HCs.out]
                    have : G2.ns.length ≤ max (cnt S) t2 := by
                      rcases h1.top with q | ⟨j', q1, q2⟩
                      · omega
                      · obtain ⟨ix, hix, e⟩ := List.getElem_of_mem (mem_lives.2 q1)
                        have := HAll.out ix (by rw [← HN2.out]; exact hix)
                        have e2 : (lives G2).getD ix 0 = j' := by simp [List.getD, hix, e]
                        omega
                    omega
                  · have : k * 8192 ≤ 65536 * 8192 := Nat.mul_le_mul_right _ hll
                    omega
                have hg8 := Hg6.out.keep0 HE7.out
                have hcy2 : G2.cy < 800000000000000000 := by have := HNe3.out.cy; omega
                have KCy := cycles_any p G2 _ wr hg8
                have KC := count_any a n c S wr (HS.out.keep0 (HE6.out.trans HE7.out)) HN.out
                have KW : Hid (∀ z : Int, (mu G2 : Int) ≤ z → z ≤ 1000000000000000000 → Calls Try.prog 16 #[.pointer (some ⟨p, 0, none⟩), .int .i64 z] wr (fun e w9 => ∃ (l : Nat) (v : Value) (G9 : Gs), e = .returned (.tuple #[.int .i64 l, v]) ∧ (0 : Int) ≤ (l : Int) ∧ G9.ph = 0 ∧ G9.cy = G2.cy + 1 ∧ Gr w9 p G9 (fun _ => True) ∧ Ext [] w w9 ∧ ∃ a m d, v = .slice a m d)) := fun z hz1 hz2 => by
                  refine (work_any p G2 _ z wr hg8 HNe3.out.iv hz2 (by omega)).mono ?_
                  rintro e w9 ⟨v, C, rfl, ho, hg, hC, _, hx⟩
                  have hend := work_ends z.toNat HNe3.out.iv (by omega)
                  have hcyc := work_cyc z.toNat (by rw [HNe3.out.ph, HPh.out]; decide) hend.1
                  obtain ⟨a9, c9, e9, _⟩ := own_slice ho
                  exact ⟨_, v, _, rfl, by omega, hend.1, hcyc, hg.mono (fun _ _ => trivial), hx.on (HE6.out.trans HE7.out) (fun _ q => q), a9, _, c9, e9⟩
                clear hg8 Hg6 HI6 HN2 HAll HE7 HE6
                have hb1 := HMuN.out.2.1
                have hb2 := HMuN.out.2.2
                generalize slK G k = sk at *
                generalize cnt S = cn at *
                by_cases o1 : (t : Int) ≤ t2
                · by_cases o2 : (cn : Int) ≤ t2
                  · go_wp2_with (go_at_call 20; refine met KCy ?_)
                    go_wp2_with (go_at_call 26; refine met KC ?_)
                    all_goals
                      refine (KW.out _ ?_ ?_).mono ?_
                      · have := HMuN.out; omega
                      · have := HMuN.out; omega
                      rintro e w9 ⟨l, v9, G9, rfl, hl0, hp9, hc9, hg9, hE9, a9, m9, d9, rfl⟩
                      have KP := phase_any p G9 _ w9 hg9
                      have KCy2 := cycles_any p G9 _ w9 hg9
                      rw [hp9] at KP
                      rw [hc9] at KCy2
                      have HE9 := hid hE9
                      clear hg9 hE9 hp9 hc9 KC KW HMuN
                      generalize G2.cy = cy2 at *
                      have hceq : (((cy2 + 1 : Nat) : Int) == (cy2 : Int) + 1) = true := by simp
                      go_wp2_with fail
                      refine met KP ?_
                      go_wp2_with fail
                      refine met KCy2 ?_
                      go_wp2_with fail
                      go_ret
                      exact ⟨rfl, HE9.out⟩
                  · go_wp2_with (go_at_call 20; refine met KCy ?_)
                    go_wp2_with (go_at_call 26; refine met KC ?_)
                    all_goals
                      refine (KW.out _ ?_ ?_).mono ?_
                      · have := HMuN.out; omega
                      · have := HMuN.out; omega
                      rintro e w9 ⟨l, v9, G9, rfl, hl0, hp9, hc9, hg9, hE9, a9, m9, d9, rfl⟩
                      have KP := phase_any p G9 _ w9 hg9
                      have KCy2 := cycles_any p G9 _ w9 hg9
                      rw [hp9] at KP
                      rw [hc9] at KCy2
                      have HE9 := hid hE9
                      clear hg9 hE9 hp9 hc9 KC KW HMuN
                      generalize G2.cy = cy2 at *
                      have hceq : (((cy2 + 1 : Nat) : Int) == (cy2 : Int) + 1) = true := by simp
                      go_wp2_with fail
                      refine met KP ?_
                      go_wp2_with fail
                      refine met KCy2 ?_
                      go_wp2_with fail
                      go_ret
                      exact ⟨rfl, HE9.out⟩
                · by_cases o2 : (cn : Int) ≤ t
                  · go_wp2_with (go_at_call 20; refine met KCy ?_)
                    go_wp2_with (go_at_call 26; refine met KC ?_)
                    all_goals
                      refine (KW.out _ ?_ ?_).mono ?_
                      · have := HMuN.out; omega
                      · have := HMuN.out; omega
                      rintro e w9 ⟨l, v9, G9, rfl, hl0, hp9, hc9, hg9, hE9, a9, m9, d9, rfl⟩
                      have KP := phase_any p G9 _ w9 hg9
                      have KCy2 := cycles_any p G9 _ w9 hg9
                      rw [hp9] at KP
                      rw [hc9] at KCy2
                      have HE9 := hid hE9
                      clear hg9 hE9 hp9 hc9 KC KW HMuN
                      generalize G2.cy = cy2 at *
                      have hceq : (((cy2 + 1 : Nat) : Int) == (cy2 : Int) + 1) = true := by simp
                      go_wp2_with fail
                      refine met KP ?_
                      go_wp2_with fail
                      refine met KCy2 ?_
                      go_wp2_with fail
                      go_ret
                      exact ⟨rfl, HE9.out⟩
                  · go_wp2_with (go_at_call 20; refine met KCy ?_)
                    go_wp2_with (go_at_call 26; refine met KC ?_)
                    all_goals
                      refine (KW.out _ ?_ ?_).mono ?_
                      · have := HMuN.out; omega
                      · have := HMuN.out; omega
                      rintro e w9 ⟨l, v9, G9, rfl, hl0, hp9, hc9, hg9, hE9, a9, m9, d9, rfl⟩
                      have KP := phase_any p G9 _ w9 hg9
                      have KCy2 := cycles_any p G9 _ w9 hg9
                      rw [hp9] at KP
                      rw [hc9] at KCy2
                      have HE9 := hid hE9
                      clear hg9 hE9 hp9 hc9 KC KW HMuN
                      generalize G2.cy = cy2 at *
                      have hceq : (((cy2 + 1 : Nat) : Int) == (cy2 : Int) + 1) = true := by simp
                      go_wp2_with fail
                      refine met KP ?_
                      go_wp2_with fail
                      refine met KCy2 ?_
                      go_wp2_with fail
                      go_ret
                      exact ⟨rfl, HE9.out⟩
      · have hne : (er != 0) = true := by simpa using her
        clear her
        go_wp2_with (at_builtin; refine wpList_append_run rfl _ _ 23 rfl _ _ _ rfl rfl hr4 ?_)
        refine K4.mono ?_
        clear K4
        rintro e w5 ⟨rfl, hg5, hx5⟩
        have HE5 := hid (hx5.on HE4.out (fun k q => q.1))
        clear hg5 hx5
        go_wp2_with fail
        go_ret
        exact ⟨rfl, HE5.out⟩

end colorEnds
end Go.Proofs.Ytfgdoehiocgkhaa

namespace Go.Proofs.Ytfgdoehiocgkhaa.colorEnds
open Go.ChangeShapes Go.WideShapes Go.ChangeAt Go.RowKit

set_option maxRecDepth 100000 in
theorem lifted (os : Go.Os) (started : os.Started) (H : Type) (enc : TypeId × Value → H) :
    ReturnsInHanded {} Try.checked os 5 .any (Rows.colorEndsSpec.pre6 enc Try.prog Try.f5 Rows.colorEndsRow.domain false) (Rows.colorEndsSpec.post enc Try.prog Try.f5 false true false false) := by
  refine returnsInHanded_of_change_sized (C := Try.checked) own started (by kernel_rfl) Try.func5
    (ChangeSpec.witness6 (enc := enc) (C := Try.checked) false ⟨#[], #[.slice none 0 0, .slice none 0 0, .int .u8 0], []⟩ 5 (by kernel_rfl) (by kernel_rfl) (by kernel_rfl) (by kernel_rfl)) ?_
  intro W base args ds gs before hval0 hW hcnd hsz0 _
  have hval : ∀ (j : Nat) t v, Try.f5.params[j]? = some t → args[j]? = some v → Value.okWide Try.prog W .any base t v := hval0
  have hW' := hW
  obtain ⟨p, q, hA0, hV, rfl, hfz, hnd⟩ := hW
  have hA : DataW.TrodAll enc Try.prog W 0 (fun _ => true) true Try.f5.params.toList args.toList ds p := hA0
  rw [Try.params5] at hA hval
  obtain ⟨v0, vs0, d0, ds0, p0, q0, hargs, rfl, rfl, h0, r0⟩ := trodAll_cons hA
  obtain ⟨v1, vs1, d1, ds1, p1, q1, rfl, rfl, rfl, h1, r1⟩ := trodAll_cons r0
  obtain ⟨v2, vs2, d2, ds2, p2, q2, rfl, rfl, rfl, h2, r2⟩ := trodAll_cons r1
  obtain ⟨rfl, rfl, rfl⟩ := trodAll_nil r2
  obtain rfl : args = #[v0, v1, v2] := by cases args; simp_all
  obtain ⟨rfl, rfl⟩ := trodVars_none hV
  obtain ⟨a0, len0, cap0, rfl⟩ := okWide_slice Try.underlying22 (hval 0 22 v0 rfl rfl)
  have k0 := h0
  have lt0 : ∀ x ∈ p0, x.block < W.heap.size := by obtain ⟨m, hm⟩ := k0; exact DataW.trod_lt m _ _ _ hm
  obtain ⟨a1, len1, cap1, rfl⟩ := okWide_slice Try.underlying23 (hval 1 23 v1 rfl rfl)
  have k1 := h1
  have lt1 : ∀ x ∈ p1, x.block < W.heap.size := by obtain ⟨m, hm⟩ := k1; exact DataW.trod_lt m _ _ _ hm
  obtain ⟨a2, rfl, rfl, rfl, w2⟩ := open_int Try.underlying5 (hval 2 5 v2 rfl rfl) h2
  have hsz : (DataW.weightsEach Try.prog [22, 23, 5] [d0, d1, _]).all (· ≤ reachBytes) = true := hsz0
  have hwd0 : ∀ y ∈ d0.weights Try.prog 22, y ≤ 140737488351232 := by
    intro y hy
    have := List.all_eq_true.1 hsz y (DataW.weights_mem_each (j := 0) (t := 22) rfl rfl y hy)
    have h2 := of_decide_eq_true this
    simpa [reachBytes] using h2
  obtain ⟨fuel0, hf0⟩ := h0
  obtain ⟨S0, hS0, hl0⟩ := open_script (n := len0) (c := cap0) hf0 hwd0
  have hwd1 : ∀ y ∈ d1.weights Try.prog 23, y ≤ 140737488351232 := by
    intro y hy
    have := List.all_eq_true.1 hsz y (DataW.weights_mem_each (j := 1) (t := 23) rfl rfl y hy)
    have h2 := of_decide_eq_true this
    simpa [reachBytes] using h2
  obtain ⟨fuel1, hf1⟩ := h1
  obtain ⟨b1, c1, X1, hv1, hI1, hx1, hb1, hd1⟩ := open_list (v := .slice a1 len1 cap1) hf1 hwd1
  simp only [Value.slice.injEq] at hv1
  obtain ⟨rfl, rfl, rfl⟩ := hv1
  clear hA0 hval0
  refine (walk a0 len0 cap0 S0 a1 X1.length cap1 X1 a2 W hS0 hl0 hI1 rfl (by omega) (open_u8 w2)).mono fun e W' ⟨he, hext⟩ => ?_
  subst he
  have bel := hext.below
  exact ⟨_, rfl, _, _, _, [], _, [], hW', trodAll_mk1 (shut_bool Try.underlying4 _), (trodAll_cons_mk (Below.trod laidOut (by kernel_rfl) (of_decide_eq_true (by kernel_rfl)) k0 bel lt0) (trodAll_cons_mk (Below.trod laidOut (by kernel_rfl) (of_decide_eq_true (by kernel_rfl)) k1 bel lt1) (trodAll_cons_mk (shut_int Try.underlying5 w2) trodAll_mk0))), rfl, bel.frame _, fun h => by cases h⟩

theorem over : Rows.colorEndsRow.holds Try.pinned (OpenSpec.ofChange Rows.colorEndsSpec) :=
  OpenClaim.holds_of_wide 5 Try.f5 rfl rfl rfl rfl rfl rfl rfl ⟨rfl, rfl, rfl, rfl, rfl⟩ rfl rfl rfl rfl rfl (by kernel_rfl) Try.func5 (by kernel_rfl)
    (of_decide_eq_true (by kernel_rfl)) (by unfold Func.isWrapper; first | (rw [if_pos (by decide +kernel)]; kernel_rfl) | (rw [if_neg (by decide +kernel)]; exact ⟨rfl, rfl⟩))
    (fun os started H enc _ => lifted os started H enc)

end Go.Proofs.Ytfgdoehiocgkhaa.colorEnds

namespace Go.Proofs.Ytfgdoehiocgkhaa
theorem colorEnds_holds : Rows.ColorEndsSaid := colorEnds.over
#print axioms colorEnds_holds
end Go.Proofs.Ytfgdoehiocgkhaa

/-
  The reference's Way walked through; no statement is proved here.
-/
import Derived.Test.YtfjabjnajcfamaaRfG
namespace Go.Proofs.Ytfjabjnajcfamaa
open Go.RowKit

def RwPost (w : World) (N : List (List Nat)) (R : List Nat) (tg : Nat) (e : Ending) (w' : World) : Prop :=
  (∃ u a c, Best N R tg u ∧ e = .returned (.tuple #[.slice a u.length c, .int .i64 0]) ∧ Is w' a (ci u) ∧ Ext [] w w') ∨ (¬ Rch N R (-1) tg ∧ e = .returned (.tuple #[.slice none 0 0, .int .i64 4]) ∧ Ext [] w w')

/-- One edge is settled. -/
def St1 (F : List Int) (x y : Nat) : Prop := 0 ≤ fa F y → 0 ≤ fa F x ∧ fa F x ≤ fa F y + 1

/-- Where a sweep stands. -/
structure Sw (N : List (List Nat)) (t : Nat) (F0 F : List Int) (b : Bool) (i k : Nat) : Prop where
  fo : Fo N t F
  hot : b = true → pot N.length F + 1 ≤ pot N.length F0
  cold : b = false → F = F0 ∧ (∀ x, x < i → ∀ y ∈ nxt N x, St1 F x y) ∧ ∀ y ∈ (nxt N i).take k, St1 F i y

theorem Sw.next {N : List (List Nat)} {t : Nat} {F0 F : List Int} {b : Bool} {i k : Nat} (h : Sw N t F0 F b i k) (hk : (nxt N i).length ≤ k) : Sw N t F0 F b (i + 1) 0 := by
  refine ⟨h.fo, h.hot, fun hb => ?_⟩
  obtain ⟨h1, h2, h3⟩ := h.cold hb
  refine ⟨h1, fun x hx y hy => ?_, by simp⟩
  by_cases e : x = i
  · subst e
    rw [List.take_of_length_le hk] at h3
    exact h3 y hy
  · exact h2 x (by omega) y hy
theorem Sw.skip {N : List (List Nat)} {t : Nat} {F0 F : List Int} {b : Bool} {i k y : Nat} (h : Sw N t F0 F b i k) (ht : (nxt N i).take (k + 1) = (nxt N i).take k ++ [y]) (hs : St1 F i y) : Sw N t F0 F b i (k + 1) := by
  refine ⟨h.fo, h.hot, fun hb => ?_⟩
  obtain ⟨h1, h2, h3⟩ := h.cold hb
  refine ⟨h1, h2, fun z hz => ?_⟩
  rw [ht, List.mem_append, List.mem_singleton] at hz
  rcases hz with hz | rfl
  · exact h3 z hz
  · exact hs
theorem Sw.relax {N : List (List Nat)} {t : Nat} {F0 F : List Int} {b : Bool} {i k y : Nat} (h : Sw N t F0 F b i k) (hi : i < N.length) (hyl : y < N.length) (hy : y ∈ nxt N i) (h0 : 0 ≤ fa F y) (h1 : fa F i < 0 ∨ fa F y + 1 < fa F i) : Sw N t F0 (F.set i (fa F y + 1)) true i (k + 1) := by
  obtain ⟨r1, r2⟩ := h.fo.relax hi hyl hy h0 h1
  refine ⟨r1, fun _ => ?_, fun hb => by cases hb⟩
  cases b
  · rw [(h.cold rfl).1] at r2
    rw [(h.cold rfl).1]
    exact r2
  · have := h.hot rfl
    omega

/-- The root that was found so far. -/
def R1 (S : List Nat) (F : List Int) (v : Int) : Prop := (v = -1 ∧ ∀ r ∈ S, fa F r < 0) ∨ ∃ r : Nat, v = r ∧ Rt1 S F r

theorem R1.skip {S : List Nat} {F : List Int} {v : Int} {r : Nat} (h : R1 S F v) (hr : fa F r < 0 ∨ ∃ s : Nat, v = s ∧ (fa F s < fa F r ∨ (fa F s = fa F r ∧ s ≤ r))) : R1 (S ++ [r]) F v := by
  rcases h with ⟨h1, h2⟩ | ⟨s, h1, h2⟩
  · left
    refine ⟨h1, fun q hq => ?_⟩
    rw [List.mem_append, List.mem_singleton] at hq
    rcases hq with hq | rfl
    · exact h2 q hq
    · rcases hr with hr | ⟨s, hs, _⟩
      · exact hr
      · omega
  · right
    refine ⟨s, h1, by simp [h2.mem], h2.far, fun q hq h0 => ?_⟩
    rw [List.mem_append, List.mem_singleton] at hq
    rcases hq with hq | rfl
    · exact h2.least q hq h0
    · rcases hr with hr | ⟨s', hs', hr⟩
      · omega
      · have : s' = s := by omega
        subst this
        exact hr
theorem R1.take {S : List Nat} {F : List Int} {v : Int} {r : Nat} (h : R1 S F v) (h0 : 0 ≤ fa F r) (hr : v = -1 ∨ ∃ s : Nat, v = s ∧ (fa F r < fa F s ∨ (fa F r = fa F s ∧ r < s))) : R1 (S ++ [r]) F r := by
  right
  refine ⟨r, rfl, by simp, h0, fun q hq hq0 => ?_⟩
  rw [List.mem_append, List.mem_singleton] at hq
  rcases hq with hq | rfl
  · rcases h with ⟨h1, h2⟩ | ⟨s, h1, h2⟩
    · have := h2 q hq
      omega
    · rcases hr with hr | ⟨s', hs', hr⟩
      · omega
      · have : s' = s := by omega
        subst this
        have := h2.least q hq hq0
        omega
  · exact .inr ⟨rfl, Nat.le_refl _⟩

/-- The next node that was found so far. -/
def X1 (S : List Nat) (F : List Int) (d v : Int) : Prop := (v = -1 ∧ ∀ z ∈ S, fa F z ≠ d) ∨ ∃ y : Nat, v = y ∧ y ∈ S ∧ fa F y = d ∧ ∀ z ∈ S, fa F z = d → y ≤ z

theorem X1.skip {S : List Nat} {F : List Int} {d v : Int} {z : Nat} (h : X1 S F d v) (hz : fa F z ≠ d ∨ ∃ y : Nat, v = y ∧ y ≤ z) : X1 (S ++ [z]) F d v := by
  rcases h with ⟨h1, h2⟩ | ⟨y, h1, h2, h3, h4⟩
  · left
    refine ⟨h1, fun q hq => ?_⟩
    rw [List.mem_append, List.mem_singleton] at hq
    rcases hq with hq | rfl
    · exact h2 q hq
    · rcases hz with hz | ⟨y, hy, _⟩
      · exact hz
      · omega
  · right
    refine ⟨y, h1, by simp [h2], h3, fun q hq hd => ?_⟩
    rw [List.mem_append, List.mem_singleton] at hq
    rcases hq with hq | rfl
    · exact h4 q hq hd
    · rcases hz with hz | ⟨y', hy', hz⟩
      · exact absurd hd hz
      · omega
theorem X1.take {S : List Nat} {F : List Int} {d v : Int} {z : Nat} (h : X1 S F d v) (hd : fa F z = d) (hz : v = -1 ∨ ∃ y : Nat, v = y ∧ z < y) : X1 (S ++ [z]) F d z := by
  right
  refine ⟨z, rfl, by simp, hd, fun q hq hqd => ?_⟩
  rw [List.mem_append, List.mem_singleton] at hq
  rcases hq with hq | rfl
  · rcases h with ⟨h1, h2⟩ | ⟨y, h1, h2, h3, h4⟩
    · exact absurd hqd (h2 q hq)
    · rcases hz with hz | ⟨y', hy', hz⟩
      · omega
      · have := h4 q hq hqd
        omega
  · exact Nat.le_refl _

set_option maxRecDepth 100000 in
set_option maxHeartbeats 16000000 in
theorem rway_any (N : List (List Nat)) (R : List Nat) (tg : Nat) (a : Option Addr) (n c : Nat) (ra : Option Addr) (rn rc : Nat) (w : World) (hN : Nt w a (cn N)) (hn : N.length = n) (hG : Good N R) (hR : Is w ra (ci R)) (hrn : R.length = rn) (hrb : rn ≤ 1048576) (hto : tg < n) :
    Calls Try.prog 15 #[.slice a n c, .slice ra rn rc, .int .i64 tg] w (RwPost w N R tg) := by
  obtain ⟨a1, c1, w1, a2, c2, w2, hr1, hr2, hI, hE⟩ := roots_to ra rn rc (ci R) (tg : Int) w hR (by rw [ci_len]; exact hrn) hrb
  have K := rbad_any a n c a2 (rn + 1) c2 (cn N) (ci R ++ [(tg : Int)]) w2 (hN.keep0 hE) (by rw [cn_len]; exact hn) hI (by simp [ci_len, hrn]) (by omega)
  have h0 := good_err hG (T := [tg]) (by intro x hx; simp at hx; subst hx; omega)
  rw [show ci [tg] = [(tg : Int)] from rfl] at h0
  rw [errB_app, h0] at K
  have hnb : n ≤ 65536 := by have := hG.len; omega
  obtain ⟨i3, hi3, hz3, hs3, hy3⟩ := info_parts info3
  have hr := run_make (P := Try.prog) w2 23 3 i3 _ Try.underlying23 hi3 hz3 .i64 .i64 n n (by omega) (Int.le_refl _) (by rw [hy3]; omega) (by omega)
  rw [hs3] at hr
  simp only [Int.toNat_natCast] at hr
  have hm : madeCells (Value.int .i64 0).cells (n * 1) = ((fil1 n 0).map (Value.int .i64)).toArray := by
    apply Array.toList_inj.1
    rw [show (Value.int .i64 0).cells = #[.int .i64 0] from rfl, toList_madeCells_one]
    simp [fil1]
  rw [hm] at hr
  have HFr0 : Hid (Fr w w2.heap.size n (w2.alloc (.cells ((fil1 n 0).map (Value.int .i64)).toArray 3)) (fil1 n 0)) := ⟨hE.trans (Ext.alloc [] _ _), hE.size, by simp [fil1], heap_alloc_new w2 _⟩
  have HN := hid hN
  have HR := hid hR
  have HNn := hid hn
  have HRn := hid hrn
  have HG := hid hG
  clear hm hi3 hz3 hs3 hy3 hN hR hn hrn hG h0 hI hE
  go_enter Try.func15, Try.ntmps15
  go_upto_block 0 with (first | (at_builtin; refine wpList_append_run rfl _ _ 23 rfl (.slice (some ⟨w.heap.size, 0, none⟩) 0 0) (.slice ra rn rc) _ rfl rfl hr1 ?_) | (at_builtin; refine wpList_append_run rfl _ _ 23 rfl (.slice a1 rn c1) (.slice (some ⟨w1.heap.size, 0, none⟩) 1 1) _ rfl rfl hr2 ?_) | (go_at_call 30; refine met K ?_))
  generalize hw3 : w2.alloc (.cells ((fil1 n 0).map (Value.int .i64)).toArray 3) = w3 at *
  generalize hg : w2.heap.size = g at *
  clear hr hr1 hr2 K hw3 hg
  go_wp2_with fail
  go_loopg [10] n (fun q u wr => ∃ k : Nat, k + q = n ∧ u = .int .i64 k ∧ Fr w g n wr (fil1 n k))
  case atStart => exact ⟨0, by omega, rfl, HFr0.out⟩
  case round =>
    clear HFr0
    obtain ⟨k, hkq, rfl, hF⟩ := hrel
    have HF := hid hF
    clear hF
    cases gk with
    | succ q =>
      have hkn : k < n := by omega
      have HG1 : Hid (k + 1 + q = n) := by show _ = _; omega
      have k1 := HF.out.cell hkn
      have k2 := HF.out.froz k
      have HF2 := hid (HF.out.set k (-1))
      rw [fil1_set n k hkn] at HF2
      generalize fa (fil1 n k) k = x at *
      clear hkq
      go_wp2_with fail
      go_roundg q
      case measure => omega
      case rel => exact ⟨k + 1, HG1.out, by go_num, HF2.out⟩
    | zero =>
      obtain rfl : k = n := by omega
      have k1 := HF.out.cell hto
      have k2 := HF.out.froz tg
      have HF2 := hid (HF.out.set tg 0)
      have HFo : Hid (Fo N tg ((fil1 k k).set tg 0)) := by
        have := fo_start N tg (by rw [HNn.out]; exact hto)
        rw [HNn.out] at this
        show Fo _ _ _
        simpa [fil1] using this
      generalize fa (fil1 k k) tg = x at *
      generalize (fil1 k k).set tg 0 = F0 at *
      clear hkq HF
      go_upto_region 11 with fail
      generalize wr.setCell ⟨g, tg, none⟩ (.int .i64 0) = w4 at *
      clear k1 k2
      go_loopg [11] (pot k F0 + 1) (fun q m wr => ∃ F, ∃ b : Bool, m = .bool b ∧ Fr w g k wr F ∧ Fo N tg F ∧ (b = true → pot k F + 1 ≤ q) ∧ (b = false → Stab N F))
      case atStart => exact ⟨F0, true, rfl, HF2.out, HFo.out, fun _ => Nat.le_refl _, by simp⟩
      case round =>
        clear HF2 HFo F0
        obtain ⟨F, b, rfl, hF, hFo, hb1, hb2⟩ := hrel
        obtain ⟨G2, hG2⟩ : ∃ G2, G2 = gk := ⟨_, rfl⟩
        subst hG2
        have HF := hid hF
        have HFo := hid hFo
        have HB1 := hid hb1
        have HB2 := hid hb2
        clear hF hFo hb1 hb2
        cases b
        · have HSt := hid (HB2.out rfl)
          clear HB1 HB2
          have HTop : Hid (∀ x, x < k → fa F x < 65536 ∧ -1 ≤ fa F x) := fun x hx => by
            have h1 := HFo.out.top x (by rw [HNn.out]; exact hx)
            have h2 := nn_le F
            rw [HFo.out.len, HNn.out] at h2
            have h3 := HFo.out.way x (by rw [HNn.out]; exact hx)
            omega
          have HR10 : Hid (R1 (R.take 0) F (-1)) := .inl ⟨rfl, by simp⟩
          go_wp2_with fail
          go_loopg [15, 16] rn (fun q v u wx => ∃ vv : Int, ∃ i : Nat, i + q = rn ∧ v = .int .i64 vv ∧ u = .int .i64 i ∧ Fr w g k wx F ∧ R1 (R.take i) F vv)
          case atStart => exact ⟨-1, 0, by omega, rfl, rfl, HF.out, HR10.out⟩
          case round =>
            clear HR10 HF
            obtain ⟨vv, i, hiq, rfl, rfl, hF5, hR1⟩ := hrel
            have HF5 := hid hF5
            have HR1 := hid hR1
            clear hF5 hR1
            cases gk with
            | succ q =>
              have hir : i < rn := by omega
              have HG1 : Hid (i + 1 + q = rn) := by show _ = _; omega
              have hiR : i < R.length := by rw [HRn.out]; exact hir
              obtain ⟨rb, ro, rfl, hc⟩ := HR.out.cell (j := i) (by rw [ci_len]; exact hiR)
              rw [ci_get _ _ hiR] at hc
              have hxk := HG.out.roots (R.getD i 0) (by simp [hiR])
              rw [HNn.out] at hxk
              have HTk : Hid (R.take (i + 1) = R.take i ++ [R.getD i 0]) := by
                show _ = _
                rw [List.take_add_one]; simp [hiR]
              generalize R.getD i 0 = x at *
              have kr := HF5.out.1.cell hc (by simp)
              have k1 := HF5.out.cell hxk
              obtain ⟨ht1, ht2⟩ := HTop.out x hxk
              have HSk : Hid ((fa F x < 0 ∨ ∃ s : Nat, vv = s ∧ (fa F s < fa F x ∨ (fa F s = fa F x ∧ s ≤ x))) → R1 (R.take i ++ [x]) F vv) := fun h => HR1.out.skip h
              have HTa : Hid (0 ≤ fa F x → (vv = -1 ∨ ∃ s : Nat, vv = s ∧ (fa F x < fa F s ∨ (fa F x = fa F s ∧ x < s))) → R1 (R.take i ++ [x]) F x) := fun h1 h2 => HR1.out.take h1 h2
              have HCs : Hid (vv = -1 ∨ ∃ s : Nat, vv = s ∧ s < k) := by
                rcases HR1.out with ⟨h, _⟩ | ⟨s, h, h2⟩
                · exact .inl h
                · refine .inr ⟨s, h, ?_⟩
                  have := HG.out.roots s (List.mem_of_mem_take h2.mem)
                  rw [HNn.out] at this
                  exact this
              clear hc hiR hiq HR1
              by_cases hA : 0 ≤ fa F x
              · have hdA : decide (0 ≤ fa F x) = true := by simpa using hA
                rcases HCs.out with hv | ⟨s, hv, hsk⟩
                · subst hv
                  have HR2 := hid (HTa.out hA (.inl rfl))
                  generalize fa F x = fx at *
                  clear HSk HTa HCs
                  go_wp2_with fail
                  go_quiet (fail)
                  have HFd := hid (HF5.out.keep0 (Ext.drewN [] wr nq))
                  go_wp2_with fail
                  go_roundg q
                  case measure => omega
                  case rel => exact ⟨(x : Int), i + 1, HG1.out, rfl, by go_num, HFd.out, by rw [HTk.out]; exact HR2.out⟩
                · subst hv
                  have k2 := HF5.out.cell hsk
                  have hd0 : decide ((s : Int) < 0) = false := by simp
                  by_cases hB : fa F x < fa F s
                  · have hdB : decide (fa F x < fa F s) = true := by simpa using hB
                    have HR2 := hid (HTa.out hA (.inr ⟨s, rfl, .inl hB⟩))
                    generalize fa F x = fx at *
                    generalize fa F s = fs at *
                    clear HSk HTa HCs
                    go_wp2_with fail
                    go_quiet (fail)
                    have HFd := hid (HF5.out.keep0 (Ext.drewN [] wr nq))
                    go_wp2_with fail
                    go_roundg q
                    case measure => omega
                    case rel => exact ⟨(x : Int), i + 1, HG1.out, rfl, by go_num, HFd.out, by rw [HTk.out]; exact HR2.out⟩
                  · have hdB : decide (fa F x < fa F s) = false := by simpa using hB
                    by_cases hC : fa F x = fa F s
                    · have hdC : (fa F x == fa F s) = true := by simp [hC]
                      by_cases hD : x < s
                      · have hdD : decide ((x : Int) < (s : Int)) = true := by simpa using hD
                        have hdD2 : decide (x < s) = true := by simpa using hD
                        have HR2 := hid (HTa.out hA (.inr ⟨s, rfl, .inr ⟨hC, hD⟩⟩))
                        generalize fa F x = fx at *
                        generalize fa F s = fs at *
                        clear HSk HTa HCs hC
                        go_wp2_with fail
                        go_quiet (fail)
                        have HFd := hid (HF5.out.keep0 (Ext.drewN [] wr nq))
                        go_wp2_with fail
                        go_roundg q
                        case measure => omega
                        case rel => exact ⟨(x : Int), i + 1, HG1.out, rfl, by go_num, HFd.out, by rw [HTk.out]; exact HR2.out⟩
                      · have hdD : decide ((x : Int) < (s : Int)) = false := by simpa using hD
                        have hdD2 : decide (x < s) = false := by simpa using hD
                        have HR2 := hid (HSk.out (.inr ⟨s, rfl, .inr ⟨hC.symm, by omega⟩⟩))
                        generalize fa F x = fx at *
                        generalize fa F s = fs at *
                        clear HSk HTa HCs hC
                        go_wp2_with fail
                        go_quiet (fail)
                        have HFd := hid (HF5.out.keep0 (Ext.drewN [] wr nq))
                        go_wp2_with fail
                        go_roundg q
                        case measure => omega
                        case rel => exact ⟨(s : Int), i + 1, HG1.out, rfl, by go_num, HFd.out, by rw [HTk.out]; exact HR2.out⟩
                    · have hdC : (fa F x == fa F s) = false := beq_false_of_ne hC
                      have HR2 := hid (HSk.out (.inr ⟨s, rfl, .inl (by omega)⟩))
                      generalize fa F x = fx at *
                      generalize fa F s = fs at *
                      clear HSk HTa HCs hC
                      go_wp2_with fail
                      go_quiet (fail)
                      have HFd := hid (HF5.out.keep0 (Ext.drewN [] wr nq))
                      go_wp2_with fail
                      go_roundg q
                      case measure => omega
                      case rel => exact ⟨(s : Int), i + 1, HG1.out, rfl, by go_num, HFd.out, by rw [HTk.out]; exact HR2.out⟩
              · have hdA : decide (0 ≤ fa F x) = false := by simpa using hA
                have HR2 := hid (HSk.out (.inl (by omega)))
                generalize fa F x = fx at *
                clear HSk HTa HCs
                go_wp2_with fail
                go_quiet (fail)
                have HFd := hid (HF5.out.keep0 (Ext.drewN [] wr nq))
                go_wp2_with fail
                go_roundg q
                case measure => omega
                case rel => exact ⟨vv, i + 1, HG1.out, rfl, by go_num, HFd.out, by rw [HTk.out]; exact HR2.out⟩
            | zero =>
              obtain rfl : i = rn := by omega
              have HR1f : Hid (R1 R F vv) := by
                have := HR1.out
                rwa [List.take_of_length_le (by rw [HRn.out]; exact Nat.le_refl _)] at this
              clear hiq HR1
              rcases HR1f.out with ⟨hv, hno⟩ | ⟨r0, hv, hr0⟩
              · subst hv
                have HNo := hid (no_best HG.out.net HG.out.roots HFo.out HSt.out hno)
                clear hno HR1f
                go_wp2_with fail
                go_ret2
                exact .inr ⟨HNo.out, rfl, HF5.out.1⟩
              · subst hv
                have HR0 := hid hr0
                have hr0k : r0 < k := by
                  have := HG.out.roots r0 hr0.mem
                  rw [HNn.out] at this
                  exact this
                have hd0 : decide ((r0 : Int) < 0) = false := by simp
                have HOw : Hid ((wr.alloc (.cells #[.int .i64 (r0 : Nat)] 3)).ownsRow wr.heap.size 3 1 (.slice (some ⟨wr.heap.size, 0, none⟩) 1 1) 1 [.int .i64 (r0 : Nat)]) := World.ownsRow_lit wr #[.int .i64 (r0 : Nat)] 1 (Nat.le_refl _) (by decide) rfl
                have HEa := hid (Ext.alloc [] wr (.cells #[.int .i64 (r0 : Nat)] 3))
                obtain ⟨hr1, hr2⟩ := HTop.out r0 hr0k
                have HR0f : Hid (0 ≤ fa F r0) := hr0.far
                clear hr0 HR1f
                go_upto_region 33 with fail
                obtain ⟨w5, hw5⟩ : ∃ w5, w5 = wr := ⟨_, rfl⟩
                rw [← hw5] at HOw HEa HF5 ⊢
                generalize w5.alloc (.cells #[.int .i64 (r0 : Nat)] 3) = w6 at *
                clear hw5
                go_loopg [15, 18] ((fa F r0).toNat) (fun q v lv wx => ∃ x p, v = .int .i64 (x : Nat) ∧ x < k ∧ 0 ≤ fa F x ∧ fa F x ≤ q ∧ (p.length : Int) + fa F x = fa F r0 ∧ Ext [] w5 wx ∧ wx.ownsRow w5.heap.size 3 1 lv (p.length + 1) ((ci (p ++ [x])).map (Value.int .i64)) ∧ ∀ u, Gr N tg F u x → Gr N tg F (p ++ u) r0)
                case atStart => exact ⟨r0, [], rfl, hr0k, HR0f.out, by have := HR0f.out; omega, by simp, HEa.out, HOw.out, fun u h => h⟩
                case round =>
                  clear HOw HEa
                  obtain ⟨x, p, rfl, hxk, hx0, hxq, hpl, hE6, hOw, hGr⟩ := hrel
                  have HE6 := hid hE6
                  have HOw := hid hOw
                  have HGr := hid hGr
                  have HPl := hid hpl
                  have HXq := hid hxq
                  have HX0 := hid hx0
                  have hpl2 : p.length ≤ 65536 := by omega
                  obtain ⟨gl, lc, hlv, _⟩ := hOw.form (by omega)
                  subst hlv
                  obtain ⟨G6, hG6⟩ : ∃ G6, G6 = gk := ⟨_, rfl⟩
                  subst hG6
                  clear hE6 hOw hGr hpl hxq hx0
                  by_cases hxt : x = tg
                  · have hdx : ((x : Int) != (tg : Int)) = false := by simp [hxt]
                    have HBest : Hid (Best N R tg (p ++ [x])) := by
                      rw [hxt]
                      exact gr_best HG.out.net HG.out.roots HFo.out HSt.out HR0.out (HGr.out [tg] (by rw [hxt]; exact .nil))
                    have HLn : Hid ((p ++ [x]).length = p.length + 1) := by show _ = _; simp
                    clear hxt
                    go_wp2_with fail
                    go_ret2
                    refine .inl ⟨p ++ [x], some ⟨gl, 0, none⟩, lc, HBest.out, by rw [HLn.out]; rfl, own_vs HOw.out, HF5.out.1.trans HE6.out⟩
                  · have hdx : ((x : Int) != (tg : Int)) = true := by simp; omega
                    have HXt := hid hxt
                    obtain ⟨nb, no, rfl, hcs⟩ := HN.out.addr (by rw [cn_len, HNn.out]; omega)
                    obtain ⟨la, ld, hcn, hI, _, _⟩ := hcs x (by rw [cn_len, HNn.out]; exact hxk)
                    rw [cn_get] at hcn hI
                    rw [ci_len] at hcn
                    have HCn := hid hcn
                    have HI := hid hI
                    have hw8 := HG.out.slim x
                    have HNx : Hid (∀ y ∈ nxt N x, y < k) := fun y hy => by have := HG.out.net.nxt x y hy; rw [HNn.out] at this; exact this
                    generalize hlx : (nxt N x).length = lx at *
                    have HLx := hid hlx
                    have HF6 := hid (HF5.out.keep0 HE6.out)
                    have HX10 : Hid (X1 ((nxt N x).take 0) F (fa F x - 1) (-1)) := .inl ⟨rfl, by simp⟩
                    clear hcs hcn hI hlx hxt
                    have kn := HF6.out.1.cell HCn.out (by simp)
                    obtain ⟨w7, hw7⟩ : ∃ w7, w7 = wr := ⟨_, rfl⟩
                    subst hw7
                    go_wp2_with fail
                    clear kn
                    go_loopg [19, 20] lx (fun q2 v u wx => ∃ vv : Int, ∃ j : Nat, j + q2 = lx ∧ v = .int .i64 vv ∧ u = .int .i64 j ∧ Ext [] w7 wx ∧ X1 ((nxt N x).take j) F (fa F x - 1) vv)
                    case atStart => exact ⟨-1, 0, by omega, rfl, rfl, Ext.refl _ _, HX10.out⟩
                    case round =>
                      clear HX10
                      obtain ⟨vv, j, hjq, rfl, rfl, hE7, hX1⟩ := hrel
                      have HE7 := hid hE7
                      have HX1 := hid hX1
                      have HF7 := hid (HF6.out.keep0 hE7)
                      have kn := HF7.out.1.cell HCn.out (by simp)
                      clear hE7 hX1
                      cases gk with
                      | succ q2 =>
                        have hjl : j < lx := by omega
                        have HG2 : Hid (j + 1 + q2 = lx) := by show _ = _; omega
                        have hjN : j < (nxt N x).length := by rw [HLx.out]; exact hjl
                        obtain ⟨fb, fo, rfl, hc⟩ := HI.out.cell (j := j) (by rw [ci_len]; exact hjN)
                        rw [ci_get _ _ hjN] at hc
                        have HMz : Hid ((nxt N x).getD j 0 ∈ nxt N x) := by show _ ∈ _; simp [hjN]
                        have hzk := HNx.out _ HMz.out
                        have HTk : Hid ((nxt N x).take (j + 1) = (nxt N x).take j ++ [(nxt N x).getD j 0]) := by
                          show _ = _
                          rw [List.take_add_one]; simp [hjN]
                        generalize (nxt N x).getD j 0 = z at *
                        have kz := HF7.out.1.cell hc (by simp)
                        have k1 := HF7.out.cell hzk
                        have k2 := HF7.out.cell hxk
                        obtain ⟨ht1, ht2⟩ := HTop.out x hxk
                        have hwf : IntKind.i64.wrap (fa F x - 1) = fa F x - 1 := by rw [IntKind.wrap_i64]; omega
                        have HSk : Hid ((fa F z ≠ fa F x - 1 ∨ ∃ y : Nat, vv = y ∧ y ≤ z) → X1 ((nxt N x).take j ++ [z]) F (fa F x - 1) vv) := fun h => HX1.out.skip h
                        have HTa : Hid (fa F z = fa F x - 1 → (vv = -1 ∨ ∃ y : Nat, vv = y ∧ z < y) → X1 ((nxt N x).take j ++ [z]) F (fa F x - 1) z) := fun h1 h2 => HX1.out.take h1 h2
                        have HCs : Hid (vv = -1 ∨ ∃ y : Nat, vv = y) := by
                          rcases HX1.out with ⟨h, _⟩ | ⟨y, h, _⟩
                          · exact .inl h
                          · exact .inr ⟨y, h⟩
                        clear hc hjN hjq HX1
                        by_cases hA : fa F z = fa F x - 1
                        · have hdA : (fa F z == fa F x - 1) = true := by simp [hA]
                          rcases HCs.out with hv | ⟨y, hv⟩
                          · subst hv
                            have HX2 := hid (HTa.out hA (.inl rfl))
                            generalize fa F x = fx at *
                            generalize fa F z = fz at *
                            clear HSk HTa HCs hA
                            go_wp2_with fail
                            go_quiet (fail)
                            go_wp2_with fail
                            go_roundg q2
                            case measure => omega
                            case rel => exact ⟨(z : Int), j + 1, HG2.out, rfl, by go_num, HE7.out.trans (Ext.drewN [] _ _), by rw [HTk.out]; exact HX2.out⟩
                          · subst hv
                            have hd1 : decide ((y : Int) < 0) = false := by simp
                            by_cases hB : z < y
                            · have hdB : decide ((z : Int) < (y : Int)) = true := by simpa using hB
                              have hdB2 : decide (z < y) = true := by simpa using hB
                              have HX2 := hid (HTa.out hA (.inr ⟨y, rfl, hB⟩))
                              generalize fa F x = fx at *
                              generalize fa F z = fz at *
                              clear HSk HTa HCs hA
                              go_wp2_with fail
                              go_quiet (fail)
                              go_wp2_with fail
                              go_roundg q2
                              case measure => omega
                              case rel => exact ⟨(z : Int), j + 1, HG2.out, rfl, by go_num, HE7.out.trans (Ext.drewN [] _ _), by rw [HTk.out]; exact HX2.out⟩
                            · have hdB : decide ((z : Int) < (y : Int)) = false := by simpa using hB
                              have hdB2 : decide (z < y) = false := by simpa using hB
                              have HX2 := hid (HSk.out (.inr ⟨y, rfl, by omega⟩))
                              generalize fa F x = fx at *
                              generalize fa F z = fz at *
                              clear HSk HTa HCs hA
                              go_wp2_with fail
                              go_quiet (fail)
                              go_wp2_with fail
                              go_roundg q2
                              case measure => omega
                              case rel => exact ⟨(y : Int), j + 1, HG2.out, rfl, by go_num, HE7.out.trans (Ext.drewN [] _ _), by rw [HTk.out]; exact HX2.out⟩
                        · have hdA : (fa F z == fa F x - 1) = false := beq_false_of_ne hA
                          have HX2 := hid (HSk.out (.inl hA))
                          generalize fa F x = fx at *
                          generalize fa F z = fz at *
                          clear HSk HTa HCs hA
                          go_wp2_with fail
                          go_quiet (fail)
                          go_wp2_with fail
                          go_roundg q2
                          case measure => omega
                          case rel => exact ⟨vv, j + 1, HG2.out, rfl, by go_num, HE7.out.trans (Ext.drewN [] _ _), by rw [HTk.out]; exact HX2.out⟩
                      | zero =>
                        obtain rfl : j = lx := by omega
                        obtain ⟨y, hvy, hNx⟩ : ∃ y : Nat, vv = y ∧ Nxt N F x y := by
                          have h1 := HX1.out
                          rw [List.take_of_length_le (by rw [HLx.out]; exact Nat.le_refl _)] at h1
                          rcases h1 with ⟨_, h2⟩ | ⟨y, h2, h3, h4, h5⟩
                          · obtain ⟨y, hy, hf⟩ := HFo.out.near HG.out.net HSt.out (by rw [HNn.out]; exact hxk) HX0.out HXt.out
                            exact absurd hf (h2 y hy)
                          · exact ⟨y, h2, h3, h4, h5⟩
                        subst hvy
                        have hyk := HNx.out y hNx.mem
                        have HNxt := hid hNx
                        have hy0 : 0 ≤ fa F y := by
                          have h1 := hNx.far
                          rcases HFo.out.way x (by rw [HNn.out]; exact hxk) with q | ⟨_, u, hu, hl⟩
                          · have := HX0.out; omega
                          · cases hu with
                            | nil => exact absurd rfl HXt.out
                            | cons h2 h3 =>
                              have := h3.pos
                              simp at hl
                              omega
                        have HY0 := hid hy0
                        obtain ⟨v', W2, hr, ho2, hE8⟩ := put_one (HE6.out.trans HE7.out) (own_keep0 HOw.out HE7.out) (y : Int) (by omega)
                        obtain ⟨gl2, lc2, hv', _⟩ := ho2.form (by omega)
                        subst hv'
                        have HO2 : Hid (W2.ownsRow w5.heap.size 3 1 (.slice (some ⟨gl2, 0, none⟩) (p.length + 1 + 1) lc2) ((p ++ [x]).length + 1) ((ci (p ++ [x] ++ [y])).map (Value.int .i64))) := by
                          show World.ownsRow _ _ _ _ _ _ _
                          simpa [ci] using ho2
                        have HE8 := hid hE8
                        have HLt : Hid ((fa F y).toNat < G6 ∧ fa F y ≤ (fa F y).toNat) := by
                          have h1 := hNx.far
                          have h2 := HXq.out
                          show _ ∧ _
                          omega
                        have HP2 : Hid (((p ++ [x]).length : Int) + fa F y = fa F r0) := by
                          have h1 := hNx.far
                          have h2 := HPl.out
                          show _ = _
                          simp
                          omega
                        clear hjq HX1 hNx hy0 ho2 hE8
                        go_wp2_with (at_builtin; refine wpList_append_run rfl _ _ 23 rfl _ _ _ rfl rfl hr ?_)
                        go_roundg (fa F y).toNat
                        case measure => exact HLt.out.1
                        case rel =>
                          refine ⟨y, p ++ [x], rfl, hyk, HY0.out, HLt.out.2, HP2.out, HE8.out, HO2.out, fun u hu => ?_⟩
                          have := HGr.out (x :: u) (.cons HXt.out HNxt.out hu)
                          simpa using this
        · have HPt := hid (HB1.out rfl)
          clear HB1 HB2
          have HSw0 : Hid (Sw N tg F F false 0 0) := ⟨HFo.out, by simp, fun _ => ⟨rfl, by simp, by simp⟩⟩
          go_wp2_with fail
          go_loopg [11, 12] k (fun q m u wx => ∃ F1, ∃ b : Bool, ∃ i : Nat, i + q = k ∧ m = .bool b ∧ u = .int .i64 i ∧ Fr w g k wx F1 ∧ Sw N tg F F1 b i 0)
          case atStart => exact ⟨F, false, 0, by omega, rfl, rfl, HF.out, HSw0.out⟩
          case round =>
            clear HSw0 HF HFo
            obtain ⟨F1, b, i, hiq, rfl, rfl, hF1, hSw⟩ := hrel
            have HF1 := hid hF1
            have HSw := hid hSw
            clear hF1 hSw
            cases gk with
            | zero =>
              obtain rfl : i = k := by omega
              have HFo1 := hid HSw.out.fo
              have HEnd : Hid ((b = true → pot i F1 + 1 ≤ G2 - 1) ∧ (b = false → Stab N F1) ∧ 0 < G2) := by
                have h1 := HPt.out
                refine ⟨fun hb => ?_, fun hb => ?_, by omega⟩
                · have h2 := HSw.out.hot hb
                  rw [HNn.out] at h2
                  omega
                · obtain ⟨_, h2, _⟩ := HSw.out.cold hb
                  intro x hx y hy
                  exact h2 x (by rw [← HNn.out]; exact hx) y hy
              clear hiq HSw
              go_wp2_with fail
              go_roundg (G2 - 1)
              case measure => have := HEnd.out.2.2; omega
              case rel => exact ⟨F1, b, rfl, HF1.out, HFo1.out, HEnd.out.1, HEnd.out.2.1⟩
            | succ q =>
              have hik : i < k := by omega
              have HG1 : Hid (i + 1 + q = k) := by show _ = _; omega
              obtain ⟨nb, no, rfl, hcs⟩ := HN.out.addr (by rw [cn_len, HNn.out]; omega)
              obtain ⟨la, lc, hcn, hI, _, _⟩ := hcs i (by rw [cn_len, HNn.out]; exact hik)
              rw [cn_get] at hcn hI
              rw [ci_len] at hcn
              have HCn := hid hcn
              have HI := hid hI
              have hw8 := HG.out.slim i
              have HNx : Hid (∀ y ∈ nxt N i, y < k) := fun y hy => by have := HG.out.net.nxt i y hy; rw [HNn.out] at this; exact this
              generalize hlx : (nxt N i).length = lx at *
              have HLx := hid hlx
              clear hcs hcn hI hlx hiq
              have kn := HF1.out.1.cell HCn.out (by simp)
              go_wp2_with fail
              clear kn
              go_loopg [11, 13] lx (fun q2 m u wx => ∃ F2, ∃ b : Bool, ∃ j : Nat, j + q2 = lx ∧ m = .bool b ∧ u = .int .i64 j ∧ Fr w g k wx F2 ∧ Sw N tg F F2 b i j)
              case atStart => exact ⟨F1, b, 0, by omega, rfl, rfl, HF1.out, HSw.out⟩
              case round =>
                clear HF1 HSw
                obtain ⟨F2, b, j, hjq, rfl, rfl, hF2, hSw⟩ := hrel
                have HF2 := hid hF2
                have HSw := hid hSw
                have kn := hF2.1.cell HCn.out (by simp)
                clear hF2 hSw
                cases gk with
                | zero =>
                  obtain rfl : j = lx := by omega
                  have HSn := hid (HSw.out.next (by rw [HLx.out]; exact Nat.le_refl _))
                  clear hjq
                  go_wp2_with fail
                  go_roundg q
                  case measure => omega
                  case rel => exact ⟨F2, b, i + 1, HG1.out, rfl, by go_num, HF2.out, HSn.out⟩
                | succ q2 =>
                  have hjl : j < lx := by omega
                  have HG2 : Hid (j + 1 + q2 = lx) := by show _ = _; omega
                  have hjN : j < (nxt N i).length := by rw [HLx.out]; exact hjl
                  obtain ⟨fb, fo, rfl, hc⟩ := HI.out.cell (j := j) (by rw [ci_len]; exact hjN)
                  rw [ci_get _ _ hjN] at hc
                  have HMy : Hid ((nxt N i).getD j 0 ∈ nxt N i) := by show _ ∈ _; simp [hjN]
                  have hyk := HNx.out _ HMy.out
                  have HTk : Hid ((nxt N i).take (j + 1) = (nxt N i).take j ++ [(nxt N i).getD j 0]) := by
                    show _ = _
                    rw [List.take_add_one]; simp [hjN]
                  generalize (nxt N i).getD j 0 = y at *
                  have ky := HF2.out.1.cell hc (by simp)
                  have k1 := HF2.out.cell hyk
                  have k2 := HF2.out.cell hik
                  have k3 := HF2.out.froz i
                  have HFs := hid (HF2.out.set i (fa F2 y + 1))
                  have HTop : Hid (fa F2 y < 65536 ∧ -1 ≤ fa F2 y) := by
                    have h1 := HSw.out.fo.top y (by rw [HNn.out]; exact hyk)
                    have h2 := nn_le F2
                    rw [HSw.out.fo.len, HNn.out] at h2
                    have h3 := HSw.out.fo.way y (by rw [HNn.out]; exact hyk)
                    show _ ∧ _
                    omega
                  have htop := HTop.out.1
                  have htop2 := HTop.out.2
                  have HRel : Hid (0 ≤ fa F2 y → (fa F2 i < 0 ∨ fa F2 y + 1 < fa F2 i) → Sw N tg F (F2.set i (fa F2 y + 1)) true i (j + 1)) := fun h0 h1 => HSw.out.relax (by rw [HNn.out]; exact hik) (by rw [HNn.out]; exact hyk) HMy.out h0 h1
                  have HSk : Hid (St1 F2 i y → Sw N tg F F2 b i (j + 1)) := fun h => HSw.out.skip HTk.out h
                  unfold St1 at HSk
                  generalize fa F2 y = fy at *
                  generalize fa F2 i = fi at *
                  clear hc hjN hjq HTop
                  have hwf : IntKind.i64.wrap (fy + 1) = fy + 1 := by rw [IntKind.wrap_i64]; omega
                  by_cases hA : 0 ≤ fy
                  · have hdA : decide (0 ≤ fy) = true := by simpa using hA
                    by_cases hB : fi < 0
                    · have hdB : decide (fi < 0) = true := by simpa using hB
                      have HSr := hid (HRel.out hA (.inl hB))
                      clear HRel HSk HSw HFs
                      go_wp2_with fail
                      go_quiet (fail)
                      have hEd := Ext.drewN [] wr nq
                      have HFd := hid (HF2.out.keep0 hEd)
                      have k1 := hEd.cell k1 (by simp)
                      have k2 := hEd.cell k2 (by simp)
                      have k3 := HFd.out.froz i
                      have HFs := hid (HFd.out.set i (fy + 1))
                      generalize wr.drewN nq = w5 at *
                      clear hEd HF2 HFd kn ky
                      go_wp2_with fail
                      go_roundg q2
                      case measure => omega
                      case rel => exact ⟨F2.set i (fy + 1), true, j + 1, HG2.out, rfl, by go_num, HFs.out, HSr.out⟩
                    · have hdB : decide (fi < 0) = false := by simpa using hB
                      by_cases hC : fy + 1 < fi
                      · have hdC : decide (fy + 1 < fi) = true := by simpa using hC
                        have HSr := hid (HRel.out hA (.inr hC))
                        clear HRel HSk HSw HFs
                        go_wp2_with fail
                        go_quiet (fail)
                        have hEd := Ext.drewN [] wr nq
                        have HFd := hid (HF2.out.keep0 hEd)
                        have k1 := hEd.cell k1 (by simp)
                        have k2 := hEd.cell k2 (by simp)
                        have k3 := HFd.out.froz i
                        have HFs := hid (HFd.out.set i (fy + 1))
                        generalize wr.drewN nq = w5 at *
                        clear hEd HF2 HFd kn ky
                        go_wp2_with fail
                        go_roundg q2
                        case measure => omega
                        case rel => exact ⟨F2.set i (fy + 1), true, j + 1, HG2.out, rfl, by go_num, HFs.out, HSr.out⟩
                      · have hdC : decide (fy + 1 < fi) = false := by simpa using hC
                        have HSs := hid (HSk.out (fun _ => by omega))
                        clear HRel HSk HSw HFs
                        go_wp2_with fail
                        go_quiet (fail)
                        have HFd := hid (HF2.out.keep0 (Ext.drewN [] wr nq))
                        go_wp2_with fail
                        go_roundg q2
                        case measure => omega
                        case rel => exact ⟨F2, b, j + 1, HG2.out, rfl, by go_num, HFd.out, HSs.out⟩
                  · have hdA : decide (0 ≤ fy) = false := by simpa using hA
                    have HSs := hid (HSk.out (fun h => by omega))
                    clear HRel HSk HSw HFs
                    go_wp2_with fail
                    go_quiet (fail)
                    have HFd := hid (HF2.out.keep0 (Ext.drewN [] wr nq))
                    go_wp2_with fail
                    go_roundg q2
                    case measure => omega
                    case rel => exact ⟨F2, b, j + 1, HG2.out, rfl, by go_num, HFd.out, HSs.out⟩

end Go.Proofs.Ytfjabjnajcfamaa

/-
  Whatever is done to a graph, program and reference answer alike: the function ColorPlays answers true and leaves its script as it was; no condition.
-/
import Derived.Test.YtbjplfbplkjibaaStepC
import Derived.Test.YtbjplfbplkjibaaStepD
import Derived.Test.YtbjplfbplkjibaaRAll
import Derived.Test.YtbjplfbplkjibaaOpen
namespace Go.Proofs.Ytbjplfbplkjibaa
open Go.RowKit

theorem step_any (w0 : World) (p q : Nat) (G : Gs) (o : Oq) (ra : Option Addr) (rc : Nat) (w : World) (h : PlE w0 w p q G) (hI : Iv G) (hcy : G.cy < 900000000000000000) (hR : Is w0 ra o.r) (hb : o.r.length ≤ 17592186044416) :
    Calls Try.prog 6 #[.pointer (some ⟨p, 0, none⟩), .pointer (some ⟨q, 0, none⟩), oqv o ra o.r.length rc] w (SpPost w0 p q (opG G o)) := by
  by_cases k1 : o.kd = 1
  · exact step_set w0 p q G o ra _ rc w h hI k1
  by_cases k2 : o.kd = 2
  · exact step_start w0 p q G o ra rc w h hI hR hb k2
  by_cases k3 : o.kd = 3
  · exact step_work w0 p q G o ra _ rc w h hI hcy k3
  by_cases k4 : o.kd = 4
  · exact step_slots w0 p q G o ra _ rc w h hI k4
  by_cases k5 : o.kd = 5
  · exact step_color w0 p q G o ra _ rc w h hI k5
  by_cases k6 : o.kd = 6
  · exact step_shade w0 p q G o ra _ rc w h hI k6
  · exact step_node w0 p q G o ra _ rc w h hI k1 k2 k3 k4 k5 k6

namespace colorPlays

theorem rg_new (w : World) : Rg (w.alloc (.cells #[.slice none 0 0, .slice none 0 0, .int .i64 0, .int .i64 0, .int .i64 0, .int .i64 0] 30)) w.heap.size g0 (fun k => w.heap.size ≤ k) :=
  ⟨.slice none 0 0, .slice none 0 0, [], [], ⟨heap_alloc_new w _, own_nil _ _ _ _, .inl ⟨rfl, rfl⟩, rfl, rfl, fun i hi => by simp [g0] at hi, fun i hi => by simp [g0] at hi, fun i j _ g hg => by simp [svAt, Value.ownBlock] at hg, fun i g hg => by simp [svAt, Value.ownBlock] at hg⟩, ⟨Nat.le_refl _, by simp [Value.ownBlock], by simp [Value.ownBlock], fun i g hg => by simp [svAt, Value.ownBlock] at hg⟩⟩

set_option maxRecDepth 100000 in
set_option maxHeartbeats 4000000 in
theorem walk (a : Option Addr) (n c : Nat) (S : List Oq) (w : World) (hS : Sc w a S) (hn : S.length = n) : Calls Try.prog 3 #[.slice a n c] w (SayPost w (.bool true)) := by
  have hsl := hS.len
  rw [hn] at hsl
  have HS := hid hS
  have HN := hid hn
  have K := new_any w
  have HL : Hid (∀ k, k < n → scr (S.take (k + 1)) = opG (scr (S.take k)) (oqAt S k)) := fun k hk => by
    have hk2 : k < S.length := by rw [hn]; exact hk
    unfold scr
    rw [List.take_add_one, List.foldl_append]
    simp [oqAt, List.getD, hk2]
  have HC : Hid (∀ k, k ≤ n → (scr (S.take k)).cy ≤ k) := fun k hk => by
    have := ops_cy (S.take k) g0
    simp only [g0, List.length_take] at this
    unfold scr
    simp only [g0]
    omega
  have HIv : Hid (∀ k, Iv (scr (S.take k))) := fun k => iv_scr _
  obtain ⟨GG, hGG⟩ : ∃ GG : Nat → Gs, ∀ k, GG k = scr (S.take k) := ⟨_, fun _ => rfl⟩
  have H0 : Hid (GG 0 = g0) := by show _ = _; rw [hGG]; rfl
  simp only [← hGG] at HL HC HIv
  clear hS hn hGG
  go_enter Try.func3, Try.ntmps3
  go_wp2_with fail
  refine K.mono ?_
  clear K
  rintro e w1 ⟨p, rfl, hG, hE⟩
  rw [← H0.out] at hG
  have HG := hid hG
  have HX := hid hE
  clear hG hE
  go_wp2_with fail
  refine (awake_any w1).mono ?_
  rintro e w2 ⟨rfl, hE2⟩
  have HG2 := hid (HG.out.keep0 hE2)
  have HX2 := hid (HX.out.trans hE2)
  clear hE2 HG HX
  have hEb := Ext.alloc [] w2 (.cells #[.slice none 0 0, .slice none 0 0, .int .i64 0, .int .i64 0, .int .i64 0, .int .i64 0] 30)
  have HPl : Hid (PlE w (w2.alloc (.cells #[.slice none 0 0, .slice none 0 0, .int .i64 0, .int .i64 0, .int .i64 0, .int .i64 0] 30)) p w2.heap.size (GG 0)) := by
    have hr := rg_new w2
    rw [← H0.out] at hr
    refine ⟨_, _, HG2.out.there.keep0 hEb, hr.there, fun k hk r => ?_, fun k hk => ⟨hk.1, Nat.lt_of_lt_of_le hk.2 hEb.size⟩, fun k hk => ⟨Nat.le_trans HX2.out.size hk.1, hk.2⟩, HX2.out.trans hEb⟩
    have := hk.2
    have := r.1
    omega
  clear hEb HG2 H0 HX2
  go_wp2_with fail
  generalize hqq : w2.heap.size = qq at *
  clear hqq
  generalize w2.alloc _ = w3 at *
  go_loopw [5] (fun u wr => ∃ k : Nat, u = .int .i64 k ∧ k ≤ n ∧ PlE w wr p qq (GG k)) (fun u _ => (n - (intOf u)).toNat)
  case atStart => exact ⟨0, rfl, Nat.zero_le _, HPl.out⟩
  case round =>
    clear HPl
    obtain ⟨k, rfl, hk, hP⟩ := hrel
    have HP := hid hP
    clear hP
    by_cases hlt : k < n
    · have hkS : k < S.length := by rw [HN.out]; exact hlt
      obtain ⟨C, D, hP⟩ := HP.out
      rcases HS.out.at_ with h0 | ⟨b, oo, rfl, hcs⟩
      · rw [h0] at hkS; simp at hkS
      obtain ⟨ra, rc, c0, c1, c2, c3, c4, hIo, hbl⟩ := hcs k hkS
      have e0 := hP.ext.cell c0 (by simp)
      have e1 := hP.ext.cell c1 (by simp)
      have e2 := hP.ext.cell c2 (by simp)
      have e3 := hP.ext.cell c3 (by simp)
      have e4 := hP.ext.cell c4 (by simp)
      have HK : Hid (∀ W, Ext [] wr W → Calls Try.prog 6 #[.pointer (some ⟨p, 0, none⟩), .pointer (some ⟨qq, 0, none⟩), oqv (oqAt S k) ra (oqAt S k).r.length rc] W (SpPost w p qq (GG (k + 1)))) := fun W hW => by
        rw [HL.out k hlt]
        exact step_any w p qq (GG k) (oqAt S k) ra rc W ⟨_, _, hP.keep0 hW⟩ (HIv.out k) (by have := HC.out k hk; omega) hIo hbl
      have HST : Hid (∀ e W2, SpPost w p qq (GG (k + 1)) e W2 → e = .returned (.bool true) ∧ (W2.cell? ⟨b, oo + k * 5, none⟩ = some (.int .i64 (oqAt S k).kd) ∧ W2.cell? ⟨b, oo + k * 5 + 1, none⟩ = some (.int .i64 (oqAt S k).a) ∧ W2.cell? ⟨b, oo + k * 5 + 2, none⟩ = some (.int .i64 (oqAt S k).b) ∧ W2.cell? ⟨b, oo + k * 5 + 3, none⟩ = some (.int .i64 (oqAt S k).c) ∧ W2.cell? ⟨b, oo + k * 5 + 4, none⟩ = some (.slice ra (oqAt S k).r.length rc)) ∧ PlE w W2 p qq (GG (k + 1)) ∧ W2.cell? ⟨qq, 2, none⟩ = some (.int .i64 (GG (k + 1)).ph) ∧ W2.cell? ⟨qq, 5, none⟩ = some (.int .i64 (GG (k + 1)).cy) ∧ Calls Try.prog 7 #[.pointer (some ⟨p, 0, none⟩)] W2 (fun e w' => e = .returned (.int .i64 (GG (k + 1)).ph) ∧ w' = W2) ∧ Calls Try.prog 8 #[.pointer (some ⟨p, 0, none⟩)] W2 (fun e w' => e = .returned (.int .i64 (GG (k + 1)).cy) ∧ w' = W2)) := by
        rintro e W2 ⟨rfl, C2, D2, h2⟩
        obtain ⟨vn, vl, KV, SV, hm, _⟩ := h2.b
        exact ⟨rfl, ⟨h2.ext.cell c0 (by simp), h2.ext.cell c1 (by simp), h2.ext.cell c2 (by simp), h2.ext.cell c3 (by simp), h2.ext.cell c4 (by simp)⟩, ⟨C2, D2, h2⟩, hm.flds.2.2.1, hm.flds.2.2.2.2.2, phase_any p _ C2 W2 h2.a, cycles_any p _ C2 W2 h2.a⟩
      have K := HK.out _ (Ext.drew [] wr)
      unfold oqv at K
      clear hcs c0 c1 c2 c3 c4 hIo hbl hP HK HP hkS
      generalize (oqAt S k).r.length = rl at *
      generalize oqAt S k = ok at *
      generalize hph : ((GG (k + 1)).ph : Int) = ph at *
      generalize hcy : ((GG (k + 1)).cy : Int) = cy at *
      clear hph hcy
      have hbp : (ph != ph) = false := by simp
      have hbc : (cy != cy) = false := by simp
      go_wp2_with fail
      go_region_law (first
        | (go_simp; go_wp2_with (first | (go_at_call 6; refine K.mono ?_; intro e W2 hq; obtain ⟨rfl, hh2, hP2, f2, f5, KPh, KCy⟩ := HST.out e W2 hq) | (go_at_call 7; refine met KPh ?_) | (go_at_call 8; refine met KCy ?_)))
        | fail "no arm")
      all_goals
        have HP2 := hid hP2
        clear hP2 KPh KCy f2 f5 hh2 hq K HST e0 e1 e2 e3 e4
        go_wp2_with fail
        go_roundw
        case rel => exact ⟨k + 1, by go_num, by omega, HP2.out⟩
        case measure => simp [intOf]; omega
    · obtain rfl : k = n := by omega
      obtain ⟨C, D, hP⟩ := HP.out
      have hIk := HIv.out k
      have hl6 := hIk.len
      have K9 := told_any p (GG k) C wr hP.a hIk.len
      have HP2 := hid hP
      have HIk := hid hIk
      have hll : (lives (GG k)).length ≤ 65536 := Nat.le_trans (livK_len (GG k) (GG k).ns.length) hl6
      clear hP HP hIk
      go_wp2_with fail
      refine K9.mono ?_
      clear K9
      rintro e w4 ⟨v4, rfl, hL4, _, hE4⟩
      obtain ⟨a4, c4, rfl, _⟩ := own_slice hL4
      have HI4 := hid (show Is w4 a4 (li (lives (GG k))) from own_vs hL4)
      have HP4 := hid (HP2.out.keep0 hE4)
      have KA := rall_any qq (GG k) D w4 HP4.out.b HIk.out
      clear hL4 hE4 HP2
      rw [li_len]
      go_wp2_with fail
      refine KA.mono ?_
      clear KA
      rintro e w5 ⟨a5, c5, rfl, hI5, hE5⟩
      have KS := sameInts_true a4 a5 (lives (GG k)).length c4 c5 (li (lives (GG k))) w5 (HI4.out.keep0 hE5) hI5 (li_len _) (by omega)
      have HE5 := hid (HP4.out.ext.trans hE5)
      clear hI5 hE5 HP4 HI4
      generalize (lives (GG k)).length = ll at *
      go_wp2_with fail
      refine KS.mono ?_
      clear KS
      rintro e w6 ⟨rfl, hE6⟩
      have HE6 := hid (HE5.out.trans hE6)
      clear hE6
      go_wp2_with fail
      go_ret
      exact ⟨rfl, HE6.out⟩

end colorPlays
end Go.Proofs.Ytbjplfbplkjibaa

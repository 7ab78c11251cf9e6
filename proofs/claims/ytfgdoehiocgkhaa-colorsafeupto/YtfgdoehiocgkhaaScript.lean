/-
  All work done, and a graph on which a script was carried out; no statement is proved here.
-/
import Derived.Test.YtfgdoehiocgkhaaGrown
namespace Go.Proofs.Ytfgdoehiocgkhaa
open Go.RowKit

/-- All work is done. -/
def FnPost (w : World) (p : Nat) (B : Nat → Prop) (G : Gs) (e : Ending) (w' : World) : Prop := ∃ G', e = .returned (.tuple #[]) ∧ Fin G G' ∧ Gr w' p G' (Nw B w) ∧ Fx B w w'

set_option maxHeartbeats 1000000 in
theorem finish_any (p : Nat) (G : Gs) (B : Nat → Prop) (w : World) (h : Gr w p G B) (hI : Iv G) (hcy : G.cy < 800000000000000000) : Calls Try.prog 17 #[.pointer (some ⟨p, 0, none⟩)] w (FnPost w p B G) := by
  have HH := hid h
  have HI := hid hI
  have HC := hid hcy
  clear h hI hcy
  go_enter Try.func17, Try.ntmps17
  go_wp2_with fail
  go_loopw [2] (fun q wr => ∃ j : Nat, q = .int .i64 j ∧ j ≤ 1000 ∧ Gr wr p (work (j * 1000000) G).2.2 (Nw B w) ∧ Fx B w wr) (fun q _ => (1000 - (intOf q)).toNat)
  case atStart => exact ⟨0, rfl, Nat.zero_le _, by rw [Nat.zero_mul]; exact HH.out.mono (fun _ q => .inl q), Fx.refl _ _⟩
  case round =>
    clear HH
    obtain ⟨j, rfl, hj, hG, hX⟩ := hrel
    have HG := hid hG
    have HX := hid hX
    have hIj := iv_work (j * 1000000) HI.out
    have hcj := work_cy (j * 1000000) G
    have HIj := hid hIj
    clear hX
    by_cases hlt : j < 1000
    · have hji : (j : Int) < 1000 := by omega
      have KP := phase_any p _ _ wr hG
      have KW := work_any p _ _ 1000000 wr hG hIj (by omega) (by have := HC.out; omega)
      by_cases hp : (work (j * 1000000) G).2.2.ph = 0
      · have HF : Hid (FnPost w p B G (.returned (.tuple #[])) wr) := ⟨_, rfl, ⟨hp, _, rfl⟩, HG.out, HX.out⟩
        have hp' : (((work (j * 1000000) G).2.2.ph : Int) != 0) = false := by simp [hp]
        clear hG hIj hcj HG HX HIj KW hp
        generalize (work (j * 1000000) G).2.2.ph = ph at *
        go_wp2_with (go_at_call 11; refine met KP ?_)
        go_end0
        exact HF.out
      · have hp' : (((work (j * 1000000) G).2.2.ph : Int) != 0) = true := by simp; omega
        have HN : Hid (∀ e w2, WkPost wr p (Nw B w) (work (j * 1000000) G).2.2 (1000000 : Int).toNat e w2 → (∃ v v', e = .returned (.tuple #[v, v'])) ∧ Gr w2 p (work ((j + 1) * 1000000) G).2.2 (Nw B w) ∧ Fx B w w2) := by
          rintro e w2 ⟨v, C, rfl, _, hg, hC, _, hx⟩
          have e1 : (work ((j + 1) * 1000000) G).2.2 = (work (1000000 : Int).toNat (work (j * 1000000) G).2.2).2.2 := by
            rw [show (j + 1) * 1000000 = j * 1000000 + (1000000 : Int).toNat by rw [show (1000000 : Int).toNat = 1000000 from rfl]; omega, work_add]
          rw [e1]
          exact ⟨⟨_, _, rfl⟩, hg.mono (fun k hk => nw_nw HX.out.size k (hC k hk)), HX.out.trans hx (fun _ q => q)⟩
        clear hG hIj hcj HG HX HIj hp
        generalize (work (j * 1000000) G).2.2.ph = ph at *
        go_wp2_with (go_at_call 11; refine met KP ?_)
        refine KW.mono ?_
        clear KW KP
        intro e w2 hq
        obtain ⟨⟨v, v', rfl⟩, hF⟩ := HN.out e w2 hq
        have HF := hid hF
        clear hF hq HN
        go_wp2_with fail
        go_roundw
        case rel => exact ⟨j + 1, by go_num, by omega, HF.out⟩
        case measure => simp [intOf]; omega
    · obtain rfl : j = 1000 := by omega
      have HF : Hid (FnPost w p B G (.returned (.tuple #[])) wr) := ⟨_, rfl, Fin.of_ge HI.out (by omega), HG.out, HX.out⟩
      clear hG hIj hcj HG HX HIj
      go_wp2_with fail
      go_end0
      exact HF.out

/-! ### scripts in memory -/

def oqAt (S : List Oq) (i : Nat) : Oq := S.getD i ⟨0, 0, 0, 0, []⟩
structure Sc (w : World) (a : Option Addr) (S : List Oq) : Prop where
  at_ : S = [] ∨ ∃ b o, a = some ⟨b, o, none⟩ ∧ ∀ i, i < S.length → ∃ ra rc, w.cell? ⟨b, o + i * 5, none⟩ = some (.int .i64 (oqAt S i).kd) ∧ w.cell? ⟨b, o + i * 5 + 1, none⟩ = some (.int .i64 (oqAt S i).a) ∧ w.cell? ⟨b, o + i * 5 + 2, none⟩ = some (.int .i64 (oqAt S i).b) ∧ w.cell? ⟨b, o + i * 5 + 3, none⟩ = some (.int .i64 (oqAt S i).c) ∧ w.cell? ⟨b, o + i * 5 + 4, none⟩ = some (.slice ra (oqAt S i).r.length rc) ∧ Is w ra (oqAt S i).r ∧ (oqAt S i).r.length ≤ 17592186044416
  len : S.length ≤ 2513169434917
theorem Sc.keep0 {w w' : World} {a : Option Addr} {S : List Oq} (h : Sc w a S) (e : Ext [] w w') : Sc w' a S := by
  refine ⟨?_, h.len⟩
  rcases h.at_ with h | ⟨b, o, rfl, hc⟩
  · exact .inl h
  · refine .inr ⟨b, o, rfl, fun i hi => ?_⟩
    obtain ⟨ra, rc, h0, h1, h2, h3, h4, h5, h6⟩ := hc i hi
    exact ⟨ra, rc, e.cell h0 (by simp), e.cell h1 (by simp), e.cell h2 (by simp), e.cell h3 (by simp), e.cell h4 (by simp), h5.keep0 e, h6⟩

/-- A graph of the call's own. -/
def GwPost (w : World) (S : List Oq) (e : Ending) (w' : World) : Prop :=
  ∃ p G, e = .returned (.pointer (some ⟨p, 0, none⟩)) ∧ Fin (scr S) G ∧ Iv G ∧ G.cy ≤ S.length + 1 ∧ Gr w' p G (fun k => w.heap.size ≤ k) ∧ Ext [] w w'

theorem Fin.cy {G G' : Gs} (h : Fin G G') : G'.cy ≤ G.cy + 1 := by
  obtain ⟨_, u, rfl⟩ := h
  exact work_cy u G

set_option maxHeartbeats 1000000 in
theorem grown_any (a : Option Addr) (n c : Nat) (S : List Oq) (w : World) (hS : Sc w a S) (hn : S.length = n) : Calls Try.prog 9 #[.slice a n c] w (GwPost w S) := by
  have hsl := hS.len
  rw [hn] at hsl
  have HS := hid hS
  have HN := hid hn
  have K := new_any w
  have HL : Hid (∀ k, k < n → scr (S.take (k + 1)) = opG (scr (S.take k)) (oqAt S k)) := fun k hk => by
    have hk2 : k < S.length := by rw [hn]; exact hk
    unfold scr
    rw [List.take_add_one, List.foldl_append]
    simp [oqAt, List.getD, hk2]
  have HC : Hid (∀ k, k ≤ n → (scr (S.take k)).cy ≤ k) := fun k hk => by
    have := ops_cy (S.take k) g0
    simp only [g0, List.length_take] at this
    unfold scr
    simp only [g0]
    omega
  have HE : Hid (scr (S.take n) = scr S) := by
    show _ = _
    rw [← hn, List.take_length]
  have HIv : Hid (∀ k, Iv (scr (S.take k))) := fun k => iv_scr _
  obtain ⟨GG, hGG⟩ : ∃ GG : Nat → Gs, ∀ k, GG k = scr (S.take k) := ⟨_, fun _ => rfl⟩
  have H0 : Hid (GG 0 = g0) := by show _ = _; rw [hGG]; rfl
  simp only [← hGG] at HL HC HE HIv
  clear hS hn hGG
  go_enter Try.func9, Try.ntmps9
  go_wp2_with fail
  refine K.mono ?_
  clear K
  rintro e w1 ⟨p, rfl, hG, hE⟩
  rw [← H0.out] at hG
  have HG := hid hG
  have HX := hid hE
  clear hG hE H0
  go_wp2_with fail
  go_loopw [4] (fun q wr => ∃ k : Nat, q = .int .i64 k ∧ k ≤ n ∧ Gr wr p (GG k) (fun k => w.heap.size ≤ k) ∧ Ext [] w wr) (fun q _ => (n - (intOf q)).toNat)
  case atStart => exact ⟨0, rfl, Nat.zero_le _, HG.out, HX.out⟩
  case round =>
    clear HG HX
    obtain ⟨k, rfl, hk, hG, hX⟩ := hrel
    have HG := hid hG
    have HX := hid hX
    have hck := HC.out k hk
    by_cases hlt : k < n
    · rcases (HS.out.keep0 hX).at_ with h0 | ⟨b, o, rfl, hcs⟩
      · have := HN.out
        rw [h0] at this
        simp at this
        omega
      · obtain ⟨ra, rc, c0, c1, c2, c3, c4, hI, hbl⟩ := hcs k (by rw [HN.out]; exact hlt)
        have K := do_any p (GG k) _ (oqAt S k) ra rc wr hG (HIv.out k) (by omega) hI hbl
        have HN2 : Hid (∀ e w2, GPost wr p (opG (GG k) (oqAt S k)) (fun k => w.heap.size ≤ k) (.tuple #[]) e w2 → e = .returned (.tuple #[]) ∧ Gr w2 p (GG (k + 1)) (fun k => w.heap.size ≤ k) ∧ Ext [] w w2) := fun e w2 hq => by
          rw [HL.out k hlt]
          exact gpost_on hq HX.out (fun _ q => q)
        unfold oqv at K
        clear hcs hG hX hI HG HX
        generalize (oqAt S k).r.length = rl at *
        generalize oqAt S k = oo at *
        go_wp2_with fail
        refine K.mono ?_
        clear K
        intro e w2 hq
        obtain ⟨rfl, hF⟩ := HN2.out e w2 hq
        have HF := hid hF
        clear hF hq HN2
        go_wp2_with fail
        go_roundw
        case rel => exact ⟨k + 1, by go_num, by omega, HF.out⟩
        case measure => simp [intOf]; omega
    · obtain rfl : k = n := by omega
      have K := finish_any p (GG k) _ wr hG (HIv.out k) (by omega)
      have HP : Hid (∀ e w2, FnPost wr p (fun k => w.heap.size ≤ k) (GG k) e w2 → e = .returned (.tuple #[]) ∧ GwPost w S (.returned (.pointer (some ⟨p, 0, none⟩))) w2) := by
        rintro e w2 ⟨G', rfl, hf, hg, hx⟩
        have hc := hf.cy
        have hl := HN.out
        refine ⟨rfl, p, G', rfl, by rw [← HE.out]; exact hf, hf.iv (HIv.out k), by omega, hg.mono ?_, hx.on HX.out (fun _ q => q)⟩
        rintro j (q | q)
        · exact q
        · exact Nat.le_trans HX.out.size q
      clear hG hX HG HX hck
      go_wp2_with fail
      refine K.mono ?_
      clear K
      intro e w2 hq
      obtain ⟨rfl, hF⟩ := HP.out e w2 hq
      have HF := hid hF
      clear hF hq HP
      go_wp2_with fail
      go_ret
      exact HF.out

end Go.Proofs.Ytfgdoehiocgkhaa

/-
  What the document's answer by definition says of a table and of a type of it; no statement is proved here.
-/
import Derived.Test.YtfabhhmeanpmhaaDoorRefE
namespace Go.Proofs.YtfabhhmeanpmhaaDoor
open Go.RowKit

set_option maxRecDepth 100000 in
set_option maxHeartbeats 2000000 in
theorem rcheck_any (a : Option Addr) (ts : List Ty) (n c : Nat) (w : World) (hT : Tab w a ts) (hn : ts.length = n) : Calls Tryd.prog 52 #[.slice a n c] w (SayPost w (.int .i64 (chk ts))) := by
  have HT := hid hT
  have HN := hid hn
  have hl := hT.len
  rw [hn] at hl
  clear hT hn
  by_cases h64 : n ≤ 64
  · go_enter Tryd.func52, Tryd.ntmps52
    go_wp2_with fail
    go_loopw [3] (fun u wr => ∃ k : Nat, u = .int .i64 k ∧ k ≤ n ∧ Ext [] w wr ∧ ∀ i, i < k → OkAt ts i) (fun u _ => (n - (intOf u)).toNat)
    case atStart => exact ⟨0, rfl, Nat.zero_le _, Ext.refl _ _, fun i hi => by omega⟩
    case round =>
      obtain ⟨k, rfl, hk, hE, hok⟩ := hrel
      have HE := hid hE
      have HO := hid hok
      clear hE hok
      by_cases hlt : k < n
      · have K := sound_any a ts n c k wr (HT.out.keep0 HE.out) HN.out hlt HO.out
        go_wp2_with fail
        refine K.mono ?_
        clear K
        rintro e w2 ⟨r, rfl, hE2, hr⟩
        have HE2 := hid (HE.out.trans hE2)
        clear hE2
        cases r with
        | false =>
          have HX : Hid (¬ Sound ts) := fun h => by
            have := hr.2 (h.2.1 k (by rw [HN.out]; exact hlt))
            cases this
          clear hr
          go_wp2_with fail
          go_ret
          exact ⟨ret_int (chk_no HX.out).symm, HE2.out⟩
        | true =>
          have HX := hid (hr.1 rfl)
          clear hr
          go_wp2_with fail
          go_roundw
          case rel => exact ⟨k + 1, by go_num, by omega, HE2.out, fun i hi => by
            rcases (by omega : i < k ∨ i = k) with h | rfl
            · exact HO.out i h
            · exact HX.out⟩
          case measure => simp [intOf]; omega
      · obtain rfl : k = n := by omega
        have HAO : Hid (AllOk ts) := fun i hi => HO.out i (by have := HN.out; omega)
        clear HO
        go_wp2_with fail
        go_loopw [4] (fun u wv => ∃ m : Nat, u = .int .i64 m ∧ m ≤ k ∧ Ext [] w wv ∧ ∀ i, i < m → KeyOk ts i) (fun u _ => (k - (intOf u)).toNat)
        case atStart => exact ⟨0, rfl, Nat.zero_le _, HE.out, fun i hi => by omega⟩
        case round =>
          obtain ⟨m, rfl, hm, hEm, hko⟩ := hrel
          have HEm := hid hEm
          have HKO := hid hko
          clear hEm hko
          by_cases hml : m < k
          · obtain ⟨b, o, rfl, hta⟩ := (HT.out.keep0 HEm.out).addr (by rw [HN.out]; omega)
            obtain ⟨fa, fc, c0, c1, c2, c3, c4, _⟩ := hta m (by rw [HN.out]; omega)
            have HKN : Hid (KeyOk ts m ↔ ((tyAt ts m).kind = 6 → (M ts (tyAt ts m).key).cmp = true)) := Iff.rfl
            have HFm := hid (HAO.out m (by rw [HN.out]; omega)).1.2.2.1
            clear hta
            by_cases h6 : (tyAt ts m).kind = 6
            · obtain ⟨⟨g0, g1, _⟩, _⟩ := HFm.out h6
              obtain ⟨q, hq⟩ : ∃ q : Nat, (tyAt ts m).key = q := ⟨(tyAt ts m).key.toNat, by omega⟩
              have hqk : q < k := by have := HN.out; omega
              have HKN2 : Hid (KeyOk ts m ↔ (M ts q).cmp = true) := by
                refine HKN.out.trans ?_
                rw [hq]
                exact ⟨fun h => h h6, fun h _ => h⟩
              rw [h6] at c0
              rw [hq] at c2
              have K := comparOf_any ts (some ⟨b, o, none⟩) k c HN.out HAO.out (q + 1) q (by omega) hqk wr (HT.out.keep0 HEm.out)
              clear h6 hq g0 g1 HKN HFm
              generalize M ts q = mx at *
              by_cases hx : mx.cmp = true
              · rw [hx] at K
                have HX := hid (HKN2.out.2 hx)
                clear hx
                go_wp2_with fail
                refine K.mono ?_
                clear K
                rintro e w2 ⟨rfl, hE2⟩
                have HE2 := hid (HEm.out.trans hE2)
                clear hE2
                go_wp2_with fail
                go_roundw
                case rel => exact ⟨m + 1, by go_num, by omega, HE2.out, fun i hi => by
                  rcases (by omega : i < m ∨ i = m) with h | rfl
                  · exact HKO.out i h
                  · exact HX.out⟩
                case measure => simp [intOf]; omega
              · have HX := hid (show ¬ Sound ts from fun h => hx (HKN2.out.1 (h.2.2 m (by rw [HN.out]; omega))))
                have hx : mx.cmp = false := by simpa using hx
                rw [hx] at K
                clear hx
                go_wp2_with fail
                refine K.mono ?_
                clear K
                rintro e w2 ⟨rfl, hE2⟩
                have HE2 := hid (HEm.out.trans hE2)
                clear hE2
                go_wp2_with fail
                go_ret
                exact ⟨ret_int (chk_no HX.out).symm, HE2.out⟩
            · have hb : ((tyAt ts m).kind == 6) = false := by simpa using h6
              have HX : Hid (KeyOk ts m) := fun h => absurd h h6
              clear h6 HKN HFm
              go_wp2_with fail
              go_roundw
              case rel => exact ⟨m + 1, by go_num, by omega, HEm.out, fun i hi => by
                rcases (by omega : i < m ∨ i = m) with h | rfl
                · exact HKO.out i h
                · exact HX.out⟩
              case measure => simp [intOf]; omega
          · have HX : Hid (Sound ts) := ⟨by rw [HN.out]; exact h64, HAO.out, fun i hi => HKO.out i (by have := HN.out; omega)⟩
            go_wp2_with fail
            go_ret
            exact ⟨ret_int (chk_yes HX.out).symm, HEm.out⟩
  · have HX : Hid (¬ Sound ts) := fun h => h64 (by rw [← HN.out]; exact h.1)
    go_enter Tryd.func52, Tryd.ntmps52
    go_wp2_with fail
    go_ret
    exact ⟨ret_int (chk_no HX.out).symm, Ext.refl _ _⟩

theorem rbad_any (a : Option Addr) (ts : List Ty) (n c : Nat) (t : Int) (w : World) (hT : Tab w a ts) (hn : ts.length = n) : Calls Tryd.prog 29 #[.slice a n c, .int .i64 t] w (SayPost w (.int .i64 (bad ts t))) := by
  have K := rcheck_any a ts n c w hT hn
  have HN := hid hn
  clear hT hn
  by_cases hs : Sound ts
  · rw [chk_yes hs] at K
    by_cases ht : 0 ≤ t ∧ t < n
    · have HX := hid (bad_ok (t := t) hs (by rw [HN.out]; exact ht))
      obtain ⟨h1, h2⟩ := ht
      have hd1 : decide (t < 0) = false := decide_eq_false (by omega)
      have hd2 : decide ((n : Int) ≤ t) = false := decide_eq_false (by omega)
      clear hs
      go_enter Tryd.func29, Tryd.ntmps29
      go_wp2_with fail
      refine K.mono ?_
      rintro e w2 ⟨rfl, hE2⟩
      have HE2 := hid hE2
      clear hE2 K
      go_wp2_with fail
      go_ret
      exact ⟨ret_int HX.out.symm, HE2.out⟩
    · have HX := hid (bad_arg (t := t) hs (by rw [HN.out]; exact ht))
      clear hs
      rcases (by omega : t < 0 ∨ (0 ≤ t ∧ n ≤ t)) with h | ⟨h, h'⟩
      · clear ht
        go_enter Tryd.func29, Tryd.ntmps29
        go_wp2_with fail
        refine K.mono ?_
        rintro e w2 ⟨rfl, hE2⟩
        have HE2 := hid hE2
        clear hE2 K
        go_wp2_with fail
        go_ret
        exact ⟨ret_int HX.out.symm, HE2.out⟩
      · clear ht
        have hd : decide ((n : Int) ≤ t) = true := decide_eq_true (by omega)
        have hd1 : decide (t < 0) = false := decide_eq_false (by omega)
        go_enter Tryd.func29, Tryd.ntmps29
        go_wp2_with fail
        refine K.mono ?_
        rintro e w2 ⟨rfl, hE2⟩
        have HE2 := hid hE2
        clear hE2 K
        go_wp2_with fail
        go_ret
        exact ⟨ret_int HX.out.symm, HE2.out⟩
  · rw [chk_no hs] at K
    have HX := hid (bad_form (t := t) hs)
    clear hs
    go_enter Tryd.func29, Tryd.ntmps29
    go_wp2_with fail
    refine K.mono ?_
    rintro e w2 ⟨rfl, hE2⟩
    have HE2 := hid hE2
    clear hE2 K
    go_wp2_with fail
    go_ret
    exact ⟨ret_int HX.out.symm, HE2.out⟩

theorem rwidth_any (a : Option Addr) (ts : List Ty) (n c : Nat) (t : Int) (w : World) (hT : Tab w a ts) (hn : ts.length = n) : Calls Tryd.prog 37 #[.slice a n c, .int .i64 t] w (SayPost w (.tuple #[.int .i64 (mo ts t).width, .int .i64 (bad ts t)])) := by
  have K := rbad_any a ts n c t w hT hn
  have HT := hid hT
  by_cases hb : bad ts t = 0
  · obtain ⟨hs, t0, t1⟩ := bad_zero hb
    obtain ⟨j, rfl⟩ : ∃ j : Nat, t = j := ⟨t.toNat, by omega⟩
    have KW := fun W hW => widthOf_any ts a n c hn (j + 1) j (by omega) (by omega) (fun i hi => hs.2.1 i (by omega)) (hs.2.1 j (by omega)).1 W hW
    rw [hb] at K
    rw [mo_ok hb, hb]
    have HKW := hid KW
    clear KW hs t0 t1 hb hT hn
    generalize M ts j = m at *
    go_enter Tryd.func37, Tryd.ntmps37
    go_wp2_with fail
    refine K.mono ?_
    rintro e w2 ⟨rfl, hE2⟩
    have HE2 := hid hE2
    clear hE2 K
    go_wp2_with fail
    refine (HKW.out w2 (HT.out.keep0 HE2.out)).mono ?_
    rintro e w3 ⟨rfl, hE3⟩
    have HE3 := hid (HE2.out.trans hE3)
    clear hE3
    go_wp2_with fail
    go_ret2
    exact ⟨rfl, HE3.out⟩
  · rw [mo_no hb] at *
    have hx : (bad ts t != 0) = true := by simpa using hb
    generalize bad ts t = x at *
    clear hb hT hn
    go_enter Tryd.func37, Tryd.ntmps37
    go_wp2_with fail
    refine K.mono ?_
    rintro e w2 ⟨rfl, hE2⟩
    have HE2 := hid hE2
    clear hE2 K
    go_wp2_with fail
    go_ret2
    exact ⟨rfl, HE2.out⟩


end Go.Proofs.YtfabhhmeanpmhaaDoor

/-
  CIn, MAll: joined by program; no statement is proved here.
-/
import Derived.Test.YtjbbomokgpoilaaGreatDoorZCA
import Derived.Test.YtjbbomokgpoilaaGreatDoorZMI
/-
  Is a number in a list, and are two lists the same; no statement is proved here.
-/
namespace Go.Proofs.YtjbbomokgpoilaaGreatDoor.Co
open Go.RowKit


theorem sameInts_true (a b : Option Addr) (n c d : Nat) (xs : List Int) (w : World) (ha : Is w a xs) (hb : Is w b xs) (hn : xs.length = n) (hm : n ≤ 17592186044416) :
    Calls Tryz.prog 26 #[.slice a n c, .slice b n d] w (SayPost w (.bool true)) := by
  by_cases h0 : n = 0
  · subst h0
    go_enter Tryz.func26, Tryz.ntmps26
    go_wp2
    go_loop [5] (fun q => q = .int .i64 0) (fun _ => 0)
    case atStart => rfl
    case round =>
      subst hrel
      go_wp2
      go_ret
      exact ⟨rfl, Ext.refl _ _⟩
  · have hne : xs ≠ [] := by rintro rfl; simp at hn; omega
    obtain ⟨b1, o1, rfl, hc1⟩ := ha.at_ hne
    obtain ⟨b2, o2, rfl, hc2⟩ := hb.at_ hne
    rw [hn] at hc1 hc2
    have H1 := hid hc1
    have H2 := hid hc2
    clear hc1 hc2 ha hb hn hne
    go_enter Tryz.func26, Tryz.ntmps26
    go_wp2
    go_loopw [5] (fun q wr => ∃ k m : Nat, q = .int .i64 k ∧ k ≤ n ∧ wr = w.drewN m) (fun q _ => (n - (intOf q)).toNat)
    case atStart => exact ⟨0, 0, rfl, Nat.zero_le _, rfl⟩
    case round =>
      obtain ⟨k, m, rfl, hk, rfl⟩ := hrel
      by_cases hkn : k < n
      · have hx := H1.out k hkn
        have hy := H2.out k hkn
        generalize xs.getD k 0 = x at *
        go_wp2
        go_quiet (fail)
        go_wp2
        go_roundw
        case rel => exact ⟨k + 1, _, by go_num, by omega, rfl⟩
        case measure => simp [intOf]; omega
      · go_wp2
        go_ret
        exact ⟨rfl, Ext.drewN _ _ _⟩

end Go.Proofs.YtjbbomokgpoilaaGreatDoor.Co

/-
  The words of an object, as the laws read them; no statement is proved here.
-/
namespace Go.Proofs.YtjbbomokgpoilaaGreatDoor
open Go.RowKit

def lU (l : List Int) : List Value := l.map (Value.int .u64)
theorem info27 : (Tryz.prog.info? 27).map (fun i => (i.zero, i.size, i.bytes)) = some (some (.int .u64 0), 1, 8) := by kernel_rfl

/-- The words of an object. -/
def wordsF (M : Ms) (a : Int) (n : Nat) : List Int := (List.range n).map (fun (k : Nat) => wd M.H (a + 8 * (k : Int)))
def allM (M : Ms) (a : Int) : List Int := match fndM M a with
  | none => []
  | some o => wordsF M a o.sl.length
theorem wordsF_succ (M : Ms) (a : Int) (n : Nat) : wordsF M a (n + 1) = wordsF M a n ++ [wd M.H (a + 8 * (n : Int))] := by simp [wordsF, List.range_succ]
theorem wordsF_len (M : Ms) (a : Int) (n : Nat) : (wordsF M a n).length = n := by simp [wordsF]
theorem wordsF_get (M : Ms) (a : Int) {n k : Nat} (h : k < n) : (wordsF M a n).getD k 0 = wd M.H (a + 8 * (k : Int)) := by simp [wordsF, List.getD, h]

/-- One word more behind a list of one's own. -/
theorem app_u64 (w0 w : World) (hE : Ext [] w0 w) (v : Value) (l : List Int) (hown : w.ownsRow w0.heap.size 27 1 v l.length (lU l)) (x : Int) (ty : TypeId) (hn : l.length ≤ 17592186044415) :
    ∃ v' w', (Builtin.append_ #[53, 53] ty #[v, .slice (some ⟨w.heap.size, 0, none⟩) 1 1]).run Tryz.prog (w.alloc (.cells #[.int .u64 x] 27)) = .ok v' w' ∧ w'.ownsRow w0.heap.size 27 1 v' (l ++ [x]).length (lU (l ++ [x])) ∧ Ext [] w0 w' := by
  have hE2 := Ext.alloc [] w (.cells #[.int .u64 x] 27)
  have ho := own_keep0 hown hE2
  obtain ⟨v2, w2, hr2, hO2, hE3, _⟩ := Co.app_own w0 _ (co_ext (hE.trans hE2)) 53 ty 27 _ 8 Tryz.underlying53 info27 rfl (by omega) v l.length _ ho (some ⟨w.heap.size, 0, none⟩) 1 1 [.int .u64 x] rfl (Co.vs_new w 27 [.int .u64 x]) (by simp [Value.oneCell']) (by omega)
  exact ⟨v2, w2, hr2, by simpa [lU] using hO2, ext_co hE3⟩

theorem getV_word {M : Ms} (h : Jd M []) {a : Int} {o : Mo} (ho : fndM M a = some o) {k : Nat} (hk : k < o.sl.length) : getV M a k = .tuple #[.int .u64 (wd M.H (a + 8 * (k : Int))), .int .i64 0] := by
  have hfo : M.ob a = some o := by
    unfold fndM at ho
    split at ho
    · split at ho
      · cases ho; assumption
      · cases ho
    · cases ho
  obtain ⟨t, h3⟩ := h.o3 a o hfo
  have hw := h3.wit h.hv (i := k) (by omega)
  have hp : partE M a k = 0 := by
    unfold partE
    rw [ho]
    simp only
    rw [if_neg (by omega)]
  unfold getV
  rw [if_pos hp]
  unfold ldV
  rw [if_pos hw]
  unfold wd
  rw [show a + (k : Int) * 8 = a + 8 * (k : Int) by omega]

def Al9Post (w : World) (l : List Int) (e : Ending) (w' : World) : Prop := ∃ v, e = .returned v ∧ w'.ownsRow w.heap.size 27 1 v l.length (lU l) ∧ Ext [] w w'

section
variable {w : World} {p : Nat} {M : Ms} {Z : Nat → Prop}

set_option maxHeartbeats 1000000 in
theorem mall_any (h : Mw w p M Z) {b : Nat} (hk : Mk M b) (hj : Jd M []) (a : Int) (hi : I64 a) : Calls Tryz.prog 24 #[.pointer (some ⟨p, 0, none⟩), .int .i64 a] w (Al9Post w (allM M a)) := by
  have K := mptrs_any h hk a hi
  have HG : Hid (∀ u k, Ext [] w u → Calls Tryz.prog 10 #[.pointer (some ⟨p, 0, none⟩), .int .i64 a, .int .i64 k] u (SayPost u (getV M a k))) := fun u k hu => mget_any (h.keep0 hu) hk a k hi
  unfold allM
  cases hf : fndM M a with
  | none =>
    rw [hf] at K
    clear h hk hj hf HG
    go_enter Tryz.func24, Tryz.ntmps24
    go_wp2_with fail
    refine K.mono ?_
    clear K
    rintro e w1 ⟨hE, rfl⟩
    have HE := hid hE
    clear hE
    go_wp2_with fail
    go_loopw [7, 8] (fun v q wr => v = .slice none 0 0 ∧ q = .int .i64 0 ∧ wr = w1) (fun _ _ _ => 0)
    case atStart => exact ⟨rfl, rfl, rfl⟩
    case round =>
      obtain ⟨rfl, rfl, rfl⟩ := hrel
      go_wp2_with fail
      go_ret
      exact ⟨_, rfl, own_nil _ _ _ _, HE.out⟩
  | some o =>
    have hgv := fun k hk => getV_word hj hf (k := k) hk
    obtain ⟨g0, hsl⟩ : ∃ g0 : Nat, o.sl.length ≤ 8192 := by
      obtain ⟨X, cs, cl, bo, ba, fo, h1, h2⟩ := h
      obtain ⟨g, _, _, _, _, q, _⟩ := fV_some h1 hf
      exact ⟨g, q⟩
    rw [hf] at K
    have HG2 : Hid (∀ u (k : Nat), k < o.sl.length → Ext [] w u → Calls Tryz.prog 10 #[.pointer (some ⟨p, 0, none⟩), .int .i64 a, .int .i64 (k : Int)] u (SayPost u (.tuple #[.int .u64 (wd M.H (a + 8 * (k : Int))), .int .i64 0]))) := fun u k hk hu => by
      have := HG.out u k hu
      rw [hgv k hk] at this
      exact this
    clear h hk hj hf HG hgv
    have hpl : (ptrsF o.sl).length = o.sl.length := by simp [ptrsF]
    unfold PtPost at K
    simp only [hpl] at K ⊢
    clear hpl
    generalize o.sl.length = n at *
    go_enter Tryz.func24, Tryz.ntmps24
    go_wp2_with fail
    refine K.mono ?_
    clear K
    rintro e w1 ⟨hE, g, rfl, _, _⟩
    have HE1 := hid hE
    clear hE
    go_wp2_with fail
    go_loopw [7, 8] (fun v q wr => ∃ (k : Nat), q = .int .i64 k ∧ k ≤ n ∧ (∃ ad m d, v = .slice ad m d) ∧ wr.ownsRow w1.heap.size 27 1 v (wordsF M a k).length (lU (wordsF M a k)) ∧ Ext [] w1 wr) (fun _ q _ => (n - (intOf q)).toNat)
    case atStart => exact ⟨0, rfl, Nat.zero_le _, ⟨_, _, _, rfl⟩, own_nil _ _ _ _, Ext.refl _ _⟩
    case round =>
      obtain ⟨k, rfl, hk, ⟨ad, m, d, rfl⟩, hO, hE⟩ := hrel
      have HO := hid hO
      have HE := hid hE
      by_cases hlt : k < n
      · have K := HG2.out wr k hlt (HE1.out.trans hE)
        have hS := wordsF_succ M a k
        have hll := wordsF_len M a k
        clear hO hE
        generalize wd M.H (a + 8 * (k : Int)) = x at *
        have HA : Hid (∀ w2, Ext [] wr w2 → ∃ v' w3, (Builtin.append_ #[53, 53] 53 #[.slice ad m d, .slice (some ⟨w2.heap.size, 0, none⟩) 1 1]).run Tryz.prog (w2.alloc (.cells #[.int .u64 x] 27)) = .ok v' w3 ∧ (∃ a2 n2 c2, v' = .slice a2 n2 c2) ∧ Hid (w3.ownsRow w1.heap.size 27 1 v' (wordsF M a (k + 1)).length (lU (wordsF M a (k + 1))) ∧ Ext [] w1 w3)) := fun w2 hw2 => by
          obtain ⟨v', w3, hr, ho2, hE2⟩ := app_u64 w1 w2 (HE.out.trans hw2) (.slice ad m d) _ (own_keep0 HO.out hw2) x 53 (by omega)
          obtain ⟨a2, c2, e, _⟩ := own_slice ho2
          exact ⟨v', w3, hr, ⟨_, _, _, e⟩, by rw [hS]; exact ho2, hE2⟩
        clear hS hll HO HE
        go_wp2_with fail
        refine K.mono ?_
        clear K
        rintro e w2 ⟨rfl, hE2⟩
        obtain ⟨v', w3, hr, ⟨a2, n2, c2, rfl⟩, HO2⟩ := HA.out w2 hE2
        clear hE2 HA
        go_wp2_with (first | (at_builtin; refine wpList_append_run rfl _ _ 53 rfl _ _ _ rfl rfl hr ?_) | fail "no arm")
        go_roundw
        case rel => exact ⟨k + 1, by go_num, by omega, ⟨_, _, _, rfl⟩, HO2.out.1, HO2.out.2⟩
        case measure => simp [intOf]; omega
      · obtain rfl : k = n := by omega
        clear hO hE
        go_wp2_with fail
        go_ret
        exact ⟨_, rfl, own_base HO.out HE1.out.size, HE1.out.trans HE.out⟩

/-- A slice of words. -/
def Us (w : World) (a : Option Addr) (l : List Int) : Prop := Co.Vs w a (lU l)
theorem Us.at_ {w : World} {a : Option Addr} {xs : List Int} (h : Us w a xs) (h0 : xs ≠ []) : ∃ b o, a = some ⟨b, o, none⟩ ∧ ∀ j, j < xs.length → w.cell? ⟨b, o + j, none⟩ = some (.int .u64 (xs.getD j 0)) := by
  rcases h with h | ⟨b, o, h, hc⟩
  · simp [lU] at h; exact absurd h h0
  · refine ⟨b, o, h, fun j hj => ?_⟩
    rw [hc j (by simpa [lU] using hj)]; simp [lU, hj]
theorem sameWords_true (a b : Option Addr) (n c d : Nat) (xs : List Int) (w : World) (ha : Us w a xs) (hb : Us w b xs) (hn : xs.length = n) (hm : n ≤ 17592186044416) :
    Calls Tryz.prog 25 #[.slice a n c, .slice b n d] w (SayPost w (.bool true)) := by
  by_cases h0 : n = 0
  · subst h0
    go_enter Tryz.func25, Tryz.ntmps25
    go_wp2
    go_loop [5] (fun q => q = .int .i64 0) (fun _ => 0)
    case atStart => rfl
    case round =>
      subst hrel
      go_wp2
      go_ret
      exact ⟨rfl, Ext.refl _ _⟩
  · have hne : xs ≠ [] := by rintro rfl; simp at hn; omega
    obtain ⟨b1, o1, rfl, hc1⟩ := ha.at_ hne
    obtain ⟨b2, o2, rfl, hc2⟩ := hb.at_ hne
    rw [hn] at hc1 hc2
    have H1 := hid hc1
    have H2 := hid hc2
    clear hc1 hc2 ha hb hn hne
    go_enter Tryz.func25, Tryz.ntmps25
    go_wp2
    go_loopw [5] (fun q wr => ∃ k m : Nat, q = .int .i64 k ∧ k ≤ n ∧ wr = w.drewN m) (fun q _ => (n - (intOf q)).toNat)
    case atStart => exact ⟨0, 0, rfl, Nat.zero_le _, rfl⟩
    case round =>
      obtain ⟨k, m, rfl, hk, rfl⟩ := hrel
      by_cases hkn : k < n
      · have hx := H1.out k hkn
        have hy := H2.out k hkn
        generalize xs.getD k 0 = x at *
        go_wp2
        go_quiet (fail)
        go_wp2
        go_roundw
        case rel => exact ⟨k + 1, _, by go_num, by omega, rfl⟩
        case measure => simp [intOf]; omega
      · go_wp2
        go_ret
        exact ⟨rfl, Ext.drewN _ _ _⟩

end

end Go.Proofs.YtjbbomokgpoilaaGreatDoor

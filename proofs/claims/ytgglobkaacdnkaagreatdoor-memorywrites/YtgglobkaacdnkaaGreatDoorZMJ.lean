/-
  CIn, MAll, MWri: joined by program; no statement is proved here.
-/
import Derived.Test.YtgglobkaacdnkaaGreatDoorZCA
import Derived.Test.YtgglobkaacdnkaaGreatDoorZMI
/-
  Is a number in a list, and are two lists the same; no statement is proved here.
-/
namespace Go.Proofs.YtgglobkaacdnkaaGreatDoor.Co
open Go.RowKit


theorem sameInts_true (a b : Option Addr) (n c d : Nat) (xs : List Int) (w : World) (ha : Is w a xs) (hb : Is w b xs) (hn : xs.length = n) (hm : n ≤ 17592186044416) :
    Calls Tryz.prog 26 #[.slice a n c, .slice b n d] w (SayPost w (.bool true)) := by
  by_cases h0 : n = 0
  · subst h0
    go_enter Tryz.func26, Tryz.ntmps26
    go_wp2
    go_loop [5] (fun q => q = .int .i64 0) (fun _ => 0)
    case atStart => rfl
    case round =>
      subst hrel
      go_wp2
      go_ret
      exact ⟨rfl, Ext.refl _ _⟩
  · have hne : xs ≠ [] := by rintro rfl; simp at hn; omega
    obtain ⟨b1, o1, rfl, hc1⟩ := ha.at_ hne
    obtain ⟨b2, o2, rfl, hc2⟩ := hb.at_ hne
    rw [hn] at hc1 hc2
    have H1 := hid hc1
    have H2 := hid hc2
    clear hc1 hc2 ha hb hn hne
    go_enter Tryz.func26, Tryz.ntmps26
    go_wp2
    go_loopw [5] (fun q wr => ∃ k m : Nat, q = .int .i64 k ∧ k ≤ n ∧ wr = w.drewN m) (fun q _ => (n - (intOf q)).toNat)
    case atStart => exact ⟨0, 0, rfl, Nat.zero_le _, rfl⟩
    case round =>
      obtain ⟨k, m, rfl, hk, rfl⟩ := hrel
      by_cases hkn : k < n
      · have hx := H1.out k hkn
        have hy := H2.out k hkn
        generalize xs.getD k 0 = x at *
        go_wp2
        go_quiet (fail)
        go_wp2
        go_roundw
        case rel => exact ⟨k + 1, _, by go_num, by omega, rfl⟩
        case measure => simp [intOf]; omega
      · go_wp2
        go_ret
        exact ⟨rfl, Ext.drewN _ _ _⟩

end Go.Proofs.YtgglobkaacdnkaaGreatDoor.Co

/-
  The words of an object, as the laws read them; no statement is proved here.
-/
namespace Go.Proofs.YtgglobkaacdnkaaGreatDoor
open Go.RowKit

def lU (l : List Int) : List Value := l.map (Value.int .u64)
theorem info27 : (Tryz.prog.info? 27).map (fun i => (i.zero, i.size, i.bytes)) = some (some (.int .u64 0), 1, 8) := by kernel_rfl

/-- The words of an object. -/
def wordsF (M : Ms) (a : Int) (n : Nat) : List Int := (List.range n).map (fun (k : Nat) => wd M.H (a + 8 * (k : Int)))
def allM (M : Ms) (a : Int) : List Int := match fndM M a with
  | none => []
  | some o => wordsF M a o.sl.length
theorem wordsF_succ (M : Ms) (a : Int) (n : Nat) : wordsF M a (n + 1) = wordsF M a n ++ [wd M.H (a + 8 * (n : Int))] := by simp [wordsF, List.range_succ]
theorem wordsF_len (M : Ms) (a : Int) (n : Nat) : (wordsF M a n).length = n := by simp [wordsF]
theorem wordsF_get (M : Ms) (a : Int) {n k : Nat} (h : k < n) : (wordsF M a n).getD k 0 = wd M.H (a + 8 * (k : Int)) := by simp [wordsF, List.getD, h]

/-- One word more behind a list of one's own. -/
theorem app_u64 (w0 w : World) (hE : Ext [] w0 w) (v : Value) (l : List Int) (hown : w.ownsRow w0.heap.size 27 1 v l.length (lU l)) (x : Int) (ty : TypeId) (hn : l.length ≤ 17592186044415) :
    ∃ v' w', (Builtin.append_ #[53, 53] ty #[v, .slice (some ⟨w.heap.size, 0, none⟩) 1 1]).run Tryz.prog (w.alloc (.cells #[.int .u64 x] 27)) = .ok v' w' ∧ w'.ownsRow w0.heap.size 27 1 v' (l ++ [x]).length (lU (l ++ [x])) ∧ Ext [] w0 w' := by
  have hE2 := Ext.alloc [] w (.cells #[.int .u64 x] 27)
  have ho := own_keep0 hown hE2
  obtain ⟨v2, w2, hr2, hO2, hE3, _⟩ := Co.app_own w0 _ (co_ext (hE.trans hE2)) 53 ty 27 _ 8 Tryz.underlying53 info27 rfl (by omega) v l.length _ ho (some ⟨w.heap.size, 0, none⟩) 1 1 [.int .u64 x] rfl (Co.vs_new w 27 [.int .u64 x]) (by simp [Value.oneCell']) (by omega)
  exact ⟨v2, w2, hr2, by simpa [lU] using hO2, ext_co hE3⟩

theorem getV_word {M : Ms} (h : Jd M []) {a : Int} {o : Mo} (ho : fndM M a = some o) {k : Nat} (hk : k < o.sl.length) : getV M a k = .tuple #[.int .u64 (wd M.H (a + 8 * (k : Int))), .int .i64 0] := by
  have hfo : M.ob a = some o := by
    unfold fndM at ho
    split at ho
    · split at ho
      · cases ho; assumption
      · cases ho
    · cases ho
  obtain ⟨t, h3⟩ := h.o3 a o hfo
  have hw := h3.wit h.hv (i := k) (by omega)
  have hp : partE M a k = 0 := by
    unfold partE
    rw [ho]
    simp only
    rw [if_neg (by omega)]
  unfold getV
  rw [if_pos hp]
  unfold ldV
  rw [if_pos hw]
  unfold wd
  rw [show a + (k : Int) * 8 = a + 8 * (k : Int) by omega]

def Al9Post (w : World) (l : List Int) (e : Ending) (w' : World) : Prop := ∃ v, e = .returned v ∧ w'.ownsRow w.heap.size 27 1 v l.length (lU l) ∧ Ext [] w w'

section
variable {w : World} {p : Nat} {M : Ms} {Z : Nat → Prop}

set_option maxHeartbeats 1000000 in
theorem mall_any (h : Mw w p M Z) {b : Nat} (hk : Mk M b) (hj : Jd M []) (a : Int) (hi : I64 a) : Calls Tryz.prog 24 #[.pointer (some ⟨p, 0, none⟩), .int .i64 a] w (Al9Post w (allM M a)) := by
  have K := mptrs_any h hk a hi
  have HG : Hid (∀ u k, Ext [] w u → Calls Tryz.prog 10 #[.pointer (some ⟨p, 0, none⟩), .int .i64 a, .int .i64 k] u (SayPost u (getV M a k))) := fun u k hu => mget_any (h.keep0 hu) hk a k hi
  unfold allM
  cases hf : fndM M a with
  | none =>
    rw [hf] at K
    clear h hk hj hf HG
    go_enter Tryz.func24, Tryz.ntmps24
    go_wp2_with fail
    refine K.mono ?_
    clear K
    rintro e w1 ⟨hE, rfl⟩
    have HE := hid hE
    clear hE
    go_wp2_with fail
    go_loopw [7, 8] (fun v q wr => v = .slice none 0 0 ∧ q = .int .i64 0 ∧ wr = w1) (fun _ _ _ => 0)
    case atStart => exact ⟨rfl, rfl, rfl⟩
    case round =>
      obtain ⟨rfl, rfl, rfl⟩ := hrel
      go_wp2_with fail
      go_ret
      exact ⟨_, rfl, own_nil _ _ _ _, HE.out⟩
  | some o =>
    have hgv := fun k hk => getV_word hj hf (k := k) hk
    obtain ⟨g0, hsl⟩ : ∃ g0 : Nat, o.sl.length ≤ 8192 := by
      obtain ⟨X, cs, cl, bo, ba, fo, h1, h2⟩ := h
      obtain ⟨g, _, _, _, _, q, _⟩ := fV_some h1 hf
      exact ⟨g, q⟩
    rw [hf] at K
    have HG2 : Hid (∀ u (k : Nat), k < o.sl.length → Ext [] w u → Calls Tryz.prog 10 #[.pointer (some ⟨p, 0, none⟩), .int .i64 a, .int .i64 (k : Int)] u (SayPost u (.tuple #[.int .u64 (wd M.H (a + 8 * (k : Int))), .int .i64 0]))) := fun u k hk hu => by
      have := HG.out u k hu
      rw [hgv k hk] at this
      exact this
    clear h hk hj hf HG hgv
    have hpl : (ptrsF o.sl).length = o.sl.length := by simp [ptrsF]
    unfold PtPost at K
    simp only [hpl] at K ⊢
    clear hpl
    generalize o.sl.length = n at *
    go_enter Tryz.func24, Tryz.ntmps24
    go_wp2_with fail
    refine K.mono ?_
    clear K
    rintro e w1 ⟨hE, g, rfl, _, _⟩
    have HE1 := hid hE
    clear hE
    go_wp2_with fail
    go_loopw [7, 8] (fun v q wr => ∃ (k : Nat), q = .int .i64 k ∧ k ≤ n ∧ (∃ ad m d, v = .slice ad m d) ∧ wr.ownsRow w1.heap.size 27 1 v (wordsF M a k).length (lU (wordsF M a k)) ∧ Ext [] w1 wr) (fun _ q _ => (n - (intOf q)).toNat)
    case atStart => exact ⟨0, rfl, Nat.zero_le _, ⟨_, _, _, rfl⟩, own_nil _ _ _ _, Ext.refl _ _⟩
    case round =>
      obtain ⟨k, rfl, hk, ⟨ad, m, d, rfl⟩, hO, hE⟩ := hrel
      have HO := hid hO
      have HE := hid hE
      by_cases hlt : k < n
      · have K := HG2.out wr k hlt (HE1.out.trans hE)
        have hS := wordsF_succ M a k
        have hll := wordsF_len M a k
        clear hO hE
        generalize wd M.H (a + 8 * (k : Int)) = x at *
        have HA : Hid (∀ w2, Ext [] wr w2 → ∃ v' w3, (Builtin.append_ #[53, 53] 53 #[.slice ad m d, .slice (some ⟨w2.heap.size, 0, none⟩) 1 1]).run Tryz.prog (w2.alloc (.cells #[.int .u64 x] 27)) = .ok v' w3 ∧ (∃ a2 n2 c2, v' = .slice a2 n2 c2) ∧ Hid (w3.ownsRow w1.heap.size 27 1 v' (wordsF M a (k + 1)).length (lU (wordsF M a (k + 1))) ∧ Ext [] w1 w3)) := fun w2 hw2 => by
          obtain ⟨v', w3, hr, ho2, hE2⟩ := app_u64 w1 w2 (HE.out.trans hw2) (.slice ad m d) _ (own_keep0 HO.out hw2) x 53 (by omega)
          obtain ⟨a2, c2, e, _⟩ := own_slice ho2
          exact ⟨v', w3, hr, ⟨_, _, _, e⟩, by rw [hS]; exact ho2, hE2⟩
        clear hS hll HO HE
        go_wp2_with fail
        refine K.mono ?_
        clear K
        rintro e w2 ⟨rfl, hE2⟩
        obtain ⟨v', w3, hr, ⟨a2, n2, c2, rfl⟩, HO2⟩ := HA.out w2 hE2
        clear hE2 HA
        go_wp2_with (first | (at_builtin; refine wpList_append_run rfl _ _ 53 rfl _ _ _ rfl rfl hr ?_) | fail "no arm")
        go_roundw
        case rel => exact ⟨k + 1, by go_num, by omega, ⟨_, _, _, rfl⟩, HO2.out.1, HO2.out.2⟩
        case measure => simp [intOf]; omega
      · obtain rfl : k = n := by omega
        clear hO hE
        go_wp2_with fail
        go_ret
        exact ⟨_, rfl, own_base HO.out HE1.out.size, HE1.out.trans HE.out⟩

/-- A slice of words. -/
def Us (w : World) (a : Option Addr) (l : List Int) : Prop := Co.Vs w a (lU l)
theorem Us.at_ {w : World} {a : Option Addr} {xs : List Int} (h : Us w a xs) (h0 : xs ≠ []) : ∃ b o, a = some ⟨b, o, none⟩ ∧ ∀ j, j < xs.length → w.cell? ⟨b, o + j, none⟩ = some (.int .u64 (xs.getD j 0)) := by
  rcases h with h | ⟨b, o, h, hc⟩
  · simp [lU] at h; exact absurd h h0
  · refine ⟨b, o, h, fun j hj => ?_⟩
    rw [hc j (by simpa [lU] using hj)]; simp [lU, hj]
theorem sameWords_true (a b : Option Addr) (n c d : Nat) (xs : List Int) (w : World) (ha : Us w a xs) (hb : Us w b xs) (hn : xs.length = n) (hm : n ≤ 17592186044416) :
    Calls Tryz.prog 25 #[.slice a n c, .slice b n d] w (SayPost w (.bool true)) := by
  by_cases h0 : n = 0
  · subst h0
    go_enter Tryz.func25, Tryz.ntmps25
    go_wp2
    go_loop [5] (fun q => q = .int .i64 0) (fun _ => 0)
    case atStart => rfl
    case round =>
      subst hrel
      go_wp2
      go_ret
      exact ⟨rfl, Ext.refl _ _⟩
  · have hne : xs ≠ [] := by rintro rfl; simp at hn; omega
    obtain ⟨b1, o1, rfl, hc1⟩ := ha.at_ hne
    obtain ⟨b2, o2, rfl, hc2⟩ := hb.at_ hne
    rw [hn] at hc1 hc2
    have H1 := hid hc1
    have H2 := hid hc2
    clear hc1 hc2 ha hb hn hne
    go_enter Tryz.func25, Tryz.ntmps25
    go_wp2
    go_loopw [5] (fun q wr => ∃ k m : Nat, q = .int .i64 k ∧ k ≤ n ∧ wr = w.drewN m) (fun q _ => (n - (intOf q)).toNat)
    case atStart => exact ⟨0, 0, rfl, Nat.zero_le _, rfl⟩
    case round =>
      obtain ⟨k, m, rfl, hk, rfl⟩ := hrel
      by_cases hkn : k < n
      · have hx := H1.out k hkn
        have hy := H2.out k hkn
        generalize xs.getD k 0 = x at *
        go_wp2
        go_quiet (fail)
        go_wp2
        go_roundw
        case rel => exact ⟨k + 1, _, by go_num, by omega, rfl⟩
        case measure => simp [intOf]; omega
      · go_wp2
        go_ret
        exact ⟨rfl, Ext.drewN _ _ _⟩

end

end Go.Proofs.YtgglobkaacdnkaaGreatDoor

/-
  What a word that is written leaves; what an object names, word by word; no statement is proved here.
-/
namespace Go.Proofs.YtgglobkaacdnkaaGreatDoor

theorem fnd_ob {M : Ms} {a : Int} {o : Mo} (hf : fndM M a = some o) : M.ob a = some o ∧ Co.lvB M.G o.nd = true := by
  unfold fndM at hf
  split at hf
  · split at hf
    · cases hf; exact ⟨by assumption, by assumption⟩
    · cases hf
  · cases hf
theorem fnd_of {M : Ms} {a : Int} {o : Mo} (h1 : M.ob a = some o) (h2 : Co.lvB M.G o.nd = true) : fndM M a = some o := by
  unfold fndM; rw [h1]; simp only; rw [if_pos h2]

/-- What Set leaves of an object that is there. -/
theorem set_facts {M : Ms} (h : Jd M []) {a : Int} {o : Mo} (hf : fndM M a = some o) (i v : Int) (hv : 0 ≤ v ∧ v < 18446744073709551616) :
    ((setM M a i v).2 ≠ 0 → (setM M a i v).1 = M ∧ (((setM M a i v).2 = 5 ∧ (i < 0 ∨ (o.sl.length : Int) ≤ i)) ∨ ((setM M a i v).2 = 4 ∧ 0 ≤ i ∧ i < o.sl.length ∧ o.sl.getD i.toNat 0 ≠ -1))) ∧
    ((setM M a i v).2 = 0 → (0 ≤ i ∧ i < o.sl.length) ∧ fndM (setM M a i v).1 a = some o ∧ wd (setM M a i v).1.H (a + 8 * i) = v ∧ ∀ k : Nat, k < o.sl.length → (k : Int) ≠ i → wd (setM M a i v).1.H (a + 8 * (k : Int)) = wd M.H (a + 8 * (k : Int))) := by
  obtain ⟨hob, hlb⟩ := fnd_ob hf
  have hl := (Co.lvB_iff.1 hlb).2
  have hnd0 := (Co.lvB_iff.1 hlb).1
  obtain ⟨t, h3⟩ := h.o3 a o hob
  have hlim := h3.lim h.hv
  unfold setM
  rw [hf]
  simp only
  by_cases hi : i < 0 ∨ (o.sl.length : Int) ≤ i
  · rw [if_pos hi]
    exact ⟨fun _ => ⟨rfl, .inl ⟨rfl, hi⟩⟩, fun e => absurd e (by simp)⟩
  · rw [if_neg hi]
    obtain ⟨j, rfl⟩ : ∃ j : Nat, i = j := ⟨i.toNat, by omega⟩
    have hj : j < o.sl.length := by omega
    simp only [Int.toNat_natCast]
    have hw := h3.wit h.hv (i := j) (by omega)
    have hp := wd_put h.hv h3 (i := j) (by omega) hv
    have hoth : ∀ k : Nat, k < o.sl.length → (k : Int) ≠ j → wd (putH M.H (a + (j : Int) * 8) 8 (byteOf v)) (a + 8 * (k : Int)) = wd M.H (a + 8 * (k : Int)) := fun k hk hne => hp.2 _ (by omega) (by omega)
    by_cases hs : o.sl.getD j 0 = -1
    · rw [if_pos hs]
      simp only
      rw [hw]
      exact ⟨fun e => absurd rfl e, fun _ => ⟨by omega, fnd_of hob hlb, hp.1, hoth⟩⟩
    · rw [if_neg hs]
      obtain ⟨s0, slt⟩ := h.slot hob hl hj hs
      have hset : ∀ x, x = -1 ∨ Co.lvB M.G x = true → Co.set M.G o.nd (o.sl.getD j 0) x = (Co.setG M.G o.nd.toNat (o.sl.getD j 0).toNat x, 0) := fun x hx => by
        unfold Co.set
        rw [if_neg (by rw [hlb]; simp), if_neg (by rcases hx with q | q; simp [q]; simp [q]), if_neg (by omega)]
      have hlb2 : ∀ x, Co.lvB (Co.setG M.G o.nd.toNat (o.sl.getD j 0).toNat x) o.nd = true := fun x => Co.lvB_iff.2 ⟨hnd0, (setG_at hl _ x _).2.1.2 hl⟩
      have fin : ∀ x, x = -1 ∨ Co.lvB M.G x = true → ((0 : Int) ≠ 0 → False) ∧ ((0 ≤ (j : Int) ∧ (j : Int) < o.sl.length) ∧ fndM { M with G := Co.setG M.G o.nd.toNat (o.sl.getD j 0).toNat x, H := putH M.H (a + (j : Int) * 8) 8 (byteOf v) } a = some o ∧ wd (putH M.H (a + (j : Int) * 8) 8 (byteOf v)) (a + 8 * (j : Int)) = v ∧ ∀ k : Nat, k < o.sl.length → (k : Int) ≠ j → wd (putH M.H (a + (j : Int) * 8) 8 (byteOf v)) (a + 8 * (k : Int)) = wd M.H (a + 8 * (k : Int))) :=
        fun x _ => ⟨fun e => e rfl, by omega, fnd_of hob (hlb2 x), hp.1, hoth⟩
      unfold pointM
      split
      · rw [hset (-1) (.inl rfl)]
        simp only
        rw [if_neg (by simp)]
        simp only
        rw [hw]
        exact ⟨fun e => absurd rfl e, fun _ => (fin (-1) (.inl rfl)).2⟩
      · split
        · rw [if_pos (by simp)]
          exact ⟨fun _ => ⟨rfl, .inr ⟨rfl, by omega, by omega, hs⟩⟩, fun e => absurd e (by simp)⟩
        · split
          · rw [if_pos (by simp)]
            exact ⟨fun _ => ⟨rfl, .inr ⟨rfl, by omega, by omega, hs⟩⟩, fun e => absurd e (by simp)⟩
          · rename_i t' ht'
            have hto := fnd_ob ht'
            rw [hset t'.nd (.inr hto.2)]
            simp only
            rw [if_neg (by simp)]
            simp only
            rw [hw]
            exact ⟨fun e => absurd rfl e, fun _ => (fin t'.nd (.inr hto.2)).2⟩

/-! ### what an object names -/

theorem slotsF_at (ps : List Bool) {k : Nat} (hk : k < ps.length) (hp : ps.getD k false = true) : (slotsF ps 0).getD k 0 = (cntT (ps.take k) : Int) := by
  have e : ps = ps.take k ++ ps.drop k := (List.take_append_drop k ps).symm
  have h1 : slotsF ps 0 = slotsF (ps.take k) 0 ++ slotsF (ps.drop k) (0 + cntT (ps.take k)) := by
    conv => lhs; rw [e]
    exact slotsF_append _ _ _
  have hl : (slotsF (ps.take k) 0).length = k := by rw [slotsF_len]; simp; omega
  have hd : ps.drop k = true :: ps.drop (k + 1) := by
    rw [List.drop_eq_getElem_cons hk]
    have : ps[k] = true := by simpa [List.getD, hk] using hp
    rw [this]
  rw [h1, List.getD_eq_getElem?_getD, List.getElem?_append_right (by omega), hl, Nat.sub_self, hd]
  simp [slotsF]

/-- An object's pointers, word by word. -/
structure Ptr9 (M : Ms) (a : Int) (o : Mo) (ps : List Bool) : Prop where
  sl : o.sl = slotsF ps 0
  pt : ptrsF o.sl = ps
  ln : (Co.slV M.G o.nd).length = cntT ps
  wo : ∀ k, k < ps.length → ps.getD k false = true → wd M.H (a + 8 * (k : Int)) = nameW M ((Co.slV M.G o.nd).getD (cntT (ps.take k)) 0) ∧ ((Co.slV M.G o.nd).getD (cntT (ps.take k)) 0 ≠ -1 → 0 < wd M.H (a + 8 * (k : Int)) ∧ wd M.H (a + 8 * (k : Int)) ≤ 1000000)

theorem ptrsF_slots (ps : List Bool) : ptrsF (slotsF ps 0) = ps := by
  apply List.ext_getElem?
  intro k
  unfold ptrsF
  rw [List.getElem?_map]
  by_cases hk : k < ps.length
  · have hl : k < (slotsF ps 0).length := by rw [slotsF_len]; exact hk
    have hg : (slotsF ps 0)[k] = (slotsF ps 0).getD k 0 := by simp [List.getD, hl]
    have hp : ps[k] = ps.getD k false := by simp [List.getD, hk]
    rw [List.getElem?_eq_getElem hl, List.getElem?_eq_getElem hk, hg, hp]
    rcases slotsF_val ps 0 k hk with q | q
    · rw [q.1, q.2]; rfl
    · rw [q.1]
      simp only [Option.map_some, Option.some.injEq, bne_iff_ne, ne_eq]
      omega
  · rw [List.getElem?_eq_none (by rw [slotsF_len]; omega), List.getElem?_eq_none (by omega)]; rfl

theorem ptr9 {M : Ms} (h : Jd M []) (hk : ObI M) {a : Int} {o : Mo} (hf : fndM M a = some o) : ∃ ps, Ptr9 M a o ps := by
  obtain ⟨hob, hlb⟩ := fnd_ob hf
  have hl := (Co.lvB_iff.1 hlb).2
  obtain ⟨ps, h1, h2, h3, h4⟩ := h.sl a o hob
  have hsv : Co.slV M.G o.nd = (Co.ndAt M.G.ns o.nd.toNat).s := by unfold Co.slV; rw [if_pos hlb]
  refine ⟨ps, h1, by rw [h1]; exact ptrsF_slots ps, by rw [hsv]; exact h4 hl, fun k hk2 hp => ?_⟩
  have hs : o.sl.getD k 0 = (cntT (ps.take k) : Int) := by rw [h1]; exact slotsF_at ps hk2 hp
  have hw := h.wo a o hob hl k (by rw [h1, slotsF_len]; exact hk2) (by rw [hs]; omega)
  rw [hs, Int.toNat_natCast] at hw
  rw [hsv]
  refine ⟨hw, fun hx => ?_⟩
  rw [hw]
  obtain ⟨s0, slt⟩ := h.slot hob hl (k := k) (by rw [h1, slotsF_len]; exact hk2) (by rw [hs]; omega)
  rw [hs, Int.toNat_natCast] at slt
  have hm : (Co.ndAt M.G.ns o.nd.toNat).s.getD (cntT (ps.take k)) 0 ∈ (Co.ndAt M.G.ns o.nd.toNat).s := by
    generalize cntT (ps.take k) = c at *
    simp [List.getD, slt]
  have hcl := h.iv.cl _ hl _ hm
  generalize (Co.ndAt M.G.ns o.nd.toNat).s.getD (cntT (ps.take k)) 0 = x at *
  rcases hcl with r | r
  · exact absurd r hx
  · obtain ⟨x0, xl⟩ := Co.lvB_iff.1 r
    obtain ⟨b, hb⟩ := h.lv x.toNat xl.1
    rw [Int.toNat_of_nonneg x0] at hb
    obtain ⟨p, hp1, _⟩ := h.ad x b hb
    obtain ⟨t, h3b⟩ := h.o3 b p hp1
    have hbb := hk b p hp1
    unfold nameW adrM
    rw [if_neg hx, hb]
    simp only [Option.getD_some]
    obtain ⟨y, hy, jy, hjy, _, hby⟩ := h3b
    unfold adr at hby
    omega

/-- The names, one word more. -/
theorem refs_step {M : Ms} {a : Int} {o : Mo} {ps : List Bool} (h : Ptr9 M a o ps) {k : Nat} (hk : k < ps.length) : refsF M ((Co.slV M.G o.nd).take (cntT (ps.take (k + 1)))) = refsF M ((Co.slV M.G o.nd).take (cntT (ps.take k))) ++ if ps.getD k false = true ∧ wd M.H (a + 8 * (k : Int)) ≠ 0 then [wd M.H (a + 8 * (k : Int))] else [] := by
  have hc := cnt_succ ps hk
  cases hp : ps.getD k false
  · rw [hp] at hc
    simp only [Bool.false_eq_true, if_false, Nat.add_zero] at hc
    rw [hc]; simp
  · rw [hp] at hc
    simp only [if_true] at hc
    obtain ⟨h1, h2⟩ := h.wo k hk hp
    have hlt : cntT (ps.take k) < (Co.slV M.G o.nd).length := by
      rw [h.ln]
      have e : cntT ps = cntT (ps.take (k + 1)) + cntT (ps.drop (k + 1)) := by rw [← cntT_append, List.take_append_drop]
      omega
    rw [hc, refsF_succ M _ hlt]
    by_cases hx : (Co.slV M.G o.nd).getD (cntT (ps.take k)) 0 = -1
    · rw [if_pos hx]
      have : wd M.H (a + 8 * (k : Int)) = 0 := by rw [h1, hx]; rfl
      rw [this]; simp
    · rw [if_neg hx]
      have h3 := h2 hx
      rw [if_pos ⟨rfl, by omega⟩, h1]
      unfold nameW
      rw [if_neg hx]

end Go.Proofs.YtgglobkaacdnkaaGreatDoor

/-
  MAll, MWri, MNil, LAwB, LAwC: joined by program; no statement is proved here.
-/
import Derived.Test.YtbpjmcjjambdkaaGreatDoorZBB
import Derived.Test.YtbpjmcjjambdkaaGreatDoorZAZ
import Derived.Test.YtbpjmcjjambdkaaGreatDoorZAY
import Derived.Test.YtbpjmcjjambdkaaGreatDoorZAW
import Derived.Test.YtbpjmcjjambdkaaGreatDoorZAX
import Derived.Test.YtbpjmcjjambdkaaGreatDoorZAH
/-
  The words of an object, as the laws read them; no statement is proved here.
-/
namespace Go.Proofs.YtbpjmcjjambdkaaGreatDoor
open Go.RowKit

def lU (l : List Int) : List Value := l.map (Value.int .u64)
theorem info44 : (Tryz.prog.info? 44).map (fun i => (i.zero, i.size, i.bytes)) = some (some (.int .u64 0), 1, 8) := by kernel_rfl

/-- The words of an object. -/
def wordsF (M : Ms) (a : Int) (n : Nat) : List Int := (List.range n).map (fun (k : Nat) => wd M.H (a + 8 * (k : Int)))
def allM (M : Ms) (a : Int) : List Int := match fndM M a with
  | none => []
  | some o => wordsF M a o.sl.length
theorem wordsF_succ (M : Ms) (a : Int) (n : Nat) : wordsF M a (n + 1) = wordsF M a n ++ [wd M.H (a + 8 * (n : Int))] := by simp [wordsF, List.range_succ]
theorem wordsF_len (M : Ms) (a : Int) (n : Nat) : (wordsF M a n).length = n := by simp [wordsF]
theorem wordsF_get (M : Ms) (a : Int) {n k : Nat} (h : k < n) : (wordsF M a n).getD k 0 = wd M.H (a + 8 * (k : Int)) := by simp [wordsF, List.getD, h]

/-- One word more behind a list of one's own. -/
theorem app_u64 (w0 w : World) (hE : Ext [] w0 w) (v : Value) (l : List Int) (hown : w.ownsRow w0.heap.size 44 1 v l.length (lU l)) (x : Int) (ty : TypeId) (hn : l.length ≤ 17592186044415) :
    ∃ v' w', (Builtin.append_ #[35, 35] ty #[v, .slice (some ⟨w.heap.size, 0, none⟩) 1 1]).run Tryz.prog (w.alloc (.cells #[.int .u64 x] 44)) = .ok v' w' ∧ w'.ownsRow w0.heap.size 44 1 v' (l ++ [x]).length (lU (l ++ [x])) ∧ Ext [] w0 w' := by
  have hE2 := Ext.alloc [] w (.cells #[.int .u64 x] 44)
  have ho := own_keep0 hown hE2
  obtain ⟨v2, w2, hr2, hO2, hE3, _⟩ := Co.app_own w0 _ (co_ext (hE.trans hE2)) 35 ty 44 _ 8 Tryz.underlying35 info44 rfl (by omega) v l.length _ ho (some ⟨w.heap.size, 0, none⟩) 1 1 [.int .u64 x] rfl (Co.vs_new w 44 [.int .u64 x]) (by simp [Value.oneCell']) (by omega)
  exact ⟨v2, w2, hr2, by simpa [lU] using hO2, ext_co hE3⟩

theorem getV_word {M : Ms} (h : Jd M []) {a : Int} {o : Mo} (ho : fndM M a = some o) {k : Nat} (hk : k < o.sl.length) : getV M a k = .tuple #[.int .u64 (wd M.H (a + 8 * (k : Int))), .int .i64 0] := by
  have hfo : M.ob a = some o := by
    unfold fndM at ho
    split at ho
    · split at ho
      · cases ho; assumption
      · cases ho
    · cases ho
  obtain ⟨t, h3⟩ := h.o3 a o hfo
  have hw := h3.wit h.hv (i := k) (by omega)
  have hp : partE M a k = 0 := by
    unfold partE
    rw [ho]
    simp only
    rw [if_neg (by omega)]
  unfold getV
  rw [if_pos hp]
  unfold ldV
  rw [if_pos hw]
  unfold wd
  rw [show a + (k : Int) * 8 = a + 8 * (k : Int) by omega]

def Al9Post (w : World) (l : List Int) (e : Ending) (w' : World) : Prop := ∃ v, e = .returned v ∧ w'.ownsRow w.heap.size 44 1 v l.length (lU l) ∧ Ext [] w w'

section
variable {w : World} {p : Nat} {M : Ms} {Z : Nat → Prop}

/-- A slice of words. -/
def Us (w : World) (a : Option Addr) (l : List Int) : Prop := Co.Vs w a (lU l)
theorem Us.at_ {w : World} {a : Option Addr} {xs : List Int} (h : Us w a xs) (h0 : xs ≠ []) : ∃ b o, a = some ⟨b, o, none⟩ ∧ ∀ j, j < xs.length → w.cell? ⟨b, o + j, none⟩ = some (.int .u64 (xs.getD j 0)) := by
  rcases h with h | ⟨b, o, h, hc⟩
  · simp [lU] at h; exact absurd h h0
  · refine ⟨b, o, h, fun j hj => ?_⟩
    rw [hc j (by simpa [lU] using hj)]; simp [lU, hj]
end

end Go.Proofs.YtbpjmcjjambdkaaGreatDoor

/-
  What a word that is written leaves; what an object names, word by word; no statement is proved here.
-/
namespace Go.Proofs.YtbpjmcjjambdkaaGreatDoor

theorem fnd_ob {M : Ms} {a : Int} {o : Mo} (hf : fndM M a = some o) : M.ob a = some o ∧ Co.lvB M.G o.nd = true := by
  unfold fndM at hf
  split at hf
  · split at hf
    · cases hf; exact ⟨by assumption, by assumption⟩
    · cases hf
  · cases hf
theorem fnd_of {M : Ms} {a : Int} {o : Mo} (h1 : M.ob a = some o) (h2 : Co.lvB M.G o.nd = true) : fndM M a = some o := by
  unfold fndM; rw [h1]; simp only; rw [if_pos h2]

/-- What Set leaves of an object that is there. -/
theorem set_facts {M : Ms} (h : Jd M []) {a : Int} {o : Mo} (hf : fndM M a = some o) (i v : Int) (hv : 0 ≤ v ∧ v < 18446744073709551616) :
    ((setM M a i v).2 ≠ 0 → (setM M a i v).1 = M ∧ (((setM M a i v).2 = 5 ∧ (i < 0 ∨ (o.sl.length : Int) ≤ i)) ∨ ((setM M a i v).2 = 4 ∧ 0 ≤ i ∧ i < o.sl.length ∧ o.sl.getD i.toNat 0 ≠ -1))) ∧
    ((setM M a i v).2 = 0 → (0 ≤ i ∧ i < o.sl.length) ∧ fndM (setM M a i v).1 a = some o ∧ wd (setM M a i v).1.H (a + 8 * i) = v ∧ ∀ k : Nat, k < o.sl.length → (k : Int) ≠ i → wd (setM M a i v).1.H (a + 8 * (k : Int)) = wd M.H (a + 8 * (k : Int))) := by
  obtain ⟨hob, hlb⟩ := fnd_ob hf
  have hl := (Co.lvB_iff.1 hlb).2
  have hnd0 := (Co.lvB_iff.1 hlb).1
  obtain ⟨t, h3⟩ := h.o3 a o hob
  have hlim := h3.lim h.hv
  unfold setM
  rw [hf]
  simp only
  by_cases hi : i < 0 ∨ (o.sl.length : Int) ≤ i
  · rw [if_pos hi]
    exact ⟨fun _ => ⟨rfl, .inl ⟨rfl, hi⟩⟩, fun e => absurd e (by simp)⟩
  · rw [if_neg hi]
    obtain ⟨j, rfl⟩ : ∃ j : Nat, i = j := ⟨i.toNat, by omega⟩
    have hj : j < o.sl.length := by omega
    simp only [Int.toNat_natCast]
    have hw := h3.wit h.hv (i := j) (by omega)
    have hp := wd_put h.hv h3 (i := j) (by omega) hv
    have hoth : ∀ k : Nat, k < o.sl.length → (k : Int) ≠ j → wd (putH M.H (a + (j : Int) * 8) 8 (byteOf v)) (a + 8 * (k : Int)) = wd M.H (a + 8 * (k : Int)) := fun k hk hne => hp.2 _ (by omega) (by omega)
    by_cases hs : o.sl.getD j 0 = -1
    · rw [if_pos hs]
      simp only
      rw [hw]
      exact ⟨fun e => absurd rfl e, fun _ => ⟨by omega, fnd_of hob hlb, hp.1, hoth⟩⟩
    · rw [if_neg hs]
      obtain ⟨s0, slt⟩ := h.slot hob hl hj hs
      have hset : ∀ x, x = -1 ∨ Co.lvB M.G x = true → Co.set M.G o.nd (o.sl.getD j 0) x = (Co.setG M.G o.nd.toNat (o.sl.getD j 0).toNat x, 0) := fun x hx => by
        unfold Co.set
        rw [if_neg (by rw [hlb]; simp), if_neg (by rcases hx with q | q; simp [q]; simp [q]), if_neg (by omega)]
      have hlb2 : ∀ x, Co.lvB (Co.setG M.G o.nd.toNat (o.sl.getD j 0).toNat x) o.nd = true := fun x => Co.lvB_iff.2 ⟨hnd0, (setG_at hl _ x _).2.1.2 hl⟩
      have fin : ∀ x, x = -1 ∨ Co.lvB M.G x = true → ((0 : Int) ≠ 0 → False) ∧ ((0 ≤ (j : Int) ∧ (j : Int) < o.sl.length) ∧ fndM { M with G := Co.setG M.G o.nd.toNat (o.sl.getD j 0).toNat x, H := putH M.H (a + (j : Int) * 8) 8 (byteOf v) } a = some o ∧ wd (putH M.H (a + (j : Int) * 8) 8 (byteOf v)) (a + 8 * (j : Int)) = v ∧ ∀ k : Nat, k < o.sl.length → (k : Int) ≠ j → wd (putH M.H (a + (j : Int) * 8) 8 (byteOf v)) (a + 8 * (k : Int)) = wd M.H (a + 8 * (k : Int))) :=
        fun x _ => ⟨fun e => e rfl, by omega, fnd_of hob (hlb2 x), hp.1, hoth⟩
      unfold pointM
      split
      · rw [hset (-1) (.inl rfl)]
        simp only
        rw [if_neg (by simp)]
        simp only
        rw [hw]
        exact ⟨fun e => absurd rfl e, fun _ => (fin (-1) (.inl rfl)).2⟩
      · split
        · rw [if_pos (by simp)]
          exact ⟨fun _ => ⟨rfl, .inr ⟨rfl, by omega, by omega, hs⟩⟩, fun e => absurd e (by simp)⟩
        · split
          · rw [if_pos (by simp)]
            exact ⟨fun _ => ⟨rfl, .inr ⟨rfl, by omega, by omega, hs⟩⟩, fun e => absurd e (by simp)⟩
          · rename_i t' ht'
            have hto := fnd_ob ht'
            rw [hset t'.nd (.inr hto.2)]
            simp only
            rw [if_neg (by simp)]
            simp only
            rw [hw]
            exact ⟨fun e => absurd rfl e, fun _ => (fin t'.nd (.inr hto.2)).2⟩

/-! ### what an object names -/

theorem slotsF_at (ps : List Bool) {k : Nat} (hk : k < ps.length) (hp : ps.getD k false = true) : (slotsF ps 0).getD k 0 = (cntT (ps.take k) : Int) := by
  have e : ps = ps.take k ++ ps.drop k := (List.take_append_drop k ps).symm
  have h1 : slotsF ps 0 = slotsF (ps.take k) 0 ++ slotsF (ps.drop k) (0 + cntT (ps.take k)) := by
    conv => lhs; rw [e]
    exact slotsF_append _ _ _
  have hl : (slotsF (ps.take k) 0).length = k := by rw [slotsF_len]; simp; omega
  have hd : ps.drop k = true :: ps.drop (k + 1) := by
    rw [List.drop_eq_getElem_cons hk]
    have : ps[k] = true := by simpa [List.getD, hk] using hp
    rw [this]
  rw [h1, List.getD_eq_getElem?_getD, List.getElem?_append_right (by omega), hl, Nat.sub_self, hd]
  simp [slotsF]

/-- An object's pointers, word by word. -/
structure Ptr9 (M : Ms) (a : Int) (o : Mo) (ps : List Bool) : Prop where
  sl : o.sl = slotsF ps 0
  pt : ptrsF o.sl = ps
  ln : (Co.slV M.G o.nd).length = cntT ps
  wo : ∀ k, k < ps.length → ps.getD k false = true → wd M.H (a + 8 * (k : Int)) = nameW M ((Co.slV M.G o.nd).getD (cntT (ps.take k)) 0) ∧ ((Co.slV M.G o.nd).getD (cntT (ps.take k)) 0 ≠ -1 → 0 < wd M.H (a + 8 * (k : Int)) ∧ wd M.H (a + 8 * (k : Int)) ≤ 1000000)

theorem ptrsF_slots (ps : List Bool) : ptrsF (slotsF ps 0) = ps := by
  apply List.ext_getElem?
  intro k
  unfold ptrsF
  rw [List.getElem?_map]
  by_cases hk : k < ps.length
  · have hl : k < (slotsF ps 0).length := by rw [slotsF_len]; exact hk
    have hg : (slotsF ps 0)[k] = (slotsF ps 0).getD k 0 := by simp [List.getD, hl]
    have hp : ps[k] = ps.getD k false := by simp [List.getD, hk]
    rw [List.getElem?_eq_getElem hl, List.getElem?_eq_getElem hk, hg, hp]
    rcases slotsF_val ps 0 k hk with q | q
    · rw [q.1, q.2]; rfl
    · rw [q.1]
      simp only [Option.map_some, Option.some.injEq, bne_iff_ne, ne_eq]
      omega
  · rw [List.getElem?_eq_none (by rw [slotsF_len]; omega), List.getElem?_eq_none (by omega)]; rfl

theorem ptr9 {M : Ms} (h : Jd M []) (hk : ObI M) {a : Int} {o : Mo} (hf : fndM M a = some o) : ∃ ps, Ptr9 M a o ps := by
  obtain ⟨hob, hlb⟩ := fnd_ob hf
  have hl := (Co.lvB_iff.1 hlb).2
  obtain ⟨ps, h1, h2, h3, h4⟩ := h.sl a o hob
  have hsv : Co.slV M.G o.nd = (Co.ndAt M.G.ns o.nd.toNat).s := by unfold Co.slV; rw [if_pos hlb]
  refine ⟨ps, h1, by rw [h1]; exact ptrsF_slots ps, by rw [hsv]; exact h4 hl, fun k hk2 hp => ?_⟩
  have hs : o.sl.getD k 0 = (cntT (ps.take k) : Int) := by rw [h1]; exact slotsF_at ps hk2 hp
  have hw := h.wo a o hob hl k (by rw [h1, slotsF_len]; exact hk2) (by rw [hs]; omega)
  rw [hs, Int.toNat_natCast] at hw
  rw [hsv]
  refine ⟨hw, fun hx => ?_⟩
  rw [hw]
  obtain ⟨s0, slt⟩ := h.slot hob hl (k := k) (by rw [h1, slotsF_len]; exact hk2) (by rw [hs]; omega)
  rw [hs, Int.toNat_natCast] at slt
  have hm : (Co.ndAt M.G.ns o.nd.toNat).s.getD (cntT (ps.take k)) 0 ∈ (Co.ndAt M.G.ns o.nd.toNat).s := by
    generalize cntT (ps.take k) = c at *
    simp [List.getD, slt]
  have hcl := h.iv.cl _ hl _ hm
  generalize (Co.ndAt M.G.ns o.nd.toNat).s.getD (cntT (ps.take k)) 0 = x at *
  rcases hcl with r | r
  · exact absurd r hx
  · obtain ⟨x0, xl⟩ := Co.lvB_iff.1 r
    obtain ⟨b, hb⟩ := h.lv x.toNat xl.1
    rw [Int.toNat_of_nonneg x0] at hb
    obtain ⟨p, hp1, _⟩ := h.ad x b hb
    obtain ⟨t, h3b⟩ := h.o3 b p hp1
    have hbb := hk b p hp1
    unfold nameW adrM
    rw [if_neg hx, hb]
    simp only [Option.getD_some]
    obtain ⟨y, hy, jy, hjy, _, hby⟩ := h3b
    unfold adr at hby
    omega

/-- The names, one word more. -/
theorem refs_step {M : Ms} {a : Int} {o : Mo} {ps : List Bool} (h : Ptr9 M a o ps) {k : Nat} (hk : k < ps.length) : refsF M ((Co.slV M.G o.nd).take (cntT (ps.take (k + 1)))) = refsF M ((Co.slV M.G o.nd).take (cntT (ps.take k))) ++ if ps.getD k false = true ∧ wd M.H (a + 8 * (k : Int)) ≠ 0 then [wd M.H (a + 8 * (k : Int))] else [] := by
  have hc := cnt_succ ps hk
  cases hp : ps.getD k false
  · rw [hp] at hc
    simp only [Bool.false_eq_true, if_false, Nat.add_zero] at hc
    rw [hc]; simp
  · rw [hp] at hc
    simp only [if_true] at hc
    obtain ⟨h1, h2⟩ := h.wo k hk hp
    have hlt : cntT (ps.take k) < (Co.slV M.G o.nd).length := by
      rw [h.ln]
      have e : cntT ps = cntT (ps.take (k + 1)) + cntT (ps.drop (k + 1)) := by rw [← cntT_append, List.take_append_drop]
      omega
    rw [hc, refsF_succ M _ hlt]
    by_cases hx : (Co.slV M.G o.nd).getD (cntT (ps.take k)) 0 = -1
    · rw [if_pos hx]
      have : wd M.H (a + 8 * (k : Int)) = 0 := by rw [h1, hx]; rfl
      rw [this]; simp
    · rw [if_neg hx]
      have h3 := h2 hx
      rw [if_pos ⟨rfl, by omega⟩, h1]
      unfold nameW
      rw [if_neg hx]

end Go.Proofs.YtbpjmcjjambdkaaGreatDoor

/-
  A nil memory; a new one that answers; no statement is proved here.
-/
namespace Go.Proofs.YtbpjmcjjambdkaaGreatDoor
open Go.RowKit

theorem get_nil (a i : Int) (w : World) : Calls Tryz.prog 40 #[.pointer none, .int .i64 a, .int .i64 i] w (SayPost w (.tuple #[.int .u64 0, .int .i64 2])) := by
  have K := mpart_nil a i w
  unfold moZ at K
  go_enter Tryz.func40, Tryz.ntmps40
  go_wp2_with (first | (go_at_call 81; refine K.mono ?_; clear K; rintro e w1 ⟨rfl, hE⟩; have HE := hid hE; clear hE) | fail "no arm")
  go_ret2
  exact ⟨rfl, HE.out.trans (Ext.alloc _ _ _)⟩
theorem set_nil (a i v : Int) (w : World) : Calls Tryz.prog 102 #[.pointer none, .int .i64 a, .int .i64 i, .int .u64 v] w (SayPost w (.int .i64 2)) := by
  have K := mpart_nil a i w
  unfold moZ at K
  go_enter Tryz.func102, Tryz.ntmps102
  go_wp2_with (first | (go_at_call 81; refine K.mono ?_; clear K; rintro e w1 ⟨rfl, hE⟩; have HE := hid hE; clear hE) | fail "no arm")
  go_ret
  exact ⟨rfl, HE.out.trans (Ext.alloc _ _ _)⟩
theorem ptrs_nil (a : Int) (w : World) : Calls Tryz.prog 137 #[.pointer none, .int .i64 a] w (SayPost w (.tuple #[.slice none 0 0, .int .i64 2])) := by
  have K := find_nil a w
  unfold moZ at K
  go_enter Tryz.func137, Tryz.ntmps137
  go_wp2_with (first | (go_at_call 54; refine K.mono ?_; clear K; rintro e w1 ⟨rfl, hE⟩; have HE := hid hE; clear hE) | fail "no arm")
  go_ret2
  exact ⟨rfl, HE.out.trans (Ext.alloc _ _ _)⟩

theorem minfo_nil (a : Int) (w : World) : Calls Tryz.prog 25 #[.pointer none, .int .i64 a] w (SayPost w (.tuple #[obV 0 0 0, .int .i64 2])) := by
  have K := fun u => find_nil a u
  unfold moZ at K
  obtain ⟨wa, hwa⟩ : ∃ wa, wa = w.alloc (.cells #[.int .i64 0, .int .i64 0, .int .i64 0, .slice none 0 0] 60) := ⟨_, rfl⟩
  have HB : Hid (∀ u, Ext [] wa u → u.heap[w.heap.size]? = some (.cells #[.int .i64 0, .int .i64 0, .int .i64 0, .slice none 0 0] 60 (0, 0)) ∧ Ext [] w u) := fun u hu => by
    refine ⟨hu.keep (by rw [hwa]; exact heap_alloc_new _ _) (by simp), Ext.trans (by rw [hwa]; exact Ext.alloc _ _ _) hu⟩
  unfold obV
  go_enter Tryz.func25, Tryz.ntmps25
  go_upto_region 1 with fail
  rw [← hwa]
  clear hwa
  have K1 := K wa
  go_wp2_with fail
  refine K1.mono ?_
  rintro e w1 ⟨rfl, hE⟩
  obtain ⟨hb, hE2⟩ := HB.out _ (hE.trans (Ext.alloc [] w1 (.cells #[.int .i64 0, .slice none 0 0] 105)))
  have q0 : (w1.alloc (.cells #[.int .i64 0, .slice none 0 0] 105)).cell? ⟨w.heap.size, 0, none⟩ = some (.int .i64 0) := by rw [cell_of_row _ _ _ _ _ _ hb]; rfl
  have q1 : (w1.alloc (.cells #[.int .i64 0, .slice none 0 0] 105)).cell? ⟨w.heap.size, 1, none⟩ = some (.int .i64 0) := by rw [cell_of_row _ _ _ _ _ _ hb]; rfl
  have q2 : (w1.alloc (.cells #[.int .i64 0, .slice none 0 0] 105)).cell? ⟨w.heap.size, 2, none⟩ = some (.int .i64 0) := by rw [cell_of_row _ _ _ _ _ _ hb]; rfl
  have q3 : (w1.alloc (.cells #[.int .i64 0, .slice none 0 0] 105)).cell? ⟨w.heap.size, 3, none⟩ = some (.slice none 0 0) := by rw [cell_of_row _ _ _ _ _ _ hb]; rfl
  have z0 : ∀ j, (w1.alloc (.cells #[.int .i64 0, .slice none 0 0] 105)).frozen? ⟨w.heap.size, j, none⟩ = false := fun j => frozen_of_row _ _ _ _ _ hb
  have HF := hid (And.intro hb hE2)
  clear hE hb hE2 K K1 HB
  go_wp2_with fail
  have h5 := results_cell_tmp2 (P := Tryz.prog) (fn := Tryz.f25) (p := 4) (q := 5) (ty := 60) rfl
  refine bodyPost_ret (h5 _ _ ⟨w.heap.size, 0, none⟩ _ ?_ (load34 (set34 HF.out.1 rfl 0 0 0))) rfl ⟨rfl, HF.out.2.on (ext34 0 0 0) (by simp)⟩
  rfl

theorem load40 {w : World} {g : Nat} {x y z p c : Value} (h : w.heap[g]? = some (.cells #[x, y, z, p, c] 70 (0, 0))) : (loadVar 70 ⟨g, 0, none⟩).run Tryz.prog w = .ok (.agg #[x, y, z, p, c]) w := by
  have c0 : w.cell? ⟨g, 0, none⟩ = some x := by rw [cell_of_row _ _ _ _ _ _ h]; rfl
  have c1 : w.cell? ⟨g, 1, none⟩ = some y := by rw [cell_of_row _ _ _ _ _ _ h]; rfl
  have c2 : w.cell? ⟨g, 2, none⟩ = some z := by rw [cell_of_row _ _ _ _ _ _ h]; rfl
  have c3 : w.cell? ⟨g, 3, none⟩ = some p := by rw [cell_of_row _ _ _ _ _ _ h]; rfl
  have c4 : w.cell? ⟨g, 4, none⟩ = some c := by rw [cell_of_row _ _ _ _ _ _ h]; rfl
  simp [go_sem, c0, c1, c2, c3, c4]

theorem view_nil (w : World) : Calls Tryz.prog 28 #[.pointer none, .slice none 0 0] w (SayPost w (.tuple #[.agg #[.slice none 0 0, .slice none 0 0, .slice none 0 0, .int .i64 0, .int .i64 0], .int .i64 2])) := by
  have K := fun u => mnodes_nil (.slice none 0 0) u
  have HF : Hid (Ext [] w ((w.alloc (.cells #[.pointer none] 30)).alloc (.cells #[.slice none 0 0, .slice none 0 0, .slice none 0 0, .int .i64 0, .int .i64 0] 70)) ∧ ((w.alloc (.cells #[.pointer none] 30)).alloc (.cells #[.slice none 0 0, .slice none 0 0, .slice none 0 0, .int .i64 0, .int .i64 0] 70)).heap[w.heap.size + 1]? = some (.cells #[.slice none 0 0, .slice none 0 0, .slice none 0 0, .int .i64 0, .int .i64 0] 70 (0, 0))) :=
    ⟨(Ext.alloc [] _ _).trans (Ext.alloc [] _ _), hp_new (by simp)⟩
  go_enter Tryz.func28, Tryz.ntmps28
  go_wp2_with (first | (go_at_call 59; refine met (K _) ?_) | fail "no arm")
  have h5 := results_cell_tmp2 (P := Tryz.prog) (fn := Tryz.f28) (p := 4) (q := 5) (ty := 70) rfl
  refine bodyPost_ret (h5 _ _ ⟨w.heap.size + 1, 0, none⟩ _ ?_ (load40 HF.out.2)) rfl ⟨rfl, HF.out.1⟩
  rfl

/-! ### a memory that answers -/

theorem awake_alloc : (allocM (newM 1 5 x0) [false] 1 []).2 = (256, 0) := by decide
theorem mk_new {k : Nat} (_h : k ≤ 1024) (pc : Int) (b : Nat) (hb : b < 900000000000000000) : Mk (newM k pc x0) b := ⟨Co.iv_new _, fun _ _ e => (by cases e), (by simp only [newM]; omega), (by simp [newM]), fun _ _ e => (by cases e)⟩

end Go.Proofs.YtbpjmcjjambdkaaGreatDoor

/-
  One string is saved in a new memory; no statement is proved here.
-/
namespace Go.Proofs.YtbpjmcjjambdkaaGreatDoor
open Go.RowKit

theorem ext_of {S : List Nat} {a b : World} (h : Ty.Ext S a b) : Ext S a b := ⟨h.os, h.tape, h.output, h.size, h.block⟩
theorem ext_to {S : List Nat} {a b : World} (h : Ext S a b) : Ty.Ext S a b := ⟨h.os, h.tape, h.output, h.size, h.block⟩
/-- The new memory, with one object, with one word. -/
def m0 : Ms := newM 4 100 x0
def m1 : Ms := (allocM m0 [false] 1048576 []).1
def m2 : Ms := (setM m1 256 0 6513249).1
theorem m1_alloc : (allocM m0 [false] 1048576 []).2 = (256, 0) := by decide
theorem m2_set : (setM m1 256 0 6513249).2 = 0 := by decide
theorem m1_mk : Mk m1 4 := (alloc_mk (b := 4) (mk_new (by omega) 100 _ (by omega)) (jd_new (by omega) 100).hv [false] 1048576 [] (by decide)).1
theorem m2_mk : Mk m2 4 := (Mk.set m1_mk 256 0 6513249).1
theorem m1_jd : Jd m1 [] := Jd.alloc (jd_new (by omega) 100) _ _ _
theorem m2_jd : Jd m2 [] := Jd.set m1_jd 256 0 6513249 (by omega)
theorem m1_fnd : ∃ o, fndM m1 256 = some o ∧ 0 < o.sl.length := by
  cases h : fndM m1 256 with
  | none => exact absurd (show (fndM m1 256).isSome = true by decide) (by rw [h]; simp)
  | some o =>
    refine ⟨o, rfl, ?_⟩
    have : ((fndM m1 256).map fun o => o.sl.length) = some 1 := by decide
    rw [h] at this
    simp at this
    omega
theorem m2_get : getV m2 256 0 = .tuple #[.int .u64 6513249, .int .i64 0] := by
  obtain ⟨o, ho, hl⟩ := m1_fnd
  obtain ⟨_, h2⟩ := set_facts m1_jd ho 0 6513249 (by omega)
  obtain ⟨_, hf, hw, _⟩ := h2 m2_set
  have := getV_word m2_jd hf (k := 0) hl
  have hw' : wd m2.H (256 + 8 * ((0 : Nat) : Int)) = 6513249 := hw
  rw [hw'] at this
  exact this
theorem MPost.eq {w : World} {p : Nat} {M M' : Ms} {Z : Nat → Prop} {r r' : Value} {e : Ending} {w' : World} (h : MPost w p M Z r e w') (h1 : M = M') (h2 : r = r') : MPost w p M' Z r' e w' := by subst h1 h2; exact h
set_option maxRecDepth 100000 in
set_option maxHeartbeats 4000000 in
theorem write1 {w : World} {p g c : Nat} {Z : Nat → Prop} (hm : Mw w p m1 Z) (hc : w.cell? ⟨g, 0, none⟩ = some (.int .u64 6513249)) :
    Calls Tryz.prog 58 #[.pointer (some ⟨p, 0, none⟩), .int .i64 256, .slice (some ⟨g, 0, none⟩) 1 c] w (MPost w p m2 Z (.int .i64 0)) := by
  have K : Calls Tryz.prog 102 #[.pointer (some ⟨p, 0, none⟩), .int .i64 256, .int .i64 0, .int .u64 6513249] w (MPost w p m2 Z (.int .i64 0)) := by
    have := mset_any hm m1_mk 256 0 6513249 (by unfold I64; omega) (by omega)
    rw [m2_set] at this
    exact this
  clear hm
  go_enter Tryz.func58, Tryz.ntmps58
  go_wp2_with fail
  go_loopw [12] (fun q wr => (q = .int .i64 0 ∧ wr = w) ∨ (q = .int .i64 1 ∧ MPost w p m2 Z (.int .i64 0) (.returned (.int .i64 0)) wr)) (fun q _ => (1 - (intOf q)).toNat)
  case atStart => exact .inl ⟨rfl, rfl⟩
  case round =>
    rcases hrel with ⟨rfl, rfl⟩ | ⟨rfl, hP⟩
    · go_wp2_with fail
      refine K.mono ?_
      clear K
      rintro e w1 hP
      obtain ⟨rfl, hP1, hP2⟩ := id hP
      have HP := hid hP
      clear hP hP1 hP2
      go_wp2_with fail
      go_roundw
      case rel => exact .inr ⟨rfl, HP.out⟩
      case measure => simp [intOf]
    · have HP := hid hP
      clear hP K
      go_wp2_with fail
      go_ret
      exact HP.out
/-- What an object that was made for a value leaves. -/
def ObPost (w : World) (p s : Nat) (Z : Nat → Prop) (w' : World) : Prop := (∃ Z', Mw w' p m2 Z' ∧ ∀ k, Z' k → Z k ∨ w.heap.size ≤ k) ∧ Fx (fun k => Z k ∨ k = s) w w'
set_option maxRecDepth 100000 in
set_option maxHeartbeats 4000000 in
theorem object1 {w : World} {s p g h : Nat} {tv : Value} {Z : Nat → Prop} (hs : w.heap[s]? = some (.cells #[.pointer (some ⟨p, 0, none⟩), tv, .slice none 0 0] 159)) (hm : Mw w p m0 Z) (hsZ : ¬ Z s) (hg : w.cell? ⟨g, 0, none⟩ = some (.int .u64 6513249)) (hgZ : ¬ Z g) (hgs : g ≠ s)
    (hh : w.heap[h]? = some (.cells #[.bool false] 4)) (hhZ : ¬ Z h) (hG : Gl w) (h0 : ¬ Z 0) :
    Calls Tryz.prog 200 #[.pointer (some ⟨s, 0, none⟩), .slice (some ⟨h, 0, none⟩) 1 1, .int .i64 1048576, .slice (some ⟨g, 0, none⟩) 1 1] w (fun e w' => e = .returned (.tuple #[.int .i64 256, .int .i64 0]) ∧ ObPost w p s Z w') := by
  have hEd := Ext.drew [] w
  have hsl := lt_of_heap hs
  have hgl : g < w.heap.size := block_lt_of_cell hg
  have hs' := hEd.keep hs (by simp)
  have hg' := hEd.cell hg (by simp)
  have s0 : w.drew.cell? ⟨s, 0, none⟩ = some (.pointer (some ⟨p, 0, none⟩)) := by rw [cell_of_row _ _ _ _ _ _ hs']; rfl
  have s2 : w.drew.cell? ⟨s, 2, none⟩ = some (.slice none 0 0) := by rw [cell_of_row _ _ _ _ _ _ hs']; rfl
  have hO : Co.Os w.drew (some ⟨h, 0, none⟩) [false] := .inr ⟨h, 0, rfl, fun j hj => by
    obtain rfl : j = 0 := by simpa using hj
    rw [Nat.zero_add, cell_of_row _ _ _ _ _ _ (hEd.keep hh (by simp))]; rfl⟩
  have K1 : Calls Tryz.prog 39 #[.pointer (some ⟨p, 0, none⟩), .slice (some ⟨h, 0, none⟩) 1 1, .int .i64 1048576, .slice none 0 0] w.drew (MPost w.drew p m1 Z (.tuple #[.int .i64 256, .int .i64 0])) := by
    have := malloc_any (hm.keep0 hEd) (b := 0) (mk_new (by omega) 100 _ (by omega)) (hG.keep0 hEd) h0 (some ⟨h, 0, none⟩) 1 1 [false] hO rfl (by omega) (fun ad e => by cases e; exact ⟨hhZ, lt_of_heap (hEd.keep hh (by simp))⟩) 1048576 none 0 0 [] (.inl rfl) rfl (by omega) (by simp) (by decide)
    rw [m1_alloc] at this
    exact this
  have HG := hid hG
  have Hs := hid hs'
  have Hg := hid hg'
  clear hs hg hm hh hG hO
  go_enter Tryz.func200, Tryz.ntmps200
  go_wp2_with fail
  go_region_held3 (fun w' => w'.cell? ⟨s, 0, none⟩ = some (.pointer (some ⟨p, 0, none⟩)) ∧ w'.cell? ⟨s, 2, none⟩ = some (.slice none 0 0))
    (first | go_keep | exact ⟨hx5.cell s0 hsZ, hx5.cell s2 hsZ⟩)
    (first
      | (go_at_call 39; refine K1.mono ?_; rintro _ w5 ⟨rfl, hm5, hx5⟩)
      | fail "no arm")
  clear K1 s0 s2
  have hs5 := hx5.keep Hs.out hsZ
  have hg5 := hx5.cell Hg.out hgZ
  have t0 : w5.cell? ⟨s, 0, none⟩ = some (.pointer (some ⟨p, 0, none⟩)) := by rw [cell_of_row _ _ _ _ _ _ hs5]; rfl
  have t2 : w5.cell? ⟨s, 2, none⟩ = some (.slice none 0 0) := by rw [cell_of_row _ _ _ _ _ _ hs5]; rfl
  obtain ⟨v6, w6, hr6, hK6⟩ := Ty.app1 w5 w5 (Ty.Ext.refl _ _) (.slice none 0 0) 0 [] (Ty.own_nil _ _ _ _) 256 (by omega)
  obtain ⟨v', hv', hO6, hE6, _, _⟩ := hK6
  cases hv'
  obtain ⟨a6, c6, rfl, _⟩ := Ty.own_slice hO6
  clear hO6
  rw [show 0 + [(256 : Int)].length = 1 from rfl] at hr6
  have hX6 := ext_of hE6
  have hs6 := hX6.keep hs5 (by simp)
  have u0 : w6.cell? ⟨s, 2, none⟩ = some (.slice none 0 0) := by rw [cell_of_row _ _ _ _ _ _ hs6]; rfl
  have u1 : w6.frozen? ⟨s, 2, none⟩ = false := frozen_of_row _ _ _ _ _ hs6
  have hst := Ext.setCell [s] w6 ⟨s, 2, none⟩ (.slice a6 1 c6) (by simp)
  have hs7 := heap_setCell_same w6 s 2 _ 159 (.slice a6 1 c6) hs6
  have y0 : (w6.setCell ⟨s, 2, none⟩ (.slice a6 1 c6)).cell? ⟨s, 0, none⟩ = some (.pointer (some ⟨p, 0, none⟩)) := by rw [cell_of_row _ _ _ _ _ _ hs7]; rfl
  have hm7 : Mw (w6.setCell ⟨s, 2, none⟩ (.slice a6 1 c6)) p m1 (fun k => Co.Nw Z w.drew k ∧ k < w5.heap.size) := (hm5.there.keep0 hX6).keep (Fx.of_ext (B := fun k => k = s) hst (by simp)) (fun k hk e => by
    subst e
    rcases hk.1 with q | q
    · exact hsZ q
    · have := hEd.size; have hd : w.drew.heap.size = w.heap.size := rfl; omega)
  have K2 := write1 (c := 1) hm7 (hst.cell (hX6.cell hg5 (by simp)) (by simpa using hgs))
  have HF : Hid (∀ w8, MPost (w6.setCell ⟨s, 2, none⟩ (.slice a6 1 c6)) p m2 (fun k => Co.Nw Z w.drew k ∧ k < w5.heap.size) (.int .i64 0) (.returned (.int .i64 0)) w8 → ObPost w p s Z w8) := by
    rintro w8 ⟨_, hm8, hx8⟩
    have hd : w.drew.heap.size = w.heap.size := rfl
    have h5 := hx5.size
    have h6 := hX6.size
    have h7 := hst.size
    refine ⟨⟨_, hm8, fun k hk => ?_⟩, ?_⟩
    · rcases hk with ⟨q | q, _⟩ | q
      · exact .inl q
      · exact .inr (by omega)
      · exact .inr (by omega)
    · have a1 : Fx (fun k => Z k ∨ k = s) w w5 := (Fx.of_ext0 hEd).trans (hx5.mono (C := fun k => Z k ∨ k = s) (fun _ q => .inl q)) (fun _ q => .inl q)
      have a2 := a1.trans (Fx.of_ext0 (B := fun _ => False) hX6) (fun _ q => q.elim)
      have a3 := a2.trans (Fx.of_ext (B := fun k => k = s) hst (by simp)) (fun _ q => .inl (.inr q))
      exact a3.trans hx8 (fun k hk => by
        rcases hk.1 with q | q
        · exact .inl (.inl q)
        · exact .inr (by omega))
  clear hm7 hm5 hx5 hs5 hg5 hX6 hE6 hs6 hst hs7 Hs Hg HG
  go_wp2_with (at_builtin; refine wpList_append_run rfl _ _ 29 rfl _ _ _ rfl rfl hr6 ?_)
  refine K2.mono ?_
  clear K2
  rintro e w8 hP
  obtain ⟨rfl, _, _⟩ := id hP
  have HP := hid (HF.out w8 hP)
  clear hP HF
  go_wp2_with fail
  go_ret2
  exact ⟨rfl, HP.out⟩
end Go.Proofs.YtbpjmcjjambdkaaGreatDoor

/-
  The law's awake: a string is saved and read; no statement is proved here.
-/
namespace Go.Proofs.YtbpjmcjjambdkaaGreatDoor
open Go.RowKit

/-- Words that tell the string. -/
def WdPost (w : World) (p s : Nat) (Z : Nat → Prop) (e : Ending) (w' : World) : Prop := ∃ g c, e = .returned (.tuple #[.slice (some ⟨g, 0, none⟩) 2 c, .int .i64 0]) ∧ w'.cell? ⟨g, 0, none⟩ = some (.int .u64 256) ∧ w'.cell? ⟨g, 1, none⟩ = some (.int .u64 3) ∧ ObPost w p s Z w'
theorem ObPost.before {w0 w : World} {p s : Nat} {Z : Nat → Prop} {w' : World} (hE : Ext [] w0 w) (h : ObPost w p s Z w') : ObPost w0 p s Z w' := by
  obtain ⟨⟨Z', h1, h2⟩, h3⟩ := h
  have := hE.size
  exact ⟨⟨Z', h1, fun k hk => (h2 k hk).imp id (fun q => by omega)⟩, (Fx.of_ext0 hE).trans h3 (fun _ q => .inl q)⟩
theorem ObPost.behind {w : World} {p s : Nat} {Z : Nat → Prop} {w' w'' : World} (h : ObPost w p s Z w') (hE : Ext [] w' w'') : ObPost w p s Z w'' := by
  obtain ⟨⟨Z', h1, h2⟩, h3⟩ := h
  exact ⟨⟨Z', h1.keep0 hE, h2⟩, h3.trans (Fx.of_ext0 (B := fun _ => False) hE) (fun _ q => q.elim)⟩
set_option maxRecDepth 100000 in
set_option maxHeartbeats 4000000 in
theorem text1 {w : World} {s p : Nat} {tv : Value} {Z : Nat → Prop} (hs : w.heap[s]? = some (.cells #[.pointer (some ⟨p, 0, none⟩), tv, .slice none 0 0] 159)) (hm : Mw w p m0 Z) (hsZ : ¬ Z s) (hZ : ∀ k, Z k → k < w.heap.size) (hG : Gl w) (h0 : ¬ Z 0) :
    Calls Tryz.prog 175 #[.pointer (some ⟨s, 0, none⟩), .string Ty.abc] w (WdPost w p s Z) := by
  have K := Ty.packed_abc w
  have hmk := Ty.mk63
  have HS := hid hs
  have HM := hid hm
  have HZ := hid hZ
  have HG := hid hG
  have hsl := lt_of_heap hs
  clear hs hm hZ hG
  unfold Ty.abc at K ⊢
  go_enter Tryz.func175, Tryz.ntmps175
  go_wp2_with fail
  refine K.mono ?_
  clear K
  rintro e w1 ⟨g, rfl, hc1, hg1, hE1⟩
  have hX1 := ext_of hE1
  have hE2 := Ext.alloc [] w1 (.cells #[.bool false] 4)
  have hb2 := heap_alloc_new w1 (.cells #[.bool false] 4)
  have hX2 := hX1.trans hE2
  have hgl : g < w1.heap.size := block_lt_of_cell hc1
  have hw1 := hX1.size
  have K := object1 (hX2.keep HS.out (by simp)) (HM.out.keep0 hX2) hsZ (hE2.cell hc1 (by simp)) (fun q => by have := HZ.out _ q; omega) (by omega) hb2 (fun q => by have := HZ.out _ q; omega) (HG.out.keep0 hX2) h0
  have HX2 := hid hX2
  clear hc1 hE1 hX1 hE2 hb2 hX2
  go_wp2_with fail
  refine K.mono ?_
  clear K
  rintro e w3 ⟨rfl, hO⟩
  have hE3 := Ext.alloc [] w3 (.cells #[.int .u64 256, .int .u64 3] 44)
  have hb3 := heap_alloc_new w3 (.cells #[.int .u64 256, .int .u64 3] 44)
  have HF : Hid (WdPost w p s Z (.returned (.tuple #[.slice (some ⟨w3.heap.size, 0, none⟩) 2 2, .int .i64 0])) (w3.alloc (.cells #[.int .u64 256, .int .u64 3] 44))) :=
    ⟨_, 2, rfl, by rw [cell_of_row _ _ _ _ _ _ hb3]; rfl, by rw [cell_of_row _ _ _ _ _ _ hb3]; rfl, (hO.behind hE3).before HX2.out⟩
  clear hO hE3 hb3 HX2
  go_wp2_with fail
  go_ret2
  exact HF.out
set_option maxRecDepth 100000 in
theorem cell1 {w : World} {s p : Nat} {tv : Value} {Z : Nat → Prop} (hs : w.heap[s]? = some (.cells #[.pointer (some ⟨p, 0, none⟩), tv, .slice none 0 0] 159)) (hm : Mw w p m0 Z) (hsZ : ¬ Z s) (hZ : ∀ k, Z k → k < w.heap.size) (hG : Gl w) (h0 : ¬ Z 0) :
    Calls Tryz.prog 136 #[.pointer (some ⟨s, 0, none⟩), .int .i64 4, .agg #[.int .u64 0, .string Ty.abc, .int .i64 0, .slice none 0 0]] w (WdPost w p s Z) := by
  have hE := Ext.alloc [] w (.cells #[.int .u64 0, .string Ty.abc, .int .i64 0, .slice none 0 0] 89)
  have K := text1 (hE.keep hs (by simp)) (hm.keep0 hE) hsZ (fun k hk => Nat.lt_of_lt_of_le (hZ k hk) hE.size) (hG.keep0 hE) h0
  have HE := hid hE
  clear hs hm hZ hG hE
  generalize Ty.abc = ss at *
  go_enter Tryz.func136, Tryz.ntmps136
  go_wp2_with fail
  refine K.mono ?_
  clear K
  rintro e w1 ⟨g, c, rfl, h1, h2, hO⟩
  have HF : Hid (WdPost w p s Z (.returned (.tuple #[.slice (some ⟨g, 0, none⟩) 2 c, .int .i64 0])) w1) := ⟨g, c, rfl, h1, h2, hO.before HE.out⟩
  clear h1 h2 hO HE
  go_wp2_with fail
  go_ret2
  exact HF.out
/-- The table in memory. -/
structure Tb1 (w : World) (B V : Nat) : Prop where
  tab : Ty.Tab w (some ⟨B, 0, none⟩) [Ty.kstr]
  row : w.heap[V]? = some (.cells #[.int .u64 0, .string Ty.abc, .int .i64 0, .slice none 0 0] 89)
theorem Tb1.keep0 {w w' : World} {B V : Nat} (h : Tb1 w B V) (e : Ext [] w w') : Tb1 w' B V := ⟨h.tab.keep0 (ext_to e), e.keep h.row (by simp)⟩
theorem kinds_one {w : World} {B V c : Nat} (h : Tb1 w B V) : Calls Tryz.prog 134 #[.slice (some ⟨B, 0, none⟩) 1 c, .int .i64 0] w (fun e w' => ∃ g c', e = .returned (.slice (some ⟨g, 0, none⟩) 1 c') ∧ w'.cell? ⟨g, 0, none⟩ = some (.int .i64 4) ∧ Ext [] w w') := by
  have K := Ty.lkindsOf_any [Ty.kstr] (some ⟨B, 0, none⟩) 1 c rfl Ty.sound1.2.1 0 (by omega) w h.tab (by decide)
  simp only [show ((0 : Nat) : Int) = 0 from rfl] at K
  rw [Ty.kinds1] at K
  refine K.mono ?_
  rintro e w' ⟨a, c', rfl, hO, hE⟩
  rcases hO.2 with ⟨h1, h2⟩ | ⟨g, cap, cur, e, h1, h2, h3, h4, h5, h6⟩
  · cases h1
  · cases e
    refine ⟨g, _, rfl, ?_, ext_of hE⟩
    rw [cell_of_row _ _ _ _ _ _ h2]
    have : cur.toList[0]? = some (Value.int .i64 4) := by
      have h7 := congrArg (fun l => l[0]?) h6
      simpa using h7
    simpa using this
set_option maxRecDepth 100000 in
set_option maxHeartbeats 4000000 in
theorem names1 {w : World} {B V c : Nat} (h : Tb1 w B V) : Calls Tryz.prog 84 #[.slice none 0 0, .slice (some ⟨B, 0, none⟩) 1 c, .int .i64 0, .slice (some ⟨V, 0, none⟩) 1 1] w (SayPost w (.slice none 0 0)) := by
  have K := kinds_one (c := c) h
  have HT := hid h
  clear h
  go_enter Tryz.func84, Tryz.ntmps84
  go_wp2_with fail
  refine K.mono ?_
  clear K
  rintro e w1 ⟨g, c', rfl, hg, hE1⟩
  have hrow := hE1.keep HT.out.row (by simp)
  obtain ⟨r0, r1, r2, r3⟩ : w1.cell? ⟨V, 0, none⟩ = some (.int .u64 0) ∧ w1.cell? ⟨V, 1, none⟩ = some (.string Ty.abc) ∧ w1.cell? ⟨V, 2, none⟩ = some (.int .i64 0) ∧ w1.cell? ⟨V, 3, none⟩ = some (.slice none 0 0) := ⟨by rw [cell_of_row _ _ _ _ _ _ hrow]; rfl, by rw [cell_of_row _ _ _ _ _ _ hrow]; rfl, by rw [cell_of_row _ _ _ _ _ _ hrow]; rfl, by rw [cell_of_row _ _ _ _ _ _ hrow]; rfl⟩
  have HE1 := hid hE1
  clear hE1 hrow
  generalize Ty.abc = ss at *
  go_wp2_with fail
  go_loopw [0, 16] (fun p q wr => p = .slice none 0 0 ∧ ((q = .int .i64 0 ∧ wr = w1) ∨ (q = .int .i64 1 ∧ Ext [] w wr))) (fun _ q _ => (1 - (intOf q)).toNat)
  case atStart => exact ⟨rfl, .inl ⟨rfl, rfl⟩⟩
  case round =>
    obtain ⟨rfl, ⟨rfl, rfl⟩ | ⟨rfl, hX⟩⟩ := hrel
    · go_wp2_with fail
      go_roundw
      case rel => exact ⟨rfl, .inr ⟨rfl, HE1.out.trans (Ext.alloc [] _ _)⟩⟩
      case measure => simp [intOf]
    · have HX := hid hX
      clear hX
      go_wp2_with fail
      go_ret
      exact ⟨rfl, HX.out⟩
/-- What Save leaves of it. -/
def SvPost (w : World) (p : Nat) (Z : Nat → Prop) (e : Ending) (w' : World) : Prop := ∃ g c, e = .returned (.tuple #[.slice (some ⟨g, 0, none⟩) 2 c, .int .i64 0]) ∧ w'.cell? ⟨g, 0, none⟩ = some (.int .u64 256) ∧ w'.cell? ⟨g, 1, none⟩ = some (.int .u64 3) ∧ (∃ Z', Mw w' p m2 Z') ∧ Fx Z w w'
theorem app2 (w : World) (g c : Nat) (h0 : w.cell? ⟨g, 0, none⟩ = some (.int .u64 256)) (h1 : w.cell? ⟨g, 1, none⟩ = some (.int .u64 3)) : ∃ g' c' w', (Builtin.append_ #[35, 35] 35 #[.slice none 0 0, .slice (some ⟨g, 0, none⟩) 2 c]).run Tryz.prog w = .ok (.slice (some ⟨g', 0, none⟩) 2 c') w' ∧ w'.cell? ⟨g', 0, none⟩ = some (.int .u64 256) ∧ w'.cell? ⟨g', 1, none⟩ = some (.int .u64 3) ∧ Ext [] w w' := by
  obtain ⟨i, hi, hz, hs, hb⟩ := Ty.info_parts Ty.info44
  obtain ⟨v, w', hr, ho, hg, _⟩ := run_append_own (P := Tryz.prog) w w.heap.size 35 35 44 i (.int .u64 0) 1 8 Tryz.underlying35 hi hz hs hb rfl (by decide) (.slice none 0 0) 0 [] (Ty.own_nil _ _ _ _) ⟨g, 0, none⟩ 2 c [.int .u64 256, .int .u64 3] rfl (fun j u hj => by
    rw [Addr.add_lit, Nat.zero_add]
    match j, hj with
    | 0, hj => cases hj; exact h0
    | 1, hj => cases hj; exact h1
    | j + 2, hj => simp at hj) (by simp [Value.oneCell']) (by decide) (by decide) (Nat.le_refl _)
  rcases ho.2 with ⟨_, h2⟩ | ⟨g', cap, cur, e, q1, q2, q3, q4, q5, q6⟩
  · simp at h2
  · subst e
    refine ⟨g', _, w', hr, ?_, ?_, ?_⟩
    · rw [cell_of_row _ _ _ _ _ _ q2]
      have h7 := congrArg (fun l => l[0]?) q6
      simpa using h7
    · rw [cell_of_row _ _ _ _ _ _ q2]
      have h7 := congrArg (fun l => l[1]?) q6
      simpa using h7
    · exact ⟨hg.os, hg.tape, hg.output, hg.size, fun k hk _ => hg.block k hk (by simp [Value.ownBlock])⟩
set_option maxRecDepth 100000 in
set_option maxHeartbeats 4000000 in
theorem value1 {w : World} {s p B V : Nat} {Z : Nat → Prop} (hs : w.heap[s]? = some (.cells #[.pointer (some ⟨p, 0, none⟩), .slice (some ⟨B, 0, none⟩) 1 1, .slice none 0 0] 159)) (hT : Tb1 w B V) (hm : Mw w p m0 Z) (hsZ : ¬ Z s) (hZ : ∀ k, Z k → k < w.heap.size) (hG : Gl w) (h0 : ¬ Z 0) :
    Calls Tryz.prog 87 #[.pointer (some ⟨s, 0, none⟩), .int .i64 0, .slice (some ⟨V, 0, none⟩) 1 1] w (WdPost w p s Z) := by
  have K := kinds_one (c := 1) hT
  have s1 : w.cell? ⟨s, 1, none⟩ = some (.slice (some ⟨B, 0, none⟩) 1 1) := by rw [cell_of_row _ _ _ _ _ _ hs]; rfl
  have HS := hid hs
  have HT := hid hT
  have HM := hid hm
  have HZ := hid hZ
  have HG := hid hG
  clear hs hT hm hZ hG
  go_enter Tryz.func87, Tryz.ntmps87
  go_wp2_with fail
  refine K.mono ?_
  clear K s1
  rintro e w1 ⟨g, c', rfl, hg, hE1⟩
  have hrow := hE1.keep HT.out.row (by simp)
  obtain ⟨r0, r1, r2, r3⟩ : w1.cell? ⟨V, 0, none⟩ = some (.int .u64 0) ∧ w1.cell? ⟨V, 1, none⟩ = some (.string Ty.abc) ∧ w1.cell? ⟨V, 2, none⟩ = some (.int .i64 0) ∧ w1.cell? ⟨V, 3, none⟩ = some (.slice none 0 0) := ⟨by rw [cell_of_row _ _ _ _ _ _ hrow]; rfl, by rw [cell_of_row _ _ _ _ _ _ hrow]; rfl, by rw [cell_of_row _ _ _ _ _ _ hrow]; rfl, by rw [cell_of_row _ _ _ _ _ _ hrow]; rfl⟩
  have K := cell1 (hE1.keep HS.out (by simp)) (HM.out.keep0 hE1) hsZ (fun k hk => Nat.lt_of_lt_of_le (HZ.out k hk) hE1.size) (HG.out.keep0 hE1) h0
  have HE1 := hid hE1
  clear hE1 hrow HS HM HZ HG
  generalize Ty.abc = ss at *
  go_wp2_with fail
  go_loopw [8, 20] (fun v q wr => (q = .int .i64 0 ∧ v = .slice none 0 0 ∧ wr = w1) ∨ (q = .int .i64 1 ∧ ∃ g c, v = .slice (some ⟨g, 0, none⟩) 2 c ∧ WdPost w p s Z (.returned (.tuple #[v, .int .i64 0])) wr)) (fun _ q _ => (1 - (intOf q)).toNat)
  case atStart => exact .inl ⟨rfl, rfl, rfl⟩
  case round =>
    rcases hrel with ⟨rfl, rfl, rfl⟩ | ⟨rfl, g2, c2, rfl, hP⟩
    · go_wp2_with fail
      refine K.mono ?_
      clear K
      rintro e w3 ⟨g3, c3, rfl, h30, h31, hO3⟩
      obtain ⟨g4, c4, w4, hr4, h40, h41, hE4⟩ := app2 w3 g3 c3 h30 h31
      have HP : Hid (WdPost w p s Z (.returned (.tuple #[.slice (some ⟨g4, 0, none⟩) 2 c4, .int .i64 0])) w4) := ⟨g4, c4, rfl, h40, h41, (hO3.behind hE4).before HE1.out⟩
      clear h30 h31 hO3 h40 h41 hE4
      go_wp2_with (at_builtin; refine wpList_append_run rfl _ _ 35 rfl _ _ _ rfl rfl hr4 ?_)
      go_roundw
      case rel => exact .inr ⟨rfl, g4, c4, rfl, HP.out⟩
      case measure => simp [intOf]
    · have HP := hid hP
      clear hP K
      go_wp2_with fail
      go_ret2
      exact HP.out
set_option maxRecDepth 100000 in
set_option maxHeartbeats 4000000 in
theorem saves1 {w : World} {p B V : Nat} {Z : Nat → Prop} (hT : Tb1 w B V) (hm : Mw w p m0 Z) (hZ : ∀ k, Z k → k < w.heap.size) (hG : Gl w) (h0 : ¬ Z 0) :
    Calls Tryz.prog 43 #[.pointer (some ⟨p, 0, none⟩), .slice (some ⟨B, 0, none⟩) 1 1, .int .i64 0, .slice (some ⟨V, 0, none⟩) 1 1, .slice none 0 0] w (SvPost w p Z) := by
  have KC := Ty.clone_none w
  have KN := names1 (c := 1) hT
  have HT := hid hT
  have HM := hid hm
  have HZ := hid hZ
  have HG := hid hG
  clear hT hm hZ hG
  go_enter Tryz.func43, Tryz.ntmps43
  go_wp2_with fail
  refine met KC ?_
  clear KC
  go_wp2_with fail
  refine KN.mono ?_
  clear KN
  rintro e w1 ⟨rfl, hE1⟩
  have hE2 := Ext.alloc [] w1 (.cells #[.pointer (some ⟨p, 0, none⟩), .slice (some ⟨B, 0, none⟩) 1 1, .slice none 0 0] 159)
  have hb2 := heap_alloc_new w1 (.cells #[.pointer (some ⟨p, 0, none⟩), .slice (some ⟨B, 0, none⟩) 1 1, .slice none 0 0] 159)
  have hX2 := hE1.trans hE2
  have hw1 := hE1.size
  obtain ⟨s, hs⟩ : ∃ s, w1.heap.size = s := ⟨_, rfl⟩
  rw [hs] at hb2 hw1
  have s2 : (w1.alloc (.cells #[.pointer (some ⟨p, 0, none⟩), .slice (some ⟨B, 0, none⟩) 1 1, .slice none 0 0] 159)).cell? ⟨s, 2, none⟩ = some (.slice none 0 0) := by rw [cell_of_row _ _ _ _ _ _ hb2]; rfl
  have KA := Ty.allLive_none p (w1.alloc (.cells #[.pointer (some ⟨p, 0, none⟩), .slice (some ⟨B, 0, none⟩) 1 1, .slice none 0 0] 159))
  have K := value1 hb2 (HT.out.keep0 hX2) (HM.out.keep0 hX2) (fun q => by have := HZ.out _ q; omega) (fun k hk => Nat.lt_of_lt_of_le (HZ.out k hk) hX2.size) (HG.out.keep0 hX2) h0
  obtain ⟨W2, hW2⟩ : ∃ W2, w1.alloc (.cells #[.pointer (some ⟨p, 0, none⟩), .slice (some ⟨B, 0, none⟩) 1 1, .slice none 0 0] 159) = W2 := ⟨_, rfl⟩
  rw [hW2] at s2 KA K hX2
  have HX2 := hid hX2
  have HW2 := hid hW2
  clear hE1 hE2 hb2 hX2 hW2
  go_wp2_with fail
  rw [HW2.out]
  try simp only [hs]
  refine met KA ?_
  clear KA
  go_wp2_with fail
  refine K.mono ?_
  clear K
  rintro e w3 ⟨g, c, rfl, h1, h2, ⟨Z', hm', _⟩, hx⟩
  have HF : Hid (SvPost w p Z (.returned (.tuple #[.slice (some ⟨g, 0, none⟩) 2 c, .int .i64 0])) w3) := ⟨g, c, rfl, h1, h2, ⟨Z', hm'⟩, (Fx.of_ext0 HX2.out).trans hx (fun k hk => by
    rcases hk with q | q
    · exact .inl q
    · exact .inr (by omega))⟩
  clear h1 h2 hm' hx
  go_wp2_with fail
  go_ret2
  exact HF.out
set_option maxRecDepth 100000 in
set_option maxHeartbeats 4000000 in
theorem saveTop1 {w : World} {p B V : Nat} {Z : Nat → Prop} (hT : Tb1 w B V) (hm : Mw w p m0 Z) (hZ : ∀ k, Z k → k < w.heap.size) (hG : Gl w) (hGt : Ty.Gl w) (h0 : ¬ Z 0) :
    Calls Tryz.prog 12 #[.pointer (some ⟨p, 0, none⟩), .slice (some ⟨B, 0, none⟩) 1 1, .int .i64 0, .slice (some ⟨V, 0, none⟩) 1 1, .slice none 0 0] w (SvPost w p Z) := by
  have hC : Ty.Cs 2 w (some ⟨V, 0, none⟩) Ty.labc := by
    refine ⟨by decide, .inr ⟨V, 0, rfl, fun i hi => ?_⟩⟩
    obtain rfl : i = 0 := by simpa [Ty.labc] using hi
    have hr := hT.row
    exact ⟨none, 0, ⟨by rw [cell_of_row _ _ _ _ _ _ hr]; rfl, by rw [cell_of_row _ _ _ _ _ _ hr]; rfl, by rw [cell_of_row _ _ _ _ _ _ hr]; rfl, by rw [cell_of_row _ _ _ _ _ _ hr]; rfl, by decide, by decide, by decide, by decide⟩, Ty.Cs.nil _ _ _⟩
  have KC := Ty.checkValue_any (some ⟨B, 0, none⟩) [Ty.kstr] 1 1 p 0 Ty.bad1 2 (some ⟨V, 0, none⟩) Ty.labc 1 1 w hT.tab rfl (by omega) hGt hC rfl
  rw [Ty.vchk1] at KC
  have HT := hid hT
  have HM := hid hm
  have HZ := hid hZ
  have HG := hid hG
  clear hT hm hZ hG hGt hC
  go_enter Tryz.func12, Tryz.ntmps12
  go_wp2_with fail
  refine KC.mono ?_
  clear KC
  rintro e w1 ⟨rfl, hE1⟩
  have hX1 := ext_of hE1
  have K := saves1 (HT.out.keep0 hX1) (HM.out.keep0 hX1) (fun k hk => Nat.lt_of_lt_of_le (HZ.out k hk) hX1.size) (HG.out.keep0 hX1) h0
  have HX1 := hid hX1
  clear hE1 hX1
  go_wp2_with fail
  refine K.mono ?_
  clear K
  rintro e w2 ⟨g, c, rfl, h1, h2, h3, hx⟩
  have HF : Hid (SvPost w p Z (.returned (.tuple #[.slice (some ⟨g, 0, none⟩) 2 c, .int .i64 0])) w2) := ⟨g, c, rfl, h1, h2, h3, (Fx.of_ext0 HX1.out).trans hx (fun _ q => .inl q)⟩
  clear h1 h2 h3 hx
  go_wp2_with fail
  go_ret2
  exact HF.out
set_option maxRecDepth 100000 in
set_option maxHeartbeats 4000000 in
theorem awake1 (w : World) (hG : Gl w) (hGt : Ty.Gl w) : Calls Tryz.prog 10 #[] w (SayPost w (.bool true)) := by
  have KN := mnew_ok 4 100 w (by omega)
  simp only [show ((4 : Nat) : Int) = 4 from rfl] at KN
  have HG := hid hG
  have HGt := hid hGt
  have hpos := hG.lt
  clear hG hGt
  go_enter Tryz.func10, Tryz.ntmps10
  go_wp2_with fail
  refine KN.mono ?_
  clear KN
  rintro e w1 ⟨p, rfl, hm, hE1⟩
  obtain ⟨B, hB⟩ : ∃ B, w1.heap.size = B := ⟨_, rfl⟩
  have hX : Ext [] w1 ((w1.alloc (.cells #[.int .i64 4, .int .i64 0, .int .i64 0, .int .i64 0, .slice none 0 0] 56)).alloc (.cells #[.int .u64 0, .string Ty.abc, .int .i64 0, .slice none 0 0] 89)) := (Ext.alloc [] _ _).trans (Ext.alloc [] _ _)
  have hb1 : ((w1.alloc (.cells #[.int .i64 4, .int .i64 0, .int .i64 0, .int .i64 0, .slice none 0 0] 56)).alloc (.cells #[.int .u64 0, .string Ty.abc, .int .i64 0, .slice none 0 0] 89)).heap[B]? = some (.cells #[.int .i64 4, .int .i64 0, .int .i64 0, .int .i64 0, .slice none 0 0] 56) := by
    rw [← hB]; exact (Below.heap_alloc _ _ _ (by simp)).trans (heap_alloc_new w1 _)
  have hb2 : ((w1.alloc (.cells #[.int .i64 4, .int .i64 0, .int .i64 0, .int .i64 0, .slice none 0 0] 56)).alloc (.cells #[.int .u64 0, .string Ty.abc, .int .i64 0, .slice none 0 0] 89)).heap[B + 1]? = some (.cells #[.int .u64 0, .string Ty.abc, .int .i64 0, .slice none 0 0] 89) := by
    have := heap_alloc_new (w1.alloc (.cells #[.int .i64 4, .int .i64 0, .int .i64 0, .int .i64 0, .slice none 0 0] 56)) (.cells #[.int .u64 0, .string Ty.abc, .int .i64 0, .slice none 0 0] 89)
    rwa [World.size_alloc, hB] at this
  obtain ⟨W2, hW2⟩ : ∃ W2, (w1.alloc (.cells #[.int .i64 4, .int .i64 0, .int .i64 0, .int .i64 0, .slice none 0 0] 56)).alloc (.cells #[.int .u64 0, .string Ty.abc, .int .i64 0, .slice none 0 0] 89) = W2 := ⟨_, rfl⟩
  rw [hW2] at hX hb1 hb2
  have hT : Tb1 W2 B (B + 1) := ⟨⟨.inr ⟨B, 0, rfl, fun i hi => by
    obtain rfl : i = 0 := by simpa using hi
    exact ⟨none, 0, ⟨by rw [cell_of_row _ _ _ _ _ _ hb1]; rfl, by rw [cell_of_row _ _ _ _ _ _ hb1]; rfl, by rw [cell_of_row _ _ _ _ _ _ hb1]; rfl, by rw [cell_of_row _ _ _ _ _ _ hb1]; rfl, by rw [cell_of_row _ _ _ _ _ _ hb1]; rfl, ⟨.inl rfl, by decide⟩⟩⟩⟩, by decide⟩, hb2⟩
  have hXX := hE1.trans hX
  have K := saveTop1 hT (hm.there.keep0 hX) (fun k hk => by have := hX.size; have := hk.2; omega) (HG.out.keep0 hXX) (HGt.out.keep0 (ext_to hXX)) (fun q => by have := q.1; omega)
  have HXX := hid hXX
  have HW2 := hid hW2
  clear hm hE1 hX hb1 hb2 hT hXX hW2
  go_wp2_with fail
  have hW2 := HW2.out
  unfold Ty.abc at hW2
  rw [hW2]
  try simp only [hB]
  clear hW2
  refine K.mono ?_
  clear K HW2
  rintro e w3 ⟨g, c, rfl, h1, h2, ⟨Z', hm'⟩, hx⟩
  have KG := mget_any hm' m2_mk 256 0 (by unfold I64; omega)
  rw [m2_get] at KG
  have HX3 := hid (Fx.on HXX.out hx (fun k hk => hk.1))
  have e1 : IntKind.i64.wrap 256 = 256 := by decide
  clear hm' hx
  go_wp2_with fail
  refine KG.mono ?_
  clear KG
  rintro e w4 ⟨rfl, hE4⟩
  have HX4 := hid (HX3.out.trans hE4)
  clear hE4
  go_wp2_with fail
  go_ret
  exact ⟨rfl, HX4.out⟩
end Go.Proofs.YtbpjmcjjambdkaaGreatDoor

/-
  A heap apart from any blocks; lists of bytes in a row; SameBytes; no statement is proved here.
-/
import Derived.Test.YtlajjcboahflbaaDoorZeroM
namespace Go.Proofs.YtlajjcboahflbaaDoor
open Go.RowKit

/-- A heap that was grown, apart from the blocks of K. -/
structure Aq (w wr : World) (p : Nat) (cs : Array Value) (H : Hs) (K : Nat → Prop) : Prop where
  hw : ∃ F, Hw wr p 0 97 cs F H ∧ ∀ b, F b → w.heap.size ≤ b ∧ ¬ K b
  pn : w.heap.size ≤ p ∧ ¬ K p
  hi : ∀ b, K b → b < wr.heap.size
  ext : Ext [] w wr
/-- The blocks of K are as they were. -/
def KeptP (K : Nat → Prop) (w w' : World) : Prop := ∀ b, K b → w'.heap[b]? = w.heap[b]?
theorem KeptP.trans {K : Nat → Prop} {a b c : World} (h : KeptP K a b) (k : KeptP K b c) : KeptP K a c := fun x hx => (k x hx).trans (h x hx)
theorem KeptP.ext0 {K : Nat → Prop} {a b : World} (x : Ext [] a b) (h : ∀ k, K k → k < a.heap.size) : KeptP K a b := fun k hk => x.block k (h k hk) (by simp)
theorem KeptP.own {K : Nat → Prop} {a b : World} (h : KeptP K a b) {base e s n : Nat} {v : Value} {xs : List Value} (hr : a.ownsRow base e s v n xs) (hv : ∀ g, v.ownBlock = some g → K g) : b.ownsRow base e s v n xs := by
  refine ⟨hr.1, ?_⟩
  rcases hr.2 with q | ⟨g, cap, cur, rfl, h1, h2, h3⟩
  · exact .inl q
  · exact .inr ⟨g, cap, cur, rfl, h1, (h g (hv g rfl)).trans h2, h3⟩

theorem Aq.of_gw {w wr : World} {p : Nat} {cs : Array Value} {H : Hs} {v : Value} {L : List Int} {F : Nat → Prop} (h : GwI w wr p cs H v L F) : Aq w wr p cs H (fun b => v.ownBlock = some b) :=
  ⟨⟨F, h.hw, fun b hb => ⟨(h.fn b hb).1, fun q => (h.vn b q).2.2 hb⟩⟩, ⟨h.pn, fun q => (h.vn p q).2.1 rfl⟩, fun b hb => h.gv.lt b hb, h.ext⟩
theorem Aq.ext0 {w wr w2 : World} {p : Nat} {cs : Array Value} {H : Hs} {K : Nat → Prop} (h : Aq w wr p cs H K) (x : Ext [] wr w2) : Aq w w2 p cs H K := by
  obtain ⟨F, h1, h2⟩ := h.hw
  exact ⟨⟨F, h1.keep0 x, h2⟩, h.pn, fun b hb => Nat.lt_of_lt_of_le (h.hi b hb) x.size, h.ext.trans x⟩
/-- What has come since lies apart from it, too. -/
theorem Aq.more {w wr w2 : World} {p : Nat} {cs : Array Value} {H : Hs} {K : Nat → Prop} (h : Aq w wr p cs H K) (x : Ext [] wr w2) : Aq w w2 p cs H (fun b => K b ∨ (wr.heap.size ≤ b ∧ b < w2.heap.size)) := by
  obtain ⟨F, h1, h2⟩ := h.hw
  have hp := h1.lt
  refine ⟨⟨_, h1.there.keep0 x, fun b hb => ⟨(h2 b hb.1).1, fun q => ?_⟩⟩, ⟨h.pn.1, fun q => ?_⟩, fun b hb => ?_, h.ext.trans x⟩
  · rcases q with q | q
    · exact (h2 b hb.1).2 q
    · omega
  · rcases q with q | q
    · exact h.pn.2 q
    · omega
  · rcases hb with q | q
    · exact Nat.lt_of_lt_of_le (h.hi b q) x.size
    · exact q.2
theorem Aq.less {w wr : World} {p : Nat} {cs : Array Value} {H : Hs} {K K' : Nat → Prop} (h : Aq w wr p cs H K) (hk : ∀ b, K' b → K b) : Aq w wr p cs H K' := by
  obtain ⟨F, h1, h2⟩ := h.hw
  exact ⟨⟨F, h1, fun b hb => ⟨(h2 b hb).1, fun q => (h2 b hb).2 (hk b q)⟩⟩, ⟨h.pn.1, fun q => h.pn.2 (hk p q)⟩, fun b hb => h.hi b (hk b hb), h.ext⟩
theorem Aq.ok {w wr : World} {p : Nat} {cs : Array Value} {H : Hs} {K : Nat → Prop} (h : Aq w wr p cs H K) : Hv H := by
  obtain ⟨F, h1, _⟩ := h.hw; exact h1.ok
theorem Aq.post {w wr : World} {p : Nat} {cs : Array Value} {H : Hs} {K : Nat → Prop} (h : Aq w wr p cs H K) {f : Nat} {args : Array Value} {H' : Hs} {r : Value} (hc : ∀ F, Hw wr p 0 97 cs F H → Calls Tryd.prog f args wr (HPost wr p 0 97 cs F H' r)) :
    Calls Tryd.prog f args wr (fun e w' => e = .returned r ∧ Aq w w' p cs H' K ∧ KeptP K wr w') := by
  obtain ⟨F, h1, h2⟩ := h.hw
  refine (hc F h1).mono ?_
  rintro e w' ⟨rfl, F', q1, q2, q3⟩
  have hs := q2.size
  have he := h.ext.size
  refine ⟨rfl, ⟨⟨F', q1, fun b hb => ?_⟩, h.pn, fun b hb => Nat.lt_of_lt_of_le (h.hi b hb) q2.size, Fx.on h.ext q2 (fun b hb => ?_)⟩, fun k hk => q2.block k (h.hi k hk) (fun q => ?_)⟩
  · rcases q3 b hb with q | q
    · exact h2 b q
    · exact ⟨by omega, fun r => by have := h.hi b r; omega⟩
  · rcases hb with rfl | q
    · exact h.pn.1
    · exact (h2 b q).1
  · rcases q with rfl | q
    · exact h.pn.2 hk
    · exact (h2 k q).2 hk
theorem Aq.alloc {w wr : World} {p : Nat} {cs : Array Value} {H : Hs} {K : Nat → Prop} (h : Aq w wr p cs H K) (hG : Gl w) (size tag : Int) : Calls Tryd.prog 15 #[.pointer (some ⟨p, 0, none⟩), .int .i64 size, .int .i64 tag] wr (fun e w' => e = .returned (.tuple #[.int .i64 (allocH H size tag).1, .int .i64 (allocH H size tag).2.1]) ∧ Aq w w' p cs (allocH H size tag).2.2 K ∧ KeptP K wr w') :=
  h.post (fun _ hF => halloc_any size tag wr (hG.keep0 h.ext) hF)
theorem Aq.write {w wr : World} {p : Nat} {cs : Array Value} {H : Hs} {K : Nat → Prop} (h : Aq w wr p cs H K) (a : Int) (sa : Option Addr) (c : Nat) (xs : List Int) (hs : Sl wr sa xs) : Calls Tryd.prog 16 #[.pointer (some ⟨p, 0, none⟩), .int .i64 a, .slice sa xs.length c] wr (fun e w' => e = .returned (.int .i64 (witE H a xs.length)) ∧ Aq w w' p cs (putH H a xs.length (fun j => xs.getD j 0)) K ∧ KeptP K wr w') :=
  h.post (fun _ hF => hwrite_w a sa xs.length c xs wr hs rfl hF)
theorem Aq.info {w wr : World} {p : Nat} {cs : Array Value} {H : Hs} {K : Nat → Prop} (h : Aq w wr p cs H K) (a : Int) : Calls Tryd.prog 12 #[.pointer (some ⟨p, 0, none⟩), .int .i64 a] wr (SayPost wr (infV H a (fnd H a))) := by
  obtain ⟨F, h1, _⟩ := h.hw; exact hinfo_w a wr h1
theorem Aq.base {w wr : World} {p : Nat} {cs : Array Value} {H : Hs} {K : Nat → Prop} (h : Aq w wr p cs H K) (a : Int) : Calls Tryd.prog 18 #[.pointer (some ⟨p, 0, none⟩), .int .i64 a] wr (SayPost wr (baV H (fnd H a))) := by
  obtain ⟨F, h1, _⟩ := h.hw; exact hbase_w a wr h1
theorem Aq.fits {w wr : World} {p : Nat} {cs : Array Value} {H : Hs} {K : Nat → Prop} (h : Aq w wr p cs H K) (hG : Gl w) (a : Int) : Calls Tryd.prog 14 #[.pointer (some ⟨p, 0, none⟩), .int .i64 a] wr (SayPost wr (.bool (fitsH H a))) := by
  obtain ⟨F, h1, _⟩ := h.hw; exact hfits_any a wr (hG.keep0 h.ext) h1
theorem Aq.read {w wr : World} {p : Nat} {cs : Array Value} {H : Hs} {K : Nat → Prop} (h : Aq w wr p cs H K) (a n : Int) : Calls Tryd.prog 13 #[.pointer (some ⟨p, 0, none⟩), .int .i64 a, .int .i64 n] wr (RdPost wr (rdX H a n) (witE H a n)) := by
  obtain ⟨F, h1, _⟩ := h.hw; exact hread_w a n wr h1

/-! ### the bytes of an object -/

/-- Bytes that lie in a row of their own. -/
def Bs (w0 w : World) (ra : Option Addr) (X : List Int) : Prop := (ra = none ∧ X = []) ∨ ∃ g, ra = some ⟨g, 0, none⟩ ∧ w0.heap.size ≤ g ∧ Row w g X
theorem Bs.sl {w0 w : World} {ra : Option Addr} {X : List Int} (h : Bs w0 w ra X) (hb : Bts X) : Sl w ra X := by
  rcases h with ⟨_, rfl⟩ | ⟨g, rfl, _, hr⟩
  · exact ⟨.inl rfl, hb⟩
  · exact hr.sl hb
theorem Bs.keep0 {w0 w w' : World} {ra : Option Addr} {X : List Int} (h : Bs w0 w ra X) (x : Ext [] w w') : Bs w0 w' ra X := by
  rcases h with q | ⟨g, h1, h2, h3⟩
  · exact .inl q
  · exact .inr ⟨g, h1, h2, x.keep h3 (by simp)⟩
theorem Bs.old {w0 w1 w : World} {ra : Option Addr} {X : List Int} (h : Bs w1 w ra X) (x : w0.heap.size ≤ w1.heap.size) : Bs w0 w ra X := by
  rcases h with q | ⟨g, h1, h2, h3⟩
  · exact .inl q
  · exact .inr ⟨g, h1, by omega, h3⟩

theorem Aq.infoZ {w wr : World} {p : Nat} {cs : Array Value} {H : Hs} {K : Nat → Prop} (h : Aq w wr p cs H K) (b : Int) : Calls Tryd.prog 12 #[.pointer (some ⟨p, 0, none⟩), .int .i64 b] wr (fun e w' => ∃ A T E : Int, e = .returned (.tuple #[.agg #[.int .i64 A, .int .i64 (szO H b), .int .i64 T, .slice none 0 0], .int .i64 E]) ∧ Ext [] wr w') := by
  refine (h.info b).mono ?_
  rintro e w' ⟨rfl, hE⟩
  obtain ⟨A, T, E, he⟩ := infV_sz H b
  rw [he]
  exact ⟨A, T, E, rfl, hE⟩
theorem Aq.readZ {w wr : World} {p : Nat} {cs : Array Value} {H : Hs} {K : Nat → Prop} (h : Aq w wr p cs H K) (b : Int) : Calls Tryd.prog 13 #[.pointer (some ⟨p, 0, none⟩), .int .i64 b, .int .i64 (szO H b)] wr (fun e w' => ∃ ra, ∃ E : Int, e = .returned (.tuple #[.slice ra (rdO H b).length (rdO H b).length, .int .i64 E]) ∧ Bs wr w' ra (rdO H b) ∧ Ext [] wr w') := by
  refine (h.read b (szO H b)).mono ?_
  rintro e w' ⟨ra, rfl, h1, hE⟩
  exact ⟨ra, _, rfl, h1, hE⟩

theorem rdO_len {H : Hs} (h : Hv H) (b : Int) : (rdO H b).length ≤ 262400 ∧ Bts (rdO H b) := by
  have hP := h.P1
  have hl := h.bl
  unfold rdO rdX
  split
  · rename_i hw
    obtain ⟨A, N, h1, h2, h3⟩ := h.wit hw
    rw [length_cut, h2]
    exact ⟨by omega, bts_cut h.bt _ _⟩
  · exact ⟨by simp, by intro x hx; cases hx⟩

/-! ### a row of such lists -/

theorem info40z : (Tryd.prog.info? 40).map (fun i => (i.zero, i.size, i.bytes)) = some (some (.slice none 0 0), 1, 24) := by kernel_rfl

/-- Lists of bytes in a row. -/
structure Bf (w0 w : World) (v : Value) (Xs : List (List Int)) : Prop where
  row : ∃ vs, w.ownsRow w0.heap.size 40 1 v Xs.length vs ∧ ∀ (i : Nat) (X : List Int), Xs[i]? = some X → ∃ ra, vs[i]? = some (.slice ra X.length X.length) ∧ Bs w0 w ra X
theorem bf_nil (w : World) {w' : World} (hE : Ext [] (w.alloc (.cells #[] 40)) w') : Bf w w' (.slice (some ⟨w.heap.size, 0, none⟩) 0 0) [] :=
  ⟨[], own_keep0 (World.ownsRow_made w #[] 0 (Nat.le_refl _) (Nat.zero_le _) rfl) hE, fun i X h => by simp at h⟩
theorem Bf.keep0 {w0 w w' : World} {v : Value} {Xs : List (List Int)} (h : Bf w0 w v Xs) (x : Ext [] w w') : Bf w0 w' v Xs := by
  obtain ⟨vs, h1, h2⟩ := h.row
  exact ⟨vs, own_keep0 h1 x, fun i X hX => by obtain ⟨ra, q1, q2⟩ := h2 i X hX; exact ⟨ra, q1, q2.keep0 x⟩⟩
theorem Bf.slice {w0 w : World} {v : Value} {Xs : List (List Int)} (h : Bf w0 w v Xs) : ∃ a c, v = .slice a Xs.length c ∧ Xs.length ≤ c := by
  obtain ⟨vs, h1, _⟩ := h.row; exact own_slice h1
/-- What lies among new blocks that were kept. -/
theorem Bf.kept {w0 w w' : World} {v : Value} {Xs : List (List Int)} (h : Bf w0 w v Xs) {K : Nat → Prop} (hk : KeptP K w w') (hK : ∀ b, w0.heap.size ≤ b → b < w.heap.size → K b) : Bf w0 w' v Xs := by
  obtain ⟨vs, h1, h2⟩ := h.row
  refine ⟨vs, hk.own h1 (fun g hg => hK g (own_lt h1 g hg).1 (own_lt h1 g hg).2), fun i X hX => ?_⟩
  obtain ⟨ra, q1, q2⟩ := h2 i X hX
  refine ⟨ra, q1, ?_⟩
  rcases q2 with q | ⟨g, r1, r2, r3⟩
  · exact .inl q
  · exact .inr ⟨g, r1, r2, (hk g (hK g r2 (lt_of_heap r3))).trans r3⟩
theorem Bf.at_ {w0 w : World} {v : Value} {Xs : List (List Int)} (h : Bf w0 w v Xs) {i : Nat} {X : List Int} (hX : Xs[i]? = some X) : ∃ g c ra, v = .slice (some ⟨g, 0, none⟩) Xs.length c ∧ w.cell? ⟨g, i, none⟩ = some (.slice ra X.length X.length) ∧ Bs w0 w ra X := by
  obtain ⟨vs, h1, h2⟩ := h.row
  obtain ⟨ra, q1, q2⟩ := h2 i X hX
  have hi := (List.getElem?_eq_some_iff.1 hX).1
  rcases h1.2 with ⟨_, r2⟩ | ⟨g, cap, cur, h0, r1, r2, r3, r4, r5, r6⟩
  · omega
  · refine ⟨g, cap, ra, h0, ?_, q2⟩
    rw [cell_of_row w g _ _ _ _ r2]
    have : (cur.toList.take (Xs.length * 1))[i]? = cur[i]? := by
      rw [List.getElem?_take, if_pos (by omega)]; simp
    rw [← this, r6, q1]
theorem Bf.push {w0 w : World} {v : Value} {Xs : List (List Int)} {X : List Int} {ra : Option Addr} (h : Bf w0 w v Xs) (hr : Bs w0 w ra X) (hE : Ext [] w0 w) (hl : Xs.length ≤ 2000000000000) :
    ∃ v' w', (Builtin.append_ #[41, 41] 41 #[v, .slice (some ⟨w.heap.size, 0, none⟩) 1 1]).run Tryd.prog (w.alloc (.cells #[.slice ra X.length X.length] 40)) = .ok v' w' ∧ Bf w0 w' v' (Xs ++ [X]) ∧ Ext [] w0 w' := by
  obtain ⟨vs, h1, h2⟩ := h.row
  have hA : Ext [] w (w.alloc (.cells #[.slice ra X.length X.length] 40)) := Ext.alloc [] w _
  obtain ⟨i, hi0, hz0, hz1, hz2⟩ := info_parts info40z
  have h1' := own_keep0 h1 hA
  obtain ⟨v', w', hrn, ho, hg, _, hn⟩ := run_append_own_at (P := Tryd.prog) (w.alloc (.cells #[.slice ra X.length X.length] 40)) w0.heap.size 41 41 40 i _ 1 24 Tryd.underlying41 hi0 hz0 hz1 hz2 rfl (by decide) v Xs.length vs h1' ⟨w.heap.size, 0, none⟩ 1 1 [.slice ra X.length X.length] rfl (fun j u hu => by
    cases j with
    | zero => cases hu; rw [show (⟨w.heap.size, 0, none⟩ : Addr).add 0 = ⟨w.heap.size, 0, none⟩ by simp [Addr.add], cell_of_row _ _ _ _ _ _ (heap_alloc_new w _)]; rfl
    | succ j => simp at hu) (by simp [Value.oneCell']) (by unfold maxLen; omega) (by omega) (by have := hE.size; have := hA.size; omega)
  have hX2 := ext_grown hg
  have hown := own_lt h1'
  refine ⟨v', w', hrn, ⟨vs ++ [.slice ra X.length X.length], by rw [List.length_append]; exact ho, fun k Y hY => ?_⟩, (hE.trans hA).on hX2 (fun x hx => (hown x (by simpa using hx)).1)⟩
  have hvl : vs.length = Xs.length := by have := h1.1; omega
  have kp : ∀ (ra : Option Addr) (Y : List Int), Bs w0 w ra Y → Bs w0 w' ra Y := by
    rintro ra Y (q | ⟨g, q1, q2, q3⟩)
    · exact .inl q
    · refine .inr ⟨g, q1, q2, hX2.keep (hA.keep q3 (by simp)) (fun hm => ?_)⟩
      exact own_ne h1' (hA.keep q3 (by simp)) (by decide) (by simpa using hm)
  rw [List.getElem?_append] at hY
  by_cases hk : k < Xs.length
  · rw [if_pos hk] at hY
    obtain ⟨ra2, q1, q2⟩ := h2 k Y hY
    exact ⟨ra2, by rw [List.getElem?_append, if_pos (by omega)]; exact q1, kp _ _ q2⟩
  · rw [if_neg hk] at hY
    have hk0 : k = Xs.length := by
      have := (List.getElem?_eq_some_iff.1 hY).1
      simp at this; omega
    subst hk0
    simp at hY
    subst hY
    exact ⟨ra, by rw [List.getElem?_append, if_neg (by omega), ← hvl]; simp, kp _ _ hr⟩

/-! ### SameBytes -/

theorem same_true (a b : Option Addr) (n c d : Nat) (xs : List Int) (w : World) (ha : Sl w a xs) (hb : Sl w b xs) (hn : xs.length = n) (hm : n ≤ maxLen) :
    Calls Tryd.prog 17 #[.slice a n c, .slice b n d] w (SayPost w (.bool true)) := by
  unfold maxLen at hm
  by_cases h0 : n = 0
  · subst h0
    go_enter Tryd.func17, Tryd.ntmps17
    go_wp2
    go_loop [5] (fun q => q = .int .i64 0) (fun _ => 0)
    case atStart => rfl
    case round =>
      subst hrel
      go_wp2
      go_ret
      exact ⟨rfl, Ext.refl _ _⟩
  · obtain ⟨b1, o1, rfl, hc1⟩ : ∃ b o, a = some ⟨b, o, none⟩ ∧ ∀ j, j < n → w.cell? ⟨b, o + j, none⟩ = some (.int .u8 (xs.getD j 0)) := by
      rcases ha.at_ with h | ⟨b, o, h, hc⟩
      · rw [h] at hn; simp at hn; omega
      · exact ⟨b, o, h, by rw [← hn]; exact hc⟩
    obtain ⟨b2, o2, rfl, hc2⟩ : ∃ b' o, b = some ⟨b', o, none⟩ ∧ ∀ j, j < n → w.cell? ⟨b', o + j, none⟩ = some (.int .u8 (xs.getD j 0)) := by
      rcases hb.at_ with h | ⟨b, o, h, hc⟩
      · rw [h] at hn; simp at hn; omega
      · exact ⟨b, o, h, by rw [← hn]; exact hc⟩
    clear ha hb hn
    have H1 : Hid (∀ j, j < n → w.cell? ⟨b1, o1 + j, none⟩ = some (.int .u8 (xs.getD j 0))) := hc1
    have H2 : Hid (∀ j, j < n → w.cell? ⟨b2, o2 + j, none⟩ = some (.int .u8 (xs.getD j 0))) := hc2
    clear hc1 hc2
    go_enter Tryd.func17, Tryd.ntmps17
    go_wp2
    go_loopw [5] (fun q wr => ∃ k m : Nat, q = .int .i64 k ∧ k ≤ n ∧ wr = w.drewN m) (fun q _ => (n - (intOf q)).toNat)
    case atStart => exact ⟨0, 0, rfl, Nat.zero_le _, rfl⟩
    case round =>
      obtain ⟨k, m, rfl, hk, rfl⟩ := hrel
      by_cases hkn : k < n
      · have hx := H1.out k hkn
        have hy := H2.out k hkn
        generalize xs.getD k 0 = x at *
        go_wp2
        go_quiet (fail)
        go_wp2
        go_roundw
        case rel => exact ⟨k + 1, _, by go_num, by omega, rfl⟩
        case measure => simp [intOf]; omega
      · go_wp2
        go_ret
        exact ⟨rfl, Ext.drewN _ _ _⟩

theorem growH_len (S : List Oq) : ∀ (H : Hs) (L : List Int), (growH H L S).2.length ≤ L.length + S.length := by
  induction S with
  | nil => intro H L; simp [growH]
  | cons q S ih =>
    intro H L
    have h1 := ih (opH H L q).1 (opH H L q).2
    have h2 := opH_len H L q
    simp only [growH, List.length_cons]
    omega

end Go.Proofs.YtlajjcboahflbaaDoor

/-
  Addresses that were given; the calls of a script; awake; no statement is proved here.
-/
import Derived.Test.YtlajjcboahflbaaDoorNew
namespace Go.Proofs.YtlajjcboahflbaaDoor
open Go.RowKit

/-! ### awake -/

theorem Hw.gl {w w' : World} (h : Gl w) (x : Ext [] w w') : Gl w' := h.keep0 x

set_option maxRecDepth 100000 in
theorem awake_any (w : World) (hG : Gl w) : Calls Tryd.prog 10 #[] w (SayPost w (.bool true)) := by
  have K1 := hnew_ok 1 w (by omega)
  have HG := hid hG
  have hv : Hid (allocH (newH 1) 8 1 = (256, 0, (allocH (newH 1) 8 1).2.2)) := by
    have hO : Ok 8 := by unfold Ok; omega
    have hr : roomN 8 = 8 := by decide
    have hp : pgN 8 = 1 := by decide
    show allocH (newH 1) 8 1 = _
    unfold allocH
    rw [if_pos ⟨hO, by omega, by omega⟩, hr, hp]
    have h1 : (newH 1).sp.findIdx? (fitS 8) = none := rfl
    have h2 : hole (newH 1).R 1 = some 0 := by decide
    rw [h1]
    simp only [h2]
    rfl
  have HK : Hid (∀ u p cs F, Gl u → Hw u p 0 97 cs F (newH 1) → Calls Tryd.prog 15 #[.pointer (some ⟨p, 0, none⟩), .int .i64 8, .int .i64 1] u (fun e w' => e = .returned (.tuple #[.int .i64 256, .int .i64 0]) ∧ Fx (fun k => k = p ∨ F k) u w')) := fun u p cs F hg hh => (halloc_any 8 1 u hg hh).mono (by
    rintro e w' ⟨he, F', _, hx, _⟩
    rw [hv.out] at he
    exact ⟨he, hx⟩)
  clear hG hv
  go_enter Tryd.func10, Tryd.ntmps10
  go_wp2_with (first | (go_at_call 28; refine K1.mono ?_; clear K1; rintro e w1 ⟨p, cs, F, rfl, hh, hp, hF, _, hE1⟩; have K2 := HK.out w1 p cs F (HG.out.keep0 hE1) hh; replace hp := hid hp; replace hF := hid hF; replace hE1 := hid hE1; clear hh HK) | (go_at_call 15; refine K2.mono ?_; clear K2; rintro e w2 ⟨rfl, hX⟩; replace hX := hid hX) | fail "no arm")
  go_ret
  refine ⟨rfl, Fx.on hE1.out hX.out (fun k hk => ?_)⟩
  rcases hk with rfl | hk
  · exact hp.out
  · exact hF.out k hk

/-! ### addresses that were given -/

theorem info3' : (Tryd.prog.info? 3).map (fun i => (i.zero, i.size, i.bytes)) = some (some (.int .i64 0), 1, 8) := info3
def Gv (w : World) (v : Value) (L : List Int) : Prop := w.ownsRow 0 3 1 v L.length (L.map (Value.int .i64))
theorem Gv.keepF {B : Nat → Prop} {w w' : World} {v : Value} {L : List Int} (h : Gv w v L) (x : Fx B w w') (hs : ∀ g, v.ownBlock = some g → ¬ B g) : Gv w' v L := by
  refine ⟨h.1, ?_⟩
  rcases h.2 with h | ⟨g, cap, cur, rfl, h1, h2, h3⟩
  · exact .inl h
  · exact .inr ⟨g, cap, cur, rfl, h1, x.keep h2 (hs g rfl), h3⟩
theorem Gv.keep0 {w w' : World} {v : Value} {L : List Int} (h : Gv w v L) (x : Ext [] w w') : Gv w' v L := own_keep0 h x
theorem gv_nil (w : World) : Gv w (.slice none 0 0) [] := own_nil _ _ _ _
theorem Gv.slice {w : World} {v : Value} {L : List Int} (h : Gv w v L) : ∃ a c, v = .slice a L.length c ∧ L.length ≤ c := own_slice h
theorem Gv.lt {w : World} {v : Value} {L : List Int} (h : Gv w v L) : ∀ g, v.ownBlock = some g → g < w.heap.size := fun g hg => (own_lt h g hg).2
theorem Gv.at_ {w : World} {v : Value} {L : List Int} (h : Gv w v L) (h0 : 0 < L.length) : ∃ g c, v = .slice (some ⟨g, 0, none⟩) L.length c ∧ L.length ≤ c ∧ ∀ i, i < L.length → w.cell? ⟨g, i, none⟩ = some (.int .i64 (L.getD i 0)) := by
  rcases h.2 with ⟨_, h2⟩ | ⟨g, cap, cur, h0, h1, h2, h3, h4, h5, h6⟩
  · omega
  · refine ⟨g, cap, h0, h3, fun i hi => ?_⟩
    rw [cell_of_row w g _ _ _ _ h2]
    have : (cur.toList.take (L.length * 1))[i]? = cur[i]? := by
      rw [List.getElem?_take, if_pos (by omega)]; simp
    rw [← this, h6]
    simp [hi]
/-- One address more. -/
theorem Gv.push {w : World} {v : Value} {L : List Int} (h : Gv w v L) (ad : Addr) (x : Int) (hx : w.cell? ad = some (.int .i64 x)) (hl : L.length ≤ 2000000000000) (ty : TypeId) :
    ∃ v' w', (Builtin.append_ #[24, 24] ty #[v, .slice (some ad) 1 1]).run Tryd.prog w = .ok v' w' ∧ Gv w' v' (L ++ [x]) ∧ Ext v.ownBlock.toList w w' ∧ (v'.ownBlock = v.ownBlock ∨ v'.ownBlock = some w.heap.size) := by
  obtain ⟨i, hi0, hz0, hz1, hz2⟩ := info_parts info3
  obtain ⟨v', w', hr, ho, hg, _, hn⟩ := run_append_own_at (P := Tryd.prog) w 0 24 ty 3 i _ 1 8 Tryd.underlying24 hi0 hz0 hz1 hz2 rfl (by decide) v L.length (L.map (Value.int .i64)) h ad 1 1 [.int .i64 x] rfl (fun j u hu => by
    cases j with
    | zero => cases hu; rw [show ad.add 0 = ad by simp [Addr.add]]; exact hx
    | succ j => simp at hu) (by simp [Value.oneCell']) (by unfold maxLen; omega) (by omega) (by omega)
  refine ⟨v', w', hr, ?_, ext_grown hg, hn⟩
  unfold Gv
  rw [List.length_append, List.map_append]
  exact ho

/-! ### a script -/

structure Oq where
  kd : Int
  at_ : Int
  off : Int
  n : Int
  tag : Int
  v : Int
  b : List Int
deriving Inhabited
def oqAt (S : List Oq) (i : Nat) : Oq := S.getD i default
structure OqAt (w : World) (b o : Nat) (q : Oq) (sa : Option Addr) (sc : Nat) : Prop where
  c0 : w.cell? ⟨b, o, none⟩ = some (.int .i64 q.kd)
  c1 : w.cell? ⟨b, o + 1, none⟩ = some (.int .i64 q.at_)
  c2 : w.cell? ⟨b, o + 2, none⟩ = some (.int .i64 q.off)
  c3 : w.cell? ⟨b, o + 3, none⟩ = some (.int .i64 q.n)
  c4 : w.cell? ⟨b, o + 4, none⟩ = some (.int .i64 q.tag)
  c5 : w.cell? ⟨b, o + 5, none⟩ = some (.int .u64 q.v)
  c6 : w.cell? ⟨b, o + 6, none⟩ = some (.slice sa q.b.length sc)
  off : I64 q.off
  v : 0 ≤ q.v ∧ q.v < 18446744073709551616
  sl : Sl w sa q.b
  len : q.b.length ≤ 140737488351232
theorem OqAt.keep0 {w w' : World} {b o : Nat} {q : Oq} {sa : Option Addr} {sc : Nat} (h : OqAt w b o q sa sc) (x : Ext [] w w') : OqAt w' b o q sa sc :=
  ⟨x.cell h.c0 (by simp), x.cell h.c1 (by simp), x.cell h.c2 (by simp), x.cell h.c3 (by simp), x.cell h.c4 (by simp), x.cell h.c5 (by simp), x.cell h.c6 (by simp), h.off, h.v, h.sl.keep x (by simp), h.len⟩
structure Sc (w : World) (a : Option Addr) (S : List Oq) : Prop where
  at_ : S = [] ∨ ∃ b o, a = some ⟨b, o, none⟩ ∧ ∀ i, i < S.length → ∃ sa sc, OqAt w b (o + i * 7) (oqAt S i) sa sc
  len : S.length ≤ 1954687338211
theorem Sc.keep0 {w w' : World} {a : Option Addr} {S : List Oq} (h : Sc w a S) (x : Ext [] w w') : Sc w' a S := by
  refine ⟨?_, h.len⟩
  rcases h.at_ with h | ⟨b, o, rfl, hc⟩
  · exact .inl h
  · exact .inr ⟨b, o, rfl, fun i hi => by obtain ⟨sa, sc, hq⟩ := hc i hi; exact ⟨sa, sc, hq.keep0 x⟩⟩

/-- The address that a call means. -/
def addrQ (L : List Int) (q : Oq) : Int := if 0 ≤ q.at_ ∧ q.at_ < L.length ∧ -100000 < q.off ∧ q.off < 100000 then L.getD q.at_.toNat 0 + q.off else q.off

/-- A call on a heap, and what was given. -/
def opH (H : Hs) (L : List Int) (q : Oq) : Hs × List Int :=
  if q.kd = 1 then ((freeH H (addrQ L q)).2, L)
  else if q.kd = 5 then (putH H (addrQ L q) 8 (byteOf q.v), L)
  else if q.kd = 7 then (putH H (addrQ L q) q.b.length (fun j => q.b.getD j 0), L)
  else if q.kd = 2 ∨ q.kd = 3 ∨ q.kd = 4 ∨ q.kd = 6 ∨ q.kd = 8 then (H, L)
  else ((allocH H q.n q.tag).2.2, if (allocH H q.n q.tag).2.1 = 0 then L ++ [(allocH H q.n q.tag).1] else L)
def growH (H : Hs) (L : List Int) : List Oq → Hs × List Int
  | [] => (H, L)
  | q :: S => growH (opH H L q).1 (opH H L q).2 S
theorem growH_append (H : Hs) (L : List Int) (A B : List Oq) : growH H L (A ++ B) = growH (growH H L A).1 (growH H L A).2 B := by
  induction A generalizing H L with
  | nil => rfl
  | cons q A ih => exact ih _ _
theorem growH_snoc (H : Hs) (L : List Int) (A : List Oq) (q : Oq) : growH H L (A ++ [q]) = opH (growH H L A).1 (growH H L A).2 q := by
  rw [growH_append]; rfl

/-! ### what holds of what was given -/

/-- Addresses that lie in the arena. -/
def Gok (L : List Int) : Prop := ∀ x ∈ L, 0 ≤ x ∧ x ≤ 262400
theorem alloc_gok {H : Hs} (h : Hv H) (size tag : Int) : 0 ≤ (allocH H size tag).1 ∧ (allocH H size tag).1 ≤ 262400 := by
  unfold allocH
  split
  · rename_i hc
    split
    · rename_i k hk
      obtain ⟨x, hx, _, hfit⟩ := findIdx_find hk
      have e := spAt_eq hx
      have hlk := (List.getElem?_eq_some_iff.1 hx).1
      unfold fitS at hfit
      simp only [Bool.and_eq_true, decide_eq_true_eq] at hfit
      obtain ⟨z1, _, _⟩ := fz_spec hfit.2 (fun y hy => ((h.ok x (List.mem_of_getElem? hx)).sz y hy).1)
      have hs := h.slt hlk (j := fz (spAt H k).S) (by rw [e]; exact z1)
      have := hs.hi
      have := hs.P1
      simp only
      omega
    · split
      · simp
      · rename_i i hi
        obtain ⟨h1, _⟩ := hole_some hi
        have := h.inv.mem _ (rnAt_mem h1)
        have := h.P1
        simp only
        omega
  · simp
theorem opH_gok {H : Hs} (h : Hv H) {L : List Int} (hL : Gok L) (q : Oq) : Gok (opH H L q).2 := by
  unfold opH
  split
  · exact hL
  split
  · exact hL
  split
  · exact hL
  split
  · exact hL
  simp only
  split
  · intro x hx
    rcases List.mem_append.1 hx with hx | hx
    · exact hL x hx
    · simp only [List.mem_singleton] at hx
      subst hx
      exact alloc_gok h _ _
  · exact hL
theorem opH_len (H : Hs) (L : List Int) (q : Oq) : (opH H L q).2.length ≤ L.length + 1 := by
  unfold opH
  split
  · simp only; omega
  split
  · simp only; omega
  split
  · simp only; omega
  split
  · simp only; omega
  simp only
  split
  · simp
  · omega

set_option maxRecDepth 100000 in
theorem address_any (L : List Int) (v : Value) (q : Oq) (bv : Value) (w : World) (hL : Gv w v L) (hok : Gok L) (hoff : I64 q.off) (hb : ∃ sa m sc, bv = .slice sa m sc) : Calls Tryd.prog 29 #[v, .agg #[.int .i64 q.kd, .int .i64 q.at_, .int .i64 q.off, .int .i64 q.n, .int .i64 q.tag, .int .u64 q.v, bv]] w (SayPost w (.int .i64 (addrQ L q))) := by
  obtain ⟨sa, m, sc, rfl⟩ := hb
  obtain ⟨a, c, rfl, hc⟩ := hL.slice
  unfold addrQ
  have hat := fun (h0 : 0 ≤ q.at_ ∧ q.at_ < L.length) => hL.at_ (by omega)
  have HF : Hid (∀ x, SayPost w (.int .i64 x) (.returned (.int .i64 x)) (w.alloc (.cells #[.int .i64 q.kd, .int .i64 q.at_, .int .i64 q.off, .int .i64 q.n, .int .i64 q.tag, .int .u64 q.v, .slice sa m sc] 77)) ∧ ∀ n, SayPost w (.int .i64 x) (.returned (.int .i64 x)) ((w.alloc (.cells #[.int .i64 q.kd, .int .i64 q.at_, .int .i64 q.off, .int .i64 q.n, .int .i64 q.tag, .int .u64 q.v, .slice sa m sc] 77)).drewN n)) := fun x => ⟨⟨rfl, Ext.alloc _ _ _⟩, fun n => ⟨rfl, (Ext.alloc _ _ _).trans (Ext.drewN _ _ _)⟩⟩
  by_cases h1 : 0 ≤ q.at_
  · by_cases h2 : q.at_ < L.length
    · by_cases h3 : -100000 < q.off
      · by_cases h4 : q.off < 100000
        · rw [if_pos ⟨h1, h2, h3, h4⟩]
          obtain ⟨g, c', hv, _, hcs⟩ := hat ⟨h1, h2⟩
          simp only [Value.slice.injEq, true_and] at hv
          obtain ⟨rfl, rfl⟩ := hv
          obtain ⟨k, hk⟩ : ∃ k : Nat, q.at_ = k := ⟨q.at_.toNat, by omega⟩
          rw [hk] at h1 h2 ⊢
          have ck := hcs k (by omega)
          rw [Int.toNat_natCast]
          have hgo := hok (L.getD k 0) (by rw [List.getD_eq_getElem?_getD, List.getElem?_eq_getElem (by omega)]; exact List.getElem_mem _)
          have e1 : IntKind.i64.wrap (L.getD k 0 + q.off) = L.getD k 0 + q.off := by rw [IntKind.wrap_i64]; omega
          have hgl := hL.lt g rfl
          have ca := (Ext.alloc [] w (.cells #[.int .i64 q.kd, .int .i64 k, .int .i64 q.off, .int .i64 q.n, .int .i64 q.tag, .int .u64 q.v, .slice sa m sc] 77)).cell ck (by simp)
          rw [hk] at HF
          clear hcs hat hok hL hoff hc
          generalize L.getD k 0 = y at *
          generalize L.length = len at *
          generalize q.off = of at *
          go_enter Tryd.func29, Tryd.ntmps29
          go_wp2_with fail
          go_quiet (fail)
          go_wp2_with fail
          go_ret
          exact (HF.out _).2 _
        · rw [if_neg (fun h => h4 h.2.2.2)]
          clear hat hok hL hoff hc
          generalize L.length = len at *
          generalize q.off = of at *
          generalize q.at_ = at_ at *
          go_enter Tryd.func29, Tryd.ntmps29
          go_wp2_with fail
          go_ret
          exact (HF.out _).1
      · rw [if_neg (fun h => h3 h.2.2.1)]
        clear hat hok hL hoff hc
        generalize L.length = len at *
        generalize q.off = of at *
        generalize q.at_ = at_ at *
        go_enter Tryd.func29, Tryd.ntmps29
        go_wp2_with fail
        go_ret
        exact (HF.out _).1
    · rw [if_neg (fun h => h2 h.2.1)]
      clear hat hok hL hoff hc
      generalize L.length = len at *
      generalize q.off = of at *
      generalize q.at_ = at_ at *
      go_enter Tryd.func29, Tryd.ntmps29
      go_wp2_with fail
      go_ret
      exact (HF.out _).1
  · rw [if_neg (fun h => h1 h.1)]
    clear hat hok hL hoff hc
    generalize L.length = len at *
    generalize q.off = of at *
    generalize q.at_ = at_ at *
    go_enter Tryd.func29, Tryd.ntmps29
    go_wp2_with fail
    go_ret
    exact (HF.out _).1

end Go.Proofs.YtlajjcboahflbaaDoor

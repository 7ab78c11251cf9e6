/-
  Words, Turn, AllocH, AllocI: joined by program; no statement is proved here.
-/
import Derived.Test.YtjbbomokgpoilaaGreatDoorZHC
/-
  Load, Store, Read and Write of a heap; no statement is proved here.
-/
namespace Go.Proofs.YtjbbomokgpoilaaGreatDoor
open Go.RowKit

section
variable {p ox : Nat} {T : TypeId} {cs : Array Value} {F : Nat → Prop} {H : Hs} {ag og : Nat} {V : Value} {sb : Nat → Nat × Nat} {O : List (Option Nat)}

theorem row_ne {w : World} {g k : Nat} {L : List Int} {cs : Array Value} {t : TypeId} (h : Row w g L) (hk : w.heap[k]? = some (.cells cs t (0, 0))) (ht : t ≠ 5) : k ≠ g := by
  rintro rfl
  have := hk.symm.trans h
  simp only [Option.some.injEq, Obj.cells.injEq] at this
  exact ht this.2.1
theorem own_ne_row {w : World} {base : Nat} {e : TypeId} {s n : Nat} {v : Value} {xs : List Value} {cs : Array Value} {k : Nat} {t : TypeId} (h : w.ownsRow base e s v n xs) (hk : w.heap[k]? = some (.cells cs t (0, 0))) (he : t ≠ e) : ∀ b ∈ [k], v.ownBlock ≠ some b := by
  intro b hb
  simp only [List.mem_singleton] at hb
  subst hb
  exact own_ne h hk he

/-- Other bytes. -/
theorem Hm.turn {w w' : World} (h : Hm w p ox T cs F H ag og V sb O) (x : Ext [ag] w w') {B' : List Int} (hl : B'.length = H.B.length) (hr : Row w' ag B') (hb : Bts B') : Hm w' p ox T cs F { H with B := B' } ag og V sb O := by
  have hp : p ≠ ag := row_ne h.bytes h.box.at_ h.ty.1
  have hog : og ≠ ag := row_ne h.bytes h.owners (by decide)
  refine ⟨h.box.keep x (by simpa using hp), h.ty, by rw [show ({ H with B := B' } : Hs).B.length = H.B.length from hl]; exact h.ca, h.co, hr, h.runs.keep x (own_ne_row h.runs h.bytes (by decide)), x.keep h.owners (by simpa using hog), h.olen, h.own, fun y hy => ?_, h.inj, h.fa, h.fo, h.fv, h.fs, h.np, h.ok.bytes hl hb⟩
  have hs := h.spans y hy
  exact hs.keep x (by simpa using row_ne h.bytes hs.box (by decide)) (by simpa using row_ne h.bytes hs.row (by decide))

def ldV (H : Hs) (a : Int) : Value := if witE H a 8 = 0 then .tuple #[.int .u64 (numAt H.B a.toNat 8), .int .i64 0] else .tuple #[.int .u64 0, .int .i64 (witE H a 8)]

theorem Hv.wit {H : Hs} (h : Hv H) {a n : Int} (hw : witE H a n = 0) : ∃ A N : Nat, a = A ∧ n = N ∧ A + N ≤ H.B.length := by
  obtain ⟨hn, k, j, hf, h1⟩ := witE_ok hw
  obtain ⟨hs, h2, h3⟩ := h.hit hf
  have := hs.hi
  have := hs.sz
  have := h.bl
  exact ⟨a.toNat, n.toNat, by omega, by omega, by omega⟩

set_option maxRecDepth 100000 in
theorem hload_any (a : Int) (w : World) (hH : Hm w p ox T cs F H ag og V sb O) : Calls Tryz.prog 39 #[.pointer (some ⟨p, ox, none⟩), .int .i64 a] w (Qt w (ldV H a)) := by
  have K := within_any a 8 w hH
  unfold ldV
  by_cases he : witE H a 8 = 0
  · rw [if_pos he]
    obtain ⟨A, M, rfl, hM, hl⟩ := hH.ok.wit he
    obtain rfl : M = 8 := by omega
    rw [Int.toNat_natCast]
    rw [he] at K
    have K2 := fun m => load_ok A 8 p ag (w.drewN m) H.B (hH.keep0 (Ext.drewN [] w m)).ar hl (.inr (.inr (.inr rfl)))
    clear hH he hl hM
    generalize numAt H.B A 8 = nv at *
    go_enter Tryz.func39, Tryz.ntmps39
    go_wp2_with (first | (go_at_call 70; refine K.mono ?_; clear K; rintro e w1 ⟨rfl, m, rfl⟩) | (go_at_call 71; refine met (K2 _) ?_) | fail "no arm")
    go_ret2
    exact ⟨rfl, _, rfl⟩
  · rw [if_neg he]
    have h2 : (witE H a 8 == 0) = false := by simpa using he
    generalize witE H a 8 = er at *
    clear hH
    go_enter Tryz.func39, Tryz.ntmps39
    go_wp2_with (first | (go_at_call 70; refine K.mono ?_; clear K; rintro e w1 ⟨rfl, m, rfl⟩) | fail "no arm")
    go_ret2
    exact ⟨rfl, _, rfl⟩

/-- Bytes laid into a heap. -/
def putH (H : Hs) (a n : Int) (f : Nat → Int) : Hs := if witE H a n = 0 then { H with B := put H.B a.toNat f n.toNat } else H

theorem hpost_keep {w w' : World} (hH : Hm w p ox T cs F H ag og V sb O) (x : Ext [] w w') (r : Value) : HPost w p ox T cs F H r (.returned r) w' :=
  ⟨rfl, F, ⟨_, _, _, _, _, hH.keep0 x⟩, Fx.of_ext0 x, fun _ h => .inl h⟩

set_option maxRecDepth 100000 in
theorem hstore_any (a v : Int) (hv : 0 ≤ v ∧ v < 18446744073709551616) (w : World) (hH : Hm w p ox T cs F H ag og V sb O) : Calls Tryz.prog 48 #[.pointer (some ⟨p, ox, none⟩), .int .i64 a, .int .u64 v] w (HPost w p ox T cs F (putH H a 8 (byteOf v)) (.int .i64 (witE H a 8))) := by
  have K := within_any a 8 w hH
  unfold putH
  by_cases he : witE H a 8 = 0
  · rw [if_pos he, he]
    obtain ⟨A, M, rfl, hM, hl⟩ := hH.ok.wit he
    obtain rfl : M = 8 := by omega
    rw [Int.toNat_natCast, show Int.toNat 8 = 8 from rfl]
    rw [he] at K
    have K2 := fun m => store_ok A 8 v hv p ag (w.drewN m) H.B (hH.keep0 (Ext.drewN [] w m)).ar hl (.inr (.inr (.inr rfl)))
    have HF : Hid (∀ w', TurnPost ox w p ag (put H.B A (byteOf v) 8) (.returned (.int .i64 0)) w' → HPost w p ox T cs F { H with B := put H.B A (byteOf v) 8 } (.int .i64 0) (.returned (.int .i64 0)) w') := by
      rintro w' ⟨_, hA, hE⟩
      refine ⟨rfl, F, ⟨_, _, _, _, _, hH.turn hE (length_put _ _ _ _) hA.row hA.ok⟩, Fx.of_ext hE (by simpa using .inl (.inr hH.fa)), fun _ h => .inl h⟩
    clear hH he hl hM
    generalize put H.B A (byteOf v) 8 = B' at *
    go_enter Tryz.func48, Tryz.ntmps48
    go_wp2_with (first | (go_at_call 70; refine K.mono ?_; clear K; rintro e w1 ⟨rfl, m, rfl⟩) | (go_at_call 84; refine (K2 _).mono ?_; clear K2; rintro e w2 ⟨rfl, hA, hE⟩) | fail "no arm")
    go_ret
    exact HF.out _ ⟨rfl, hA, (Ext.drewN _ _ _).trans hE⟩
  · rw [if_neg he]
    have h2 : (witE H a 8 == 0) = false := by simpa using he
    generalize witE H a 8 = er at *
    have HH := hid hH
    clear hH
    go_enter Tryz.func48, Tryz.ntmps48
    go_wp2_with (first | (go_at_call 70; refine K.mono ?_; clear K; rintro e w1 ⟨rfl, m, rfl⟩) | fail "no arm")
    go_ret
    exact hpost_keep HH.out (Ext.drewN _ _ _) _

/-- Bytes of their own. -/
def RdPost (w : World) (X : List Int) (er : Int) (e : Ending) (w' : World) : Prop :=
  ∃ a, e = .returned (.tuple #[.slice a X.length X.length, .int .i64 er]) ∧ ((a = none ∧ X = []) ∨ ∃ g, a = some ⟨g, 0, none⟩ ∧ w.heap.size ≤ g ∧ Row w' g X) ∧ Ext [] w w'
def rdX (H : Hs) (a n : Int) : List Int := if witE H a n = 0 then cut H.B a.toNat n.toNat else []

end

end Go.Proofs.YtjbbomokgpoilaaGreatDoor

/-
  A heap in memory whose slots, spans and runs have turned; no statement is proved here.
-/
namespace Go.Proofs.YtjbbomokgpoilaaGreatDoor
open Go.RowKit

theorem ty_ne {w : World} {a b : Nat} {cs cs' : Array Value} {t t' : TypeId} (ha : w.heap[a]? = some (.cells cs t (0, 0))) (hb : w.heap[b]? = some (.cells cs' t' (0, 0))) (h : t ≠ t') : a ≠ b := by
  rintro rfl
  have := ha.symm.trans hb
  simp only [Option.some.injEq, Obj.cells.injEq] at this
  exact h this.2.1

section
variable {w w' : World} {p ox : Nat} {T : TypeId} {cs : Array Value} {F : Nat → Prop} {H : Hs} {ag og : Nat} {V : Value} {sb : Nat → Nat × Nat} {O : List (Option Nat)}

theorem Hm.vown (h : Hm w p ox T cs F H ag og V sb O) {k : Nat} {cs' : Array Value} {t : TypeId} (hk : w.heap[k]? = some (.cells cs' t (0, 0))) (ht : t ≠ 98) : k ∉ V.ownBlock.toList := by
  intro hm
  rw [Option.mem_toList] at hm
  exact own_ne h.runs hk ht hm

theorem Hm.slotted (h : Hm w p ox T cs F H ag og V sb O) {k : Nat} {x : Spn} (hx : H.sp[k]? = some x) {S' : List Slot} (e : Ext [(sb x.st).1, (sb x.st).2] w w') (hs : Sp w' (sb x.st).1 (sb x.st).2 x.st x.n x.rm (us S') S') (ho : ({ x with S := S' } : Spn).Ok) :
    Hm w' p ox T cs F { H with sp := H.sp.set k { x with S := S' } } ag og V sb O := by
  have hxm := List.mem_of_getElem? hx
  have hX := h.spans x hxm
  have hps := ty_ne h.box.at_ hX.box h.ty.2.2.1
  have hpg := ty_ne h.box.at_ hX.row h.ty.2.2.2
  have has := ty_ne h.bytes hX.box (by decide)
  have hag := ty_ne h.bytes hX.row (by decide)
  have hos := ty_ne h.owners hX.box (by decide)
  have hog := ty_ne h.owners hX.row (by decide)
  have hvs := h.vown hX.box (by decide)
  have hvg := h.vown hX.row (by decide)
  have hrun := map_run_set (x' := { x with S := S' }) hx rfl rfl
  refine ⟨h.box.keep e (by simp [hps, hpg]), h.ty, h.ca, h.co, e.keep h.bytes (by simp [has, hag]), h.runs.keep e (by
      simp only [List.mem_cons, List.not_mem_nil, or_false]
      rintro b (rfl | rfl) hb
      · exact hvs (by rw [hb]; simp)
      · exact hvg (by rw [hb]; simp)), e.keep h.owners (by simp [hos, hog]), h.olen, fun i hi => ?_, fun y hy => ?_, ?_, h.fa, h.fo, h.fv, ?_, h.np, h.ok.set (x' := { x with S := S' }) hx rfl rfl ho rfl h.ok.bt⟩
  · rw [h.own i hi]; exact (spanAt_same hrun sb i).symm
  · obtain ⟨l, hl⟩ := List.getElem?_of_mem hy
    rw [List.getElem?_set] at hl
    split at hl
    · split at hl
      · cases hl; exact hs
      · cases hl
    · rename_i hkl
      have hym := List.mem_of_getElem? hl
      have hne : y.st ≠ x.st := fun q => hkl (by
        have hn1 := (h.ok.ok x hxm).n1
        have hn2 := (h.ok.ok _ hym).n1
        exact h.ok.same hx hl (i := x.st) ⟨Nat.le_refl _, by omega⟩ ⟨by omega, by omega⟩)
      have hY := h.spans _ hym
      obtain ⟨n1, n2⟩ := h.inj _ hym x hxm hne
      exact hY.keep e (by simp [n1, ty_ne hY.box hX.row (by decide)]) (by simp [n2, ty_ne hY.row hX.box (by decide)])
  · have key : ∀ y ∈ H.sp.set k { x with S := S' }, ∃ z ∈ H.sp, z.st = y.st := fun y hy => by
      rcases List.mem_or_eq_of_mem_set hy with q | rfl
      · exact ⟨y, q, rfl⟩
      · exact ⟨x, hxm, rfl⟩
    intro a ha b hb hab
    obtain ⟨a', ha', e1⟩ := key a ha
    obtain ⟨b', hb', e2⟩ := key b hb
    rw [← e1, ← e2]
    exact h.inj a' ha' b' hb' (by omega)
  · intro y hy
    rcases List.mem_or_eq_of_mem_set hy with q | rfl
    · exact h.fs y q
    · exact h.fs x hxm

/-- A span more. -/
def sbUp (sb : Nat → Nat × Nat) (st s g : Nat) : Nat → Nat × Nat := fun k => if k = st then (s, g) else sb k

theorem Hm.grown (h : Hm w p ox T cs F H ag og V sb O) {i n rm s g : Nat} {V' : Value} {S' : List Slot} (e : Ext (p :: og :: V.ownBlock.toList) w w') (hi : i < H.R.length) (hu : (rnAt H.R i).u = false) (h1 : 1 ≤ n) (hn : n ≤ (rnAt H.R i).n)
    (hR : Rs T ox cs w' p V' (takeL H.R i n)) (hON : OldNew w V V') (hO : w'.heap[og]? = some (.cells (ocells (ownL O (rnAt H.R i).s (some s) n)).toArray 128 (0, 0)))
    (hs : Sp w' s g (rnAt H.R i).s n rm (us S') S') (hsw : w.heap.size ≤ s) (hgw : w.heap.size ≤ g) (ho : (⟨(rnAt H.R i).s, n, rm, S'⟩ : Spn).Ok) :
    Hm w' p ox T cs (fun k => F k ∨ w.heap.size ≤ k) ⟨H.P, takeL H.R i n, insS H.sp (insK H.R i) ⟨(rnAt H.R i).s, n, rm, S'⟩, H.B⟩ ag og V' (sbUp sb (rnAt H.R i).s s g) (ownL O (rnAt H.R i).s (some s) n) := by
  have hv' := h.ok.ins hi hu h1 hn (x := ⟨(rnAt H.R i).s, n, rm, S'⟩) rfl rfl ho rfl h.ok.bt
  generalize hst : (rnAt H.R i).s = st at *
  have hap := ty_ne h.bytes h.box.at_ (Ne.symm h.ty.1)
  have hao := ty_ne h.bytes h.owners (by decide)
  have hav := h.vown h.bytes (by decide)
  have hold : ∀ y ∈ H.sp, y.st ≠ st := fun y hy q => by
    have m1 : y ∈ insS H.sp (insK H.R i) ⟨st, n, rm, S'⟩ := mem_insS.2 (.inr hy)
    have m2 : (⟨st, n, rm, S'⟩ : Spn) ∈ insS H.sp (insK H.R i) ⟨st, n, rm, S'⟩ := mem_insS.2 (.inl rfl)
    -- the run i is free, the span's run is used
    obtain ⟨j, hj, a1, a2, a3, a4⟩ := h.ok.run_at hy
    have := a4 i hi (by rw [hst, q])
    subst this
    rw [hu] at a1; cases a1
  have hup : ∀ y ∈ H.sp, sbUp sb st s g y.st = sb y.st := fun y hy => if_neg (hold y hy)
  have hun : sbUp sb st s g st = (s, g) := if_pos rfl
  have hlt : ∀ y ∈ H.sp, (sb y.st).1 < w.heap.size ∧ (sb y.st).2 < w.heap.size := fun y hy => ⟨lt_of_heap (h.spans y hy).box, lt_of_heap (h.spans y hy).row⟩
  refine ⟨hR.box, h.ty, h.ca, by rw [ownL_len]; exact h.co, e.keep h.bytes (by simp [hap, hao]; simpa using hav), hR.row, hO, by rw [ownL_len]; exact h.olen, fun l hl => ?_, fun y hy => ?_, ?_, .inl h.fa, .inl h.fo, fun b hb => ?_, ?_, fun q => ?_, hv'⟩
  · rw [ownL_get _ _ _ _ _ (by rw [h.olen]; exact hl)]
    by_cases hc : st ≤ l ∧ l < st + n
    · rw [if_pos hc, hv'.spanAt (x := ⟨st, n, rm, S'⟩) (mem_insS.2 (.inl rfl)) hc.1 hc.2]
      simp [hun]
    · rw [if_neg hc, h.own l hl]
      cases hq : spanAt H.sp l with
      | none =>
        have : spanAt (insS H.sp (insK H.R i) ⟨st, n, rm, S'⟩) l = none := by
          unfold spanAt
          rw [List.find?_eq_none]
          intro y hy
          rcases mem_insS.1 hy with rfl | hy
          · simp; omega
          · have := List.find?_eq_none.1 hq y hy
            exact this
        rw [this]; rfl
      | some y =>
        obtain ⟨hy, y1, y2⟩ := spanAt_some hq
        rw [hv'.spanAt (mem_insS.2 (.inr hy)) y1 y2]
        simp [hup y hy]
  · rcases mem_insS.1 hy with rfl | hy
    · simp only [hun]; exact hs
    · rw [hup y hy]
      have hY := h.spans y hy
      exact hY.keep e (by
        simp only [List.mem_cons, not_or]
        exact ⟨Ne.symm (ty_ne h.box.at_ hY.box h.ty.2.2.1), Ne.symm (ty_ne h.owners hY.box (by decide)), h.vown hY.box (by decide)⟩) (by
        simp only [List.mem_cons, not_or]
        exact ⟨Ne.symm (ty_ne h.box.at_ hY.row h.ty.2.2.2), Ne.symm (ty_ne h.owners hY.row (by decide)), h.vown hY.row (by decide)⟩)
  · intro a ha b hb hab
    rcases mem_insS.1 ha with rfl | ha
    · rcases mem_insS.1 hb with rfl | hb
      · exact absurd rfl hab
      · rw [hup b hb, hun]
        have := hlt b hb
        exact ⟨by simp only; omega, by simp only; omega⟩
    · rcases mem_insS.1 hb with rfl | hb
      · rw [hup a ha, hun]
        have := hlt a ha
        exact ⟨by simp only; omega, by simp only; omega⟩
      · rw [hup a ha, hup b hb]; exact h.inj a ha b hb hab
  · rcases hON with q | q
    · rw [q] at hb; exact .inl (h.fv b hb)
    · exact .inr (q b hb)
  · intro y hy
    rcases mem_insS.1 hy with rfl | hy
    · simp only [hun]; exact ⟨.inr hsw, .inr hgw⟩
    · rw [hup y hy]; exact ⟨.inl (h.fs y hy).1, .inl (h.fs y hy).2⟩
  · rcases q with q | q
    · exact h.np q
    · have := h.pt; omega

/-- Runs in another row. -/
theorem Hm.rerun (h : Hm w p ox T cs F H ag og V sb O) {V' : Value} (e : Ext (p :: V.ownBlock.toList) w w') (hR : Rs T ox cs w' p V' H.R) (hON : OldNew w V V') :
    Hm w' p ox T cs (fun k => F k ∨ w.heap.size ≤ k) H ag og V' sb O := by
  refine ⟨hR.box, h.ty, h.ca, h.co, e.keep h.bytes (by
      simp only [List.mem_cons, not_or]
      exact ⟨ty_ne h.bytes h.box.at_ (Ne.symm h.ty.1), h.vown h.bytes (by decide)⟩), hR.row, e.keep h.owners (by
      simp only [List.mem_cons, not_or]
      exact ⟨ty_ne h.owners h.box.at_ (Ne.symm h.ty.2.1), h.vown h.owners (by decide)⟩), h.olen, h.own, fun y hy => ?_, h.inj, .inl h.fa, .inl h.fo, fun b hb => ?_, fun y hy => ⟨.inl (h.fs y hy).1, .inl (h.fs y hy).2⟩, fun q => ?_, h.ok⟩
  · have hY := h.spans y hy
    exact hY.keep e (by
        simp only [List.mem_cons, not_or]
        exact ⟨Ne.symm (ty_ne h.box.at_ hY.box h.ty.2.2.1), h.vown hY.box (by decide)⟩) (by
        simp only [List.mem_cons, not_or]
        exact ⟨Ne.symm (ty_ne h.box.at_ hY.row h.ty.2.2.2), h.vown hY.row (by decide)⟩)
  · rcases hON with q | q
    · rw [q] at hb; exact .inl (h.fv b hb)
    · exact .inr (q b hb)
  · rcases q with q | q
    · exact h.np q
    · have := h.pt; omega

/-- A span less. -/
theorem Hm.shed (h : Hm w p ox T cs F H ag og V sb O) {k : Nat} {x : Spn} (hx : H.sp[k]? = some x) {V' : Value} (e : Ext ((sb x.st).1 :: (sb x.st).2 :: p :: og :: V.ownBlock.toList) w w')
    (hR : Rs T ox cs w' p V' (relL H.R (runK H.R x.st))) (hON : OldNew w V V') (hO : w'.heap[og]? = some (.cells (ocells (ownL O x.st none x.n)).toArray 128 (0, 0))) :
    Hm w' p ox T cs (fun k => F k ∨ w.heap.size ≤ k) ⟨H.P, relL H.R (runK H.R x.st), H.sp.eraseIdx k, H.B⟩ ag og V' sb (ownL O x.st none x.n) := by
  have hv' := h.ok.del hx
  have hxm := List.mem_of_getElem? hx
  have hX := h.spans x hxm
  have hmem := fun y => mem_del h.ok hx (y := y)
  refine ⟨hR.box, h.ty, h.ca, by rw [ownL_len]; exact h.co, e.keep h.bytes (by
      simp only [List.mem_cons, not_or]
      exact ⟨ty_ne h.bytes hX.box (by decide), ty_ne h.bytes hX.row (by decide), ty_ne h.bytes h.box.at_ (Ne.symm h.ty.1), ty_ne h.bytes h.owners (by decide), h.vown h.bytes (by decide)⟩), hR.row, hO, by rw [ownL_len]; exact h.olen, fun l hl => ?_, fun y hy => ?_, ?_, .inl h.fa, .inl h.fo, fun b hb => ?_, ?_, fun q => ?_, hv'⟩
  · rw [ownL_get _ _ _ _ _ (by rw [h.olen]; exact hl)]
    by_cases hc : x.st ≤ l ∧ l < x.st + x.n
    · rw [if_pos hc]
      have : spanAt (H.sp.eraseIdx k) l = none := by
        unfold spanAt
        rw [List.find?_eq_none]
        intro y hy
        obtain ⟨hym, hne⟩ := (hmem y).1 hy
        simp
        intro h1
        rcases Nat.lt_or_ge l (y.st + y.n) with q | q
        · obtain ⟨b, hb⟩ := List.getElem?_of_mem hym
          have := h.ok.same hx hb hc ⟨h1, q⟩
          subst this
          rw [hx] at hb; cases hb
          exact absurd rfl hne
        · exact q
      rw [this]; rfl
    · rw [if_neg hc, h.own l hl]
      cases hq : spanAt H.sp l with
      | none =>
        have : spanAt (H.sp.eraseIdx k) l = none := by
          unfold spanAt
          rw [List.find?_eq_none]
          intro y hy
          exact List.find?_eq_none.1 hq y ((hmem y).1 hy).1
        rw [this]
      | some y =>
        obtain ⟨hy, y1, y2⟩ := spanAt_some hq
        rw [hv'.spanAt ((hmem y).2 ⟨hy, fun q => hc (by
          obtain ⟨b, hb⟩ := List.getElem?_of_mem hy
          have hn1 := (h.ok.ok x hxm).n1
          have := h.ok.same hx hb (i := x.st) ⟨Nat.le_refl _, by omega⟩ ⟨by omega, by omega⟩
          subst this
          rw [hx] at hb; cases hb
          exact ⟨y1, y2⟩)⟩) y1 y2]
  · obtain ⟨hym, hne⟩ := (hmem y).1 hy
    have hY := h.spans y hym
    obtain ⟨n1, n2⟩ := h.inj y hym x hxm hne
    exact hY.keep e (by
        simp only [List.mem_cons, not_or]
        exact ⟨n1, ty_ne hY.box hX.row (by decide), Ne.symm (ty_ne h.box.at_ hY.box h.ty.2.2.1), Ne.symm (ty_ne h.owners hY.box (by decide)), h.vown hY.box (by decide)⟩) (by
        simp only [List.mem_cons, not_or]
        exact ⟨ty_ne hY.row hX.box (by decide), n2, Ne.symm (ty_ne h.box.at_ hY.row h.ty.2.2.2), Ne.symm (ty_ne h.owners hY.row (by decide)), h.vown hY.row (by decide)⟩)
  · intro a ha b hb hab
    exact h.inj a ((hmem a).1 ha).1 b ((hmem b).1 hb).1 hab
  · rcases hON with q | q
    · rw [q] at hb; exact .inl (h.fv b hb)
    · exact .inr (q b hb)
  · intro y hy
    have := h.fs y ((hmem y).1 hy).1
    exact ⟨.inl this.1, .inl this.2⟩
  · rcases q with q | q
    · exact h.np q
    · have := h.pt; omega

end

end Go.Proofs.YtjbbomokgpoilaaGreatDoor

/-
  grow, Alloc: an object that comes; no statement is proved here.
-/
namespace Go.Proofs.YtjbbomokgpoilaaGreatDoor
open Go.RowKit

def allocH (H : Hs) (size tag : Int) : Int × Int × Hs :=
  if Ok size ∧ 0 ≤ tag ∧ tag ≤ 2147483647 then
    match H.sp.findIdx? (fitS (roomN size)) with
    | some k => (adrAt H k (fz (spAt H k).S), 0, { H with sp := H.sp.set k (tkS (spAt H k) size tag), B := put H.B (adrAt H k (fz (spAt H k).S)) (fun _ => 0) (roomN size) })
    | none => match hole H.R (pgN size) with
      | none => (0, 7, H)
      | some i => (((((rnAt H.R i).s + 1) * 256 : Nat) : Int), 0, ⟨H.P, takeL H.R i (pgN size), insS H.sp (insK H.R i) (tkS (newS (rnAt H.R i).s (pgN size) (roomN size)) size tag), put H.B (((rnAt H.R i).s + 1) * 256) (fun _ => 0) (roomN size)⟩)
  else (0, 2, H)

theorem ow_of {w : World} {p ox : Nat} {T : TypeId} {cs : Array Value} {V : Value} {og : Nat} {O : List (Option Nat)} (hb : Bx T ox cs w p V) (ht : T ≠ 128) (hc : cs[ox + 2]? = some (.slice (some ⟨og, 0, none⟩) O.length O.length)) (hr : w.heap[og]? = some (.cells (ocells O).toArray 128 (0, 0))) : Ow ox w p og O := by
  refine ⟨⟨_, T, hb.at_, ht, ?_⟩, hr⟩
  rw [Array.getElem?_setIfInBounds, if_neg (by omega)]; exact hc

section
variable {p ox : Nat} {T : TypeId} {cs : Array Value} {F : Nat → Prop} {H : Hs} {ag og : Nat} {V : Value} {sb : Nat → Nat × Nat} {O : List (Option Nat)}

def GrPost (w : World) (p ox : Nat) (T : TypeId) (cs : Array Value) (og : Nat) (V : Value) (O : List (Option Nat)) (R : List Rn) (i n rm : Nat) (e : Ending) (w' : World) : Prop :=
  ∃ V' s g, e = .returned (.tuple #[.pointer (some ⟨s, 0, none⟩), .int .i64 0]) ∧ Rs T ox cs w' p V' (takeL R i n) ∧ OldNew w V V' ∧ w'.heap[og]? = some (.cells (ocells (ownL O (rnAt R i).s (some s) n)).toArray 128 (0, 0)) ∧
    Sp w' s g (rnAt R i).s n rm 0 (List.replicate (n * 256 / rm) (0, 0)) ∧ w.heap.size ≤ s ∧ w.heap.size ≤ g ∧ Ext (p :: og :: V.ownBlock.toList) w w'

set_option maxRecDepth 100000 in
set_option maxHeartbeats 4000000 in
theorem grow_ok (size : Int) (hO : Ok size) (i : Nat) (w : World) (hH : Hm w p ox T cs F H ag og V sb O) (hi : hole H.R (pgN size) = some i) :
    Calls Tryz.prog 102 #[.pointer (some ⟨p, ox, none⟩), .int .i64 size, .int .i64 (roomN size)] w (GrPost w p ox T cs og V O H.R i (pgN size) (roomN size)) := by
  obtain ⟨r1, r2, p1, p2, _, q1, q2, _, rp, _⟩ := room_ok hO
  obtain ⟨h1, h2, h3, h4⟩ := hole_some hi
  have K1 := fun u => pages_any size u
  rw [r2] at K1
  have hpe : pgE size = 0 := by unfold pgE; rw [if_pos hO]
  rw [hpe] at K1
  have hb := (hH.ok.inv.mem _ (rnAt_mem h1))
  have hP := hH.ok.P1
  have hlen := hH.ok.inv.len
  have K2 := alloc_hit p i (pgN size) V H.R w hH.rs p1 h1 h2 h3 (by omega) h4 (by omega)
  have K3 := fun u => newSpan_any ((rnAt H.R i).s : Int) (pgN size : Int) (roomN size : Int) (pgN size * 256 / roomN size) u (by omega) (by omega) (by simp)
  have HH := hid hH
  have HB : Hid ((rnAt H.R i).s + pgN size ≤ H.P) := by show _ ≤ _; omega
  clear r1 r2 rp h1 h2 h3 h4 hb hlen hpe hi q1 q2 p2 hH
  generalize roomN size = rm at *
  generalize pgN size = n at *
  generalize hL' : takeL H.R i n = L' at *
  have HL' := hid hL'
  clear hL'
  generalize hst : (rnAt H.R i).s = st at *
  have HST := hid hst
  clear hst
  have HOL : Hid (O.length = H.P) := HH.out.olen
  go_enter Tryz.func102, Tryz.ntmps102
  go_wp2_with (first | (go_at_call 91; refine met (K1 _) ?_) | (go_at_call 124; refine K2.mono ?_; clear K2; rintro e w1 ⟨V', rfl, hR, hON, hX⟩; replace hR := hid hR; replace hON := hid hON; replace hX := hid hX) | (go_at_call 125; refine (K3 _).mono ?_; clear K3; rintro e w2 ⟨rfl, hS, hE⟩; replace hS := hid hS; replace hE := hid hE) | fail "no arm")
  have hro : w1.heap[og]? = some (.cells (ocells O).toArray 128 (0, 0)) := hX.out.keep HH.out.owners (by
      simp only [List.mem_cons, not_or]
      exact ⟨ty_ne HH.out.owners HH.out.box.at_ (Ne.symm HH.out.ty.2.1), HH.out.vown HH.out.owners (by decide)⟩)
  have hro2 := hE.out.keep hro (by simp)
  have hOw : Ow ox w2 p og O := ow_of (hR.out.box.keep hE.out (by simp)) HH.out.ty.2.1 HH.out.co hro2
  have hsne : w1.heap.size + 1 ≠ og := by have := lt_of_heap hro; omega
  have K4 := own_any p og (w1.heap.size + 1) w1.heap.size O st n (rm : Int) 0 _ (some (w1.heap.size + 1)) w2 hOw hS.out hsne (by rw [HOL.out]; exact HB.out) (by rw [HOL.out]; exact hP)
  simp only [Option.map_some] at K4
  refine K4.mono ?_
  clear K4
  rintro e w3 ⟨rfl, hOw3, hE3⟩
  have HF : Hid (GrPost w p ox T cs og V O H.R i n rm (.returned (.tuple #[.pointer (some ⟨w1.heap.size + 1, 0, none⟩), .int .i64 0])) w3) := by
    have hz := hX.out.size
    have hon : p ≠ og := ty_ne HH.out.box.at_ HH.out.owners HH.out.ty.2.1
    have hR3 : Rs T ox cs w3 p V' (takeL H.R i n) := by
      rw [HL'.out]
      refine (hR.out.keep0 hE.out).keep hE3 (by simpa using hon) (fun b hb hv => ?_)
      simp only [List.mem_singleton] at hb
      subst hb
      exact own_ne (hR.out.keep0 hE.out).row hro2 (by decide) hv
    refine ⟨V', _, w1.heap.size, rfl, hR3, hON.out, by rw [HST.out]; exact hOw3.row, by rw [HST.out]; exact hS.out.keep hE3 (by simpa using hsne) (by have := lt_of_heap hro; simp; omega), by omega, by omega, ?_⟩
    refine ⟨(hE3.os.trans hE.out.os).trans hX.out.os, (hE3.tape.trans hE.out.tape).trans hX.out.tape, (hE3.output.trans hE.out.output).trans hX.out.output, by have := hE.out.size; have := hE3.size; omega, fun k hk hn => ?_⟩
    simp only [List.mem_cons, not_or] at hn
    have hk2 := hE.out.size
    rw [hE3.block k (by omega) (by simpa using hn.2.1), hE.out.block k (by omega) (by simp), hX.out.block k hk (by simp only [List.mem_cons, not_or]; exact ⟨hn.1, hn.2.2⟩)]
  clear hOw3 hE3 hOw hro hro2 hsne
  go_wp2_with fail
  go_ret2
  exact HF.out

set_option maxRecDepth 100000 in
set_option maxHeartbeats 4000000 in
theorem grow_full (size : Int) (hO : Ok size) (w : World) (hH : Hm w p ox T cs F H ag og V sb O) (hi : hole H.R (pgN size) = none) :
    Calls Tryz.prog 102 #[.pointer (some ⟨p, ox, none⟩), .int .i64 size, .int .i64 (roomN size)] w (HPost w p ox T cs F H (.tuple #[.pointer none, .int .i64 7])) := by
  obtain ⟨r1, r2, p1, p2, _, q1, q2, _, rp, _⟩ := room_ok hO
  have h4 := hole_none hi
  have K1 := fun u => pages_any size u
  rw [r2] at K1
  have hpe : pgE size = 0 := by unfold pgE; rw [if_pos hO]
  rw [hpe] at K1
  have hP := hH.ok.P1
  have hlen := hH.ok.inv.len
  have K2 := alloc_full p (pgN size : Int) V H.R w hH.rs (by omega) (fun j hj => (h4 j hj).imp id (by omega)) (by omega)
  have HH := hid hH
  clear r1 r2 rp h4 hlen hpe hi q1 q2 p2 hH
  generalize roomN size = rm at *
  generalize pgN size = n at *
  go_enter Tryz.func102, Tryz.ntmps102
  go_wp2_with (first | (go_at_call 91; refine met (K1 _) ?_) | (go_at_call 124; refine K2.mono ?_; clear K2; rintro e w1 ⟨V', rfl, hR, hON, hX⟩; replace hR := hid hR; replace hON := hid hON; replace hX := hid hX) | fail "no arm")
  go_ret2
  exact ⟨rfl, _, ⟨_, _, _, _, _, HH.out.rerun hX.out hR.out hON.out⟩, Fx.of_ext hX.out (by
    simp only [List.mem_cons, Option.mem_toList]
    rintro b (rfl | hb)
    · exact .inl (.inl rfl)
    · exact .inl (.inr (HH.out.fv b hb))), fun _ h => h⟩

theorem halloc_bad (size tag : Int) (w : World) (hG : Gl w) (q : Addr) (hb : ¬ (Ok size ∧ 0 ≤ tag ∧ tag ≤ 2147483647)) :
    Calls Tryz.prog 69 #[.pointer (some q), .int .i64 size, .int .i64 tag] w fun e w' => e = .returned (.tuple #[.int .i64 0, .int .i64 2]) ∧ w' = w := by
  have K := room_any size w hG
  by_cases hO : Ok size
  · have hpe : pgE size = 0 := by unfold pgE; rw [if_pos hO]
    rw [hpe] at K
    generalize rmV size = rv at *
    clear hpe
    by_cases h1 : tag < 0
    · clear hb hO
      go_enter Tryz.func69, Tryz.ntmps69
      go_wp2_with (first | (go_at_call 90; refine met K ?_) | fail "no arm")
      go_ret2
      exact ⟨rfl, rfl⟩
    · have h2 : 2147483647 < tag := by
        rcases Int.lt_or_le 2147483647 tag with q | q
        · exact q
        · exact absurd ⟨hO, by omega, q⟩ hb
      clear hb hO
      go_enter Tryz.func69, Tryz.ntmps69
      go_wp2_with (first | (go_at_call 90; refine met K ?_) | fail "no arm")
      go_ret2
      exact ⟨rfl, rfl⟩
  · have hpe : pgE size = 2 := by unfold pgE; rw [if_neg hO]
    rw [hpe] at K
    generalize rmV size = rv at *
    clear hb hO hpe
    go_enter Tryz.func69, Tryz.ntmps69
    go_wp2_with (first | (go_at_call 90; refine met K ?_) | fail "no arm")
    go_ret2
    exact ⟨rfl, rfl⟩

theorem findIdx_find {L : List Spn} {f : Spn → Bool} {k : Nat} (h : L.findIdx? f = some k) : ∃ x, L[k]? = some x ∧ L.find? f = some x ∧ f x = true := by
  rw [List.findIdx?_eq_some_iff_getElem] at h
  obtain ⟨hk, h1, h2⟩ := h
  refine ⟨L[k], List.getElem?_eq_getElem hk, ?_, h1⟩
  rw [List.find?_eq_some_iff_getElem]
  exact ⟨h1, k, hk, rfl, fun j hj => by simpa using h2 j hj⟩
theorem findIdx_none {L : List Spn} {f : Spn → Bool} (h : L.findIdx? f = none) : L.find? f = none := by
  rw [List.findIdx?_eq_none_iff] at h
  rw [List.find?_eq_none]
  intro x hx
  rw [h x hx]; simp

set_option maxRecDepth 100000 in
set_option maxHeartbeats 8000000 in
theorem halloc_hit (size tag : Int) (k : Nat) (w : World) (hG : Gl w) (hO : Ok size) (ht : 0 ≤ tag ∧ tag ≤ 2147483647) (hH : Hm w p ox T cs F H ag og V sb O) (hk : H.sp.findIdx? (fitS (roomN size)) = some k) :
    Calls Tryz.prog 69 #[.pointer (some ⟨p, ox, none⟩), .int .i64 size, .int .i64 tag] w (HPost w p ox T cs F { H with sp := H.sp.set k (tkS (spAt H k) size tag), B := put H.B (adrAt H k (fz (spAt H k).S)) (fun _ => 0) (roomN size) } (.tuple #[.int .i64 (adrAt H k (fz (spAt H k).S)), .int .i64 0])) := by
  obtain ⟨r1, r2, p1, p2, q0, q1, q2, sr, rp, _⟩ := room_ok hO
  obtain ⟨x, hx, hf, hfit⟩ := findIdx_find hk
  have K := room_any size w hG
  have hpe : pgE size = 0 := by unfold pgE; rw [if_pos hO]
  rw [hpe, r1] at K
  have KO := open_any (roomN size) w hH
  rw [hf] at KO
  have hxm := List.mem_of_getElem? hx
  have hxo := hH.ok.ok x hxm
  have e := spAt_eq hx
  rw [e]
  unfold fitS at hfit
  simp only [Bool.and_eq_true, decide_eq_true_eq] at hfit
  obtain ⟨hrm, hus⟩ := hfit
  obtain ⟨z1, z2, z3⟩ := fz_spec hus (fun y hy => (hxo.sz y hy).1)
  have hP := hH.ok.P1
  have hle := hH.ok.le hxm
  have hl2 := hxo.len2 (by omega)
  have hul := us_le x.S
  have KT := fun u (hu : Ext [] w u) => stake_any (sb x.st).1 (sb x.st).2 x.st x.n x.rm (us x.S) size tag x.S (fz x.S) u ((hH.spans x hxm).keep hu (by simp) (by simp)) z1 hl2 z3 z2 (by omega)
  have husz : us (x.S.set (fz x.S) (size, tag)) = us x.S + 1 := by
    have := us_set z1 (size, tag)
    rw [if_neg (by rw [z2]; simp), if_pos (show 0 < (size, tag).1 by have := hO.1; simp only; omega)] at this
    omega
  have hok' : (tkS x size tag).Ok := hxo.set ⟨by have := hO.1; simp only; omega, by simp only; rw [hrm]; exact sr⟩ ht (by rw [husz]; omega)
  have hlk : k < H.sp.length := (List.getElem?_eq_some_iff.1 hx).1
  -- behind the slot
  have HT : Hid (∀ u w2, Ext [] w u → TakePost u (sb x.st).1 (sb x.st).2 x.st x.n x.rm ((us x.S : Int) + 1) (x.S.set (fz x.S) (size, tag)) (.int .i64 (fz x.S)) (.returned (.int .i64 (fz x.S))) w2 →
      Hm w2 p ox T cs F { H with sp := H.sp.set k (tkS x size tag) } ag og V sb O ∧ Ext [(sb x.st).1, (sb x.st).2] w w2) := by
    rintro u w2 hu ⟨_, hS, hE⟩
    refine ⟨(hH.keep0 hu).slotted hx hE ?_ hok', (hu.mono (by simp)).trans hE⟩
    rw [husz]; exact hS
  have hsp2 : spAt { H with sp := H.sp.set k (tkS x size tag) } k = tkS x size tag := spAt_eq (by simp [hlk])
  have had : adrAt { H with sp := H.sp.set k (tkS x size tag) } k (fz x.S) = adrAt H k (fz x.S) := by unfold adrAt; rw [hsp2, e]; rfl
  have HA : Hid (∀ w2, Hm w2 p ox T cs F { H with sp := H.sp.set k (tkS x size tag) } ag og V sb O → ∀ m, Calls Tryz.prog 74 #[.pointer (some ⟨(sb x.st).1, 0, none⟩), .int .i64 (fz x.S)] (w2.drewN m) (Qt (w2.drewN m) (.int .i64 (adrAt H k (fz x.S))))) := fun w2 h2 m => by
    have hs2 : Slt { H with sp := H.sp.set k (tkS x size tag) } k (fz x.S) := h2.ok.slt (by simpa using hlk) (by rw [hsp2]; simpa [tkS] using z1)
    have := h2.addr_dr hs2 w2 (Ext.refl _ _) m
    rw [had, hsp2] at this
    exact this
  have hs0 : Slt H k (fz x.S) := hH.ok.slt hlk (by rw [e]; exact z1)
  have hhi := hs0.hi
  have hbl := hH.ok.bl
  rw [e, hrm] at hhi
  have HC : Hid (∀ w2, Hm w2 p ox T cs F { H with sp := H.sp.set k (tkS x size tag) } ag og V sb O → Calls Tryz.prog 104 #[.pointer (some ⟨p, ox, none⟩), .int .i64 (adrAt H k (fz x.S)), .int .i64 (roomN size)] w2 (TurnPost ox w2 p ag (put H.B (adrAt H k (fz x.S)) (fun _ => 0) (roomN size)))) := fun w2 h2 =>
    clear_ok _ _ p ag w2 H.B h2.ar (by omega)
  have HF : Hid (∀ w2 w3 B', Hm w2 p ox T cs F { H with sp := H.sp.set k (tkS x size tag) } ag og V sb O → Ext [(sb x.st).1, (sb x.st).2] w w2 → B' = put H.B (adrAt H k (fz x.S)) (fun _ => 0) (roomN size) → TurnPost ox w2 p ag B' (.returned (.int .i64 0)) w3 →
      ∀ r, HPost w p ox T cs F { H with sp := H.sp.set k (tkS x size tag), B := put H.B (adrAt H k (fz x.S)) (fun _ => 0) (roomN size) } r (.returned r) w3) := by
    rintro w2 w3 B' h2 hE rfl ⟨_, hA, hE3⟩ r
    refine ⟨rfl, F, ⟨_, _, _, _, _, h2.turn hE3 (length_put _ _ _ _) hA.row hA.ok⟩, ?_, fun _ h => .inl h⟩
    have hfs := hH.fs x hxm
    refine (Fx.of_ext hE (by
      simp only [List.mem_cons, List.not_mem_nil, or_false]
      rintro b (rfl | rfl)
      · exact .inl (.inr hfs.1)
      · exact .inl (.inr hfs.2))).trans (Fx.of_ext (B := fun k => k = ag) hE3 (by simp)) (fun y hy => .inl (.inr (by rw [hy]; exact hH.fa)))
  have hsz1 : ¬ tag < 0 := by omega
  have hsz2 : ¬ 2147483647 < tag := by omega
  obtain ⟨B', hB'⟩ : ∃ B', B' = put H.B (adrAt H k (fz x.S)) (fun _ => 0) (roomN size) := ⟨_, rfl⟩
  rw [← hB'] at HC
  have HB' := hid hB'
  obtain ⟨H', hH'⟩ : ∃ H' : Hs, H' = { H with sp := H.sp.set k (tkS x size tag), B := put H.B (adrAt H k (fz x.S)) (fun _ => 0) (roomN size) } := ⟨_, rfl⟩
  rw [← hH'] at HF ⊢
  replace KO : Calls Tryz.prog 92 #[.pointer (some ⟨p, ox, none⟩), .int .i64 (roomN size)] w (fun e w' => e = .returned (.pointer (some ⟨(sb x.st).1, 0, none⟩)) ∧ Ext [] w w') := KO
  clear hH' hB' hbl hhi hs0 had hsp2 hok' husz hul hl2 hle hP z1 z2 z3 hus hrm e hxo hpe r1 r2 p1 p2 q0 q1 q2 sr rp hf hk ht hO hx hxm hlk hH
  generalize (sb x.st).1 = s at *
  generalize (sb x.st).2 = g at *
  generalize adrAt H k (fz x.S) = ad at *
  generalize fz x.S = jj at *
  generalize roomN size = rm at *
  go_enter Tryz.func69, Tryz.ntmps69
  go_upto_region 9 with (first | (go_at_call 90; refine met K ?_) | (go_at_call 92; refine KO.mono ?_; clear KO; rintro e w1 ⟨rfl, hE1⟩; replace hE1 := hid hE1) | fail "no arm")
  have KT1 := KT w1 hE1.out
  have HT1 := hid (fun w2 h => HT.out w1 w2 hE1.out h)
  clear KT HT hE1 K
  go_wp2_with (first | (go_at_call 103; refine KT1.mono ?_; clear KT1; rintro e w2 ⟨rfl, hS, hE2⟩; have h2 := hid (HT1.out w2 ⟨rfl, hS, hE2⟩); clear hS hE2; have KA := HA.out w2 h2.out.1 0) | (go_at_call 74; refine KA.mono ?_; clear KA; rintro e w3 ⟨rfl, hm3⟩; replace hm3 := hid hm3; have KC := HC.out w3 (by obtain ⟨m3, e3⟩ := hm3.out; rw [e3]; exact h2.out.1.keep0 (Ext.drewN _ _ _))) | (go_at_call 104; refine KC.mono ?_; clear KC; rintro e w4 ⟨rfl, hA4, hE4⟩; replace hA4 := hid hA4; replace hE4 := hid hE4) | fail "no arm")
  go_ret2
  obtain ⟨m3, e3⟩ := hm3.out
  subst e3
  exact HF.out _ w4 B' (h2.out.1.keep0 (Ext.drewN _ _ _)) (h2.out.2.trans (Ext.drewN _ _ _)) HB'.out ⟨rfl, hA4.out, hE4.out⟩ _

end

end Go.Proofs.YtjbbomokgpoilaaGreatDoor

/-
  Alloc where a span is made, or none can be; Fits; no statement is proved here.
-/
namespace Go.Proofs.YtjbbomokgpoilaaGreatDoor
open Go.RowKit

section
variable {p ox : Nat} {T : TypeId} {cs : Array Value} {F : Nat → Prop} {H : Hs} {ag og : Nat} {V : Value} {sb : Nat → Nat × Nat} {O : List (Option Nat)}

set_option maxRecDepth 100000 in
set_option maxHeartbeats 8000000 in
theorem halloc_new (size tag : Int) (i : Nat) (w : World) (hG : Gl w) (hO : Ok size) (ht : 0 ≤ tag ∧ tag ≤ 2147483647) (hH : Hm w p ox T cs F H ag og V sb O) (hk : H.sp.findIdx? (fitS (roomN size)) = none) (hi : hole H.R (pgN size) = some i) :
    Calls Tryz.prog 69 #[.pointer (some ⟨p, ox, none⟩), .int .i64 size, .int .i64 tag] w (HPost w p ox T cs F ⟨H.P, takeL H.R i (pgN size), insS H.sp (insK H.R i) (tkS (newS (rnAt H.R i).s (pgN size) (roomN size)) size tag), put H.B (((rnAt H.R i).s + 1) * 256) (fun _ => 0) (roomN size)⟩ (.tuple #[.int .i64 ((((rnAt H.R i).s + 1) * 256 : Nat) : Int), .int .i64 0])) := by
  obtain ⟨r1, r2, p1, p2, q0, q1, q2, sr, rp, _⟩ := room_ok hO
  obtain ⟨h1, h2, h3, h4⟩ := hole_some hi
  have K := room_any size w hG
  have hpe : pgE size = 0 := by unfold pgE; rw [if_pos hO]
  rw [hpe, r1] at K
  have KO := open_any (roomN size) w hH
  rw [findIdx_none hk] at KO
  replace KO : Calls Tryz.prog 92 #[.pointer (some ⟨p, ox, none⟩), .int .i64 (roomN size)] w (fun e w' => e = .returned (.pointer none) ∧ Ext [] w w') := KO
  have KG := fun u (hu : Ext [] w u) => grow_ok size hO i u (hH.keep0 hu) hi
  have hb := (hH.ok.inv.mem _ (rnAt_mem h1))
  have hP := hH.ok.P1
  have hlen := hH.ok.inv.len
  have hbl := hH.ok.bl
  obtain ⟨hno, hf0, hl1⟩ := new_ok hO ht (rnAt H.R i).s
  obtain ⟨st, hst⟩ : ∃ st, st = (rnAt H.R i).s := ⟨_, rfl⟩
  obtain ⟨nn, hnn⟩ : ∃ nn, nn = pgN size * 256 / roomN size := ⟨_, rfl⟩
  have hnl : nn ≤ 65536 := by
    have : pgN size * 256 / roomN size ≤ pgN size * 256 := Nat.div_le_self _ _
    omega
  have hsl : (newS (rnAt H.R i).s (pgN size) (roomN size)).S = List.replicate nn (0, 0) := by rw [hnn]; rfl
  rw [hsl] at hf0
  have husz : us ((List.replicate nn ((0 : Int), (0 : Int))).set 0 (size, tag)) = 1 := by
    have := us_set (S := List.replicate nn ((0 : Int), (0 : Int))) (k := 0) (by rw [List.length_replicate]; omega) (size, tag)
    rw [getD_rep, us_rep, if_neg (by simp), if_pos (show 0 < (size, tag).1 by have := hO.1; simp only; omega)] at this
    omega
  have htk : tkS (newS (rnAt H.R i).s (pgN size) (roomN size)) size tag = ⟨(rnAt H.R i).s, pgN size, roomN size, (List.replicate nn (0, 0)).set 0 (size, tag)⟩ := by
    unfold tkS; rw [hsl, hf0]; rfl
  rw [htk] at hno ⊢
  -- behind grow and the slot
  have HT : Hid (∀ u w1 w2 V' s g, Ext [] w u → Rs T ox cs w1 p V' (takeL H.R i (pgN size)) → OldNew u V V' → w1.heap[og]? = some (.cells (ocells (ownL O (rnAt H.R i).s (some s) (pgN size))).toArray 128 (0, 0)) →
      Sp w1 s g (rnAt H.R i).s (pgN size) (roomN size) 0 (List.replicate nn (0, 0)) → u.heap.size ≤ s → u.heap.size ≤ g → Ext (p :: og :: V.ownBlock.toList) u w1 →
      TakePost w1 s g (rnAt H.R i).s (pgN size) (roomN size) (0 + 1) ((List.replicate nn (0, 0)).set 0 (size, tag)) (.int .i64 0) (.returned (.int .i64 0)) w2 →
      Hm w2 p ox T cs (fun k => F k ∨ u.heap.size ≤ k) ⟨H.P, takeL H.R i (pgN size), insS H.sp (insK H.R i) ⟨(rnAt H.R i).s, pgN size, roomN size, (List.replicate nn (0, 0)).set 0 (size, tag)⟩, H.B⟩ ag og V' (sbUp sb (rnAt H.R i).s s g) (ownL O (rnAt H.R i).s (some s) (pgN size)) ∧ Ext (p :: og :: V.ownBlock.toList) u w2 ∧ Sp w2 s g (rnAt H.R i).s (pgN size) (roomN size) (0 + 1) ((List.replicate nn (0, 0)).set 0 (size, tag))) := by
    rintro u w1 w2 V' s g hu hR hON hOw hS hsu hgu hE ⟨_, hS2, hE2⟩
    have hu0 := hH.keep0 hu
    have hps : p ≠ s := by have := hu0.pt; omega
    have hpg : p ≠ g := by have := hu0.pt; omega
    have hos : og ≠ s := by have := lt_of_heap hu0.owners; omega
    have hog : og ≠ g := by have := lt_of_heap hu0.owners; omega
    have hE12 : Ext (p :: og :: V.ownBlock.toList) u w2 := by
      refine ⟨hE2.os.trans hE.os, hE2.tape.trans hE.tape, hE2.output.trans hE.output, Nat.le_trans hE.size hE2.size, fun k hk hn => ?_⟩
      rw [hE2.block k (by have := hE.size; omega) (by simp; omega), hE.block k hk hn]
    refine ⟨hu0.grown hE12 h1 h2 p1 h3 (hR.keep hE2 (by simp [hps, hpg]) (fun b hb hv => ?_)) hON (hE2.keep hOw (by simp [hos, hog])) ?_ hsu hgu hno, hE12, hS2⟩
    · simp only [List.mem_cons, List.not_mem_nil, or_false] at hb
      rcases hb with rfl | rfl
      · exact own_ne hR.row hS.box (by decide) hv
      · exact own_ne hR.row hS.row (by decide) hv
    · rw [husz]; exact hS2
  have KT := fun u s g (hS : Sp u s g (rnAt H.R i).s (pgN size) (roomN size) 0 (List.replicate nn (0, 0))) => stake_any s g (rnAt H.R i).s (pgN size) (roomN size) 0 size tag (List.replicate nn (0, 0)) 0 u hS (by rw [List.length_replicate]; omega) (by rw [List.length_replicate]; omega) (by simp) (by rw [getD_rep]) (by omega)
  have HC : Hid (∀ w2 F' V' sb' O' L, Hm w2 p ox T cs F' ⟨H.P, takeL H.R i (pgN size), L, H.B⟩ ag og V' sb' O' → Calls Tryz.prog 104 #[.pointer (some ⟨p, ox, none⟩), .int .i64 ((((rnAt H.R i).s + 1) * 256 : Nat) : Int), .int .i64 (roomN size)] w2 (TurnPost ox w2 p ag (put H.B (((rnAt H.R i).s + 1) * 256) (fun _ => 0) (roomN size)))) := fun w2 F' V' sb' O' L h2 =>
    clear_ok _ _ p ag w2 H.B h2.ar (by omega)
  have HA : Hid (∀ w2 s g S', Sp w2 s g (rnAt H.R i).s (pgN size) (roomN size) (0 + 1) S' → Calls Tryz.prog 74 #[.pointer (some ⟨s, 0, none⟩), .int .i64 0] w2 (Qt w2 (.int .i64 ((((rnAt H.R i).s + 1) * 256 : Nat) : Int)))) := fun w2 s g S' hS => by
    have := addr_dr s g (rnAt H.R i).s (pgN size) (roomN size) (0 + 1) 0 S' w2 hS (by omega) (by omega) (by omega)
    rw [Int.zero_mul, Int.add_zero] at this
    rw [show ((((rnAt H.R i).s + 1) * 256 : Nat) : Int) = (((rnAt H.R i).s : Int) + 1) * 256 by omega]
    exact this
  have HF : Hid (∀ u w2 w3 V' sb' O' L B', Ext [] w u → Hm w2 p ox T cs (fun k => F k ∨ u.heap.size ≤ k) ⟨H.P, takeL H.R i (pgN size), L, H.B⟩ ag og V' sb' O' → Ext (p :: og :: V.ownBlock.toList) u w2 → B' = put H.B (((rnAt H.R i).s + 1) * 256) (fun _ => 0) (roomN size) → TurnPost ox w2 p ag B' (.returned (.int .i64 0)) w3 →
      ∀ r, HPost w p ox T cs F ⟨H.P, takeL H.R i (pgN size), L, put H.B (((rnAt H.R i).s + 1) * 256) (fun _ => 0) (roomN size)⟩ r (.returned r) w3) := by
    rintro u w2 w3 V' sb' O' L B' hu h2 hE rfl ⟨_, hA, hE3⟩ r
    have hz := hu.size
    refine ⟨rfl, (fun k => F k ∨ u.heap.size ≤ k), ⟨_, _, _, _, _, h2.turn hE3 (length_put _ _ _ _) hA.row hA.ok⟩, ?_, fun k h => h.imp id (by omega)⟩
    refine ((Fx.of_ext0 (B := fun k => k = p ∨ F k) hu).trans (Fx.of_ext (B := fun k => k = p ∨ F k) hE ?_) (fun y hy => .inl hy)).trans (Fx.of_ext (B := fun k => k = ag) hE3 (by simp)) (fun y hy => .inl (.inr (by rw [hy]; exact hH.fa)))
    simp only [List.mem_cons, Option.mem_toList]
    rintro b (rfl | rfl | hb)
    · exact .inl (.inl rfl)
    · exact .inl (.inr hH.fo)
    · exact .inl (.inr (hH.fv b hb))
  have hsz1 : ¬ tag < 0 := by omega
  have hsz2 : ¬ 2147483647 < tag := by omega
  obtain ⟨B', hB'⟩ : ∃ B', B' = put H.B (((rnAt H.R i).s + 1) * 256) (fun _ => 0) (roomN size) := ⟨_, rfl⟩
  rw [← hB'] at HC
  have HB' := hid hB'
  have KG2 : ∀ u, Ext [] w u → Calls Tryz.prog 102 #[.pointer (some ⟨p, ox, none⟩), .int .i64 size, .int .i64 (roomN size)] u (fun e w' => ∃ V' s g, e = .returned (.tuple #[.pointer (some ⟨s, 0, none⟩), .int .i64 0]) ∧ Hid (Rs T ox cs w' p V' (takeL H.R i (pgN size)) ∧ OldNew u V V' ∧ w'.heap[og]? = some (.cells (ocells (ownL O (rnAt H.R i).s (some s) (pgN size))).toArray 128 (0, 0)) ∧
    Sp w' s g (rnAt H.R i).s (pgN size) (roomN size) 0 (List.replicate nn (0, 0)) ∧ u.heap.size ≤ s ∧ u.heap.size ≤ g ∧ Ext (p :: og :: V.ownBlock.toList) u w')) := fun u hu => (KG u hu).mono (by
      rintro e w' ⟨V', s, g, he, hq⟩
      rw [← hnn] at hq
      exact ⟨V', s, g, he, hq⟩)
  generalize hLL : insS H.sp (insK H.R i) ⟨(rnAt H.R i).s, pgN size, roomN size, (List.replicate nn (0, 0)).set 0 (size, tag)⟩ = LL at *
  generalize had : ((rnAt H.R i).s + 1) * 256 = ad at *
  clear hLL had hB' KG htk husz hsl hf0 hnl hnn hst hl1 hno hbl hlen hP hb h1 h2 h3 h4 hpe r1 r2 p1 p2 q0 q1 q2 sr rp hk hi ht hO hH
  generalize (rnAt H.R i).s = s0 at *
  generalize roomN size = rm at *
  go_enter Tryz.func69, Tryz.ntmps69
  go_upto_region 6 with (first | (go_at_call 90; refine met K ?_) | (go_at_call 92; refine KO.mono ?_; clear KO; rintro e w1 ⟨rfl, hE1⟩; replace hE1 := hid hE1) | fail "no arm")
  have KG1 := KG2 w1 hE1.out
  clear KG2 K
  go_wp2_with (first | (go_at_call 102; refine KG1.mono ?_; clear KG1; rintro e w2 ⟨V', s, g, rfl, hq⟩; have KT1 := KT w2 s g hq.out.2.2.2.1) | (go_at_call 103; refine KT1.mono ?_; clear KT1; rintro e w3 ⟨rfl, hS, hE2⟩; have h2 := hid (HT.out w1 w2 w3 V' s g hE1.out hq.out.1 hq.out.2.1 hq.out.2.2.1 hq.out.2.2.2.1 hq.out.2.2.2.2.1 hq.out.2.2.2.2.2.1 hq.out.2.2.2.2.2.2 ⟨rfl, hS, hE2⟩); clear hS hE2; have KA := HA.out w3 s g _ h2.out.2.2) | (go_at_call 74; refine KA.mono ?_; clear KA; rintro e w4 ⟨rfl, hm3⟩; replace hm3 := hid hm3; have KC := HC.out w4 _ _ _ _ _ (by obtain ⟨m3, e3⟩ := hm3.out; rw [e3]; exact h2.out.1.keep0 (Ext.drewN _ _ _))) | (go_at_call 104; refine KC.mono ?_; clear KC; rintro e w5 ⟨rfl, hA4, hE4⟩; replace hA4 := hid hA4; replace hE4 := hid hE4) | fail "no arm")
  go_ret2
  obtain ⟨m3, e3⟩ := hm3.out
  subst e3
  exact HF.out w1 _ w5 _ _ _ _ B' hE1.out (h2.out.1.keep0 (Ext.drewN _ _ _)) (h2.out.2.1.trans (Ext.drewN _ _ _)) HB'.out ⟨rfl, hA4.out, hE4.out⟩ _

set_option maxRecDepth 100000 in
set_option maxHeartbeats 4000000 in
theorem halloc_full (size tag : Int) (w : World) (hG : Gl w) (hO : Ok size) (ht : 0 ≤ tag ∧ tag ≤ 2147483647) (hH : Hm w p ox T cs F H ag og V sb O) (hk : H.sp.findIdx? (fitS (roomN size)) = none) (hi : hole H.R (pgN size) = none) :
    Calls Tryz.prog 69 #[.pointer (some ⟨p, ox, none⟩), .int .i64 size, .int .i64 tag] w (HPost w p ox T cs F H (.tuple #[.int .i64 0, .int .i64 7])) := by
  obtain ⟨r1, _⟩ := room_ok hO
  have K := room_any size w hG
  have hpe : pgE size = 0 := by unfold pgE; rw [if_pos hO]
  rw [hpe, r1] at K
  have KO := open_any (roomN size) w hH
  rw [findIdx_none hk] at KO
  replace KO : Calls Tryz.prog 92 #[.pointer (some ⟨p, ox, none⟩), .int .i64 (roomN size)] w (fun e w' => e = .returned (.pointer none) ∧ Ext [] w w') := KO
  have KG := fun u (hu : Ext [] w u) => grow_full size hO u (hH.keep0 hu) hi
  have hsz1 : ¬ tag < 0 := by omega
  have hsz2 : ¬ 2147483647 < tag := by omega
  clear ht hk hi hO hpe r1 hH
  generalize roomN size = rm at *
  go_enter Tryz.func69, Tryz.ntmps69
  go_upto_region 6 with (first | (go_at_call 90; refine met K ?_) | (go_at_call 92; refine KO.mono ?_; clear KO; rintro e w1 ⟨rfl, hE1⟩; replace hE1 := hid hE1) | fail "no arm")
  have KG1 := KG w1 hE1.out
  clear KG K
  go_wp2_with (first | (go_at_call 102; refine KG1.mono ?_; clear KG1; rintro e w2 ⟨rfl, hq⟩; replace hq := hid hq) | fail "no arm")
  go_ret2
  obtain ⟨F', h1, h2, h3⟩ := hq.out
  have hz := hE1.out.size
  exact ⟨rfl, F', h1, (Fx.of_ext0 (B := fun k => k = p ∨ F k) hE1.out).trans h2 (fun y hy => .inl hy), fun k hk => (h3 k hk).imp id (by omega)⟩

theorem halloc_any (size tag : Int) (w : World) (hG : Gl w) (hH : Hw w p ox T cs F H) :
    Calls Tryz.prog 69 #[.pointer (some ⟨p, ox, none⟩), .int .i64 size, .int .i64 tag] w (HPost w p ox T cs F (allocH H size tag).2.2 (.tuple #[.int .i64 (allocH H size tag).1, .int .i64 (allocH H size tag).2.1])) := by
  obtain ⟨ag, og, V, sb, O, hH⟩ := hH
  unfold allocH
  split
  · rename_i hc
    split
    · exact halloc_hit size tag _ w hG hc.1 hc.2 hH ‹_›
    · split
      · exact halloc_full size tag w hG hc.1 hc.2 hH ‹_› ‹_›
      · exact halloc_new size tag _ w hG hc.1 hc.2 hH ‹_› ‹_›
  · rename_i hc
    refine (halloc_bad size tag w hG _ hc).mono ?_
    rintro _ _ ⟨rfl, rfl⟩
    exact hpost_keep hH (Ext.refl _ _) _

end

end Go.Proofs.YtjbbomokgpoilaaGreatDoor

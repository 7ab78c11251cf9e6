/-
  grow, Alloc: an object that comes; no statement is proved here.
-/
import Derived.Test.YtlajjcboahflbaaDoorTurn
namespace Go.Proofs.YtlajjcboahflbaaDoor
open Go.RowKit

def allocH (H : Hs) (size tag : Int) : Int × Int × Hs :=
  if Ok size ∧ 0 ≤ tag ∧ tag ≤ 2147483647 then
    match H.sp.findIdx? (fitS (roomN size)) with
    | some k => (adrAt H k (fz (spAt H k).S), 0, { H with sp := H.sp.set k (tkS (spAt H k) size tag), B := put H.B (adrAt H k (fz (spAt H k).S)) (fun _ => 0) (roomN size) })
    | none => match hole H.R (pgN size) with
      | none => (0, 7, H)
      | some i => (((((rnAt H.R i).s + 1) * 256 : Nat) : Int), 0, ⟨H.P, takeL H.R i (pgN size), insS H.sp (insK H.R i) (tkS (newS (rnAt H.R i).s (pgN size) (roomN size)) size tag), put H.B (((rnAt H.R i).s + 1) * 256) (fun _ => 0) (roomN size)⟩)
  else (0, 2, H)

theorem ow_of {w : World} {p ox : Nat} {T : TypeId} {cs : Array Value} {V : Value} {og : Nat} {O : List (Option Nat)} (hb : Bx T ox cs w p V) (ht : T ≠ 85) (hc : cs[ox + 2]? = some (.slice (some ⟨og, 0, none⟩) O.length O.length)) (hr : w.heap[og]? = some (.cells (ocells O).toArray 85 (0, 0))) : Ow ox w p og O := by
  refine ⟨⟨_, T, hb.at_, ht, ?_⟩, hr⟩
  rw [Array.getElem?_setIfInBounds, if_neg (by omega)]; exact hc

section
variable {p ox : Nat} {T : TypeId} {cs : Array Value} {F : Nat → Prop} {H : Hs} {ag og : Nat} {V : Value} {sb : Nat → Nat × Nat} {O : List (Option Nat)}

def GrPost (w : World) (p ox : Nat) (T : TypeId) (cs : Array Value) (og : Nat) (V : Value) (O : List (Option Nat)) (R : List Rn) (i n rm : Nat) (e : Ending) (w' : World) : Prop :=
  ∃ V' s g, e = .returned (.tuple #[.pointer (some ⟨s, 0, none⟩), .int .i64 0]) ∧ Rs T ox cs w' p V' (takeL R i n) ∧ OldNew w V V' ∧ w'.heap[og]? = some (.cells (ocells (ownL O (rnAt R i).s (some s) n)).toArray 85 (0, 0)) ∧
    Sp w' s g (rnAt R i).s n rm 0 (List.replicate (n * 256 / rm) (0, 0)) ∧ w.heap.size ≤ s ∧ w.heap.size ≤ g ∧ Ext (p :: og :: V.ownBlock.toList) w w'

set_option maxRecDepth 100000 in
set_option maxHeartbeats 4000000 in
theorem grow_ok (size : Int) (hO : Ok size) (i : Nat) (w : World) (hH : Hm w p ox T cs F H ag og V sb O) (hi : hole H.R (pgN size) = some i) :
    Calls Tryd.prog 41 #[.pointer (some ⟨p, ox, none⟩), .int .i64 size, .int .i64 (roomN size)] w (GrPost w p ox T cs og V O H.R i (pgN size) (roomN size)) := by
  obtain ⟨r1, r2, p1, p2, _, q1, q2, _, rp, _⟩ := room_ok hO
  obtain ⟨h1, h2, h3, h4⟩ := hole_some hi
  have K1 := fun u => pages_any size u
  rw [r2] at K1
  have hpe : pgE size = 0 := by unfold pgE; rw [if_pos hO]
  rw [hpe] at K1
  have hb := (hH.ok.inv.mem _ (rnAt_mem h1))
  have hP := hH.ok.P1
  have hlen := hH.ok.inv.len
  have K2 := alloc_hit p i (pgN size) V H.R w hH.rs p1 h1 h2 h3 (by omega) h4 (by omega)
  have K3 := fun u => newSpan_any ((rnAt H.R i).s : Int) (pgN size : Int) (roomN size : Int) (pgN size * 256 / roomN size) u (by omega) (by omega) (by simp)
  have HH := hid hH
  have HB : Hid ((rnAt H.R i).s + pgN size ≤ H.P) := by show _ ≤ _; omega
  clear r1 r2 rp h1 h2 h3 h4 hb hlen hpe hi q1 q2 p2 hH
  generalize roomN size = rm at *
  generalize pgN size = n at *
  generalize hL' : takeL H.R i n = L' at *
  have HL' := hid hL'
  clear hL'
  generalize hst : (rnAt H.R i).s = st at *
  have HST := hid hst
  clear hst
  have HOL : Hid (O.length = H.P) := HH.out.olen
  go_enter Tryd.func41, Tryd.ntmps41
  go_wp2_with (first | (go_at_call 38; refine met (K1 _) ?_) | (go_at_call 72; refine K2.mono ?_; clear K2; rintro e w1 ⟨V', rfl, hR, hON, hX⟩; replace hR := hid hR; replace hON := hid hON; replace hX := hid hX) | (go_at_call 73; refine (K3 _).mono ?_; clear K3; rintro e w2 ⟨rfl, hS, hE⟩; replace hS := hid hS; replace hE := hid hE) | fail "no arm")
  have hro : w1.heap[og]? = some (.cells (ocells O).toArray 85 (0, 0)) := hX.out.keep HH.out.owners (by
      simp only [List.mem_cons, not_or]
      exact ⟨ty_ne HH.out.owners HH.out.box.at_ (Ne.symm HH.out.ty.2.1), HH.out.vown HH.out.owners (by decide)⟩)
  have hro2 := hE.out.keep hro (by simp)
  have hOw : Ow ox w2 p og O := ow_of (hR.out.box.keep hE.out (by simp)) HH.out.ty.2.1 HH.out.co hro2
  have hsne : w1.heap.size + 1 ≠ og := by have := lt_of_heap hro; omega
  have K4 := own_any p og (w1.heap.size + 1) w1.heap.size O st n (rm : Int) 0 _ (some (w1.heap.size + 1)) w2 hOw hS.out hsne (by rw [HOL.out]; exact HB.out) (by rw [HOL.out]; exact hP)
  simp only [Option.map_some] at K4
  refine K4.mono ?_
  clear K4
  rintro e w3 ⟨rfl, hOw3, hE3⟩
  have HF : Hid (GrPost w p ox T cs og V O H.R i n rm (.returned (.tuple #[.pointer (some ⟨w1.heap.size + 1, 0, none⟩), .int .i64 0])) w3) := by
    have hz := hX.out.size
    have hon : p ≠ og := ty_ne HH.out.box.at_ HH.out.owners HH.out.ty.2.1
    have hR3 : Rs T ox cs w3 p V' (takeL H.R i n) := by
      rw [HL'.out]
      refine (hR.out.keep0 hE.out).keep hE3 (by simpa using hon) (fun b hb hv => ?_)
      simp only [List.mem_singleton] at hb
      subst hb
      exact own_ne (hR.out.keep0 hE.out).row hro2 (by decide) hv
    refine ⟨V', _, w1.heap.size, rfl, hR3, hON.out, by rw [HST.out]; exact hOw3.row, by rw [HST.out]; exact hS.out.keep hE3 (by simpa using hsne) (by have := lt_of_heap hro; simp; omega), by omega, by omega, ?_⟩
    refine ⟨(hE3.os.trans hE.out.os).trans hX.out.os, (hE3.tape.trans hE.out.tape).trans hX.out.tape, (hE3.output.trans hE.out.output).trans hX.out.output, by have := hE.out.size; have := hE3.size; omega, fun k hk hn => ?_⟩
    simp only [List.mem_cons, not_or] at hn
    have hk2 := hE.out.size
    rw [hE3.block k (by omega) (by simpa using hn.2.1), hE.out.block k (by omega) (by simp), hX.out.block k hk (by simp only [List.mem_cons, not_or]; exact ⟨hn.1, hn.2.2⟩)]
  clear hOw3 hE3 hOw hro hro2 hsne
  go_wp2_with fail
  go_ret2
  exact HF.out

set_option maxRecDepth 100000 in
set_option maxHeartbeats 4000000 in
theorem grow_full (size : Int) (hO : Ok size) (w : World) (hH : Hm w p ox T cs F H ag og V sb O) (hi : hole H.R (pgN size) = none) :
    Calls Tryd.prog 41 #[.pointer (some ⟨p, ox, none⟩), .int .i64 size, .int .i64 (roomN size)] w (HPost w p ox T cs F H (.tuple #[.pointer none, .int .i64 7])) := by
  obtain ⟨r1, r2, p1, p2, _, q1, q2, _, rp, _⟩ := room_ok hO
  have h4 := hole_none hi
  have K1 := fun u => pages_any size u
  rw [r2] at K1
  have hpe : pgE size = 0 := by unfold pgE; rw [if_pos hO]
  rw [hpe] at K1
  have hP := hH.ok.P1
  have hlen := hH.ok.inv.len
  have K2 := alloc_full p (pgN size : Int) V H.R w hH.rs (by omega) (fun j hj => (h4 j hj).imp id (by omega)) (by omega)
  have HH := hid hH
  clear r1 r2 rp h4 hlen hpe hi q1 q2 p2 hH
  generalize roomN size = rm at *
  generalize pgN size = n at *
  go_enter Tryd.func41, Tryd.ntmps41
  go_wp2_with (first | (go_at_call 38; refine met (K1 _) ?_) | (go_at_call 72; refine K2.mono ?_; clear K2; rintro e w1 ⟨V', rfl, hR, hON, hX⟩; replace hR := hid hR; replace hON := hid hON; replace hX := hid hX) | fail "no arm")
  go_ret2
  exact ⟨rfl, _, ⟨_, _, _, _, _, HH.out.rerun hX.out hR.out hON.out⟩, Fx.of_ext hX.out (by
    simp only [List.mem_cons, Option.mem_toList]
    rintro b (rfl | hb)
    · exact .inl (.inl rfl)
    · exact .inl (.inr (HH.out.fv b hb))), fun _ h => h⟩

theorem halloc_bad (size tag : Int) (w : World) (hG : Gl w) (q : Addr) (hb : ¬ (Ok size ∧ 0 ≤ tag ∧ tag ≤ 2147483647)) :
    Calls Tryd.prog 15 #[.pointer (some q), .int .i64 size, .int .i64 tag] w fun e w' => e = .returned (.tuple #[.int .i64 0, .int .i64 2]) ∧ w' = w := by
  have K := room_any size w hG
  by_cases hO : Ok size
  · have hpe : pgE size = 0 := by unfold pgE; rw [if_pos hO]
    rw [hpe] at K
    generalize rmV size = rv at *
    clear hpe
    by_cases h1 : tag < 0
    · clear hb hO
      go_enter Tryd.func15, Tryd.ntmps15
      go_wp2_with (first | (go_at_call 37; refine met K ?_) | fail "no arm")
      go_ret2
      exact ⟨rfl, rfl⟩
    · have h2 : 2147483647 < tag := by
        rcases Int.lt_or_le 2147483647 tag with q | q
        · exact q
        · exact absurd ⟨hO, by omega, q⟩ hb
      clear hb hO
      go_enter Tryd.func15, Tryd.ntmps15
      go_wp2_with (first | (go_at_call 37; refine met K ?_) | fail "no arm")
      go_ret2
      exact ⟨rfl, rfl⟩
  · have hpe : pgE size = 2 := by unfold pgE; rw [if_neg hO]
    rw [hpe] at K
    generalize rmV size = rv at *
    clear hb hO hpe
    go_enter Tryd.func15, Tryd.ntmps15
    go_wp2_with (first | (go_at_call 37; refine met K ?_) | fail "no arm")
    go_ret2
    exact ⟨rfl, rfl⟩

theorem findIdx_find {L : List Spn} {f : Spn → Bool} {k : Nat} (h : L.findIdx? f = some k) : ∃ x, L[k]? = some x ∧ L.find? f = some x ∧ f x = true := by
  rw [List.findIdx?_eq_some_iff_getElem] at h
  obtain ⟨hk, h1, h2⟩ := h
  refine ⟨L[k], List.getElem?_eq_getElem hk, ?_, h1⟩
  rw [List.find?_eq_some_iff_getElem]
  exact ⟨h1, k, hk, rfl, fun j hj => by simpa using h2 j hj⟩
theorem findIdx_none {L : List Spn} {f : Spn → Bool} (h : L.findIdx? f = none) : L.find? f = none := by
  rw [List.findIdx?_eq_none_iff] at h
  rw [List.find?_eq_none]
  intro x hx
  rw [h x hx]; simp

set_option maxRecDepth 100000 in
set_option maxHeartbeats 8000000 in
theorem halloc_hit (size tag : Int) (k : Nat) (w : World) (hG : Gl w) (hO : Ok size) (ht : 0 ≤ tag ∧ tag ≤ 2147483647) (hH : Hm w p ox T cs F H ag og V sb O) (hk : H.sp.findIdx? (fitS (roomN size)) = some k) :
    Calls Tryd.prog 15 #[.pointer (some ⟨p, ox, none⟩), .int .i64 size, .int .i64 tag] w (HPost w p ox T cs F { H with sp := H.sp.set k (tkS (spAt H k) size tag), B := put H.B (adrAt H k (fz (spAt H k).S)) (fun _ => 0) (roomN size) } (.tuple #[.int .i64 (adrAt H k (fz (spAt H k).S)), .int .i64 0])) := by
  obtain ⟨r1, r2, p1, p2, q0, q1, q2, sr, rp, _⟩ := room_ok hO
  obtain ⟨x, hx, hf, hfit⟩ := findIdx_find hk
  have K := room_any size w hG
  have hpe : pgE size = 0 := by unfold pgE; rw [if_pos hO]
  rw [hpe, r1] at K
  have KO := open_any (roomN size) w hH
  rw [hf] at KO
  have hxm := List.mem_of_getElem? hx
  have hxo := hH.ok.ok x hxm
  have e := spAt_eq hx
  rw [e]
  unfold fitS at hfit
  simp only [Bool.and_eq_true, decide_eq_true_eq] at hfit
  obtain ⟨hrm, hus⟩ := hfit
  obtain ⟨z1, z2, z3⟩ := fz_spec hus (fun y hy => (hxo.sz y hy).1)
  have hP := hH.ok.P1
  have hle := hH.ok.le hxm
  have hl2 := hxo.len2 (by omega)
  have hul := us_le x.S
  have KT := fun u (hu : Ext [] w u) => stake_any (sb x.st).1 (sb x.st).2 x.st x.n x.rm (us x.S) size tag x.S (fz x.S) u ((hH.spans x hxm).keep hu (by simp) (by simp)) z1 hl2 z3 z2 (by omega)
  have husz : us (x.S.set (fz x.S) (size, tag)) = us x.S + 1 := by
    have := us_set z1 (size, tag)
    rw [if_neg (by rw [z2]; simp), if_pos (show 0 < (size, tag).1 by have := hO.1; simp only; omega)] at this
    omega
  have hok' : (tkS x size tag).Ok := hxo.set ⟨by have := hO.1; simp only; omega, by simp only; rw [hrm]; exact sr⟩ ht (by rw [husz]; omega)
  have hlk : k < H.sp.length := (List.getElem?_eq_some_iff.1 hx).1
  -- behind the slot
  have HT : Hid (∀ u w2, Ext [] w u → TakePost u (sb x.st).1 (sb x.st).2 x.st x.n x.rm ((us x.S : Int) + 1) (x.S.set (fz x.S) (size, tag)) (.int .i64 (fz x.S)) (.returned (.int .i64 (fz x.S))) w2 →
      Hm w2 p ox T cs F { H with sp := H.sp.set k (tkS x size tag) } ag og V sb O ∧ Ext [(sb x.st).1, (sb x.st).2] w w2) := by
    rintro u w2 hu ⟨_, hS, hE⟩
    refine ⟨(hH.keep0 hu).slotted hx hE ?_ hok', (hu.mono (by simp)).trans hE⟩
    rw [husz]; exact hS
  have hsp2 : spAt { H with sp := H.sp.set k (tkS x size tag) } k = tkS x size tag := spAt_eq (by simp [hlk])
  have had : adrAt { H with sp := H.sp.set k (tkS x size tag) } k (fz x.S) = adrAt H k (fz x.S) := by unfold adrAt; rw [hsp2, e]; rfl
  have HA : Hid (∀ w2, Hm w2 p ox T cs F { H with sp := H.sp.set k (tkS x size tag) } ag og V sb O → ∀ m, Calls Tryd.prog 33 #[.pointer (some ⟨(sb x.st).1, 0, none⟩), .int .i64 (fz x.S)] (w2.drewN m) (Qt (w2.drewN m) (.int .i64 (adrAt H k (fz x.S))))) := fun w2 h2 m => by
    have hs2 : Slt { H with sp := H.sp.set k (tkS x size tag) } k (fz x.S) := h2.ok.slt (by simpa using hlk) (by rw [hsp2]; simpa [tkS] using z1)
    have := h2.addr_dr hs2 w2 (Ext.refl _ _) m
    rw [had, hsp2] at this
    exact this
  have hs0 : Slt H k (fz x.S) := hH.ok.slt hlk (by rw [e]; exact z1)
  have hhi := hs0.hi
  have hbl := hH.ok.bl
  rw [e, hrm] at hhi
  have HC : Hid (∀ w2, Hm w2 p ox T cs F { H with sp := H.sp.set k (tkS x size tag) } ag og V sb O → Calls Tryd.prog 43 #[.pointer (some ⟨p, ox, none⟩), .int .i64 (adrAt H k (fz x.S)), .int .i64 (roomN size)] w2 (TurnPost ox w2 p ag (put H.B (adrAt H k (fz x.S)) (fun _ => 0) (roomN size)))) := fun w2 h2 =>
    clear_ok _ _ p ag w2 H.B h2.ar (by omega)
  have HF : Hid (∀ w2 w3 B', Hm w2 p ox T cs F { H with sp := H.sp.set k (tkS x size tag) } ag og V sb O → Ext [(sb x.st).1, (sb x.st).2] w w2 → B' = put H.B (adrAt H k (fz x.S)) (fun _ => 0) (roomN size) → TurnPost ox w2 p ag B' (.returned (.int .i64 0)) w3 →
      ∀ r, HPost w p ox T cs F { H with sp := H.sp.set k (tkS x size tag), B := put H.B (adrAt H k (fz x.S)) (fun _ => 0) (roomN size) } r (.returned r) w3) := by
    rintro w2 w3 B' h2 hE rfl ⟨_, hA, hE3⟩ r
    refine ⟨rfl, F, ⟨_, _, _, _, _, h2.turn hE3 (length_put _ _ _ _) hA.row hA.ok⟩, ?_, fun _ h => .inl h⟩
    have hfs := hH.fs x hxm
    refine (Fx.of_ext hE (by
      simp only [List.mem_cons, List.not_mem_nil, or_false]
      rintro b (rfl | rfl)
      · exact .inl (.inr hfs.1)
      · exact .inl (.inr hfs.2))).trans (Fx.of_ext (B := fun k => k = ag) hE3 (by simp)) (fun y hy => .inl (.inr (by rw [hy]; exact hH.fa)))
  have hsz1 : ¬ tag < 0 := by omega
  have hsz2 : ¬ 2147483647 < tag := by omega
  obtain ⟨B', hB'⟩ : ∃ B', B' = put H.B (adrAt H k (fz x.S)) (fun _ => 0) (roomN size) := ⟨_, rfl⟩
  rw [← hB'] at HC
  have HB' := hid hB'
  obtain ⟨H', hH'⟩ : ∃ H' : Hs, H' = { H with sp := H.sp.set k (tkS x size tag), B := put H.B (adrAt H k (fz x.S)) (fun _ => 0) (roomN size) } := ⟨_, rfl⟩
  rw [← hH'] at HF ⊢
  replace KO : Calls Tryd.prog 39 #[.pointer (some ⟨p, ox, none⟩), .int .i64 (roomN size)] w (fun e w' => e = .returned (.pointer (some ⟨(sb x.st).1, 0, none⟩)) ∧ Ext [] w w') := KO
  clear hH' hB' hbl hhi hs0 had hsp2 hok' husz hul hl2 hle hP z1 z2 z3 hus hrm e hxo hpe r1 r2 p1 p2 q0 q1 q2 sr rp hf hk ht hO hx hxm hlk hH
  generalize (sb x.st).1 = s at *
  generalize (sb x.st).2 = g at *
  generalize adrAt H k (fz x.S) = ad at *
  generalize fz x.S = jj at *
  generalize roomN size = rm at *
  go_enter Tryd.func15, Tryd.ntmps15
  go_upto_region 9 with (first | (go_at_call 37; refine met K ?_) | (go_at_call 39; refine KO.mono ?_; clear KO; rintro e w1 ⟨rfl, hE1⟩; replace hE1 := hid hE1) | fail "no arm")
  have KT1 := KT w1 hE1.out
  have HT1 := hid (fun w2 h => HT.out w1 w2 hE1.out h)
  clear KT HT hE1 K
  go_wp2_with (first | (go_at_call 42; refine KT1.mono ?_; clear KT1; rintro e w2 ⟨rfl, hS, hE2⟩; have h2 := hid (HT1.out w2 ⟨rfl, hS, hE2⟩); clear hS hE2; have KA := HA.out w2 h2.out.1 0) | (go_at_call 33; refine KA.mono ?_; clear KA; rintro e w3 ⟨rfl, hm3⟩; replace hm3 := hid hm3; have KC := HC.out w3 (by obtain ⟨m3, e3⟩ := hm3.out; rw [e3]; exact h2.out.1.keep0 (Ext.drewN _ _ _))) | (go_at_call 43; refine KC.mono ?_; clear KC; rintro e w4 ⟨rfl, hA4, hE4⟩; replace hA4 := hid hA4; replace hE4 := hid hE4) | fail "no arm")
  go_ret2
  obtain ⟨m3, e3⟩ := hm3.out
  subst e3
  exact HF.out _ w4 B' (h2.out.1.keep0 (Ext.drewN _ _ _)) (h2.out.2.trans (Ext.drewN _ _ _)) HB'.out ⟨rfl, hA4.out, hE4.out⟩ _

end

end Go.Proofs.YtlajjcboahflbaaDoor

/-
  MScr, MDo: joined by program; no statement is proved here.
-/
import Derived.Test.YtjbbomokgpoilaaGreatDoorZMF
import Derived.Test.YtjbbomokgpoilaaGreatDoorZMC
import Derived.Test.YtjbbomokgpoilaaGreatDoorZMD
/-
  A script's addresses and words; no statement is proved here.
-/
namespace Go.Proofs.YtjbbomokgpoilaaGreatDoor
open Go.RowKit

/-- The address that a number stands for. -/
def adrF (L : List Int) (n : Int) : Int := if 0 < n ∧ n ≤ L.length then L.getD (n - 1).toNat 0 else n
def adrsF (L l : List Int) : List Int := l.map (adrF L)
def wordF (L : List Int) (v to : Int) : Int := if v ≠ 0 then v else IntKind.u64.wrap (adrF L to)

theorem address_any (w : World) (a : Option Addr) (n c : Nat) (L : List Int) (h : Co.Is w a L) (hn : L.length = n) (_hb : n ≤ 17592186044415) (x : Int) : Calls Tryz.prog 23 #[.slice a n c, .int .i64 x] w fun e w' => e = .returned (.int .i64 (adrF L x)) ∧ w' = w := by
  unfold adrF
  by_cases h1 : 0 < x
  · have d1 : decide (x > 0) = true := by simpa using h1
    by_cases h2 : x ≤ n
    · have d2 : decide (x ≤ (n : Int)) = true := by simpa using h2
      rw [if_pos ⟨h1, by omega⟩]
      obtain ⟨j, hj⟩ : ∃ j : Nat, x - 1 = j := ⟨(x - 1).toNat, by omega⟩
      have hjl : j < L.length := by omega
      obtain ⟨b, o, rfl, hc⟩ := Co.Is.cell h hjl
      rw [hj, Int.toNat_natCast]
      have hx1 : x = j + 1 := by omega
      subst hx1
      have hj1 : (j : Int) + 1 - 1 = j := by omega
      clear h hj
      generalize L.getD j 0 = y at *
      go_enter Tryz.func23, Tryz.ntmps23
      go_wp2_with fail
      go_ret
      exact ⟨rfl, rfl⟩
    · have d2 : decide (x ≤ (n : Int)) = false := by simpa using h2
      rw [if_neg (by omega)]
      clear h
      go_enter Tryz.func23, Tryz.ntmps23
      go_wp2_with fail
      go_ret
      exact ⟨rfl, rfl⟩
  · have d1 : decide (x > 0) = false := by simpa using h1
    rw [if_neg (by omega)]
    clear h
    go_enter Tryz.func23, Tryz.ntmps23
    go_wp2_with fail
    go_ret
    exact ⟨rfl, rfl⟩

set_option maxHeartbeats 1000000 in
theorem addresses_any (w : World) (a : Option Addr) (n c : Nat) (L : List Int) (h : Co.Is w a L) (hn : L.length = n) (hb : n ≤ 17592186044415) (ra : Option Addr) (rn rc : Nat) (R : List Int) (hR : Co.Is w ra R) (hrn : R.length = rn) (hrb : rn ≤ 17592186044415) :
    Calls Tryz.prog 28 #[.slice a n c, .slice ra rn rc] w (Co.ClPost w (adrsF L R)) := by
  have HK : Hid (∀ u, Ext [] w u → ∀ x, Calls Tryz.prog 23 #[.slice a n c, .int .i64 x] u fun e w' => e = .returned (.int .i64 (adrF L x)) ∧ w' = u) := fun u hu x => address_any u a n c L (h.keep0 (co_ext hu)) hn hb x
  have HR := hid hR
  have HN := hid hrn
  clear h hR hn hrn
  go_enter Tryz.func28, Tryz.ntmps28
  go_wp2_with fail
  go_loopw [5, 6] (fun v q wr => ∃ (k : Nat), q = .int .i64 k ∧ k ≤ rn ∧ (∃ ad m d, v = .slice ad m d) ∧ wr.ownsRow w.heap.size 3 1 v (adrsF L (R.take k)).length (lI (adrsF L (R.take k))) ∧ Ext [] w wr) (fun _ q _ => (rn - (intOf q)).toNat)
  case atStart => exact ⟨0, rfl, Nat.zero_le _, ⟨_, _, _, rfl⟩, own_nil _ _ _ _, Ext.refl _ _⟩
  case round =>
    obtain ⟨k, rfl, hk, ⟨ad, m, d, rfl⟩, hO, hE⟩ := hrel
    have HO := hid hO
    have HE := hid hE
    by_cases hlt : k < rn
    · have hkl : k < R.length := by have := HN.out; omega
      obtain ⟨b', o', rfl, hcell⟩ := Co.Is.cell (HR.out.keep0 (co_ext hE)) hkl
      have hS : adrsF L (R.take (k + 1)) = adrsF L (R.take k) ++ [adrF L (R.getD k 0)] := by
        unfold adrsF
        rw [List.take_add_one, List.map_append, List.getElem?_eq_getElem hkl]
        simp [List.getD, hkl]
      have hll : (adrsF L (R.take k)).length ≤ k := by simp [adrsF]; omega
      have K := HK.out wr hE (R.getD k 0)
      clear hO hE hkl
      generalize R.getD k 0 = x at *
      obtain ⟨v', w2, hr, ho2, hE2⟩ := app_int w wr HE.out (.slice ad m d) _ HO.out (adrF L x) 32 (by omega)
      obtain ⟨a2, c2, e2, _⟩ := own_slice ho2
      subst e2
      have HO2 : Hid (w2.ownsRow w.heap.size 3 1 (.slice a2 (adrsF L (R.take k) ++ [adrF L x]).length c2) (adrsF L (R.take (k + 1))).length (lI (adrsF L (R.take (k + 1))))) := by rw [hS]; exact ho2
      have HE2 := hid hE2
      clear ho2 hE2 hS HO HE hll
      generalize (adrsF L (R.take k) ++ [adrF L x]).length = nn at *
      generalize adrF L x = y at *
      go_wp2_with (first | (go_at_call 23; refine met K ?_) | (at_builtin; refine wpList_append_run rfl _ _ 32 rfl _ _ _ rfl rfl hr ?_) | fail "no arm")
      go_roundw
      case rel => exact ⟨k + 1, by go_num, by omega, ⟨_, _, _, rfl⟩, HO2.out, HE2.out⟩
      case measure => simp [intOf]; omega
    · obtain rfl : k = rn := by omega
      clear hO hE
      go_wp2_with fail
      go_ret
      have := HO.out
      rw [List.take_of_length_le (by have := HN.out; omega)] at this
      exact ⟨_, rfl, this, co_ext HE.out⟩

theorem word_any (w : World) (a : Option Addr) (n c : Nat) (L : List Int) (h : Co.Is w a L) (hn : L.length = n) (hb : n ≤ 17592186044415) (kd A I to tag v : Int) (hv : 0 ≤ v) (x y : Value) :
    Calls Tryz.prog 94 #[.slice a n c, .agg #[.int .i64 kd, .int .i64 A, .int .i64 I, .int .i64 to, .int .i64 tag, .int .u64 v, x, y]] w (SayPost w (.int .u64 (wordF L v to))) := by
  have hE := Ext.alloc [] w (.cells #[.int .i64 kd, .int .i64 A, .int .i64 I, .int .i64 to, .int .i64 tag, .int .u64 v, x, y] 113)
  have K := address_any _ a n c L (h.keep0 (co_ext hE)) hn hb to
  have HE := hid hE
  unfold wordF
  clear h hE
  generalize adrF L to = t at *
  by_cases h0 : v = 0
  · subst h0
    rw [if_neg (by simp)]
    go_enter Tryz.func94, Tryz.ntmps94
    go_wp2_with (first | (go_at_call 23; refine met K ?_) | fail "no arm")
    go_ret
    exact ⟨rfl, HE.out⟩
  · rw [if_pos h0]
    have b0 : (v != 0) = true := by simpa using h0
    go_enter Tryz.func94, Tryz.ntmps94
    go_wp2_with (first | (go_at_call 23; refine met K ?_) | fail "no arm")
    go_ret
    exact ⟨rfl, HE.out⟩

end Go.Proofs.YtjbbomokgpoilaaGreatDoor

/-
  A call of a script; no statement is proved here.
-/
namespace Go.Proofs.YtjbbomokgpoilaaGreatDoor
open Go.RowKit

/-- append in a drawn region, met by its run. -/
theorem wp_append_run {P : Program} {o : Oper} {a : Act} {w w' : World} {K : Act → World → Prop} {Q : Exit → Act → World → Prop} (d s : Operand) (t : TypeId)
    (ho : o.op = .call { callee := .builtin .append, args := #[d, s], argTypes := #[t, t] }) (vd vs v' : Value) (hd : a.eval d = vd) (hs : a.eval s = vs)
    (hr : (Builtin.append_ #[t, t] o.type #[vd, vs]).run P w = .ok v' w') (h : K (a.put o.dst v') w') : Oper.wp P o a w K Q := by
  unfold Oper.wp execOp
  simp only [ho, resolve, invoke, builtin, Sem.run_bind, Sem.run_pure, Result.andThen_ok, List.map_toArray, List.map_cons, List.map_nil, hd, hs, hr]
  exact h

/-- A call. -/
structure Oq where
  kd : Int
  A : Int
  I : Int
  to : Int
  tag : Int
  V : Int
  ps : List Bool
  R : List Int

def doM (M : Ms) (L : List Int) (q : Oq) : Ms × List Int :=
  if q.kd = 1 then ((setM M (adrF L q.A) q.I (wordF L q.V q.to)).1, L) else if q.kd = 3 then ((begin9 M (adrsF L q.R)).1, L) else if q.kd = 4 then (workM M (min q.I 100000).toNat, L) else if q.kd = 5 then ((collectM M (adrsF L q.R)).1, L)
  else if q.kd = 2 ∨ q.kd = 6 ∨ q.kd = 7 ∨ q.kd = 8 then (M, L)
  else ((allocM M q.ps q.tag (adrsF L q.R)).1, if (allocM M q.ps q.tag (adrsF L q.R)).2.2 = 0 then L ++ [(allocM M q.ps q.tag (adrsF L q.R)).2.1] else L)

/-- A call as it lies in memory. -/
structure Opm (w : World) (q : Oq) (pa : Option Addr) (pn pc : Nat) (ra : Option Addr) (rn rc : Nat) : Prop where
  hps : Co.Os w pa q.ps
  hpn : q.ps.length = pn
  hpb : pn ≤ 140737488355328
  hR : Co.Is w ra q.R
  hrn : q.R.length = rn
  hrb : rn ≤ 17592186044415
  hV : 0 ≤ q.V ∧ q.V < 18446744073709551616
  hA : I64 q.A
  hI : I64 q.I
  hto : I64 q.to
  hRi : ∀ x ∈ q.R, I64 x
theorem Opm.keep0 {w w' : World} {q : Oq} {pa ra : Option Addr} {pn pc rn rc : Nat} (h : Opm w q pa pn pc ra rn rc) (x : Ext [] w w') : Opm w' q pa pn pc ra rn rc := ⟨h.hps.keep0 (co_ext x), h.hpn, h.hpb, h.hR.keep0 (co_ext x), h.hrn, h.hrb, h.hV, h.hA, h.hI, h.hto, h.hRi⟩

/-- A memory, and a list of what was given, both new since w0. -/
def Gd (w0 w : World) (p : Nat) (M : Ms) (L : List Int) (v : Value) : Prop :=
  ∃ Z, Mw w p M Z ∧ (∀ k, Z k → w0.heap.size ≤ k ∧ v.ownBlock ≠ some k) ∧ w.ownsRow w0.heap.size 3 1 v L.length (lI L) ∧ Ext [] w0 w

/-- Addresses that lie in the arena. -/
def Gok (L : List Int) : Prop := ∀ x ∈ L, 0 ≤ x ∧ x ≤ 262400
theorem adrF_i64 {L : List Int} (h : Gok L) {n : Int} (hn : I64 n) : I64 (adrF L n) := by
  unfold adrF
  split
  · generalize (n - 1).toNat = j
    by_cases hl : j < L.length
    · have := h (L.getD j 0) (by simp [List.getD, hl])
      unfold I64; omega
    · rw [List.getD_eq_getElem?_getD, List.getElem?_eq_none (by omega)]; simp [I64]
  · exact hn
theorem adrsF_i64 {L : List Int} (h : Gok L) {R : List Int} (hR : ∀ x ∈ R, I64 x) : ∀ x ∈ adrsF L R, I64 x := fun x hx => by
  obtain ⟨y, hy, rfl⟩ := List.mem_map.1 hx
  exact adrF_i64 h (hR y hy)
theorem wordF_u64 (L : List Int) {v to : Int} (hv : 0 ≤ v ∧ v < 18446744073709551616) : 0 ≤ wordF L v to ∧ wordF L v to < 18446744073709551616 := by
  unfold wordF
  split
  · exact hv
  · rw [IntKind.wrap_u64]; omega

section
variable {w0 w : World} {p : Nat} {M : Ms} {L : List Int} {v : Value}

theorem Gd.keep0 {w' : World} (h : Gd w0 w p M L v) (x : Ext [] w w') : Gd w0 w' p M L v := by
  obtain ⟨Z, h1, h2, h3, h4⟩ := h
  exact ⟨Z, h1.keep0 x, h2, own_keep0 h3 x, h4.trans x⟩
/-- Behind a call on the memory. -/
theorem Gd.turn {w' : World} {Z : Nat → Prop} {M' : Ms} {r : Value} {e : Ending} (h2 : ∀ k, Z k → w0.heap.size ≤ k ∧ v.ownBlock ≠ some k) (h3 : w.ownsRow w0.heap.size 3 1 v L.length (lI L)) (h4 : Ext [] w0 w) (hp : MPost w p M' (fun k => Z k ∧ k < w.heap.size) r e w') : Gd w0 w' p M' L v := by
  refine ⟨_, hp.2.1, fun k hk => ?_, ?_, Fx.on h4 hp.2.2 (fun k hk => (h2 k hk.1).1)⟩
  · rcases hk with q | q
    · exact h2 k q.1
    · refine ⟨Nat.le_trans h4.size q, fun e => ?_⟩
      have := (own_lt h3 k e).2
      omega
  · exact Co.own_keepF h3 (co_fx hp.2.2) (fun g hg q => (h2 g q.1).2 hg)

/-- What do answers. -/
def DoPost (w0 : World) (p : Nat) (R : Ms × List Int) (e : Ending) (w' : World) : Prop := ∃ v, e = .returned v ∧ Gd w0 w' p R.1 R.2 v

set_option maxRecDepth 100000 in
set_option maxHeartbeats 400000 in
theorem do_any (hS : Gd w0 w p M L v) {b : Nat} (hk : Mk M (b + 2)) (hG : Gl w0) (hL : Gok L) (hll : L.length ≤ 17592186044414) (hcn : M.cn < 1000000000000000000) (q : Oq) (pa ra : Option Addr) (pn pc rn rc : Nat) (hO : Opm w0 q pa pn pc ra rn rc) :
    Calls Tryz.prog 57 #[.pointer (some ⟨p, 0, none⟩), v, .agg #[.int .i64 q.kd, .int .i64 q.A, .int .i64 q.I, .int .i64 q.to, .int .i64 q.tag, .int .u64 q.V, .slice pa pn pc, .slice ra rn rc]] w (DoPost w0 p (doM M L q)) := by
  obtain ⟨w1, hw1⟩ : ∃ w1, w1 = w.alloc (.cells #[.int .i64 q.kd, .int .i64 q.A, .int .i64 q.I, .int .i64 q.to, .int .i64 q.tag, .int .u64 q.V, .slice pa pn pc, .slice ra rn rc] 113) := ⟨_, rfl⟩
  have hE1 : Ext [] w w1 := by rw [hw1]; exact Ext.alloc _ _ _
  have hB1 : w1.heap[w.heap.size]? = some (.cells #[.int .i64 q.kd, .int .i64 q.A, .int .i64 q.I, .int .i64 q.to, .int .i64 q.tag, .int .u64 q.V, .slice pa pn pc, .slice ra rn rc] 113 (0, 0)) := by rw [hw1]; exact heap_alloc_new _ _
  obtain ⟨Z, hM, hZ, hv, h0E⟩ := hS
  obtain ⟨va, vc, rfl, hVI, hva⟩ := own_is hv
  have KA := addresses_any w1 va L.length vc L (hVI.keep0 (co_ext hE1)) rfl (by omega) ra rn rc q.R (hO.keep0 (h0E.trans hE1)).hR hO.hrn hO.hrb
  -- all that is known behind the addresses
  have HB : Hid (∀ u, Ext [] w1 u → u.cell? ⟨w.heap.size, 0, none⟩ = some (.int .i64 q.kd) ∧ u.cell? ⟨w.heap.size, 1, none⟩ = some (.int .i64 q.A) ∧ u.cell? ⟨w.heap.size, 2, none⟩ = some (.int .i64 q.I) ∧ u.cell? ⟨w.heap.size, 3, none⟩ = some (.int .i64 q.to) ∧ u.cell? ⟨w.heap.size, 4, none⟩ = some (.int .i64 q.tag) ∧ u.cell? ⟨w.heap.size, 5, none⟩ = some (.int .u64 q.V) ∧ u.cell? ⟨w.heap.size, 6, none⟩ = some (.slice pa pn pc) ∧ u.cell? ⟨w.heap.size, 7, none⟩ = some (.slice ra rn rc)) := fun u hu => by
    have hb := hu.keep hB1 (by simp)
    refine ⟨?_, ?_, ?_, ?_, ?_, ?_, ?_, ?_⟩ <;> (rw [cell_of_row _ _ _ _ _ _ hb]; rfl)
  have HM : Hid (∀ u, Ext [] w u → Mw u p M (fun k => Z k ∧ k < u.heap.size)) := fun u hu => (hM.keep0 hu).there
  have HT : Hid (∀ u u' M' r e, Ext [] w u → MPost u p M' (fun k => Z k ∧ k < u.heap.size) r e u' → Gd w0 u' p M' L (.slice va L.length vc)) := fun u u' M' r e hu hp => Gd.turn hZ (own_keep0 hv hu) (h0E.trans hu) hp
  have HI : Hid (∀ u, Ext [] w u → Gd w0 u p M L (.slice va L.length vc)) := fun u hu => ⟨Z, hM.keep0 hu, hZ, own_keep0 hv hu, h0E.trans hu⟩
  have HAl : (adrsF L q.R).length ≤ 17592186044415 := by simp [adrsF, hO.hrn]; exact hO.hrb
  have HAi := adrsF_i64 hL hO.hRi
  have hrb := hO.hrb
  obtain ⟨c0, c1, c2, c3, c4, c5, c6, c7⟩ := HB.out w1 (Ext.refl _ _)
  unfold doM
  have HE1 := hid hE1
  clear hB1
  by_cases k1 : q.kd = 1
  · rw [if_pos k1]
    have HAd : Hid (∀ u, Ext [] w u → Calls Tryz.prog 23 #[.slice va L.length vc, .int .i64 q.A] u fun e w' => e = .returned (.int .i64 (adrF L q.A)) ∧ w' = u) := fun u hu => address_any u va _ vc L (hVI.keep0 (co_ext hu)) rfl (by omega) q.A
    have HWd : Hid (∀ u, Ext [] w1 u → Calls Tryz.prog 94 #[.slice va L.length vc, .agg #[.int .i64 q.kd, .int .i64 q.A, .int .i64 q.I, .int .i64 q.to, .int .i64 q.tag, .int .u64 q.V, .slice pa pn pc, .slice ra rn rc]] u (fun e w' => e = .returned (.int .u64 (wordF L q.V q.to)) ∧ Ext [] u w')) := fun u hu => word_any u va _ vc L (hVI.keep0 (co_ext (HE1.out.trans hu))) rfl (by omega) _ _ _ _ _ _ hO.hV.1 _ _
    have HSt : Hid (∀ u, Ext [] w1 u → Calls Tryz.prog 14 #[.pointer (some ⟨p, 0, none⟩), .int .i64 (adrF L q.A), .int .i64 q.I, .int .u64 (wordF L q.V q.to)] u (fun e w' => (∃ r, e = .returned (.int .i64 r)) ∧ (∀ j, (∃ y, u.cell? ⟨w.heap.size, j, none⟩ = some y) → w'.cell? ⟨w.heap.size, j, none⟩ = u.cell? ⟨w.heap.size, j, none⟩) ∧ Gd w0 w' p (setM M (adrF L q.A) q.I (wordF L q.V q.to)).1 L (.slice va L.length vc))) := fun u hu => by
      have hwu := HE1.out.trans hu
      refine (mset_any (Z := fun k => Z k ∧ k < w.heap.size) ((hM.there).keep0 hwu) hk (adrF L q.A) q.I (wordF L q.V q.to) (adrF_i64 hL hO.hA) (wordF_u64 L hO.hV)).mono ?_
      rintro e w3 hp
      refine ⟨⟨_, hp.1⟩, fun j hj => ?_, ?_⟩
      · obtain ⟨y, hy⟩ := hj
        rw [hy]
        exact hp.2.2.cell hy (fun q => by simp only at q; omega)
      · exact HT.out u w3 _ _ _ hwu (hp.mono (fun k hk => ⟨hk.1, Nat.lt_of_lt_of_le hk.2 hwu.size⟩))
    clear hM hZ hv h0E hVI hva hk hG hO HAi HI HM HT hE1
    rw [k1] at HWd c0 HB hw1
    rw [k1]
    clear k1
    generalize (setM M (adrF L q.A) q.I (wordF L q.V q.to)).1 = M2 at *
    generalize adrF L q.A = aA at *
    generalize wordF L q.V q.to = wV at *
    generalize q.A = qA at *
    generalize q.I = qI at *
    generalize q.to = qto at *
    generalize q.tag = qtag at *
    generalize q.V = qV at *
    go_enter Tryz.func57, Tryz.ntmps57
    go_upto_region 1 with fail
    rw [← hw1]
    clear hw1
    go_wp2_with fail
    refine KA.mono ?_
    clear KA
    rintro e w2 ⟨v7, rfl, ho7, hE2⟩
    obtain ⟨ra7, rc7, rfl, hI7, _⟩ := own_is ho7
    have hE2' := ext_co hE2
    obtain ⟨B5, hB5⟩ : ∃ B5, B5 = w.heap.size := ⟨_, rfl⟩
    rw [← hB5] at HB HSt c0 c1 c2 c3 c4 c5 c6 c7
    rw [← hB5]
    clear hB5 c0 c1 c2 c3 c4 c5 c6 c7
    obtain ⟨f0, f1, f2, f3, f4, f5, f6, f7⟩ := HB.out w2 hE2'
    have KAd : ∀ u, Ext [] w2 u → Calls Tryz.prog 23 #[.slice va L.length vc, .int .i64 qA] u fun e w' => e = .returned (.int .i64 aA) ∧ w' = u := fun u hu => HAd.out u ((HE1.out.trans hE2').trans hu)
    have KWd : ∀ u, Ext [] w2 u → Calls Tryz.prog 94 #[.slice va L.length vc, .agg #[.int .i64 1, .int .i64 qA, .int .i64 qI, .int .i64 qto, .int .i64 qtag, .int .u64 qV, .slice pa pn pc, .slice ra rn rc]] u (fun e w' => e = .returned (.int .u64 wV) ∧ Ext [] u w') := fun u hu => HWd.out u (hE2'.trans hu)
    have KSt : ∀ u, Ext [] w2 u → Calls Tryz.prog 14 #[.pointer (some ⟨p, 0, none⟩), .int .i64 aA, .int .i64 qI, .int .u64 wV] u (fun e w' => (∃ r, e = .returned (.int .i64 r)) ∧ (w'.cell? ⟨B5, 0, none⟩ = some (.int .i64 1) ∧ w'.cell? ⟨B5, 1, none⟩ = some (.int .i64 qA) ∧ w'.cell? ⟨B5, 2, none⟩ = some (.int .i64 qI) ∧ w'.cell? ⟨B5, 3, none⟩ = some (.int .i64 qto) ∧ w'.cell? ⟨B5, 4, none⟩ = some (.int .i64 qtag) ∧ w'.cell? ⟨B5, 5, none⟩ = some (.int .u64 qV) ∧ w'.cell? ⟨B5, 6, none⟩ = some (.slice pa pn pc) ∧ w'.cell? ⟨B5, 7, none⟩ = some (.slice ra rn rc)) ∧ Hid (Gd w0 w' p M2 L (.slice va L.length vc))) := fun u hu => by
      obtain ⟨g0, g1, g2, g3, g4, g5, g6, g7⟩ := HB.out u (hE2'.trans hu)
      refine (HSt.out u (hE2'.trans hu)).mono ?_
      rintro e w3 ⟨hr, hc, hg⟩
      refine ⟨hr, ⟨?_, ?_, ?_, ?_, ?_, ?_, ?_, ?_⟩, hg⟩
      · rw [hc 0 ⟨_, g0⟩]; exact g0
      · rw [hc 1 ⟨_, g1⟩]; exact g1
      · rw [hc 2 ⟨_, g2⟩]; exact g2
      · rw [hc 3 ⟨_, g3⟩]; exact g3
      · rw [hc 4 ⟨_, g4⟩]; exact g4
      · rw [hc 5 ⟨_, g5⟩]; exact g5
      · rw [hc 6 ⟨_, g6⟩]; exact g6
      · rw [hc 7 ⟨_, g7⟩]; exact g7
    have HBS : ∀ u, Ext [] w2 u → u.cell? ⟨B5, 0, none⟩ = some (.int .i64 1) ∧ u.cell? ⟨B5, 1, none⟩ = some (.int .i64 qA) ∧ u.cell? ⟨B5, 2, none⟩ = some (.int .i64 qI) ∧ u.cell? ⟨B5, 3, none⟩ = some (.int .i64 qto) ∧ u.cell? ⟨B5, 4, none⟩ = some (.int .i64 qtag) ∧ u.cell? ⟨B5, 5, none⟩ = some (.int .u64 qV) ∧ u.cell? ⟨B5, 6, none⟩ = some (.slice pa pn pc) ∧ u.cell? ⟨B5, 7, none⟩ = some (.slice ra rn rc) := fun u hu => HB.out u (hE2'.trans hu)
    have hEx := Ext.refl [] w2
    clear ho7 hI7 hE2 HB HAd HWd HSt hE2' HE1
    go_upto_region 7 with fail
    go_region_held3 (fun u => u.cell? ⟨B5, 0, none⟩ = some (.int .i64 1) ∧ u.cell? ⟨B5, 1, none⟩ = some (.int .i64 qA) ∧ u.cell? ⟨B5, 2, none⟩ = some (.int .i64 qI) ∧ u.cell? ⟨B5, 3, none⟩ = some (.int .i64 qto) ∧ u.cell? ⟨B5, 4, none⟩ = some (.int .i64 qtag) ∧ u.cell? ⟨B5, 5, none⟩ = some (.int .u64 qV) ∧ u.cell? ⟨B5, 6, none⟩ = some (.slice pa pn pc) ∧ u.cell? ⟨B5, 7, none⟩ = some (.slice ra rn rc)) (first | assumption | exact HBS _ (by (repeat (first | (with_reducible exact Ext.refl [] _) | (with_reducible exact Ext.drew [] _) | (with_reducible assumption) | (with_reducible refine Ext.trans ?_ (Ext.drew [] _)) | (with_reducible refine Ext.trans ?_ hEx)))))
      (first
      | (go_at_call 23; refine met (KAd _ (by (repeat (first | (with_reducible exact Ext.refl [] _) | (with_reducible exact Ext.drew [] _) | (with_reducible assumption) | (with_reducible refine Ext.trans ?_ (Ext.drew [] _)) | (with_reducible refine Ext.trans ?_ hEx))))) ?_)
      | (go_at_call 94; refine Calls.mono (KWd _ (by (repeat (first | (with_reducible exact Ext.refl [] _) | (with_reducible exact Ext.drew [] _) | (with_reducible assumption) | (with_reducible refine Ext.trans ?_ (Ext.drew [] _)) | (with_reducible refine Ext.trans ?_ hEx))))) ?_; rintro e wx ⟨rfl, hEx⟩)
      | (go_at_call 14; refine Calls.mono (KSt _ (by (repeat (first | (with_reducible exact Ext.refl [] _) | (with_reducible exact Ext.drew [] _) | (with_reducible assumption) | (with_reducible refine Ext.trans ?_ (Ext.drew [] _)) | (with_reducible refine Ext.trans ?_ hEx))))) ?_; rintro e w3 ⟨⟨r, rfl⟩, hS3, HP⟩)
      | fail "no arm")
    all_goals
      go_wp2_with fail
      go_ret
      exact ⟨_, rfl, HP.out⟩
  rw [if_neg k1]
  have d1 : (q.kd == 1) = false := by simpa using k1
  by_cases k3 : q.kd = 3
  · rw [if_pos k3]
    have d3 : (q.kd == 3) = true := by simpa using k3
    have HC : Hid (∀ u ra rc, Ext [] w u → Co.Is u ra (adrsF L q.R) → Calls Tryz.prog 15 #[.pointer (some ⟨p, 0, none⟩), .slice ra (adrsF L q.R).length rc] u (MPost u p (begin9 M (adrsF L q.R)).1 (fun k => Z k ∧ k < u.heap.size) (.int .i64 (begin9 M (adrsF L q.R)).2))) := fun u ra rc hu hR => mbegin_any (HM.out u hu) hk ra _ rc _ hR rfl (by omega) HAi
    clear hM hZ hv h0E hVI hva hk hG hO HAi HI HM hE1 k1 k3
    generalize q.kd = kd at *
    generalize begin9 M (adrsF L q.R) = r at *
    go_enter Tryz.func57, Tryz.ntmps57
    go_upto_region 1 with fail
    rw [← hw1]
    clear hw1
    go_wp2_with fail
    refine KA.mono ?_
    clear KA
    rintro e w2 ⟨v7, rfl, ho7, hE2⟩
    obtain ⟨ra7, rc7, rfl, hI7, _⟩ := own_is ho7
    obtain ⟨f0, _⟩ := HB.out w2 (ext_co hE2)
    have K := HC.out w2 ra7 rc7 (HE1.out.trans (ext_co hE2)) hI7
    have HE2 := hid (HE1.out.trans (ext_co hE2))
    clear HC ho7 hI7 hE2 HB
    go_wp2_with fail
    refine K.mono ?_
    clear K
    rintro e w3 hp
    have he := hp.1
    subst he
    have HP := hid (HT.out w2 w3 _ _ _ HE2.out hp)
    clear hp HT
    go_wp2_with fail
    go_ret
    exact ⟨_, rfl, HP.out⟩
  rw [if_neg k3]
  have d3 : (q.kd == 3) = false := by simpa using k3
  by_cases k4 : q.kd = 4
  · rw [if_pos k4]
    have d4 : (q.kd == 4) = true := by simpa using k4
    have HC : Hid (∀ u x, Ext [] w u → x ≤ 100000 → Calls Tryz.prog 18 #[.pointer (some ⟨p, 0, none⟩), .int .i64 x] u (MPost u p (workM M x.toNat) (fun k => Z k ∧ k < u.heap.size) (.int .i64 (workL M x.toNat : Nat)))) := fun u x hu hx => mwork_any (HM.out u hu) hk.iv (by have := hk.cy; omega) hk.ad x (by omega)
    clear hM hZ hv h0E hVI hva hk hG hO HAi HI HM hE1 k1 k3 k4
    generalize q.kd = kd at *
    generalize q.I = I at *
    have hmn : min I 100000 = if 100000 < I then 100000 else I := by split <;> omega
    rw [hmn]
    have hlt : ∀ x, x = (if 100000 < I then 100000 else I) → x ≤ 100000 := fun x hx => by subst hx; split <;> omega
    clear hmn
    by_cases hI5 : 100000 < I
    · rw [if_pos hI5]
      have dI : decide (100000 < I) = true := by simpa using hI5
      have HC2 := hid (fun u hu => HC.out u 100000 hu (by omega))
      rw [show (100000 : Int).toNat = 100000 from rfl] at HC2
      rw [show (100000 : Int).toNat = 100000 from rfl]
      generalize workM M 100000 = M2 at *
      generalize workL M 100000 = lf at *
      clear HC hlt
      go_enter Tryz.func57, Tryz.ntmps57
      go_upto_region 1 with fail
      rw [← hw1]
      clear hw1
      go_wp2_with fail
      refine KA.mono ?_
      clear KA
      rintro e w2 ⟨v7, rfl, ho7, hE2⟩
      obtain ⟨ra7, rc7, rfl, hI7, _⟩ := own_is ho7
      obtain ⟨f0, _, f2, _⟩ := HB.out w2 (ext_co hE2)
      have K := HC2.out w2 (HE1.out.trans (ext_co hE2))
      have HE2 := hid (HE1.out.trans (ext_co hE2))
      clear HC2 ho7 hI7 hE2 HB
      go_wp2_with fail
      refine K.mono ?_
      clear K
      rintro e w3 hp
      have he := hp.1
      subst he
      have HP := hid (HT.out w2 w3 _ _ _ HE2.out hp)
      clear hp HT
      go_wp2_with fail
      go_ret
      exact ⟨_, rfl, HP.out⟩
    · rw [if_neg hI5]
      have dI : decide (100000 < I) = false := by simpa using hI5
      have HC2 := hid (fun u hu => HC.out u I hu (by omega))
      generalize workM M I.toNat = M2 at *
      generalize workL M I.toNat = lf at *
      clear HC hlt
      go_enter Tryz.func57, Tryz.ntmps57
      go_upto_region 1 with fail
      rw [← hw1]
      clear hw1
      go_wp2_with fail
      refine KA.mono ?_
      clear KA
      rintro e w2 ⟨v7, rfl, ho7, hE2⟩
      obtain ⟨ra7, rc7, rfl, hI7, _⟩ := own_is ho7
      obtain ⟨f0, _, f2, _⟩ := HB.out w2 (ext_co hE2)
      have K := HC2.out w2 (HE1.out.trans (ext_co hE2))
      have HE2 := hid (HE1.out.trans (ext_co hE2))
      clear HC2 ho7 hI7 hE2 HB
      go_wp2_with fail
      refine K.mono ?_
      clear K
      rintro e w3 hp
      have he := hp.1
      subst he
      have HP := hid (HT.out w2 w3 _ _ _ HE2.out hp)
      clear hp HT
      go_wp2_with fail
      go_ret
      exact ⟨_, rfl, HP.out⟩
  rw [if_neg k4]
  have d4 : (q.kd == 4) = false := by simpa using k4
  by_cases k5 : q.kd = 5
  · rw [if_pos k5]
    have d5 : (q.kd == 5) = true := by simpa using k5
    have HC : Hid (∀ u ra rc, Ext [] w u → Co.Is u ra (adrsF L q.R) → Calls Tryz.prog 16 #[.pointer (some ⟨p, 0, none⟩), .slice ra (adrsF L q.R).length rc] u (MPost u p (collectM M (adrsF L q.R)).1 (fun k => Z k ∧ k < u.heap.size) (.int .i64 (collectM M (adrsF L q.R)).2))) := fun u ra rc hu hR => mcollect_any (HM.out u hu) (b := b + 1) hk ra _ rc _ hR rfl (by omega) HAi
    clear hM hZ hv h0E hVI hva hk hG hO HAi HI HM hE1 k1 k3 k4 k5
    generalize q.kd = kd at *
    generalize collectM M (adrsF L q.R) = r at *
    go_enter Tryz.func57, Tryz.ntmps57
    go_upto_region 1 with fail
    rw [← hw1]
    clear hw1
    go_wp2_with fail
    refine KA.mono ?_
    clear KA
    rintro e w2 ⟨v7, rfl, ho7, hE2⟩
    obtain ⟨ra7, rc7, rfl, hI7, _⟩ := own_is ho7
    obtain ⟨f0, _⟩ := HB.out w2 (ext_co hE2)
    have K := HC.out w2 ra7 rc7 (HE1.out.trans (ext_co hE2)) hI7
    have HE2 := hid (HE1.out.trans (ext_co hE2))
    clear HC ho7 hI7 hE2 HB
    go_wp2_with fail
    refine K.mono ?_
    clear K
    rintro e w3 hp
    have he := hp.1
    subst he
    have HP := hid (HT.out w2 w3 _ _ _ HE2.out hp)
    clear hp HT
    go_wp2_with fail
    go_ret
    exact ⟨_, rfl, HP.out⟩
  rw [if_neg k5]
  have d5 : (q.kd == 5) = false := by simpa using k5
  by_cases k2 : q.kd = 2 ∨ q.kd = 6 ∨ q.kd = 7 ∨ q.kd = 8
  · rw [if_pos k2]
    clear hM hZ hv h0E hVI hva hk hG hO HAi HM HT hE1 k1 k3 k4 k5
    generalize q.kd = kd at *
    rcases k2 with rfl | rfl | rfl | rfl
    all_goals
      go_enter Tryz.func57, Tryz.ntmps57
      go_upto_region 1 with fail
      rw [← hw1]
      clear hw1
      go_wp2_with fail
      refine KA.mono ?_
      clear KA
      rintro e w2 ⟨v7, rfl, ho7, hE2⟩
      obtain ⟨ra7, rc7, rfl, hI7, _⟩ := own_is ho7
      obtain ⟨f0, _⟩ := HB.out w2 (ext_co hE2)
      have HE2 := hid (HE1.out.trans (ext_co hE2))
      clear ho7 hI7 hE2 HB
      go_wp2_with fail
      go_ret
      exact ⟨_, rfl, HI.out w2 HE2.out⟩
  rw [if_neg k2]
  have d2 : (q.kd == 2) = false := by simp; omega
  have d6 : (q.kd == 6) = false := by simp; omega
  have d7 : (q.kd == 7) = false := by simp; omega
  have d8 : (q.kd == 8) = false := by simp; omega
  have HAp : Hid (∀ u, Ext [] w1 u → ∃ pa4 pc4 w4, (Builtin.append_ #[26, 26] 26 #[.slice (some ⟨u.heap.size, 0, none⟩) 0 0, .slice pa pn pc]).run Tryz.prog (u.alloc (.cells #[] 4)).drew = .ok (.slice pa4 pn pc4) w4 ∧ Ext [] u w4 ∧ Hid (Co.Os w4 pa4 q.ps ∧ ∀ ad, pa4 = some ad → u.heap.size ≤ ad.block ∧ ad.block < w4.heap.size)) := fun u hu => by
    have hEu : Ext [] u (u.alloc (.cells #[] 4)).drew := (Ext.alloc _ _ _).trans (Ext.drew _ _)
    have hown : (u.alloc (.cells #[] 4)).drew.ownsRow u.heap.size 4 1 (.slice (some ⟨u.heap.size, 0, none⟩) 0 0) 0 [] := World.ownsRow_made u #[] 0 (Nat.le_refl _) (Nat.zero_le _) rfl
    have hOs := (hO.keep0 ((h0E.trans HE1.out).trans (hu.trans hEu))).hps
    obtain ⟨v4, w4, hr, ho, hE4, _⟩ := Co.app_own u _ (co_ext hEu) 26 26 4 _ 1 Tryz.underlying26 Co.info4 rfl (by omega) _ 0 [] hown pa pn pc (q.ps.map Value.bool) (by simp [hO.hpn]) hOs (fun x hx => by obtain ⟨y, _, rfl⟩ := List.mem_map.1 hx; rfl) (by have := hO.hpb; omega)
    simp only [Nat.zero_add, List.nil_append] at ho
    obtain ⟨pa4, pc4, rfl, _⟩ := own_slice ho
    exact ⟨pa4, pc4, w4, hr, ext_co hE4, Co.own_vs ho, fun ad e => own_lt ho ad.block (by rw [e]; rfl)⟩
  have HAc : Hid (∀ u w4 pa4 pc4 ra7 rc7, Ext [] w1 u → Ext [] u w4 → Co.Os w4 pa4 q.ps → (∀ ad, pa4 = some ad → u.heap.size ≤ ad.block ∧ ad.block < w4.heap.size) → Co.Is w4 ra7 (adrsF L q.R) → Calls Tryz.prog 9 #[.pointer (some ⟨p, 0, none⟩), .slice pa4 pn pc4, .int .i64 q.tag, .slice ra7 (adrsF L q.R).length rc7] w4 (fun e w5 => e = .returned (.tuple #[.int .i64 (allocM M q.ps q.tag (adrsF L q.R)).2.1, .int .i64 (allocM M q.ps q.tag (adrsF L q.R)).2.2]) ∧ (w5.cell? ⟨w.heap.size, 4, none⟩ = some (.int .i64 q.tag) ∧ w5.cell? ⟨w.heap.size, 6, none⟩ = some (.slice pa pn pc)) ∧ Hid (Gd w0 w5 p (allocM M q.ps q.tag (adrsF L q.R)).1 L (.slice va L.length vc)))) := fun u w4 pa4 pc4 ra7 rc7 hu hu4 hOs hpa hIs => by
    have hw4 := HE1.out.trans (hu.trans hu4)
    have hw1s := HE1.out.size
    have hus := hu.size
    refine (malloc_any (Z := fun k => Z k ∧ k < w.heap.size) ((hM.there).keep0 hw4) hk (hG.keep0 (h0E.trans hw4)) (fun q => ?_) pa4 pn pc4 q.ps hOs hO.hpn (by have := hO.hpb; omega) (fun ad e => ⟨fun q => ?_, (hpa ad e).2⟩) q.tag ra7 _ rc7 _ hIs rfl (by omega) HAi hcn).mono ?_
    · have := (hZ 0 q.1).1; have := hG.lt; omega
    · have := (hpa ad e).1; omega
    · rintro e w5 hp
      obtain ⟨_, _, _, _, g4, _, g6, _⟩ := HB.out w4 (hu.trans hu4)
      refine ⟨hp.1, ⟨hp.2.2.cell g4 (fun q => by simp only at q; omega), hp.2.2.cell g6 (fun q => by simp only at q; omega)⟩, ?_⟩
      exact HT.out w4 w5 _ _ _ hw4 (hp.mono (fun k hk => ⟨hk.1, Nat.lt_of_lt_of_le hk.2 hw4.size⟩))
  have HApp : Hid (∀ w5 M' x, Gd w0 w5 p M' L (.slice va L.length vc) → ∃ v' w6, (Builtin.append_ #[32, 32] 32 #[.slice va L.length vc, .slice (some ⟨w5.heap.size, 0, none⟩) 1 1]).run Tryz.prog (w5.alloc (.cells #[.int .i64 x] 3)) = .ok v' w6 ∧ Hid (Gd w0 w6 p M' (L ++ [x]) v')) := fun w5 M' x hg => by
    obtain ⟨Z5, hm5, hZ5, hv5, hE5⟩ := hg
    have hE6 := Ext.alloc [] w5 (.cells #[.int .i64 x] 3)
    have ho := own_keep0 hv5 hE6
    obtain ⟨i3, hi3, hz3, hs3, hy3⟩ := Co.info_parts Co.info3
    have hsz5 := hE5.size
    obtain ⟨v2, w6, hr, ho2, hg2, _, hat⟩ := run_append_own_at (P := Tryz.prog) (w5.alloc (.cells #[.int .i64 x] 3)) w0.heap.size 32 32 3 i3 _ 1 8 Tryz.underlying32 hi3 hz3 hs3 hy3 rfl (by decide) (.slice va L.length vc) L.length (lI L) ho ⟨w5.heap.size, 0, none⟩ 1 1 [.int .i64 x] rfl (fun j u hu => by rw [Addr.add_lit, cell_of_row _ _ _ _ _ _ (heap_alloc_new w5 _), Nat.zero_add, ← hu]; simp) (by simp [Value.oneCell']) (by unfold maxLen; omega) (by omega) (by simp; omega)
    have hx2 := co_ext (ext_grown hg2)
    have hx1 : Co.Ext [] w0 w6 := co_ext ((hE5.trans hE6).on (ext_grown hg2) (fun x hx => (own_lt ho x (by simpa using hx)).1))
    obtain ⟨a6, c6, rfl, _⟩ := own_slice ho2
    have hE6' := ext_co hx1
    have hx2' := ext_co hx2
    refine ⟨_, w6, hr, fun k => Z5 k ∧ k < w5.heap.size, ?_, fun k hk => ⟨(hZ5 k hk.1).1, fun e => ?_⟩, by simpa [lI] using ho2, hE6'⟩
    · exact (hm5.there.keep0 hE6).keep (Fx.of_ext hx2' (fun k hk => .inl (by simpa using hk : (Value.slice va L.length vc).ownBlock = some k))) (fun k hk q => (hZ5 k hk.1).2 q)
    · rcases hat with q | q
      · rw [q] at e; exact (hZ5 k hk.1).2 e
      · rw [q] at e; simp at e; omega
  clear hM hZ hv h0E hVI hva hk hG hO HAi HI HM HT hE1 k1 k3 k4 k5 k2
  generalize allocM M q.ps q.tag (adrsF L q.R) = r at *
  generalize hL2 : (if r.2.2 = 0 then L ++ [r.2.1] else L) = L2
  have HL2 := hid hL2
  clear hL2
  generalize q.kd = kd at *
  go_enter Tryz.func57, Tryz.ntmps57
  go_upto_region 1 with fail
  rw [← hw1]
  clear hw1
  go_wp2_with fail
  refine KA.mono ?_
  clear KA
  rintro e w2 ⟨v7, rfl, ho7, hE2⟩
  obtain ⟨ra7, rc7, rfl, hI7, _⟩ := own_is ho7
  have hE2' := ext_co hE2
  obtain ⟨f0, f1, f2, f3, f4, f5, f6, f7⟩ := HB.out w2 hE2'
  obtain ⟨pa4, pc4, w4, hr4, hE4, HO4⟩ := HAp.out w2 hE2'
  have K8 := HAc.out w2 w4 pa4 pc4 ra7 rc7 hE2' hE4 HO4.out.1 HO4.out.2 (hI7.keep0 (co_ext hE4))
  have g4 : w4.cell? ⟨w.heap.size, 4, none⟩ = some (.int .i64 q.tag) ∧ w4.cell? ⟨w.heap.size, 6, none⟩ = some (.slice pa pn pc) := ⟨hE4.cell f4 (by simp), hE4.cell f6 (by simp)⟩
  have gA : (w2.alloc (.cells #[] 4)).drew.cell? ⟨w.heap.size, 4, none⟩ = some (.int .i64 q.tag) ∧ (w2.alloc (.cells #[] 4)).drew.cell? ⟨w.heap.size, 6, none⟩ = some (.slice pa pn pc) := ⟨((Ext.alloc [] w2 _).trans (Ext.drew _ _)).cell f4 (by simp), ((Ext.alloc [] w2 _).trans (Ext.drew _ _)).cell f6 (by simp)⟩
  clear ho7 hI7 hE2 HB HAp HAc HO4 hE2' HE1 c0 c1 c2 c3 c4 c5 c6 c7 hE4
  generalize (adrsF L q.R).length = al at *
  generalize q.tag = tg at *
  generalize w.heap.size = B5 at *
  go_upto_region 3 with fail
  refine wp_region_held_drew (S := fun w' => w'.cell? ⟨B5, 4, none⟩ = some (.int .i64 tg) ∧ w'.cell? ⟨B5, 6, none⟩ = some (.slice pa pn pc)) (by kernel_rfl) ⟨f4, f6⟩ (fun hHeld => ?_)
  refine wpAnyH_take (i := 0) (oi := { dst := some 17, op := _, type := _, pos := _, after := _, guard := _ }) (v := .pointer (some ⟨p, 0, none⟩)) rfl (by kernel_rfl) (by kernel_rfl) (by kernel_rfl) (fun _ _ _ h => h) (Or.inl ⟨by rfl, ?_⟩) (by assumption) ?_
  · intro w hSw
    (try dsimp only at hSw)
    first | (go_simp; done) | (go_simp; with_reducible rfl)
  (try simp only [Act.put, List.setIfInBounds_toArray, List.set_cons_zero, List.set_cons_succ])
  refine wpAnyH_take (i := 2) (oi := { dst := some 19, op := _, type := _, pos := _, after := _, guard := _ }) (v := .pointer (some ⟨B5, 6, none⟩)) rfl (by kernel_rfl) (by kernel_rfl) (by kernel_rfl) (fun _ _ _ h => h) (Or.inl ⟨by rfl, ?_⟩) (by assumption) ?_
  · intro w hSw
    (try dsimp only at hSw)
    first | (go_simp; done) | (go_simp; with_reducible rfl)
  (try simp only [Act.put, List.setIfInBounds_toArray, List.set_cons_zero, List.set_cons_succ])
  refine wpAnyH_take (i := 3) (oi := { dst := some 20, op := _, type := _, pos := _, after := _, guard := _ }) (v := .slice pa pn pc) rfl (by kernel_rfl) (by kernel_rfl) (by kernel_rfl) (fun _ _ _ h => h) (Or.inl ⟨by rfl, ?_⟩) (by assumption) ?_
  · intro w hSw
    (try dsimp only at hSw)
    first | (go_simp; done) | (go_simp; with_reducible rfl)
  (try simp only [Act.put, List.setIfInBounds_toArray, List.set_cons_zero, List.set_cons_succ])
  refine wpAnyH_take (i := 5) (oi := { dst := some 22, op := _, type := _, pos := _, after := _, guard := _ }) (v := .pointer (some ⟨B5, 4, none⟩)) rfl (by kernel_rfl) (by kernel_rfl) (by kernel_rfl) (fun _ _ _ h => h) (Or.inl ⟨by rfl, ?_⟩) (by assumption) ?_
  · intro w hSw
    (try dsimp only at hSw)
    first | (go_simp; done) | (go_simp; with_reducible rfl)
  (try simp only [Act.put, List.setIfInBounds_toArray, List.set_cons_zero, List.set_cons_succ])
  refine wpAnyH_take (i := 6) (oi := { dst := some 23, op := _, type := _, pos := _, after := _, guard := _ }) (v := .int .i64 tg) rfl (by kernel_rfl) (by kernel_rfl) (by kernel_rfl) (fun _ _ _ h => h) (Or.inl ⟨by rfl, ?_⟩) (by assumption) ?_
  · intro w hSw
    (try dsimp only at hSw)
    first | (go_simp; done) | (go_simp; with_reducible rfl)
  (try simp only [Act.put, List.setIfInBounds_toArray, List.set_cons_zero, List.set_cons_succ])
  refine wpAnyH_take (i := 7) (oi := { dst := some 24, op := _, type := _, pos := _, after := _, guard := _ }) (v := .slice ra7 al rc7) rfl (by kernel_rfl) (by kernel_rfl) (by kernel_rfl) (fun _ _ _ h => h) (Or.inl ⟨by rfl, ?_⟩) (by assumption) ?_
  · intro w hSw
    (try dsimp only at hSw)
    first | (go_simp; done) | (go_simp; with_reducible rfl)
  (try simp only [Act.put, List.setIfInBounds_toArray, List.set_cons_zero, List.set_cons_succ])
  refine wpAnyH_ready (rs := [1]) (by kernel_rfl) (by simp) ?_
  refine AllReadyH.cons (o := { dst := some 18, op := _, type := _, pos := _, after := _, guard := _ }) rfl (fun K hK => ?_) ?_
  · go_simp
    refine hK.out _ _ gA (fun hHeld => ?_)
    clear hK K
    (try simp only [Act.put, List.setIfInBounds_toArray, List.set_cons_zero, List.set_cons_succ])
    refine wpAnyH_ready (rs := [4]) (by kernel_rfl) (by simp) ?_
    refine AllReadyH.cons (o := { dst := some 21, op := _, type := _, pos := _, after := _, guard := _ }) rfl (fun K hK => ?_) ?_
    · refine wp_append_run _ _ 26 rfl (.slice (some ⟨w2.heap.size, 0, none⟩) 0 0) (.slice pa pn pc) _ (by rfl) (by rfl) hr4 ?_
      refine hK.out _ _ g4 (fun hHeld => ?_)
      clear hK K
      (try simp only [Act.put, List.setIfInBounds_toArray, List.set_cons_zero, List.set_cons_succ])
      refine wpAnyH_ready (rs := [8]) (by kernel_rfl) (by simp) ?_
      refine AllReadyH.cons (o := { dst := some 25, op := _, type := _, pos := _, after := _, guard := _ }) rfl (fun K hK => ?_) ?_
      · go_simp
        refine Calls.mono K8 ?_
        rintro e w5 ⟨rfl, g5, HP⟩
        go_wp2_with fail
        refine hK.out _ _ g5 (fun hHeld => ?_)
        clear hK K
        (try simp only [Act.put, List.setIfInBounds_toArray, List.set_cons_zero, List.set_cons_succ])
        refine wpAnyH_take (i := 9) (oi := { dst := some 16, op := _, type := _, pos := _, after := _, guard := _ }) (v := .tuple #[.int .i64 r.2.1, .int .i64 r.2.2]) rfl (by kernel_rfl) (by kernel_rfl) (by kernel_rfl) (fun _ _ _ h => h) (Or.inl ⟨by rfl, ?_⟩) (by assumption) ?_
        · intro w hSw
          (try dsimp only at hSw)
          first | (go_simp; done) | (go_simp; with_reducible rfl)
        (try simp only [Act.put, List.setIfInBounds_toArray, List.set_cons_zero, List.set_cons_succ])
        refine wpAnyH_take (i := 10) (oi := { dst := some 26, op := _, type := _, pos := _, after := _, guard := _ }) (v := .int .i64 r.2.1) rfl (by kernel_rfl) (by kernel_rfl) (by kernel_rfl) (fun _ _ _ h => h) (Or.inl ⟨by rfl, ?_⟩) (by assumption) ?_
        · intro w hSw
          (try dsimp only at hSw)
          first | (go_simp; done) | (go_simp; with_reducible rfl)
        (try simp only [Act.put, List.setIfInBounds_toArray, List.set_cons_zero, List.set_cons_succ])
        refine wpAnyH_take (i := 11) (oi := { dst := some 27, op := _, type := _, pos := _, after := _, guard := _ }) (v := .int .i64 r.2.2) rfl (by kernel_rfl) (by kernel_rfl) (by kernel_rfl) (fun _ _ _ h => h) (Or.inl ⟨by rfl, ?_⟩) (by assumption) ?_
        · intro w hSw
          (try dsimp only at hSw)
          first | (go_simp; done) | (go_simp; with_reducible rfl)
        (try simp only [Act.put, List.setIfInBounds_toArray, List.set_cons_zero, List.set_cons_succ])
        refine wpAnyH_take (i := 12) (oi := { dst := some 8, op := _, type := _, pos := _, after := _, guard := _ }) (v := .int .i64 r.2.1) rfl (by kernel_rfl) (by kernel_rfl) (by kernel_rfl) (fun _ _ _ h => h) (Or.inl ⟨by rfl, ?_⟩) (by assumption) ?_
        · intro w hSw
          (try dsimp only at hSw)
          first | (go_simp; done) | (go_simp; with_reducible rfl)
        (try simp only [Act.put, List.setIfInBounds_toArray, List.set_cons_zero, List.set_cons_succ])
        refine wpAnyH_take (i := 13) (oi := { dst := some 9, op := _, type := _, pos := _, after := _, guard := _ }) (v := .int .i64 r.2.2) rfl (by kernel_rfl) (by kernel_rfl) (by kernel_rfl) (fun _ _ _ h => h) (Or.inl ⟨by rfl, ?_⟩) (by assumption) ?_
        · intro w hSw
          (try dsimp only at hSw)
          first | (go_simp; done) | (go_simp; with_reducible rfl)
        (try simp only [Act.put, List.setIfInBounds_toArray, List.set_cons_zero, List.set_cons_succ])
        refine wpAnyH_done (by kernel_rfl) ?_ _
        by_cases he : r.2.2 = 0
        · have hL2 := HL2.out
          rw [if_pos he] at hL2
          subst hL2
          clear HL2
          have b0 : (r.2.2 == 0) = true := by simpa using he
          obtain ⟨v6, w6, hr6, HG6⟩ := HApp.out w5 _ r.2.1 HP.out
          clear HApp HP
          go_wp2_with (first | (at_builtin; refine wpList_append_run rfl _ _ 32 rfl _ _ _ rfl rfl hr6 ?_) | fail "no arm")
          go_ret
          exact ⟨_, rfl, HG6.out⟩
        · have hL2 := HL2.out
          rw [if_neg he] at hL2
          subst hL2
          clear HL2
          have b0 : (r.2.2 == 0) = false := by simpa using he
          clear HApp
          go_wp2_with fail
          go_ret
          exact ⟨_, rfl, HP.out⟩
      · exact AllReadyH.nil
    · exact AllReadyH.nil
  · exact AllReadyH.nil

end

end Go.Proofs.YtjbbomokgpoilaaGreatDoor

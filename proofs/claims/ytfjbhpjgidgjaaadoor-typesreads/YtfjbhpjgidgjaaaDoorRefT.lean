/-
  What the reference reads bytes as; no statement is proved here.
-/
import Derived.Test.YtfjbhpjgidgjaaaDoorRefO
import Derived.Test.YtfjbhpjgidgjaaaDoorRefF
namespace Go.Proofs.YtfjbhpjgidgjaaaDoor
open Go.RowKit

/-- How far the reading of a table is. -/
structure OutT (w : World) (p : Nat) (a : Option Addr) (n c : Nat) (L : List Int) (T : Rd (List Ty)) (r k : Nat) (lv : Value) (wr : World) (b : Nat) (f : Bool) (xs : List Value) : Prop where
  row : wr.ownsRow w.heap.size 48 5 lv k xs
  good : f = false → ∃ acc G, acc.length = k ∧ xs = rows acc G k ∧ Fs w wr acc G k ∧ rdMany L r b acc = T
  bad : f = true → T = .bad b
  ext : Ext [p] w wr
  rdf : Rdf wr p a n c b f
  le : b ≤ n

structure TypesPost (w : World) (p : Nat) (a : Option Addr) (n c : Nat) (T : Rd (List Ty)) (e : Ending) (w' : World) : Prop where
  ex : ∃ lv b f, e = .returned lv ∧ Rdf w' p a n c b f ∧ b ≤ n ∧ (f = true → T = .bad b) ∧ (f = false → ∃ ts G la lc, T = .good ts b ∧ lv = .slice la ts.length lc ∧ ts.length ≤ lc ∧ Cp w w' la ts.length lc ts G)
  x : Ext [p] w w'

set_option maxRecDepth 100000 in
set_option maxHeartbeats 2000000 in
theorem rtypes_any (p : Nat) (a : Option Addr) (L : List Int) (n c : Nat) (w : World) (hR : Rdf w p a n c 0 false) (hS : Src w p a n c L) :
    Calls Tryd.prog 40 #[.pointer (some ⟨p, 0, none⟩)] w (TypesPost w p a n c (rdTab L)) := by
  have K := int_any p a L n c 0 false w hR hS (Nat.zero_le _)
  have hbd := numR_bd L 0 false n (Nat.zero_le _) hS.hn
  have HS := hid hS
  obtain ⟨T, hT⟩ : ∃ T, T = rdTab L := ⟨_, rfl⟩
  have HTe := hid hT
  have HT : Hid (((numR L 0 false).2.2 = false → rdMany L (numR L 0 false).1.toNat (numR L 0 false).2.1 [] = T) ∧ ((numR L 0 false).2.2 = true → T = .bad (numR L 0 false).2.1)) := by
    refine ⟨fun h => ?_, fun h => ?_⟩
    · rw [hT]; unfold rdTab rdNum; rw [numR_yes h]
    · obtain ⟨h1, h2⟩ := numR_no h
      rw [hT]; unfold rdTab rdNum; rw [h1, h2]
  generalize numR L 0 false = r at *
  obtain ⟨v, b0, f0⟩ := r
  obtain ⟨hv0, hv1, hb0⟩ := hbd
  simp only at hv0 hv1 hb0 HT
  obtain ⟨m, rfl⟩ : ∃ m : Nat, v = m := ⟨v.toNat, by omega⟩
  have hpl : p < w.heap.size := lt_of_heap hR
  clear hR hS hT
  go_enter Tryd.func40, Tryd.ntmps40
  go_wp2_with fail
  refine K.mono ?_
  clear K
  rintro e w1 ⟨rfl, hR1, hE1⟩
  have HO : Hid (OutT w p a n c L T m 0 (.slice none 0 0) w1 b0 f0 []) := ⟨own_nil _ _ _ _, fun h => ⟨[], fun _ => (none, 0), rfl, rfl, fun i hi => by omega, HT.out.1 h⟩, HT.out.2, hE1, hR1, hb0⟩
  clear hR1 hE1 HT
  go_wp2_with fail
  go_loopg [3, 5] m (fun g lv u wr => ∃ k b f xs, k + g = m ∧ u = .int .i64 (k : Nat) ∧ OutT w p a n c L T g k lv wr b f xs)
  case atStart => exact ⟨0, b0, f0, [], by omega, rfl, HO.out⟩
  case round =>
    clear HO
    obtain ⟨k, b, f, xs, hkg, rfl, hO⟩ := hrel
    have HO := hid hO
    obtain ⟨d0, d1, d2, df⟩ := hO.rdf.cells
    obtain ⟨wk, hwk⟩ : ∃ x, x = wr := ⟨_, rfl⟩
    subst hwk
    clear hO
    by_cases hgo : k < m ∧ f = false
    · obtain ⟨hkm, rfl⟩ := hgo
      obtain ⟨g, rfl⟩ : ∃ g, gk = g + 1 := ⟨gk - 1, by omega⟩
      have K := one_any p a L n c b wk HO.out.rdf (HS.out.keep1 HO.out.ext) HO.out.le
      go_wp2_with fail
      refine K.mono ?_
      clear K
      rintro e w3 ⟨⟨t, fa, fc, b3, f3, rfl, hR3, hb3, hrow3, hfl3, hgood3, hbad3⟩, hE3⟩
      obtain ⟨acc, G, hal, hxs, hFs, hgood⟩ := HO.out.good rfl
      have hE4 := Ext.alloc [] w3 (.cells #[.int .i64 t.kind, .int .i64 t.elem, .int .i64 t.key, .int .i64 t.len, .slice fa t.fields.length fc] 48)
      have hnp := own_ne HO.out.row HO.out.rdf (by decide)
      have hr4 := own_keep0 (own_keep HO.out.row hE3 (by simpa using hnp)) hE4
      have hE34 := HO.out.ext.trans (hE3.trans (hE4.mono (by simp)))
      obtain ⟨v5, w5, hap, hO5, hX5⟩ := app5 _ w.heap.size hE34.size u3 k xs hr4 w3.heap.size t (fa, fc) (heap_alloc_new w3 _) (by omega)
      have HR5 : Hid (Rdf w5 p a n c b3 f3) := (hR3.keep hE4 (by simp)).keep hX5 (by simpa using own_ne hr4 (hR3.keep hE4 (by simp)) (by decide))
      have HE5 : Hid (Ext [p] w w5) := by
        refine ((hE34.mono (T := p :: u3.ownBlock.toList) (by simp)).trans (hX5.mono (fun x hx => List.mem_cons_of_mem _ hx))).drop ?_
        intro x hx
        rcases List.mem_cons.1 hx with h | h
        · left; simp [h]
        · right; exact (own_lt hr4 x (by simpa using h)).1
      have HF5 : Hid (Fs w w5 (acc ++ [t]) (fun i => if i = k then (fa, fc) else G i) (k + 1)) := by
        intro i hi
        by_cases e : i = k
        · subst e
          simp only [if_true]
          rw [← hal, tyAt_new]
          have h3 := own_keep0 (own_base hrow3 (base' := w.heap.size) (HO.out.ext.size)) hE4
          exact own_keep h3 hX5 (own_apart h3 hr4 (by decide))
        · simp only [e, if_false]
          rw [tyAt_old acc t i (by omega)]
          have h0 := hFs i (by omega)
          have h2 := own_keep0 (own_keep h0 hE3 (by simpa using own_ne h0 HO.out.rdf (by decide))) hE4
          exact own_keep h2 hX5 (own_apart h2 hr4 (by decide))
      have HN : Hid (OutT w p a n c L T g (k + 1) v5 w5 b3 f3 (xs ++ tyRow t (fa, fc))) := by
        refine ⟨hO5, fun hf => ?_, fun hf => ?_, HE5.out, HR5.out, hb3⟩
        · refine ⟨acc ++ [t], _, by simp [hal], ?_, HF5.out, ?_⟩
          · rw [hxs]; exact rows_more acc t G (fa, fc) k hal
          · rw [← hgood, rdMany_then, hgood3 hf]; rfl
        · rw [← hgood, rdMany_then, hbad3 hf]; rfl
      clear hR3 hrow3 hgood3 hbad3 hE3 hal hxs hFs hgood hE4 hnp hr4 hE34 hO5 hX5 HF5 HE5 HR5
      simp only [tyVal]
      go_wp2_with (at_builtin; refine wpList_append_run rfl _ _ 22 rfl _ _ _ rfl rfl hap ?_)
      go_roundg g
      case measure => omega
      case rel => exact ⟨k + 1, b3, f3, _, by omega, by go_num, HN.out⟩
    · have HFin : Hid (TypesPost w p a n c (rdTab L) (.returned u3) wk) := by
        rw [← HTe.out]
        refine ⟨⟨u3, b, f, rfl, HO.out.rdf, HO.out.le, HO.out.bad, fun hf => ?_⟩, HO.out.ext⟩
        obtain ⟨acc, G, hal, hxs, hFs, hgood⟩ := HO.out.good hf
        have hk : k = m := by
          have : ¬ k < m := fun h => hgo ⟨h, hf⟩
          omega
        have hg0 : gk = 0 := by omega
        subst hg0
        obtain ⟨la, lc, h1, hlc⟩ := own_slice HO.out.row
        have hrow := HO.out.row
        rw [h1, hxs] at hrow
        subst hal
        exact ⟨acc, G, la, lc, hgood.symm, h1, hlc, hrow, hFs⟩
      cases f
      · have hkm : ¬ ((k : Int) < m) := by
          have : ¬ k < m := fun h => hgo ⟨h, rfl⟩
          omega
        clear hgo
        go_wp2_with fail
        go_ret
        exact HFin.out
      · clear hgo
        by_cases hkm : k < m
        · go_wp2_with fail
          go_ret
          exact HFin.out
        · go_wp2_with fail
          go_ret
          exact HFin.out

theorem zero74 : (Tryd.prog.info? 74).map (fun i => (i.zero, i.size)) = some (some (.agg #[.slice none 0 0, .int .i64 0, .bool false]), 3) := by kernel_rfl

set_option maxRecDepth 100000 in
set_option maxHeartbeats 2000000 in
theorem rdecode_any (a : Option Addr) (L : List Int) (n c : Nat) (w : World) (hI : Inp w a n c L) :
    Calls Tryd.prog 22 #[.slice a n c] w (DecPost w (dec L)) := by
  obtain ⟨hz74, _⟩ := zero_of_info zero74
  have HI := hid hI
  have HN := hid hI.hn
  clear hI
  by_cases hl : 65536 < n
  · have HD : Hid (dec L = ([], 0, 6)) := dec_large (by rw [HN.out]; exact hl)
    go_enter Tryd.func22, Tryd.ntmps22
    go_wp2_with fail
    go_ret3
    exact dec_no HD.out (Ext.refl _ _)
  · have HLn : Hid (¬ 65536 < L.length) := by show ¬ _; rw [HN.out]; exact hl
    have hE0 := Ext.alloc [] w (.cells #[.slice a n c, .int .i64 ((0 : Nat) : Int), .bool false] 74)
    have hR0 : Rdf (w.alloc (.cells #[.slice a n c, .int .i64 ((0 : Nat) : Int), .bool false] 74)) w.heap.size a n c 0 false := heap_alloc_new w _
    have K := rtypes_any w.heap.size a L n c _ hR0 ⟨HI.out.hb.keep0 hE0, HN.out, by omega, HI.out.hv, HI.out.hc, fun h0 ad h => by have := HI.out.hb.lt h0 ad h; omega⟩
    have HE0 := hid hE0
    clear hE0 hR0
    go_enter Tryd.func22, Tryd.ntmps22
    go_wp2_with fail
    refine K.mono ?_
    clear K
    rintro e w1 ⟨⟨lv, b, f, rfl, hR1, hb1, hbad, hgood⟩, hE1⟩
    have HE1 := hid (HE0.out.on hE1 (by simp))
    obtain ⟨d0, d1, d2, df⟩ := hR1.cells
    cases f
    · obtain ⟨ts, G, la, lc, hT, rfl, hlc, hcp⟩ := hgood rfl
      have HL := hid (rdTab_len hT)
      have HCp : Hid (Cp w w1 la ts.length lc ts G) := ⟨own_base hcp.own (by simp), fun i hi => own_base (hcp.fs i hi) (by simp)⟩
      by_cases hx : b = n
      · have HT1 := hid (HCp.out.tab rfl (by have := HL.out.1; omega) (fun i hi => by have := HL.out.2 i hi; omega))
        have K := rcheck_any la ts ts.length lc w1 HT1.out rfl
        have HRx : Hid (rdTab L = .good ts b ∧ b = L.length) := ⟨hT, by rw [HN.out]; exact hx⟩
        clear hT hE1 hcp hR1 hgood hbad
        have hnl : ¬ ((b : Int) < n) := by omega
        clear hx
        go_wp2_with fail
        refine K.mono ?_
        clear K
        rintro e w2 ⟨rfl, hE2⟩
        have HE2 := hid hE2
        have HE12 := hid (HE1.out.trans hE2)
        clear hE2
        by_cases hs : Sound ts
        · have HD3 : Hid (dec L = (ts, 0, 0)) := dec_yes HLn.out HRx.out.1 HRx.out.2 hs
          rw [chk_yes hs]
          clear hs HRx
          go_wp2_with fail
          go_ret3
          rw [HD3.out]
          exact ⟨la, lc, G, rfl, hlc, HCp.out.keep0 HE2.out, HT1.out.keep0 HE2.out, HE12.out⟩
        · have HD3 : Hid (dec L = ([], 0, 1)) := dec_form HLn.out HRx.out.1 HRx.out.2 hs
          rw [chk_no hs]
          clear hs HRx
          go_wp2_with fail
          go_ret3
          exact dec_no HD3.out HE12.out
      · have HD2 : Hid (dec L = ([], b, 13)) := dec_short HLn.out hT (by rw [HN.out]; exact hx)
        have hnl : (b : Int) < n := by omega
        clear hT hE1 hcp hR1 hgood hbad hx
        go_wp2_with fail
        go_quiet (fail)
        go_wp2_with fail
        go_ret3
        exact dec_no HD2.out (HE1.out.trans (Ext.drewN [] _ _))
    · have HD2 : Hid (dec L = ([], b, 13)) := dec_bad HLn.out (hbad rfl)
      clear hE1 hR1 hgood hbad
      go_wp2_with fail
      go_quiet (fail)
      go_wp2_with fail
      go_ret3
      exact dec_no HD2.out (HE1.out.trans (Ext.drewN [] _ _))

end Go.Proofs.YtfjbhpjgidgjaaaDoor

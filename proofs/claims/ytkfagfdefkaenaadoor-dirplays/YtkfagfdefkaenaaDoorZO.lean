/-
  DLen, DCpA, DCpy: joined by program; no statement is proved here.
-/
import Derived.Test.YtkfagfdefkaenaaDoorZN
/-
  How many entries a directory has, and what is found in it; no statement is proved here.
-/
namespace Go.Proofs.YtkfagfdefkaenaaDoor
open Go.RowKit Go.Shelf
open Pr (Gp GpI sq pl)
attribute [local go_sem] Oper.semAt_some run_store_func

theorem En_take {L : List Tq} {k : Nat} {t : Tq} (h : L[k]? = some t) : En (L.take (k + 1)) = En (L.take k) ++ ents t.T t.G := by
  rw [take_snoc h, En_app, En_cons]; simp [En]
theorem En_len_le {dp : Nat} : ∀ (L : List Tq) (p : Nat), Ok dp L p → (En L).length ≤ L.length * 28672
  | [], _, _ => by simp [En]
  | t :: L, p, h => by
    rw [En_cons, List.length_append, List.length_cons]
    have h1 := sd_len7 h.1.sd
    have h2 := h.1.sd.shp.gp.le
    have h3 := En_len_le L _ h.2
    omega
theorem Dq.en_le {dp : Nat} {L : List Tq} (h : Dq dp L) : (En L).length ≤ 1835008 := by
  have h1 := En_len_le L 0 h.ok
  have h2 := h.len
  omega
theorem take_en_le {L : List Tq} (k : Nat) : (En (L.take k)).length ≤ (En L).length := by
  have : En L = En (L.take k) ++ En (L.drop k) := by rw [← En_app, List.take_append_drop]
  rw [this, List.length_append]; omega
set_option maxRecDepth 100000 in
set_option maxHeartbeats 4000000 in
theorem dlen_any (dp bt ct bs os cs n : Nat) (L : List Tq) (hD : Dq dp L) (hcs : 2 ^ dp ≤ cs) (hn : L.length = n) (w : World) (hR : Dr w bt bs os dp L) (hTb : Tb w) :
    Calls Tryd.prog 23 #[dv dp bt n ct bs os (2 ^ dp) cs] w (SayPost w (.tuple #[.int .i64 ((En L).length : Nat), .int .i64 0])) := by
  obtain ⟨m, hm⟩ : ∃ m, 2 ^ dp = m := ⟨_, rfl⟩
  obtain ⟨z, hz⟩ : ∃ z, w.heap.size = z := ⟨_, rfl⟩
  have hE0 := Ext.alloc [] w (.cells #[.int .i64 (dp : Nat), .slice (some ⟨bt, 0, none⟩) n ct, .slice (some ⟨bs, os, none⟩) m cs] 27)
  have hb0 := heap_alloc_new w (.cells #[.int .i64 (dp : Nat), .slice (some ⟨bt, 0, none⟩) n ct, .slice (some ⟨bs, os, none⟩) m cs] 27)
  obtain ⟨W0, hW0⟩ : ∃ W0, w.alloc (.cells #[.int .i64 (dp : Nat), .slice (some ⟨bt, 0, none⟩) n ct, .slice (some ⟨bs, os, none⟩) m cs] 27) = W0 := ⟨_, rfl⟩
  rw [hW0] at hE0 hb0
  rw [hz] at hb0
  have K := sound_yes dp bt ct bs os cs n L hD hcs hn W0 (hR.keep0 hE0) (hTb.keep0 hE0)
  unfold dv at K ⊢
  rw [hm] at K ⊢
  have hen := hD.en_le
  have hl64 := hD.len
  rw [hn] at hl64
  obtain ⟨a0, a1, a2⟩ := cells3 hb0
  have HD := hid hD
  have HN := hid hn
  have HR := hid (hR.keep0 hE0)
  have HE0 := hid hE0
  have B0 := hid hb0
  clear hD hn hR hTb hE0 hb0 hcs
  go_enter Tryd.func23, Tryd.ntmps23
  go_wp2_with fail
  try rw [hW0]
  try simp only [hz]
  clear hW0
  refine K.mono ?_
  clear K a0 a1 a2
  rintro _ w1 ⟨rfl, hE1⟩
  obtain ⟨c0, c1, c2⟩ := cells3 (hE1.keep B0.out (by simp))
  have HE1 := hid hE1
  have HR1 := hid (HR.out.keep0 hE1)
  clear hE1 c0 c2
  go_wp2_with fail
  go_loopw [4, 15] (fun p q wr => ∃ k : Nat, q = .int .i64 k ∧ k ≤ n ∧ p = .int .i64 ((En (L.take k)).length : Nat) ∧ Ext [] w1 wr) (fun _ q _ => (n - (intOf q)).toNat)
  case atStart => exact ⟨0, rfl, Nat.zero_le _, by simp [En], Ext.refl _ _⟩
  case round =>
    obtain ⟨k, rfl, hk, rfl, hXr⟩ := hrel
    by_cases hkn : k < n
    · have hki : (k : Int) < n := by omega
      obtain ⟨t, p, hN⟩ := HD.out.nth (by rw [HN.out]; exact hkn)
      obtain ⟨g, c, e1, e2, hTw⟩ := (HR1.out.ts.keep0 hXr).cells hN.at_
      have hen1 := En_take hN.at_
      have hle1 := take_en_le (L := L) (k + 1)
      rw [hen1, List.length_append] at hle1
      have hsl := sd_len hN.ot.sd
      have hEA := Ext.alloc [] wr (.cells #[.int .i64 (t.d : Nat), .slice (some ⟨g, 0, none⟩) (3 + 17 * t.G) c] 66)
      have KL := len_true (some ⟨g, 0, none⟩) c t.T t.G hN.ot.sd _ (hTw.keep0 hEA).wd
      obtain ⟨en, hen'⟩ : ∃ en, t.T.getD 1 0 = en := ⟨_, rfl⟩
      rw [hen'] at KL hsl
      obtain ⟨s0, hs0⟩ : ∃ s0, (En (L.take k)).length = s0 := ⟨_, rfl⟩
      rw [hs0] at hle1 ⊢
      rw [hsl] at hle1
      have HXr := hid (hXr.trans hEA)
      have HEn : Hid ((En (L.take (k + 1))).length = s0 + en) := by show _ = _; rw [hen1, List.length_append, hs0, hsl]
      clear hXr hEA hTw hN hen1 hsl hen' hs0
      go_wp2_with fail
      refine KL.mono ?_
      clear KL
      rintro _ w2 ⟨rfl, hE2⟩
      have HE2 := hid (HXr.out.trans hE2)
      clear hE2 e1 e2
      go_wp2_with fail
      go_roundw
      case rel => exact ⟨k + 1, by go_num, by omega, by rw [HEn.out]; push_cast; rfl, HE2.out⟩
      case measure => simp [intOf]; omega
    · obtain rfl : k = n := by omega
      have htk : L.take k = L := by rw [← HN.out]; exact List.take_length
      rw [htk]
      obtain ⟨s0, hs0⟩ : ∃ s0, (En L).length = s0 := ⟨_, rfl⟩
      rw [hs0]
      have HXr := hid hXr
      have HS0 := hid hs0
      clear hXr hs0
      go_wp2_with fail
      go_ret2
      exact ⟨by rw [HS0.out]; rfl, (HE0.out.trans HE1.out).trans HXr.out⟩
set_option maxRecDepth 100000 in
set_option maxHeartbeats 4000000 in
theorem dfind_any (dp bt ct bs os cs n h : Nat) (A : List Tq) (t : Tq) (B : List Tq) (hD : Dq dp (A ++ t :: B)) (hTo : TabOf dp (A ++ t :: B) A t B h) (hcs : 2 ^ dp ≤ cs) (hn : (A ++ t :: B).length = n) (hh : h < 18446744073709551616) (w : World) (hR : Dr w bt bs os dp (A ++ t :: B)) (hTb : Tb w) :
    Calls Tryd.prog 49 #[dv dp bt n ct bs os (2 ^ dp) cs, .int .u64 (h : Nat)] w (FiPost w (fnd t.T h t.G)) := by
  obtain ⟨m, hm⟩ : ∃ m, 2 ^ dp = m := ⟨_, rfl⟩
  obtain ⟨z, hz⟩ : ∃ z, w.heap.size = z := ⟨_, rfl⟩
  have hE0 := Ext.alloc [] w (.cells #[.int .i64 (dp : Nat), .slice (some ⟨bt, 0, none⟩) n ct, .slice (some ⟨bs, os, none⟩) m cs] 27)
  have hb0 := heap_alloc_new w (.cells #[.int .i64 (dp : Nat), .slice (some ⟨bt, 0, none⟩) n ct, .slice (some ⟨bs, os, none⟩) m cs] 27)
  obtain ⟨W0, hW0⟩ : ∃ W0, w.alloc (.cells #[.int .i64 (dp : Nat), .slice (some ⟨bt, 0, none⟩) n ct, .slice (some ⟨bs, os, none⟩) m cs] 27) = W0 := ⟨_, rfl⟩
  rw [hW0] at hE0 hb0
  rw [hz] at hb0
  have K := sound_yes dp bt ct bs os cs n _ hD hcs hn W0 (hR.keep0 hE0) (hTb.keep0 hE0)
  have KT := fun u (hu : Ext [] W0 u) => tabOf_any dp bt n ct bs os cs h A.length (slo dp (A ++ t :: B) 0) hD.le hh u ((hR.ns.keep hE0 (by simp)).keep hu (by simp)) hTo.slot
  obtain ⟨i, hi⟩ : ∃ i, A.length = i := ⟨_, rfl⟩
  unfold dv at K KT ⊢
  rw [hm] at K KT ⊢
  rw [hi] at KT
  have hl64 := hD.len
  rw [hn] at hl64
  have hn' := hn
  rw [List.length_append, List.length_cons] at hn'
  have hin : (i : Int) < n := by omega
  obtain ⟨a0, a1, a2⟩ := cells3 hb0
  have hsd := hTo.ot.sd
  have HR := hid (hR.keep0 hE0)
  have HTb := hid (hTb.keep0 hE0)
  have HE0 := hid hE0
  have B0 := hid hb0
  clear hD hn hR hTb hE0 hb0 hcs hTo
  go_enter Tryd.func49, Tryd.ntmps49
  go_wp2_with fail
  try rw [hW0]
  try simp only [hz]
  clear hW0
  refine K.mono ?_
  clear K a0 a1 a2
  rintro _ w1 ⟨rfl, hE1⟩
  have hr1 := hE1.keep B0.out (by simp)
  obtain ⟨c0, c1, c2⟩ := cells3 hr1
  have c0' : w1.drew.cell? ⟨z, 0, none⟩ = some (.int .i64 (dp : Nat)) := c0
  have c1' : w1.drew.cell? ⟨z, 1, none⟩ = some (.slice (some ⟨bt, 0, none⟩) n ct) := c1
  have c2' : w1.drew.cell? ⟨z, 2, none⟩ = some (.slice (some ⟨bs, os, none⟩) m cs) := c2
  have KT1 := KT w1.drew (hE1.trans (Ext.drew [] w1))
  obtain ⟨g, c, e1, e2, hTw⟩ := ((HR.out.ts.keep0 hE1).keep0 (Ext.drew [] w1)).cells (n := i) (t := t) (by rw [← hi]; simp)
  have KF := fun u (hu : Ext [] w1.drew u) => find_any (some ⟨g, 0, none⟩) c t.T t.G h hsd hh u (hTw.keep0 hu).wd (((HTb.out.keep0 hE1).keep0 (Ext.drew [] w1)).keep0 hu)
  have HE1 := hid hE1
  clear hE1 hr1 hTw KT
  go_wp2_with fail
  go_region_held3 (fun w' => w'.cell? ⟨z, 0, none⟩ = some (.int .i64 (dp : Nat)) ∧ w'.cell? ⟨z, 1, none⟩ = some (.slice (some ⟨bt, 0, none⟩) n ct) ∧ w'.cell? ⟨z, 2, none⟩ = some (.slice (some ⟨bs, os, none⟩) m cs) ∧ w'.cell? ⟨bt, i * 2 + 1, none⟩ = some (.slice (some ⟨g, 0, none⟩) (3 + 17 * t.G) c))
    (first | go_keep | exact ⟨hC6.cell c0' (by simp), hC6.cell c1' (by simp), hC6.cell c2' (by simp), hC6.cell e2 (by simp)⟩ | exact ⟨hE5.cell c0' (by simp), hE5.cell c1' (by simp), hE5.cell c2' (by simp), hE5.cell e2 (by simp)⟩)
    (first
      | (go_at_call 37; refine KT1.mono ?_; rintro _ w5 ⟨rfl, hE5⟩)
      | (go_at_call 86; refine (KF w5 hE5).mono ?_; rintro _ w6 ⟨Bn, v, rfl, hb6, ho6, hB6, hE6⟩; have hC6 := hE5.trans hE6)
      | fail "no arm")
  have hEw := ((HE0.out.trans HE1.out).trans (Ext.drew [] w1)).trans hC6
  have hsz := (((HE0.out.trans HE1.out).trans (Ext.drew [] w1)).trans hE5).size
  have HF : Hid (FiPost w (fnd t.T h t.G) (.returned (.tuple #[.func (.func 131) #[] #[.pointer (some ⟨Bn, 0, none⟩)], .int .i64 0])) w6) := ⟨Bn, v, rfl, hb6, own_base ho6 hsz, by omega, hEw⟩
  clear hb6 ho6 hE5 hE6 hC6 hEw KF KT1 c0 c1 c2 c0' c1' c2' e1 e2
  go_wp2_with fail
  go_ret2
  exact HF.out
end Go.Proofs.YtkfagfdefkaenaaDoor

/-
  The document's copy of a directory, one table more; no statement is proved here.
-/
namespace Go.Proofs.YtkfagfdefkaenaaDoor
open Go.RowKit Go.Shelf
open Pr (Gp GpI sq pl)

/-- The copy so far. -/
structure CpI (W0 wr : World) (zo g3 c3 m dp k : Nat) (L : List Tq) (S : List Nat) (tv : Value) : Prop where
  row : wr.heap[zo]? = some (.cells #[.int .i64 (dp : Nat), tv, .slice (some ⟨g3, 0, none⟩) m c3] 27)
  own : ∃ xs, wr.ownsRow W0.heap.size 66 2 tv k xs ∧ (∀ u ∈ xs, u.oneCell' = true) ∧ ∀ j t, (L.take k)[j]? = some t → ∃ g c, xs[j * 2]? = some (.int .i64 (t.d : Nat)) ∧ xs[j * 2 + 1]? = some (.slice (some ⟨g, 0, none⟩) (3 + 17 * t.G) c) ∧ Tw wr g t.T
  ns : Ns wr g3 0 S
  gr : ∃ cur, wr.heap[g3]? = some (.cells cur 3 (0, 0))
  glo : W0.heap.size ≤ g3
  ext : Ext [] W0 wr
  zlo : W0.heap.size ≤ zo
theorem CpI.keep {W0 wr wv : World} {zo g3 c3 m dp k : Nat} {L : List Tq} {S : List Nat} {tv : Value} (h : CpI W0 wr zo g3 c3 m dp k L S tv) (e : Ext [] wr wv) : CpI W0 wv zo g3 c3 m dp k L S tv := by
  obtain ⟨h1, ⟨xs, h2, h3, h4⟩, h5, ⟨cur, h6⟩, h7, h8, h9⟩ := h
  refine ⟨e.keep h1 (by simp), ⟨xs, own_keep0 h2 e, h3, fun j t hj => ?_⟩, h5.keep e (by simp), ⟨cur, e.keep h6 (by simp)⟩, h7, h8.trans e, h9⟩
  obtain ⟨g, c, e1, e2, e3⟩ := h4 j t hj
  exact ⟨g, c, e1, e2, e3.keep0 e⟩
/-- The words are copied. -/
def CwA (W0 U1 : World) (kb G : Nat) (T : List Nat) (v : Value) (U2 : World) : Prop := ∃ gw cw, v = .slice (some ⟨gw, 0, none⟩) (3 + 17 * G) cw ∧ Tw U2 gw T ∧ Ext [kb] U1 U2 ∧ Ext [] W0 U2
theorem cwA_of (W0 U1 : World) (kb g c G : Nat) (T : List Nat) (hE : Ext [] W0 U1) (hk : U1.heap[kb]? = some (.cells #[] 37)) (hwk : W0.heap.size ≤ kb) (hT : Tw U1 g T) (hn : T.length = 3 + 17 * G) (hG : G ≤ 4096) :
    ∃ v U2, (Builtin.append_ #[22, 22] 22 #[.slice (some ⟨kb, 0, none⟩) 0 0, .slice (some ⟨g, 0, none⟩) (3 + 17 * G) c]).run Tryd.prog U1 = .ok v U2 ∧ CwA W0 U1 kb G T v U2 := by
  have hown : U1.ownsRow W0.heap.size 37 1 (.slice (some ⟨kb, 0, none⟩) 0 0) 0 [] := ⟨rfl, .inr ⟨kb, 0, #[], rfl, hwk, hk, Nat.le_refl _, Nat.zero_le _, rfl, rfl⟩⟩
  obtain ⟨v, w', hr, ho, hE', hE2⟩ := app_own W0 U1 hE 22 22 37 _ 8 Tryd.underlying22 info37 rfl (by omega) _ 0 [] hown (some ⟨g, 0, none⟩) (3 + 17 * G) c (vw T) (by rw [vw_len]; exact hn) hT.wd (vw_one T) (by omega)
  rw [Nat.zero_add, List.nil_append] at ho
  obtain ⟨a', c', rfl, hc⟩ := own_slice ho
  obtain ⟨gw, rfl, h1, h2⟩ := tw_of_own ho hn (by omega)
  exact ⟨_, w', hr, gw, c', rfl, h2, hE2, hE'⟩
theorem not_tw_of {w : World} {b : Nat} {cs : Array Value} {ty : TypeId} (h : w.heap[b]? = some (.cells cs ty (0, 0))) (hty : ty ≠ 37) (T : List Nat) : ¬ Tw w b T := by
  rintro ⟨c', e, _⟩
  rw [h] at e
  cases e
  exact hty rfl
/-- A table more. -/
def CtA (W0 : World) (zo g3 c3 m dp k : Nat) (L : List Tq) (S : List Nat) (tv : Value) (U3 : World) (v : Value) (U4 : World) : Prop := U4.heap[zo]? = some (.cells #[.int .i64 (dp : Nat), tv, .slice (some ⟨g3, 0, none⟩) m c3] 27) ∧ CpI W0 (U4.setCell ⟨zo, 1, none⟩ v) zo g3 c3 m dp (k + 1) L S v ∧ Ext tv.ownBlock.toList U3 U4 ∧ ∃ a c, v = .slice a (k + 1) c
theorem ctA_of (W0 U2 : World) (zo g3 c3 m dp k gw cw : Nat) (L : List Tq) (S : List Nat) (tv : Value) (t : Tq) (hI : CpI W0 U2 zo g3 c3 m dp k L S tv) (ht : L[k]? = some t) (hT : Tw U2 gw t.T) (hk : k ≤ 64) :
    ∃ v U4, (Builtin.append_ #[24, 24] 24 #[tv, .slice (some ⟨U2.heap.size, 0, none⟩) 1 1]).run Tryd.prog (U2.alloc (.cells #[.int .i64 (t.d : Nat), .slice (some ⟨gw, 0, none⟩) (3 + 17 * t.G) cw] 66)) = .ok v U4 ∧ CtA W0 zo g3 c3 m dp k L S tv (U2.alloc (.cells #[.int .i64 (t.d : Nat), .slice (some ⟨gw, 0, none⟩) (3 + 17 * t.G) cw] 66)) v U4 := by
  obtain ⟨j0, hi0, hz0, hz1, hz2⟩ := info_parts info66
  have hEa := Ext.alloc [] U2 (.cells #[.int .i64 (t.d : Nat), .slice (some ⟨gw, 0, none⟩) (3 + 17 * t.G) cw] 66)
  have hra := heap_alloc_new U2 (.cells #[.int .i64 (t.d : Nat), .slice (some ⟨gw, 0, none⟩) (3 + 17 * t.G) cw] 66)
  obtain ⟨h1, ⟨xs, h2, h3, h4⟩, h5, ⟨cur, h6⟩, h7, h8, h9⟩ := hI.keep hEa
  have hT3 := hT.keep0 hEa
  obtain ⟨U3, hU3⟩ : ∃ U3, U2.alloc (.cells #[.int .i64 (t.d : Nat), .slice (some ⟨gw, 0, none⟩) (3 + 17 * t.G) cw] 66) = U3 := ⟨_, rfl⟩
  rw [hU3] at h1 h2 h4 h5 h6 h8 hra hT3 ⊢
  obtain ⟨v, U4, hr, ho, hg, _⟩ := run_append_own (P := Tryd.prog) U3 W0.heap.size 24 24 66 j0 _ 2 32 Tryd.underlying24 hi0 hz0 hz1 hz2 rfl (by decide) tv k xs h2 ⟨U2.heap.size, 0, none⟩ 1 1 [.int .i64 (t.d : Nat), .slice (some ⟨gw, 0, none⟩) (3 + 17 * t.G) cw] rfl (fun j u hj => by rw [Addr.add_lit, Nat.zero_add, cell_of_row _ _ _ _ _ _ hra]; simpa using hj) (by simp [Value.oneCell']) (by unfold maxLen; omega) (by omega) h8.size
  have hx : Ext tv.ownBlock.toList U3 U4 := Ext.grown hg (by intro k hk; simp [hk])
  have hown := own_lt h2
  have hne1 : ∀ (b : Nat) (cs : Array Value) (ty : TypeId), U3.heap[b]? = some (.cells cs ty (0, 0)) → ty ≠ 66 → b ∉ tv.ownBlock.toList := fun b cs ty hb hty => by
    rw [Option.mem_toList]; exact own_ne h2 hb hty
  have hTk : ∀ g T, Tw U3 g T → Tw U4 g T := fun g T hg => by
    obtain ⟨c', e, _⟩ := id hg
    exact hg.keep hx (hne1 _ _ _ e (by decide))
  have hrow4 := hx.keep h1 (hne1 _ _ _ h1 (by decide))
  have hst := Ext.setCell [zo] U4 ⟨zo, 1, none⟩ v (by simp)
  have hTk2 : ∀ g T, Tw U4 g T → Tw (U4.setCell ⟨zo, 1, none⟩ v) g T := fun g T hg => hg.keep hst (by
    rw [List.mem_singleton]; rintro rfl; exact not_tw_of hrow4 (by decide) _ hg)
  have hcur4 := hx.keep h6 (hne1 _ _ _ h6 (by decide))
  have hgz : g3 ≠ zo := by
    rintro rfl
    rw [h6] at h1; cases h1
  have hov : ∀ b ∈ [zo], v.ownBlock ≠ some b := by
    intro b hb
    rw [List.mem_singleton] at hb
    subst hb
    exact own_ne ho hrow4 (by decide)
  obtain ⟨av, cv, rfl, _⟩ := own_slice ho
  refine ⟨_, U4, hr, hrow4, ⟨heap_setCell_same U4 zo 1 _ 27 _ hrow4, ⟨_, own_keep ho hst hov, fun u hu => ?_, fun j u hj => ?_⟩, (h5.keep hx (hne1 _ _ _ h6 (by decide))).keep hst (by simpa using hgz), ⟨cur, hst.keep hcur4 (by simpa using hgz)⟩, h7, ?_, h9⟩, hx, av, cv, rfl⟩
  · rcases List.mem_append.1 hu with q | q
    · exact h3 u q
    · simp at q; rcases q with rfl | rfl <;> rfl
  · have hkl : k < L.length := (List.getElem?_eq_some_iff.1 ht).1
    have hxl : xs.length = k * 2 := h2.1
    rw [take_snoc ht] at hj
    by_cases hjk : j < k
    · rw [List.getElem?_append_left (by rw [List.length_take]; omega)] at hj
      obtain ⟨g, c, e1, e2, e3⟩ := h4 j u hj
      exact ⟨g, c, by rw [List.getElem?_append_left (by omega)]; exact e1, by rw [List.getElem?_append_left (by omega)]; exact e2, hTk2 _ _ (hTk _ _ e3)⟩
    · rw [List.getElem?_append_right (by rw [List.length_take]; omega), List.length_take, Nat.min_eq_left (by omega)] at hj
      have hj0 : j - k = 0 := by
        have := (List.getElem?_eq_some_iff.1 hj).1
        simp at this; omega
      rw [hj0] at hj
      simp at hj
      subst hj
      obtain rfl : j = k := by omega
      exact ⟨gw, cw, by rw [List.getElem?_append_right (by omega), hxl, Nat.sub_self]; rfl, by rw [List.getElem?_append_right (by omega), hxl, Nat.add_sub_cancel_left]; rfl, hTk2 _ _ (hTk _ _ hT3)⟩
  · have : Ext [] W0 U4 := h8.on hx (fun b hb => (hown b (by simpa using hb)).1)
    exact this.on hst (by simpa using h9)
end Go.Proofs.YtkfagfdefkaenaaDoor

/-
  The document's copy of a directory; no statement is proved here.
-/
namespace Go.Proofs.YtkfagfdefkaenaaDoor
open Go.RowKit Go.Shelf
open Pr (Gp GpI sq pl)
attribute [local go_sem] Oper.semAt_some run_store_func

def DcPost (w : World) (dp n : Nat) (L : List Tq) (e : Ending) (w' : World) : Prop := ∃ bt ct bs cs, e = .returned (dv dp bt n ct bs 0 (2 ^ dp) cs) ∧ Dr w' bt bs 0 dp L ∧ 2 ^ dp ≤ cs ∧ w.heap.size ≤ bt ∧ w.heap.size ≤ bs ∧ Ext [] w w'
theorem step_append_own {P : Program} {ops : Array Oper} {o : Oper} {a : Act} {w : World} {R : Value → World → Prop} {K : Act → World → Prop} {Q : Exit → Act → World → Prop} {E : Prop} (hgd : o.guard = none) (d s : Operand) (t : TypeId)
    (ho : o.op = .call { callee := .builtin .append, args := #[d, s], argTypes := #[t, t] }) (vd vs : Value) (hd : a.eval d = vd) (hs : a.eval s = vs)
    (hr : ∃ v' w', (Builtin.append_ #[t, t] o.type #[vd, vs]).run P w = .ok v' w' ∧ R v' w') (h : ∀ v' w', R v' w' → K (a.put o.dst v') w') :
    if Region.wanted o (yielded ops a.tmps) = true then Oper.wp P o a w K Q else E := by
  obtain ⟨v', w', hr, hR⟩ := hr
  rw [if_pos (by simp [Region.wanted, hgd])]
  unfold Oper.wp execOp
  simp only [ho, resolve, invoke, builtin, Sem.run_bind, Sem.run_pure, Result.andThen_ok, List.map_toArray, List.map_cons, List.map_nil, hd, hs, hr]
  exact h _ _ hR
/-- The slots are copied onto an empty list. -/
def SlA (w U : World) (k m : Nat) (S : List Nat) (v' : Value) (w' : World) : Prop := ∃ g c, v' = .slice (some ⟨g, 0, none⟩) m c ∧ Ns w' g 0 S ∧ w.heap.size ≤ g ∧ m ≤ c ∧ (∃ cur, w'.heap[g]? = some (.cells cur 3 (0, 0))) ∧ Ext [k] U w' ∧ Ext [] w w'
theorem slA_of (w U : World) (k m b o c : Nat) (S : List Nat) (hE : Ext [] w U) (hk : U.heap[k]? = some (.cells #[] 3)) (hwk : w.heap.size ≤ k) (hS : Ns U b o S) (hn : S.length = m) (h0 : 0 < m) (hb : m ≤ 1000000) :
    ∃ v' w', (Builtin.append_ #[25, 25] 25 #[.slice (some ⟨k, 0, none⟩) 0 0, .slice (some ⟨b, o, none⟩) m c]).run Tryd.prog U = .ok v' w' ∧ SlA w U k m S v' w' := by
  have hown : U.ownsRow w.heap.size 3 1 (.slice (some ⟨k, 0, none⟩) 0 0) 0 [] := ⟨rfl, .inr ⟨k, 0, #[], rfl, hwk, hk, Nat.le_refl _, Nat.zero_le _, rfl, rfl⟩⟩
  obtain ⟨v, w', hr, ho, hE', hE2⟩ := app_own w U hE 25 25 3 _ 8 Tryd.underlying25 info3' rfl (by omega) _ 0 [] hown (some ⟨b, o, none⟩) m c (vi S) (by rw [vi_len]; exact hn) hS.vs (vi_one S) (by omega)
  rw [Nat.zero_add, List.nil_append] at ho
  obtain ⟨a', c', rfl, hc⟩ := own_slice ho
  obtain ⟨g, rfl, h1, h3, h4, h2⟩ := ns_of_own ho hn h0
  exact ⟨_, w', hr, g, c', rfl, h2, h1, h3, h4, hE2, hE'⟩
/-- What is known of the copy behind its slots. -/
def CpW (W0 : World) (zo g c m dp : Nat) (S : List Nat) (w' : World) : Prop := w'.heap[zo]? = some (.cells #[.int .i64 (dp : Nat), .slice none 0 0, .slice (some ⟨g, 0, none⟩) m c] 27) ∧ Ns w' g 0 S ∧ W0.heap.size ≤ g ∧ W0.heap.size ≤ zo ∧ m ≤ c ∧ (∃ cur, w'.heap[g]? = some (.cells cur 3 (0, 0))) ∧ Ext [] W0 w'
theorem cpA {W0 w5 : World} {g c m dp : Nat} {S : List Nat} (hN : Ns w5 g 0 S) (hg : W0.heap.size ≤ g) (hc : m ≤ c) (hr : ∃ cur, w5.heap[g]? = some (.cells cur 3 (0, 0))) (hE : Ext [] W0 w5) : CpW W0 w5.heap.size g c m dp S (w5.alloc (.cells #[.int .i64 (dp : Nat), .slice none 0 0, .slice (some ⟨g, 0, none⟩) m c] 27)) := by
  have hx := Ext.alloc [] w5 (.cells #[.int .i64 (dp : Nat), .slice none 0 0, .slice (some ⟨g, 0, none⟩) m c] 27)
  obtain ⟨cur, hr⟩ := hr
  exact ⟨heap_alloc_new w5 _, hN.keep hx (by simp), hg, hE.size, hc, ⟨cur, hx.keep hr (by simp)⟩, hE.trans hx⟩
theorem cpB {W0 w5 W' : World} {zo g c m dp : Nat} {S : List Nat} {p0 q0 r0 : Value} (hz : w5.heap[zo]? = some (.cells #[p0, q0, r0] 27)) (h3 : S3 w5 W' zo (.int .i64 (dp : Nat)) (.slice none 0 0) (.slice (some ⟨g, 0, none⟩) m c)) (hzo : W0.heap.size ≤ zo) (hN : Ns w5 g 0 S) (hg : W0.heap.size ≤ g) (hc : m ≤ c) (hr : ∃ cur, w5.heap[g]? = some (.cells cur 3 (0, 0))) (hE : Ext [] W0 w5) : CpW W0 zo g c m dp S W' := by
  obtain ⟨cur, hr⟩ := hr
  have hne : g ≠ zo := by
    rintro rfl
    rw [hz] at hr; cases hr
  exact ⟨h3.row, hN.keep h3.ext (by simpa using hne), hg, hzo, hc, ⟨cur, h3.ext.keep hr (by simpa using hne)⟩, hE.on h3.ext (by simp; omega)⟩
/-- Behind the slots. -/
def CpMid (z m dp bt n ct bs os cs : Nat) (W0 : World) (S : List Nat) (a' : Act) (w' : World) : Prop := ∃ (zo g c k : Nat), a' = { tmps := #[.agg #[.int .i64 (dp : Nat), .slice (some ⟨bt, 0, none⟩) n ct, .slice (some ⟨bs, os, none⟩) m cs], .pointer (some ⟨z, 0, none⟩), .pointer (some ⟨z + 1, 0, none⟩), .pointer (some ⟨zo, 0, none⟩), undef, .pointer (some ⟨z, 0, none⟩), .int .i64 (dp : Nat), .slice (some ⟨k, 0, none⟩) 0 0, .pointer (some ⟨z, 2, none⟩), .slice (some ⟨bs, os, none⟩) m cs, .slice (some ⟨g, 0, none⟩) m c, .agg #[.int .i64 (dp : Nat), .slice none 0 0, .slice (some ⟨g, 0, none⟩) m c], undef, undef, undef, undef, undef, undef, undef, undef, undef, undef, undef, undef, undef, undef, undef, undef, undef, undef, undef, undef, undef, undef, undef, undef, undef, undef, undef, undef], defers := [] } ∧
  CpW W0 zo g c m dp S w'
set_option maxRecDepth 100000 in
set_option maxHeartbeats 4000000 in
theorem copyDir_any (dp bt ct bs os cs n : Nat) (L : List Tq) (hD : Dq dp L) (hn : L.length = n) (h0 : 0 < n) (w : World) (hR : Dr w bt bs os dp L) :
    Calls Tryd.prog 15 #[dv dp bt n ct bs os (2 ^ dp) cs] w (DcPost w dp n L) := by
  have hdp := hD.le
  have hl := hD.len
  have h64 := pow64 hdp
  have hsl := slo_len dp L 0
  rw [hD.all] at hsl
  rw [hn] at hl
  have hm0 : 0 < 2 ^ dp := Nat.pow_pos (by omega)
  obtain ⟨m, hm⟩ : ∃ m, 2 ^ dp = m := ⟨_, rfl⟩
  rw [hm] at h64 hsl hm0
  obtain ⟨z, hz⟩ : ∃ z, w.heap.size = z := ⟨_, rfl⟩
  obtain ⟨W0, hW0⟩ : ∃ W0, (w.alloc (.cells #[.int .i64 (dp : Nat), .slice (some ⟨bt, 0, none⟩) n ct, .slice (some ⟨bs, os, none⟩) m cs] 27)).alloc (.cells #[.int .i64 0, .slice none 0 0, .slice none 0 0] 27) = W0 := ⟨_, rfl⟩
  have hE0 : Ext [] w W0 := by rw [← hW0]; exact (Ext.alloc [] _ _).trans (Ext.alloc [] _ _)
  have b0 : W0.heap[z]? = some (.cells #[.int .i64 (dp : Nat), .slice (some ⟨bt, 0, none⟩) n ct, .slice (some ⟨bs, os, none⟩) m cs] 27) := by
    rw [← hW0, ← hz]; exact (Below.heap_alloc _ _ _ (by simp)).trans (heap_alloc_new w _)
  have b1 : W0.heap[z + 1]? = some (.cells #[.int .i64 0, .slice none 0 0, .slice none 0 0] 27) := by
    have := heap_alloc_new (w.alloc (.cells #[.int .i64 (dp : Nat), .slice (some ⟨bt, 0, none⟩) n ct, .slice (some ⟨bs, os, none⟩) m cs] 27)) (.cells #[.int .i64 0, .slice none 0 0, .slice none 0 0] 27)
    rw [hW0, World.size_alloc, hz] at this; exact this
  obtain ⟨a0, a1, a2⟩ := cells3 b0
  have HD := hid hD
  have HN := hid hn
  have HR := hid (hR.keep0 hE0)
  have HE0 := hid hE0
  have B0 := hid b0
  have B1 := hid b1
  unfold dv
  rw [hm]
  clear hD hn hR hE0 b0 b1
  go_enter Tryd.func15, Tryd.ntmps15
  obtain ⟨y, hy⟩ : ∃ y, W0.heap.size = y := ⟨_, rfl⟩
  have hEa : Ext [] W0 (W0.alloc (.cells #[] 3)).drew := (Ext.alloc [] W0 _).trans (Ext.drew [] _)
  have hEb : Ext [] W0 ((W0.alloc (.cells #[] 3)).alloc (.cells #[.int .i64 0, .slice none 0 0, .slice none 0 0] 27)).drew := ((Ext.alloc [] W0 _).trans (Ext.alloc [] _ _)).trans (Ext.drew [] _)
  have hEc : Ext [] W0 ((W0.alloc (.cells #[.int .i64 0, .slice none 0 0, .slice none 0 0] 27)).alloc (.cells #[] 3)).drew := ((Ext.alloc [] W0 _).trans (Ext.alloc [] _ _)).trans (Ext.drew [] _)
  have ra := slA_of W0 _ y m bs os cs _ hEa (by rw [← hy]; exact heap_alloc_new W0 _) (by omega) (HR.out.ns.keep hEa (by simp)) hsl hm0 (by omega)
  have rb := slA_of W0 _ y m bs os cs _ hEb (by rw [← hy]; exact (Below.heap_alloc _ _ _ (by simp)).trans (heap_alloc_new W0 _)) (by omega) (HR.out.ns.keep hEb (by simp)) hsl hm0 (by omega)
  have rc := slA_of W0 _ (y + 1) m bs os cs _ hEc (by have := heap_alloc_new (W0.alloc (.cells #[.int .i64 0, .slice none 0 0, .slice none 0 0] 27)) (.cells #[] 3); rw [World.size_alloc, hy] at this; exact this) (by omega) (HR.out.ns.keep hEc (by simp)) hsl hm0 (by omega)
  have zb : ((W0.alloc (.cells #[] 3)).alloc (.cells #[.int .i64 0, .slice none 0 0, .slice none 0 0] 27)).drew.heap[y + 1]? = some (.cells #[.int .i64 0, .slice none 0 0, .slice none 0 0] 27) := by have := heap_alloc_new (W0.alloc (.cells #[] 3)) (.cells #[.int .i64 0, .slice none 0 0, .slice none 0 0] 27); rw [World.size_alloc, hy] at this; exact this
  have zc : ((W0.alloc (.cells #[.int .i64 0, .slice none 0 0, .slice none 0 0] 27)).alloc (.cells #[] 3)).drew.heap[y]? = some (.cells #[.int .i64 0, .slice none 0 0, .slice none 0 0] 27) := by rw [← hy]; exact (Below.heap_alloc _ _ _ (by simp)).trans (heap_alloc_new W0 _)
  have HZb := hid zb
  have HZc := hid zc
  have s0 : ∀ o : Obj, (W0.alloc o).cell? ⟨z, 0, none⟩ = some (.int .i64 (dp : Nat)) := fun o => (Ext.alloc [] W0 o).cell a0 (by simp)
  have s2 : ∀ o : Obj, (W0.alloc o).cell? ⟨z, 2, none⟩ = some (.slice (some ⟨bs, os, none⟩) m cs) := fun o => (Ext.alloc [] W0 o).cell a2 (by simp)
  have t0 : ∀ o o' : Obj, ((W0.alloc o).alloc o').cell? ⟨z, 0, none⟩ = some (.int .i64 (dp : Nat)) := fun o o' => ((Ext.alloc [] W0 o).trans (Ext.alloc [] _ o')).cell a0 (by simp)
  have t2 : ∀ o o' : Obj, ((W0.alloc o).alloc o').cell? ⟨z, 2, none⟩ = some (.slice (some ⟨bs, os, none⟩) m cs) := fun o o' => ((Ext.alloc [] W0 o).trans (Ext.alloc [] _ o')).cell a2 (by simp)
  obtain ⟨S, hS⟩ : ∃ S, slo dp L 0 = S := ⟨_, rfl⟩
  rw [hS] at ra rb rc
  have hyy : W0.heap.size ≤ y := by omega
  have hyy1 : W0.heap.size ≤ y + 1 := by omega
  clear hEa hEb hEc zb zc
  go_wp2_with fail
  refine Code.wp_mono (Q := fun e a' w' => e = Exit.normal ∧ CpMid z m dp bt n ct bs os cs W0 S a' w') ?mono ?reg
  case reg =>
    refine wp_region_noPanic ?_
    go_region_law (first
      | (refine step_append_own rfl _ _ 25 rfl (.slice (some ⟨y, 0, none⟩) 0 0) (.slice (some ⟨bs, os, none⟩) m cs) (by rfl) (by rfl) ra ?_; rintro v5 w5 ⟨g5, c5, rfl, hN5, hg5, hc5, hr5, hk5, hE5⟩; have u0 := hE5.cell a0 (by simp); have u0' : ∀ o : Obj, (w5.alloc o).cell? ⟨z, 0, none⟩ = some (.int .i64 (dp : Nat)) := (fun o => (Ext.alloc [] w5 o).cell u0 (by simp)))
      | (refine step_append_own rfl _ _ 25 rfl (.slice (some ⟨y, 0, none⟩) 0 0) (.slice (some ⟨bs, os, none⟩) m cs) (by rfl) (by rfl) rb ?_; rintro v5 w5 ⟨g5, c5, rfl, hN5, hg5, hc5, hr5, hk5, hE5⟩; have u0 := hE5.cell a0 (by simp); have u0' : ∀ o : Obj, (w5.alloc o).cell? ⟨z, 0, none⟩ = some (.int .i64 (dp : Nat)) := (fun o => (Ext.alloc [] w5 o).cell u0 (by simp)); have hz5 := hk5.keep HZb.out (by simp); obtain ⟨y0, y1, y2⟩ := cells3 hz5; obtain ⟨h3, x0, x1, x2⟩ := s3_of hz5 (.int .i64 (dp : Nat)) (.slice none 0 0) (.slice (some ⟨g5, 0, none⟩) m c5))
      | (refine step_append_own rfl _ _ 25 rfl (.slice (some ⟨y + 1, 0, none⟩) 0 0) (.slice (some ⟨bs, os, none⟩) m cs) (by rfl) (by rfl) rc ?_; rintro v5 w5 ⟨g5, c5, rfl, hN5, hg5, hc5, hr5, hk5, hE5⟩; have u0 := hE5.cell a0 (by simp); have u0' : ∀ o : Obj, (w5.alloc o).cell? ⟨z, 0, none⟩ = some (.int .i64 (dp : Nat)) := (fun o => (Ext.alloc [] w5 o).cell u0 (by simp)); have hz5 := hk5.keep HZc.out (by simp); obtain ⟨y0, y1, y2⟩ := cells3 hz5; obtain ⟨h3, x0, x1, x2⟩ := s3_of hz5 (.int .i64 (dp : Nat)) (.slice none 0 0) (.slice (some ⟨g5, 0, none⟩) m c5)))
    all_goals refine NoPanic.normal ⟨rfl, _, g5, c5, _, rfl, ?_⟩
    all_goals with_reducible first
      | exact cpA hN5 hg5 hc5 hr5 hE5
      | exact cpB hz5 h3 hyy hN5 hg5 hc5 hr5 hE5
      | exact cpB hz5 h3 hyy1 hN5 hg5 hc5 hr5 hE5
  case mono =>
    rintro e a3 w3 ⟨rfl, zo, g3, c3, k3, rfl, hrow3, hNs3, hg3, hzo3, hc3, hr3, hE3⟩
    have hz1 : z + 1 < W0.heap.size := lt_of_heap B1.out
    have hbz := hE3.keep B0.out (by simp)
    obtain ⟨d0, d1, d2⟩ := cells3 hbz
    have HRow3 := hid hrow3
    have HNs3 := hid hNs3
    have HR3 := hid hr3
    have HE3 := hid hE3
    have HBz := hid hbz
    clear hrow3 hNs3 hr3 hE3 ra rb rc s0 s2 t0 t2 hbz d0 d2
    have hI0 : CpI W0 w3 zo g3 c3 m dp 0 L S (.slice none 0 0) := ⟨HRow3.out, ⟨[], own_nil _ _ _ _, by simp, by simp⟩, HNs3.out, HR3.out, hg3, HE3.out, hzo3⟩
    have HI0 := hid hI0
    clear hI0
    go_wp2_with fail
    go_loopw [4] (fun q wr => ∃ (k : Nat) (tv : Value), q = .int .i64 k ∧ k ≤ n ∧ CpI W0 wr zo g3 c3 m dp k L S tv) (fun q _ => (n - (intOf q)).toNat)
    case atStart => exact ⟨0, _, rfl, Nat.zero_le _, HI0.out⟩
    case round =>
      obtain ⟨k, tv, rfl, hk, hI⟩ := hrel
      obtain ⟨ta, tc, rfl, _⟩ : ∃ a c, tv = .slice a k c ∧ k ≤ c := by obtain ⟨xs, ho, _⟩ := hI.own; exact own_slice ho
      obtain ⟨e0, e1, e2⟩ := cells3 (hI.ext.keep B0.out (by simp))
      by_cases hkn : k < n
      · have hki : (k : Int) < n := by omega
        have hnl := HN.out
        obtain ⟨t, ht⟩ : ∃ t, L[k]? = some t := ⟨_, List.getElem?_eq_getElem (by omega)⟩
        obtain ⟨gT, cT, k1, k2, hTw⟩ := (HR.out.ts.keep0 hI.ext).cells ht
        have hsd : Sd t.T t.G := by
          obtain ⟨t', p', hN⟩ := HD.out.nth (n := k) (by omega)
          have := hN.at_; rw [ht] at this; cases this; exact hN.ot.sd
        obtain ⟨o0, o1, o2⟩ := cells3 hI.row
        have hbtl : bt < W0.heap.size := HR.out.ts.lt
        have hzl : z < W0.heap.size := lt_of_heap B0.out
        have hsz := hI.ext.size
        obtain ⟨yy, hyw⟩ : ∃ yy, wr.heap.size = yy := ⟨_, rfl⟩
        have hE1 : Ext [] wr (wr.alloc (.cells #[] 37)).drew := (Ext.alloc [] wr _).trans (Ext.drew [] _)
        have hk0 : (wr.alloc (.cells #[] 37)).drew.heap[yy]? = some (.cells #[] 37) := by rw [← hyw]; exact heap_alloc_new wr _
        obtain ⟨v2, U2, hr2, gw, cw, rfl, hTw2, hx2, hE2⟩ := cwA_of W0 _ yy gT cT t.G t.T (hI.ext.trans hE1) hk0 (by omega) (hTw.keep0 hE1) hsd.shp.len hsd.shp.gp.le
        have hw2 : Ext [] wr U2 := hE1.on hx2 (by simp; omega)
        obtain ⟨v4, U4, hr4, hrow4, hI4, hx4, va, vc, rfl⟩ := ctA_of W0 U2 zo g3 c3 m dp k gw cw L S _ t (hI.keep hw2) ht hTw2 (by omega)
        have hown := hI.own
        have hS0 : ∀ u, Ext [] wr u → (u.cell? ⟨zo, 1, none⟩ = some (.slice ta k tc) ∧ u.cell? ⟨z, 1, none⟩ = some (.slice (some ⟨bt, 0, none⟩) n ct) ∧ u.cell? ⟨bt, k * 2, none⟩ = some (.int .i64 (t.d : Nat)) ∧ u.cell? ⟨bt, k * 2 + 1, none⟩ = some (.slice (some ⟨gT, 0, none⟩) (3 + 17 * t.G) cT)) := fun u hu => ⟨hu.cell o1 (by simp), hu.cell e1 (by simp), hu.cell k1 (by simp), hu.cell k2 (by simp)⟩
        have hS := hS0 wr.drew (Ext.drew [] wr)
        have hS1 := hS0 _ hE1
        have hS2 := hS0 _ hw2
        have hE3' : Ext [] wr (U2.alloc (.cells #[.int .i64 (t.d : Nat), .slice (some ⟨gw, 0, none⟩) (3 + 17 * t.G) cw] 66)) := hw2.trans (Ext.alloc [] _ _)
        have hS3 := hS0 _ hE3'
        have hS4 : U4.cell? ⟨zo, 1, none⟩ = some (.slice ta k tc) ∧ U4.cell? ⟨z, 1, none⟩ = some (.slice (some ⟨bt, 0, none⟩) n ct) ∧ U4.cell? ⟨bt, k * 2, none⟩ = some (.int .i64 (t.d : Nat)) ∧ U4.cell? ⟨bt, k * 2 + 1, none⟩ = some (.slice (some ⟨gT, 0, none⟩) (3 + 17 * t.G) cT) := by
          obtain ⟨xs, ho, _⟩ := hown
          have hl := own_lt ho
          have hno : ∀ b, b < W0.heap.size → b ∉ (Value.slice ta k tc).ownBlock.toList := fun b hb hm' => by
            rw [Option.mem_toList] at hm'
            have := hl b hm'
            omega
          exact ⟨(cells3 hrow4).2.1, hx4.cell hS3.2.1 (hno z hzl), hx4.cell hS3.2.2.1 (hno bt hbtl), hx4.cell hS3.2.2.2 (hno bt hbtl)⟩
        have fz4 : U4.frozen? ⟨zo, 1, none⟩ = false := frozen_of_row _ _ _ _ _ hrow4
        have oz4 := hS4.1
        have HI4 := hid hI4
        clear hI hI4 hrow4 hx4 hTw2 hx2 hE2 hw2 hE1 hk0 hTw hsd hown hE3' o0 o2 e0 e2 hS0
        go_wp2_with fail
        refine wp_region_noPanic ?_
        refine (wpIn_wide (n := 14)).1 ?_
        refine wpIn_region_heldC (fun u => u.cell? ⟨zo, 1, none⟩ = some (.slice ta k tc) ∧ u.cell? ⟨z, 1, none⟩ = some (.slice (some ⟨bt, 0, none⟩) n ct) ∧ u.cell? ⟨bt, k * 2, none⟩ = some (.int .i64 (t.d : Nat)) ∧ u.cell? ⟨bt, k * 2 + 1, none⟩ = some (.slice (some ⟨gT, 0, none⟩) (3 + 17 * t.G) cT)) 20 (by kernel_rfl) ?_
        refine wpAnyC_take (i := 0) (v := .pointer (some ⟨zo, 1, none⟩)) rfl (by kernel_rfl) (fun _ _ _ h => h) (yieldsR_run rfl rfl (fun _ => rfl) (fun u hu => by obtain ⟨u1, u2, u3, u4⟩ := hu; go_simp)) hS ?_
        simp only [Act.put, List.setIfInBounds_toArray]
        refine wpAnyC_take (i := 1) (v := .slice ta k tc) rfl (by kernel_rfl) (fun _ _ _ h => h) (yieldsR_run rfl rfl (fun _ => rfl) (fun u hu => by obtain ⟨u1, u2, u3, u4⟩ := hu; go_simp)) hS ?_
        simp only [Act.put]
        refine wpAnyC_take (i := 2) (v := .pointer (some ⟨z, 1, none⟩)) rfl (by kernel_rfl) (fun _ _ _ h => h) (yieldsR_run rfl rfl (fun _ => rfl) (fun u hu => by obtain ⟨u1, u2, u3, u4⟩ := hu; go_simp)) hS ?_
        simp only [Act.put]
        refine wpAnyC_take (i := 3) (v := .slice (some ⟨bt, 0, none⟩) n ct) rfl (by kernel_rfl) (fun _ _ _ h => h) (yieldsR_run rfl rfl (fun _ => rfl) (fun u hu => by obtain ⟨u1, u2, u3, u4⟩ := hu; go_simp)) hS ?_
        simp only [Act.put]
        refine wpAnyC_take (i := 4) (v := .int .i64 (k : Nat)) rfl (by kernel_rfl) (fun _ _ _ h => h) (yieldsR_run rfl rfl (fun _ => rfl) (fun u hu => by obtain ⟨u1, u2, u3, u4⟩ := hu; go_simp)) hS ?_
        simp only [Act.put]
        refine wpAnyC_take (i := 5) (v := .pointer (some ⟨bt, k * 2, none⟩)) rfl (by kernel_rfl) (fun _ _ _ h => h) (yieldsR_run rfl rfl (fun _ => rfl) (fun u hu => by obtain ⟨u1, u2, u3, u4⟩ := hu; go_simp)) hS ?_
        simp only [Act.put]
        refine wpAnyC_take (i := 6) (v := .pointer (some ⟨bt, k * 2, none⟩)) rfl (by kernel_rfl) (fun _ _ _ h => h) (yieldsR_run rfl rfl (fun _ => rfl) (fun u hu => by obtain ⟨u1, u2, u3, u4⟩ := hu; go_simp)) hS ?_
        simp only [Act.put]
        refine wpAnyC_take (i := 7) (v := .int .i64 (t.d : Nat)) rfl (by kernel_rfl) (fun _ _ _ h => h) (yieldsR_run rfl rfl (fun _ => rfl) (fun u hu => by obtain ⟨u1, u2, u3, u4⟩ := hu; go_simp)) hS ?_
        simp only [Act.put]
        refine wpAnyC_take (i := 9) (v := .pointer (some ⟨z, 1, none⟩)) rfl (by kernel_rfl) (fun _ _ _ h => h) (yieldsR_run rfl rfl (fun _ => rfl) (fun u hu => by obtain ⟨u1, u2, u3, u4⟩ := hu; go_simp)) hS ?_
        simp only [Act.put]
        refine wpAnyC_take (i := 10) (v := .slice (some ⟨bt, 0, none⟩) n ct) rfl (by kernel_rfl) (fun _ _ _ h => h) (yieldsR_run rfl rfl (fun _ => rfl) (fun u hu => by obtain ⟨u1, u2, u3, u4⟩ := hu; go_simp)) hS ?_
        simp only [Act.put]
        refine wpAnyC_take (i := 11) (v := .int .i64 (k : Nat)) rfl (by kernel_rfl) (fun _ _ _ h => h) (yieldsR_run rfl rfl (fun _ => rfl) (fun u hu => by obtain ⟨u1, u2, u3, u4⟩ := hu; go_simp)) hS ?_
        simp only [Act.put]
        refine wpAnyC_take (i := 12) (v := .pointer (some ⟨bt, k * 2, none⟩)) rfl (by kernel_rfl) (fun _ _ _ h => h) (yieldsR_run rfl rfl (fun _ => rfl) (fun u hu => by obtain ⟨u1, u2, u3, u4⟩ := hu; go_simp)) hS ?_
        simp only [Act.put]
        refine wpAnyC_take (i := 13) (v := .pointer (some ⟨bt, k * 2 + 1, none⟩)) rfl (by kernel_rfl) (fun _ _ _ h => h) (yieldsR_run rfl rfl (fun _ => rfl) (fun u hu => by obtain ⟨u1, u2, u3, u4⟩ := hu; go_simp)) hS ?_
        simp only [Act.put]
        refine wpAnyC_take (i := 14) (v := .slice (some ⟨gT, 0, none⟩) (3 + 17 * t.G) cT) rfl (by kernel_rfl) (fun _ _ _ h => h) (yieldsR_run rfl rfl (fun _ => rfl) (fun u hu => by obtain ⟨u1, u2, u3, u4⟩ := hu; go_simp)) hS ?_
        simp only [Act.put]
        refine wpAnyC_sole (i := 8) rfl (by kernel_rfl) (fun K1 hK1 => ?_)
        go_simp
        refine hK1 _ _ (.inr hS1) ?_
        clear hK1 K1
        refine wpAnyC_sole (i := 15) rfl (by kernel_rfl) (fun K1 hK1 => ?_)
        refine stepR_append (fun _ => trivial) rfl _ _ 22 rfl (.slice (some ⟨yy, 0, none⟩) 0 0) (.slice (some ⟨gT, 0, none⟩) (3 + 17 * t.G) cT) _ rfl rfl hr2 ?_
        refine hK1 _ _ (.inr hS2) ?_
        clear hK1 K1
        simp only [Act.put, List.setIfInBounds_toArray]
        refine wpAnyC_take (i := 16) (v := .agg #[.int .i64 (t.d : Nat), .slice (some ⟨gw, 0, none⟩) (3 + 17 * t.G) cw]) rfl (by kernel_rfl) (fun _ _ _ h => h) (yieldsR_run rfl rfl (fun _ => rfl) (fun u hu => by obtain ⟨u1, u2, u3, u4⟩ := hu; go_simp)) hS2 ?_
        simp only [Act.put]
        refine wpAnyC_sole (i := 17) rfl (by kernel_rfl) (fun K1 hK1 => ?_)
        go_simp
        refine hK1 _ _ (.inr hS3) ?_
        clear hK1 K1
        refine wpAnyC_sole (i := 18) rfl (by kernel_rfl) (fun K1 hK1 => ?_)
        refine stepR_append (fun _ => trivial) rfl _ _ 24 rfl (.slice ta k tc) (.slice (some ⟨U2.heap.size, 0, none⟩) 1 1) _ rfl rfl hr4 ?_
        refine hK1 _ _ (.inr hS4) ?_
        clear hK1 K1
        simp only [Act.put, List.setIfInBounds_toArray]
        refine wpAnyC_take (i := 19) (v := .pointer (some ⟨zo, 1, none⟩)) rfl (by kernel_rfl) (fun _ _ _ h => h) (yieldsR_run rfl rfl (fun _ => rfl) (fun u hu => by obtain ⟨u1, u2, u3, u4⟩ := hu; go_simp)) hS4 ?_
        simp only [Act.put]
        refine wpAnyC_sole (i := 20) rfl (by kernel_rfl) (fun K1 hK1 => ?_)
        go_simp
        refine hK1 _ _ (.inl rfl) ?_
        clear hK1 K1
        refine wpAnyC_done (by kernel_rfl) ?_
        refine NoPanic.normal ?_
        clear hS hS1 hS2 hS3 hS4 hr2 hr4 oz4 fz4
        go_wp2_with fail
        go_roundw
        case rel => exact ⟨k + 1, _, by go_num, by omega, HI4.out⟩
        case measure => simp [intOf]; omega
      · obtain rfl : k = n := by omega
        obtain ⟨xs, ho, _, hv⟩ := hI.own
        have htk : L.take k = L := by rw [← HN.out]; exact List.take_length
        rw [htk] at hv
        obtain ⟨gt, rfl⟩ : ∃ gt, ta = some ⟨gt, 0, none⟩ := by
          rcases ho.2 with ⟨_, h⟩ | ⟨gt, c', _, h, _⟩
          · omega
          · cases h; exact ⟨gt, rfl⟩
        obtain ⟨hgt, hTc⟩ := tc_of_own ho HN.out hv
        obtain ⟨o0, o1, o2⟩ := cells3 hI.row
        have hr1 := hI.ext.keep B1.out (by simp)
        obtain ⟨y0, y1, y2⟩ := cells3 hr1
        obtain ⟨h3, x0, x1, x2⟩ := s3_of hr1 (.int .i64 (dp : Nat)) (.slice (some ⟨gt, 0, none⟩) k tc) (.slice (some ⟨g3, 0, none⟩) m c3)
        have hs0 := HE0.out.size
        have HF : Hid (DcPost w dp k L (.returned (.agg #[.int .i64 (dp : Nat), .slice (some ⟨gt, 0, none⟩) k tc, .slice (some ⟨g3, 0, none⟩) m c3])) (((wr.setCell ⟨z + 1, 0, none⟩ (.int .i64 (dp : Nat))).setCell ⟨z + 1, 1, none⟩ (.slice (some ⟨gt, 0, none⟩) k tc)).setCell ⟨z + 1, 2, none⟩ (.slice (some ⟨g3, 0, none⟩) m c3))) := by
          have hglo := hI.glo
          have hns := hI.ns
          rw [← hS] at hns
          refine ⟨gt, tc, g3, c3, by unfold dv; rw [hm], ⟨hTc.1.keep h3.ext (by simp; omega) (by simpa using fun T => not_tw_of hr1 (by decide) T), hns.keep h3.ext (by simp; omega)⟩, by rw [hm]; exact hc3, by omega, by omega, (HE0.out.trans hI.ext).on h3.ext (by simp; omega)⟩
        have HS3 := hid h3.row
        clear hI ho hv hTc hr1 h3 htk
        go_wp2_with fail
        refine bodyPost_ret (results_cell_row rfl _ _ (z + 1) 27 _ (0, 0) _ rfl HS3.out Tryd.underlying27 rfl size27) rfl HF.out
end Go.Proofs.YtkfagfdefkaenaaDoor

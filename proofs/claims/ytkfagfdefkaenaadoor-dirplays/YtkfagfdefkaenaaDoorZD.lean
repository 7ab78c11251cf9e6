/-
  Wri, Ins, Cln, NewT, TIns, Box: joined by program; no statement is proved here.
-/
import Derived.Test.YtkfagfdefkaenaaDoorZC
import Derived.Deep.OwnRows
/-
  Tables written: write, remove, insert; no statement is proved here.
-/
namespace Go.Proofs.YtkfagfdefkaenaaDoor
open Go.RowKit Go.Shelf
open Pr (Gp sq pl)
attribute [local go_sem] Oper.semAt_some run_store_func
def wr (T : List Nat) (g i b h d : Nat) : List Nat := ((T.set (3 + 17 * g) (st (cw T g) i b)).set (3 + 17 * g + 1 + 2 * i) h).set (3 + 17 * g + 2 + 2 * i) d
set_option maxRecDepth 100000 in
theorem write_any (B c : Nat) (T : List Nat) (G g i b h d : Nat) (hS : Shp T G) (hg : g < G) (hi : i < 8) (hb : b < 256) (w : World) (hT : Tw w B T) :
    Calls Tryd.prog 108 #[.slice (some ⟨B, 0, none⟩) (3 + 17 * G) c, .int .i64 (g : Nat), .int .i64 (i : Nat), .int .u8 (b : Nat), .int .u64 (h : Nat), .int .u64 (d : Nat)] w fun e w' => (∃ v, e = .returned v) ∧ Tw w' B (wr T g i b h d) ∧ Ext [B] w w' := by
  have hG := hS.gp.le
  have K1 := fun u => controlAt_any g (by omega) u
  have K2 := fun u => hashAt_any g i (by omega) (by omega) u
  have K3 := fun u => idAt_any g i (by omega) (by omega) u
  have hcw := hS.cw_lt g
  have K4 := fun u => set_ok (cw T g) i b hcw hi hb u
  have c1 := hT.cell (j := 3 + 17 * g) (by rw [hS.len]; omega)
  rw [show T.getD (3 + 17 * g) 0 = cw T g from rfl] at c1
  have f1 := hT.frozen (3 + 17 * g)
  have hT1 := hT.set (3 + 17 * g) (st (cw T g) i b) (by rw [hS.len]; omega)
  have c2 := hT1.cell (j := 3 + 17 * g + 1 + 2 * i) (by rw [List.length_set, hS.len]; omega)
  have f2 := hT1.frozen (3 + 17 * g + 1 + 2 * i)
  have hT2 := hT1.set (3 + 17 * g + 1 + 2 * i) h (by rw [List.length_set, hS.len]; omega)
  have c3 := hT2.cell (j := 3 + 17 * g + 2 + 2 * i) (by rw [List.length_set, List.length_set, hS.len]; omega)
  have f3 := hT2.frozen (3 + 17 * g + 2 + 2 * i)
  have HW := hid (show Tw _ _ (wr T g i b h d) from hT2.set (3 + 17 * g + 2 + 2 * i) d (by rw [List.length_set, List.length_set, hS.len]; omega))
  generalize wr T g i b h d = TT at *
  generalize (T.set (3 + 17 * g) (st (cw T g) i b)).getD (3 + 17 * g + 1 + 2 * i) 0 = q1 at *
  generalize ((T.set (3 + 17 * g) (st (cw T g) i b)).set (3 + 17 * g + 1 + 2 * i) h).getD (3 + 17 * g + 2 + 2 * i) 0 = q2 at *
  clear hT hS hT1 hT2
  generalize cw T g = cx at *
  go_enter Tryd.func108, Tryd.ntmps108
  go_wp2_with (first | (go_at_call 65; refine met (K1 _) ?_) | (go_at_call 125; refine met (K4 _) ?_) | (go_at_call 106; refine met (K2 _) ?_) | (go_at_call 70; refine met (K3 _) ?_))
  go_end0
  refine ⟨⟨_, rfl⟩, HW.out, ((Ext.setCell [B] _ _ _ (by simp)).trans (Ext.setCell [B] _ _ _ (by simp))).trans (Ext.setCell [B] _ _ _ (by simp))⟩
end Go.Proofs.YtkfagfdefkaenaaDoor

/-
  insert: an entry into the first open slot of its order; no statement is proved here.
-/
namespace Go.Proofs.YtkfagfdefkaenaaDoor
open Go.RowKit Go.Shelf
open Pr (Gp sq pl)
attribute [local go_sem] Oper.semAt_some run_store_func wide_fn wide_depth

def opn (T : List Nat) (g : Nat) : List Nat := bsF (mt (cw T g) 128 ||| mt (cw T g) 254)
def insAt (T : List Nat) (g i h d : Nat) : List Nat := wr ((if mt (cw T g) 128 ≠ 0 then T.set 2 (T.getD 2 0 - 1) else T).set 1 (T.getD 1 0 + 1)) g i (h % 128) h d
/-- The first open slot of a hash's order. -/
def Fst (T : List Nat) (h G g i : Nat) : Prop := ∃ A C l, sq (h / 128) G = A ++ g :: C ∧ (∀ x ∈ A, opn T x = []) ∧ opn T g = i :: l
def InsPost (T : List Nat) (B h d G : Nat) (w : World) (e : Ending) (w' : World) : Prop := Ext [B] w w' ∧
  ((∃ g i, Fst T h G g i ∧ ¬ (mt (cw T g) 128 ≠ 0 ∧ T.getD 2 0 = 0) ∧ e = .returned (.bool true) ∧ Tw w' B (insAt T g i h d)) ∨
   (e = .returned (.bool false) ∧ Tw w' B T ∧ ∀ g i, Fst T h G g i → mt (cw T g) 128 ≠ 0 ∧ T.getD 2 0 = 0))

theorem Shp.set {T : List Nat} {G : Nat} (h : Shp T G) (k x : Nat) (hk : k ≠ 0) (hx : x < 18446744073709551616) : Shp (T.set k x) G := by
  refine ⟨h.gp, ?_, by rw [List.length_set]; exact h.len, fun y hy => ?_⟩
  · rw [List.getD_eq_getElem?_getD, List.getElem?_set, if_neg (fun e => hk e), ← List.getD_eq_getElem?_getD]; exact h.g0
  · rcases List.mem_or_eq_of_mem_set hy with q | rfl
    · exact h.lt y q
    · exact hx
theorem ext_own {β : Type} {S : List Nat} {w₀ : World} {B : Nat} (hB : w₀.heap.size ≤ B) : OwnFrom B (fun (_ : β) W => Ext S w₀ W) := fun _ X Y row hs hg hr =>
  ⟨hg.os.trans hs.os, hg.tape.trans hs.tape, hg.output.trans hs.output, Nat.le_trans hs.size hg.size, fun k hk hkS => (hg.block k (Nat.lt_of_lt_of_le hk hs.size) (fun e => by have := (hr k e.symm).1; omega)).trans (hs.block k hk hkS)⟩
theorem tw_own {β : Type} (g : Nat) (T : List Nat) : Own (fun (_ : β) W => Tw W g T) := fun _ X Y row hs hg hr => by
  obtain ⟨cs, h1, h2⟩ := hs
  refine ⟨cs, (hg.block g (lt_of_heap h1) (fun e => ?_)).trans h1, h2⟩
  obtain ⟨o, ho, hc⟩ := hr g e.symm
  rw [h1] at ho; cases ho; cases hc
theorem keeps_ext {S : List Nat} {B : Nat} {A C : World} (x : Ext S A C) (hS : ∀ b ∈ S, b < B) : KeepsFrom B A C := ⟨x.size, fun k _ hk h0 _ => x.keep h0 (fun q => by have := hS k q; omega)⟩
theorem results_cell1 {P : Program} {fn : Func} {p : Tmp} {ty : TypeId} (h : fn.results = #[.cell p ty]) (tmps : Array Value) (w : World) (a : Addr) (v : Value)
    (hp : tmps.getD p undef = .pointer (some a)) (h1 : (loadVar ty a).run P w = .ok v w) : (results fn tmps).run P w = .ok v w := by
  have hp' : tmps[p]?.getD undef = .pointer (some a) := by simpa using hp
  simp [results, h, hp', asAddr, h1]
theorem load4 {w : World} {g : Nat} {v : Value} (h : Boxed w g 4 v) : (loadVar 4 ⟨g, 0, none⟩).run Tryd.prog w = .ok v w := by
  have := h.cell
  simp [go_sem, this]
/-- Two may come up. -/
theorem wpAnyC_two {F : Fence} {n : Nat} {P : Program} {ops : Array Oper} {Q : Exit → Act → World → Prop} {md : Region.Mode} {S : World → Prop} {i j t : Nat} {o o' : Oper} {fuel : Nat} {listed : Array Bool} {a : Act} {w : World} (hi : ops[i]? = some o) (hj : ops[j]? = some o') (hr : (Region.ready md ops listed == [i, j]) = true)
    (h : ∀ K : Act → World → Prop, (∀ a' w', (i = t ∨ S w') → wpAnyC F n P md ops Q S t fuel (listed.setIfInBounds i true) a' w' → K a' w') → if Region.wanted o (yielded ops a.tmps) = true then o.wpIn F n P a w K Q else (∀ f, o.about P w a.eval = some f → F.fn f) ∧ K (a.put o.dst undef) w)
    (h' : ∀ K : Act → World → Prop, (∀ a' w', (j = t ∨ S w') → wpAnyC F n P md ops Q S t fuel (listed.setIfInBounds j true) a' w' → K a' w') → if Region.wanted o' (yielded ops a.tmps) = true then o'.wpIn F n P a w K Q else (∀ f, o'.about P w a.eval = some f → F.fn f) ∧ K (a.put o'.dst undef) w) : wpAnyC F n P md ops Q S t (fuel + 1) listed a w := by
  have hr' : Region.ready md ops listed = [i, j] := by simpa using hr
  intro hc
  refine ⟨fun h => (by rw [hr'] at h; cases h), fun k hk => ?_⟩
  have hk2 : k = i ∨ k = j := by rw [hr'] at hk; simpa using hk
  rcases hk2 with rfl | rfl
  · have := h (fun a' w' => (k = t ∨ S w') ∧ wpAnyR F n P md ops Q S t fuel (listed.setIfInBounds k true) a' w') (fun a' w' h1 h2 => ⟨h1, h2 (cl_set hc hk)⟩)
    unfold wpOpIn
    rw [hi]
    simp only
    split
    · rename_i hw; simp only [hw, if_true] at this; exact this
    · rename_i hw; simp only [hw] at this; exact this
  · have := h' (fun a' w' => (k = t ∨ S w') ∧ wpAnyR F n P md ops Q S t fuel (listed.setIfInBounds k true) a' w') (fun a' w' h1 h2 => ⟨h1, h2 (cl_set hc hk)⟩)
    unfold wpOpIn
    rw [hj]
    simp only
    split
    · rename_i hw; simp only [hw, if_true] at this; exact this
    · rename_i hw; simp only [hw] at this; exact this

theorem fst_two {P : Nat → Prop} {x g : Nat} {C C' : List Nat} : ∀ {A A' : List Nat}, A ++ x :: C = A' ++ g :: C' → (∀ y ∈ A, P y) → (∀ y ∈ A', P y) → g = x ∨ P x ∨ P g
  | [], [], h, _, _ => .inl (List.cons.inj h).1.symm
  | [], a :: A', h, _, h2 => .inr (.inl (by rw [(List.cons.inj h).1]; exact h2 a (by simp)))
  | a :: A, [], h, h1, _ => .inr (.inr (by rw [← (List.cons.inj h).1]; exact h1 a (by simp)))
  | a :: A, a' :: A', h, h1, h2 => fst_two (List.cons.inj h).2 (fun y hy => h1 y (by simp [hy])) (fun y hy => h2 y (by simp [hy]))
theorem or_lt256 {a b : Nat} (ha : a < 256) (hb : b < 256) : a ||| b < 256 := Nat.or_lt_two_pow (n := 8) ha hb

def InsI (T : List Nat) (G : Nat) (W4 : World) (pre : List {x : Nat // x < G}) (W : World) : Prop := Ext [] W4 W ∧ ∀ x ∈ pre, opn T x.val = []
def InsX (T : List Nat) (B h d z G : Nat) (W4 : World) (cd : Code) (pre : List {x : Nat // x < G}) (W : World) : Prop := (∃ A x, pre = A ++ [x] ∧ (∀ y ∈ A, opn T y.val = []) ∧ ((cd = .exit 0 ∧ Ext [] W4 W ∧ mt (cw T x.val) 128 ≠ 0 ∧ T.getD 2 0 = 0 ∧ opn T x.val ≠ []) ∨ (cd = .ret ∧ ∃ i l, opn T x.val = i :: l ∧ ¬ (mt (cw T x.val) 128 ≠ 0 ∧ T.getD 2 0 = 0) ∧ Tw W B (insAt T x.val i h d) ∧ Boxed W (z + 3) 4 (.bool true) ∧ Ext [B, z + 3] W4 W)))
def InsJ (V2 : World) (ps : List {i : Nat // i < 8}) (W' : World) : Prop := Ext [] V2 W' ∧ ps = []
def InsY (T : List Nat) (B h d z xv cx : Nat) (V2 : World) (cd : Code) (ps : List {i : Nat // i < 8}) (W' : World) : Prop := ((cd = .exit 0 ∧ Ext [] V2 W' ∧ mt cx 128 ≠ 0 ∧ T.getD 2 0 = 0 ∧ ps ≠ []) ∨ (cd = .ret ∧ ∃ y : {i : Nat // i < 8}, ps = [y] ∧ ¬ (mt cx 128 ≠ 0 ∧ T.getD 2 0 = 0) ∧ Tw W' B (insAt T xv y.val h d) ∧ Boxed W' (z + 3) 4 (.bool true) ∧ Ext [B, z + 3] V2 W'))

set_option maxRecDepth 100000 in
set_option maxHeartbeats 4000000 in
theorem insert_any (B c G h d : Nat) (T : List Nat) (hS : Shp T G) (hh : h < 18446744073709551616) (_hd : d < 18446744073709551616) (h1c : T.getD 1 0 < 9223372036854775808) (w : World) (hT : Tw w B T) (hTb : Tb w) :
    Calls Tryd.prog 78 #[.slice (some ⟨B, 0, none⟩) (3 + 17 * G) c, .int .u64 (h : Nat), .int .u64 (d : Nat)] w (InsPost T B h d G w) := by
  refine (callsIn_wide (n := 12)).1 ?_
  refine callsIn_of_wp_marks Tryd.func78 rfl trivial ?_ rfl
  simp only [Tryd.ntmps78, List.size_toArray, List.length_cons, List.length_nil, Nat.reduceAdd, Nat.reduceSub, Array.replicate_succ, Array.replicate_zero, List.push_toArray, List.append_toArray, List.nil_append, List.cons_append]
  obtain ⟨z, hz⟩ : ∃ z, z = w.heap.size := ⟨_, rfl⟩
  obtain ⟨W0, hW0⟩ : ∃ W0, (((w.alloc (.cells #[.slice (some ⟨B, 0, none⟩) (3 + 17 * G) c] 22)).alloc (.cells #[.int .u64 (h : Nat)] 37)).alloc (.cells #[.int .u64 (d : Nat)] 37)).alloc (.cells #[.bool false] 4) = W0 := ⟨_, rfl⟩
  have hE0 : Ext [] w W0 := by rw [← hW0]; exact (((Ext.alloc [] _ _).trans (Ext.alloc [] _ _)).trans (Ext.alloc [] _ _)).trans (Ext.alloc [] _ _)
  have b0 : Boxed W0 z 22 (.slice (some ⟨B, 0, none⟩) (3 + 17 * G) c) := by rw [← hW0, hz]; exact (((Boxed.new w 22 _).alloc _).alloc _).alloc _
  have b1 : Boxed W0 (z + 1) 37 (.int .u64 (h : Nat)) := by
    have := ((Boxed.new (w.alloc (.cells #[.slice (some ⟨B, 0, none⟩) (3 + 17 * G) c] 22)) 37 (.int .u64 (h : Nat))).alloc (.cells #[.int .u64 (d : Nat)] 37)).alloc (.cells #[.bool false] 4)
    rw [hW0, World.size_alloc, ← hz] at this; exact this
  have b2 : Boxed W0 (z + 2) 37 (.int .u64 (d : Nat)) := by
    have := (Boxed.new ((w.alloc (.cells #[.slice (some ⟨B, 0, none⟩) (3 + 17 * G) c] 22)).alloc (.cells #[.int .u64 (h : Nat)] 37)) 37 (.int .u64 (d : Nat))).alloc (.cells #[.bool false] 4)
    rw [hW0, World.size_alloc, World.size_alloc, ← hz] at this; exact this
  have b3 : Boxed W0 (z + 3) 4 (.bool false) := by
    have := Boxed.new (((w.alloc (.cells #[.slice (some ⟨B, 0, none⟩) (3 + 17 * G) c] 22)).alloc (.cells #[.int .u64 (h : Nat)] 37)).alloc (.cells #[.int .u64 (d : Nat)] 37)) 4 (.bool false)
    rw [hW0, World.size_alloc, World.size_alloc, World.size_alloc, ← hz] at this; exact this
  have hz0 : W0.heap.size = z + 4 := by rw [← hW0, hz]; simp
  obtain ⟨W4, hW4⟩ : ∃ W4, ((W0.alloc (.cells #[.int .u8 (h % 128 : Nat)] 5)).alloc (.cells #[.int .i64 (G : Nat)] 3)).alloc (.cells #[.int .i64 (h / 128 % G : Nat)] 3) = W4 := ⟨_, rfl⟩
  have hE4 : Ext [] W0 W4 := by rw [← hW4]; exact ((Ext.alloc [] _ _).trans (Ext.alloc [] _ _)).trans (Ext.alloc [] _ _)
  have b4 : Boxed W4 (z + 4) 5 (.int .u8 (h % 128 : Nat)) := by rw [← hW4, ← hz0]; exact ((Boxed.new W0 5 _).alloc _).alloc _
  have b5 : Boxed W4 (z + 5) 3 (.int .i64 (G : Nat)) := by
    have := (Boxed.new (W0.alloc (.cells #[.int .u8 (h % 128 : Nat)] 5)) 3 (.int .i64 (G : Nat))).alloc (.cells #[.int .i64 (h / 128 % G : Nat)] 3)
    rw [hW4, World.size_alloc, hz0] at this; exact this
  have b6 : Boxed W4 (z + 6) 3 (.int .i64 (h / 128 % G : Nat)) := by
    have := Boxed.new ((W0.alloc (.cells #[.int .u8 (h % 128 : Nat)] 5)).alloc (.cells #[.int .i64 (G : Nat)] 3)) 3 (.int .i64 (h / 128 % G : Nat))
    rw [hW4, World.size_alloc, World.size_alloc, hz0] at this; exact this
  have hz4 : W4.heap.size = z + 7 := by rw [← hW4]; simp [hz0]
  have c1 := Boxed.cell b1
  have K1 := fun u => split_any h hh u
  have hr8 : h % 128 < 128 := Nat.mod_lt _ (by omega)
  have c0 := Boxed.cell ((Boxed.alloc b0 (.cells #[.int .u8 (h % 128 : Nat)] 5)))
  have K2 := groupsOf_any (some ⟨B, 0, none⟩) (3 + 17 * G) c T _ ((hT.wd.keep0 hE0).keep0 (Ext.alloc [] _ (.cells #[.int .u8 (h % 128 : Nat)] 5))) hS.len (by omega) (by rw [hS.g0]; exact hS.gp.le)
  rw [hS.g0] at K2
  have K3 := Pr.seq_ok (h / 128) G hS.gp (W0.alloc (.cells #[.int .u8 (h % 128 : Nat)] 5))
  simp only [World.size_alloc, hz0] at K3
  rw [hW4] at K3
  have HSt := hid (Pr.seq_stops 11 (by omega) (z + 6) (z + 5) (h / 128) G hS.gp W4 b6 b5)
  have HE := hid (hE0.trans hE4)
  have HB0 := hid (show Boxed W4 z 22 _ from hE4.keep b0 (by simp))
  have HB1 := hid (show Boxed W4 (z + 1) 37 _ from hE4.keep b1 (by simp))
  have HB2 := hid (show Boxed W4 (z + 2) 37 _ from hE4.keep b2 (by simp))
  have HB3 := hid (show Boxed W4 (z + 3) 4 _ from hE4.keep b3 (by simp))
  have HB4 := hid b4
  have HB5 := hid b5
  have HT4 := hid (hT.keep0 (hE0.trans hE4))
  have HTb := hid (hTb.keep0 (hE0.trans hE4))
  have HS := hid hS
  have HTlen := hid hS.len
  have hG1 := hS.gp.pos
  have hG2 := hS.gp.le
  have HZ := hid hz
  have hBz : B < z := by rw [hz]; exact hT.lt
  have Hh1c := hid h1c
  clear hE0 hE4 b1 b2 b3 b4 b5 b6 hS hT hTb h1c
  generalize hq1 : h / 128 = h1 at *
  generalize hq2 : h % 128 = h2 at *
  have hw0 : w.heap.size = z := hz.symm
  clear hz
  gi_wp2_with fail
  try rw [hW0]
  refine wpIn_wide.2 (wp_scope_straight ((wpIn_wide (n := 12)).1 ?_))
  try simp only [hw0]
  simp only [show z + 1 + 1 = z + 2 from rfl, show z + 2 + 1 = z + 3 from rfl]
  clear b0 hW0
  gi_wp2_with (first | (gi_at_call 102; refine (callsIn_wide.2 (K1 _)).mono ?_; rintro _ _ ⟨rfl, hw2⟩; obtain rfl := hw2.symm; clear hw2) | (gi_at_call 94; refine (callsIn_wide.2 K2).mono ?_; rintro _ _ ⟨rfl, rfl⟩) | (gi_at_call 103; refine (callsIn_wide.2 K3).mono ?_; rintro _ _ ⟨rfl, hw2⟩; obtain rfl := hw2.symm; clear hw2))
  refine wpIn_label ?_
  gi_wp2_with fail
  simp only [show z + 4 + 1 = z + 5 from rfl, show z + 5 + 1 = z + 6 from rfl]
  have h47' : W4.heap.size ≤ z + 7 ∧ z + 7 ≤ W4.heap.size := by omega
  clear K1 K2 K3 c0 c1 hW4 hz4
  refine wpIn_rangeFunc_ownH rfl (by omega) (gf := 122) (lb := #[.pointer (some ⟨z + 6, 0, none⟩), .pointer (some ⟨z + 5, 0, none⟩)]) rfl trivial (enters_of Tryd.func122 (by kernel_rfl) rfl)
    HSt.out Pr.kq_t (Pr.kq_b (by simp; omega)) (Below.refl _ _) (fun _ => rfl)
    (InsI T G W4)
    (InsX T B h d z G W4)
    (OwnFrom.and (ext_own (Nat.le_refl _)) (ownFrom_pure _ _))
    (fun cd pre X Y row hs hg hr => by
      obtain ⟨A, x, e1, e2, e3⟩ := hs
      refine ⟨A, x, e1, e2, ?_⟩
      rcases e3 with ⟨q1, q2, q3⟩ | ⟨q1, i, l, q2, q3, q4, q5, q6⟩
      · exact .inl ⟨q1, ext_own (β := Unit) (Nat.le_refl _) () X Y row q2 hg hr, q3⟩
      · exact .inr ⟨q1, i, l, q2, q3, tw_own (β := Unit) B _ () X Y row q4 hg (fun r e => (hr r e).2), boxed_own (z + 3) 4 (fun _ : Unit => .bool true) () X Y row q5 hg (fun r e => (hr r e).2), ext_own (β := Unit) (Nat.le_refl _) () X Y row q6 hg hr⟩)
    ⟨Ext.refl _ _, by simp⟩
    (fun x a' W => ∃ Bx, (W4.heap.size ≤ Bx ∧ Boxed W Bx 3 (.int .i64 (x.val : Nat))) ∧ a' = { tmps := #[.slice (some ⟨B, 0, none⟩) (3 + 17 * G) c, .int .u64 (h : Nat), .int .u64 (d : Nat), .pointer (some ⟨z, 0, none⟩), .pointer (some ⟨z + 1, 0, none⟩), .pointer (some ⟨z + 2, 0, none⟩), .pointer (some ⟨z + 3, 0, none⟩), .int .u64 (h1 : Nat), .pointer (some ⟨z + 4, 0, none⟩), .func (.func 122) #[] #[.pointer (some ⟨z + 6, 0, none⟩), .pointer (some ⟨z + 5, 0, none⟩)], .int .i64 0, .pointer (some ⟨Bx, 0, none⟩), undef, undef, .tuple #[.int .u64 (h1 : Nat), .int .u8 (h2 : Nat)], .int .u64 (h : Nat), .tuple #[.int .u64 (h1 : Nat), .int .u8 (h2 : Nat)], .int .u64 (h1 : Nat), .int .u8 (h2 : Nat), .tuple #[.func (.func 122) #[] #[.pointer (some ⟨z + 6, 0, none⟩), .pointer (some ⟨z + 5, 0, none⟩)], .int .i64 0], .int .u64 (h1 : Nat), .slice (some ⟨B, 0, none⟩) (3 + 17 * G) c, .int .i64 (G : Nat), .tuple #[.func (.func 122) #[] #[.pointer (some ⟨z + 6, 0, none⟩), .pointer (some ⟨z + 5, 0, none⟩)], .int .i64 0], .func (.func 122) #[] #[.pointer (some ⟨z + 6, 0, none⟩), .pointer (some ⟨z + 5, 0, none⟩)], .int .i64 0, .func (.func 122) #[] #[.pointer (some ⟨z + 6, 0, none⟩), .pointer (some ⟨z + 5, 0, none⟩)], .int .i64 (x.val : Nat), undef, undef, undef, undef, undef, undef, undef, undef, undef, undef, undef, undef, undef, undef, undef, undef, undef, undef, undef, undef, undef, undef, undef, undef, undef, undef, undef, undef, undef, undef, undef, undef, undef], defers := [] })
    (fun x a' _ X Y row hs hg hr => by
      obtain ⟨Bx, ⟨h0, h2⟩, h3⟩ := hs
      exact ⟨Bx, ⟨h0, boxed_own Bx 3 (fun _ : Unit => .int .i64 (x.val : Nat)) () X Y row h2 hg (fun r e => (hr r e).2)⟩, h3⟩)
    ?assign ?body ?done ?stop
  case assign =>
    rintro l2 pre x W K ⟨hi, he⟩ hK
    have HI := hid hi
    have HEE := hid he
    clear hi he
    gi_wp2
    exact hK _ _ ((KeepsOthers.alloc _ _).from _) (Pr.Kq.of_ext (Ext.alloc [] _ _) (by simp)) ⟨HI.out.trans (Ext.alloc [] _ _), HEE.out⟩ ⟨W.heap.size, ⟨HI.out.size, Boxed.new _ _ _⟩, rfl⟩
  case done =>
    rintro D zs W hD hzs ⟨hi, he⟩ hK
    have hb3 := hi.keep HB3.out (by simp)
    have c3 := Boxed.cell hb3
    have f3 := Boxed.frozen hb3
    have HI := hid hi
    have Hb3 := hid hb3
    have HNo : Hid (∀ g i, ¬ Fst T h G g i) := by
      rintro g i ⟨A, C, l, e1, e2, e3⟩
      have hm : g ∈ zs.map Subtype.val := by
        rw [show zs.map Subtype.val = sq h1 G from hzs, ← hq1, e1]; simp
      obtain ⟨x, hx, rfl⟩ := List.mem_map.1 hm
      rw [he x hx] at e3
      cases e3
    have HK := hid hK
    have HD := hid hD
    clear hi he hb3 hzs hK hD
    gi_wp2_with fail
    try rw [Exit.noGoto_ret]
    have hK2 := (KeepsOthers.setCell W ⟨z + 3, 0, none⟩ (.bool false)).same _ _ HK.out rfl
    have hP := grownBy_putObj' (W.setCell ⟨z + 3, 0, none⟩ (.bool false)) D (.deferred none)
    have hx1 := Ext.setCell [z + 3] W ⟨z + 3, 0, none⟩ (.bool false) (by simp)
    have hx2 := Ext.grown (S := [D]) hP (by simp)
    have hDz := HD.out
    have hr1 : Boxed _ _ _ _ := hx2.keep ((show Boxed W (z + 3) 4 _ from Hb3.out).set (.bool false)) (by simp; omega)
    refine ⟨by simp, .inl ⟨_, _, rfl, run_takeDeferred hK2, _, results_cell1 rfl _ _ ⟨z + 3, 0, none⟩ _ rfl (load4 hr1), ?_, .inr ⟨rfl, ?_, fun g i hf => absurd hf (HNo.out g i)⟩⟩⟩
    · exact (((HE.out.trans HI.out).on hx1 (by simp; omega)).on hx2 (by simp; omega)).mono (by simp)
    · exact ((HT4.out.keep0 HI.out).keep hx1 (by simp; omega)).keep hx2 (by simp; omega)
  case stop =>
    rintro D cd pre W hD hSp ⟨A, x, rfl, hA, hIx⟩ hK
    rw [List.map_append, List.map_cons, List.map_nil] at hSp
    obtain ⟨C, hC⟩ := hSp
    have hsq : sq (h / 128) G = A.map Subtype.val ++ x.val :: C := by rw [hq1, ← hC]; simp
    have hA' : ∀ y ∈ A.map Subtype.val, opn T y = [] := by intro y hy; obtain ⟨q, hq, rfl⟩ := List.mem_map.1 hy; exact hA q hq
    have hun : ∀ g i, Fst T h G g i → g = x.val ∨ opn T x.val = [] := by
      rintro g i ⟨A', C', l, e1, e2, e3⟩
      rcases fst_two (P := fun y => opn T y = []) (hsq.symm.trans e1) hA' e2 with q | q | q
      · exact .inl q
      · exact .inr q
      · rw [show opn T g = [] from q] at e3; cases e3
    have HK := hid hK
    have HD := hid hD
    have hDz := hD
    rcases hIx with ⟨rfl, hi, hm, h20, hne⟩ | ⟨rfl, i, l, hop, hno, hTw, hb3, hx⟩
    · have hb3 : Boxed W (z + 3) 4 (.bool false) := hi.keep HB3.out (by simp)
      have c3 := Boxed.cell hb3
      have f3 := Boxed.frozen hb3
      have HI := hid hi
      have Hb3 := hid hb3
      have HNo : Hid (∀ g i, Fst T h G g i → mt (cw T g) 128 ≠ 0 ∧ T.getD 2 0 = 0) := fun g i hf => by
        rcases hun g i hf with rfl | q
        · exact ⟨hm, h20⟩
        · exact absurd q hne
      clear hi hb3 hK hD hC hsq hA' hun hm h20 hne hA
      gi_wp2_with fail
      try rw [Exit.noGoto_ret]
      have hK2 := (KeepsOthers.setCell W ⟨z + 3, 0, none⟩ (.bool false)).same _ _ HK.out rfl
      have hP := grownBy_putObj' (W.setCell ⟨z + 3, 0, none⟩ (.bool false)) D (.deferred none)
      have hx1 := Ext.setCell [z + 3] W ⟨z + 3, 0, none⟩ (.bool false) (by simp)
      have hx2 := Ext.grown (S := [D]) hP (by simp)
      have hr1 : Boxed _ _ _ _ := hx2.keep ((show Boxed W (z + 3) 4 _ from Hb3.out).set (.bool false)) (by simp; omega)
      refine ⟨by simp, .inl ⟨_, _, rfl, run_takeDeferred hK2, _, results_cell1 rfl _ _ ⟨z + 3, 0, none⟩ _ rfl (load4 hr1), ?_, .inr ⟨rfl, ?_, HNo.out⟩⟩⟩
      · exact (((HE.out.trans HI.out).on hx1 (by simp; omega)).on hx2 (by simp; omega)).mono (by simp)
      · exact ((HT4.out.keep0 HI.out).keep hx1 (by simp; omega)).keep hx2 (by simp; omega)
    · have HF : Hid (Fst T h G x.val i) := ⟨_, C, l, hsq, hA', hop⟩
      have Hno := hid hno
      have Hb3 := hid hb3
      have HTw := hid hTw
      have HX := hid hx
      clear hK hD hC hsq hA' hun hno hTw hb3 hx hA hop
      gi_wp2_with fail
      try rw [Exit.noGoto_ret]
      have hP := grownBy_putObj' W D (.deferred none)
      have hx2 := Ext.grown (S := [D]) hP (by simp)
      have hr1 : Boxed _ _ _ _ := hx2.keep (show W.heap[z + 3]? = _ from Hb3.out) (by simp; omega)
      refine ⟨by simp, .inl ⟨_, _, rfl, run_takeDeferred HK.out, _, results_cell1 rfl _ _ ⟨z + 3, 0, none⟩ _ rfl (load4 hr1), ?_, .inl ⟨x.val, i, HF.out, Hno.out, rfl, HTw.out.keep hx2 (by simp; omega)⟩⟩⟩
      have h1 : Ext [B] w W := ((HE.out.mono (T := [B, z + 3]) (by simp)).trans HX.out).drop (by simp; omega)
      exact (h1.mono (T := [B, D]) (by simp) |>.trans (hx2.mono (by simp))).drop (by simp; omega)
  case body =>
    rintro l2 pre x a' W hl2 ⟨r2, hr2⟩ ⟨hi, he⟩ ⟨Bx, ⟨hBx4, hbx⟩, rfl⟩ hlt
    have hx := x.property
    obtain ⟨xv, hxv⟩ : ∃ xv, x.val = xv := ⟨_, rfl⟩
    have b0 : Boxed W z 22 (.slice (some ⟨B, 0, none⟩) (3 + 17 * G) c) := hi.keep HB0.out (by simp)
    have c0 := Boxed.cell b0
    have cX := Boxed.cell hbx
    have hTW := HT4.out.keep0 hi
    rw [hxv] at hx cX
    have cC := hTW.cell (j := 3 + 17 * xv) (by rw [HTlen.out]; omega)
    rw [show T.getD (3 + 17 * xv) 0 = cw T xv from rfl] at cC
    have hcw := HS.out.cw_lt xv
    obtain ⟨cx, hcx⟩ : ∃ cx, cw T xv = cx := ⟨_, rfl⟩
    rw [hcx] at cC hcw
    have KC := fun u => controlAt_any xv (by omega) u
    obtain ⟨Bc, hBc⟩ : ∃ Bc, W.heap.size = Bc := ⟨_, rfl⟩
    have HI := hid hi
    have HEE := hid he
    have HBX := hid (show Boxed W Bx 3 (.int .i64 (xv : Nat)) by rw [← hxv]; exact hbx)
    have HL := hid hr2
    have HHx := hid hxv
    have HHc := hid hcx
    simp only [hxv]
    clear hi he hbx hr2 hTW b0 hxv hcx
    gi_wp2_with fail
    refine Code.wpIn_mono (Q := fun e a2 w2 => e = Exit.normal ∧ a2 = { tmps := #[.slice (some ⟨B, 0, none⟩) (3 + 17 * G) c, .int .u64 (h : Nat), .int .u64 (d : Nat), .pointer (some ⟨z, 0, none⟩), .pointer (some ⟨z + 1, 0, none⟩), .pointer (some ⟨z + 2, 0, none⟩), .pointer (some ⟨z + 3, 0, none⟩), .int .u64 (h1 : Nat), .pointer (some ⟨z + 4, 0, none⟩), .func (.func 122) #[] #[.pointer (some ⟨z + 6, 0, none⟩), .pointer (some ⟨z + 5, 0, none⟩)], .int .i64 0, .pointer (some ⟨Bx, 0, none⟩), .pointer (some ⟨Bc, 0, none⟩), undef, .tuple #[.int .u64 (h1 : Nat), .int .u8 (h2 : Nat)], .int .u64 (h : Nat), .tuple #[.int .u64 (h1 : Nat), .int .u8 (h2 : Nat)], .int .u64 (h1 : Nat), .int .u8 (h2 : Nat), .tuple #[.func (.func 122) #[] #[.pointer (some ⟨z + 6, 0, none⟩), .pointer (some ⟨z + 5, 0, none⟩)], .int .i64 0], .int .u64 (h1 : Nat), .slice (some ⟨B, 0, none⟩) (3 + 17 * G) c, .int .i64 (G : Nat), .tuple #[.func (.func 122) #[] #[.pointer (some ⟨z + 6, 0, none⟩), .pointer (some ⟨z + 5, 0, none⟩)], .int .i64 0], .func (.func 122) #[] #[.pointer (some ⟨z + 6, 0, none⟩), .pointer (some ⟨z + 5, 0, none⟩)], .int .i64 0, .func (.func 122) #[] #[.pointer (some ⟨z + 6, 0, none⟩), .pointer (some ⟨z + 5, 0, none⟩)], .int .i64 (xv : Nat), .slice (some ⟨B, 0, none⟩) (3 + 17 * G) c, .int .i64 (xv : Nat), .int .i64 (3 + 17 * (xv : Int)), .pointer (some ⟨B, 3 + 17 * xv, none⟩), .int .u64 (cx : Nat), undef, undef, undef, undef, undef, undef, undef, undef, undef, undef, undef, undef, undef, undef, undef, undef, undef, undef, undef, undef, undef, undef, undef, undef, undef, undef, undef, undef], defers := [] } ∧ Ext [] W w2 ∧ Boxed w2 Bc 37 (.int .u64 (cx : Nat))) ?rest ?region
    case region =>
      refine wpIn_region_heldP (fun u => u.cell? ⟨z, 0, none⟩ = some (.slice (some ⟨B, 0, none⟩) (3 + 17 * G) c) ∧ u.cell? ⟨Bx, 0, none⟩ = some (.int .i64 (xv : Nat)) ∧ u.cell? ⟨B, 3 + 17 * xv, none⟩ = some (.int .u64 (cx : Nat))) 6 (by kernel_rfl) ?_
      have hS : W.drew.cell? ⟨z, 0, none⟩ = some (.slice (some ⟨B, 0, none⟩) (3 + 17 * G) c) ∧ W.drew.cell? ⟨Bx, 0, none⟩ = some (.int .i64 (xv : Nat)) ∧ W.drew.cell? ⟨B, 3 + 17 * xv, none⟩ = some (.int .u64 (cx : Nat)) := ⟨c0, cX, cC⟩
      have hxa := Ext.alloc [] W.drew (.cells #[.int .u64 0] 37)
      have hS' : (W.drew.alloc (.cells #[.int .u64 0] 37)).cell? ⟨z, 0, none⟩ = some (.slice (some ⟨B, 0, none⟩) (3 + 17 * G) c) ∧ (W.drew.alloc (.cells #[.int .u64 0] 37)).cell? ⟨Bx, 0, none⟩ = some (.int .i64 (xv : Nat)) ∧ (W.drew.alloc (.cells #[.int .u64 0] 37)).cell? ⟨B, 3 + 17 * xv, none⟩ = some (.int .u64 (cx : Nat)) := ⟨hxa.cell hS.1 (by simp), hxa.cell hS.2.1 (by simp), hxa.cell hS.2.2 (by simp)⟩
      have hbc : Boxed (W.drew.alloc (.cells #[.int .u64 0] 37)) Bc 37 (.int .u64 0) := by rw [← hBc]; exact Boxed.new W.drew _ _
      have cc : ((W.alloc (.cells #[.int .u64 0] 37)).drew).cell? ⟨Bc, 0, none⟩ = some (.int .u64 0) := hbc.cell
      have fc : ((W.alloc (.cells #[.int .u64 0] 37)).drew).frozen? ⟨Bc, 0, none⟩ = false := hbc.frozen
      have cc2 : (W.alloc (.cells #[.int .u64 0] 37)).cell? ⟨Bc, 0, none⟩ = some (.int .u64 0) := hbc.cell
      have fc2 : (W.alloc (.cells #[.int .u64 0] 37)).frozen? ⟨Bc, 0, none⟩ = false := hbc.frozen
      have HF : Hid (Ext [] W ((W.drew.alloc (.cells #[.int .u64 0] 37)).setCell ⟨Bc, 0, none⟩ (.int .u64 (cx : Nat))) ∧ Boxed ((W.drew.alloc (.cells #[.int .u64 0] 37)).setCell ⟨Bc, 0, none⟩ (.int .u64 (cx : Nat))) Bc 37 (.int .u64 (cx : Nat))) :=
        ⟨((Ext.drew [] W).trans hxa).on (Ext.setCell [Bc] _ _ _ (by simp)) (by simp; omega), hbc.set _⟩
      have hdz : W.drew.heap.size = Bc := hBc
      clear hxa hbc hBc
      refine wpAnyC_take (i := 0) (v := .slice (some ⟨B, 0, none⟩) (3 + 17 * G) c) rfl (by kernel_rfl) (fun _ _ _ h => h) (yieldsR_run rfl rfl (fun _ => rfl) (fun u hu => by obtain ⟨u1, u2, u3⟩ := hu; go_simp)) hS ?_
      simp only [Act.put, List.setIfInBounds_toArray]
      refine wpAnyC_take (i := 1) (v := .int .i64 (xv : Nat)) rfl (by kernel_rfl) (fun _ _ _ h => h) (yieldsR_run rfl rfl (fun _ => rfl) (fun u hu => by obtain ⟨u1, u2, u3⟩ := hu; go_simp)) hS ?_
      simp only [Act.put]
      refine wpAnyC_two (i := 2) (j := 5) rfl rfl (by kernel_rfl) (fun K1 hK1 => ?_) (fun K1 hK1 => ?_)
      · go_simp
        refine ((callsIn_wide.2 (KC _)).inRound l2).mono ?_
        rintro _ _ ⟨rfl, rfl⟩
        refine hK1 _ _ (.inr hS) ?_
        clear hK1 K1
        refine wpAnyC_take (i := 3) (v := .pointer (some ⟨B, 3 + 17 * xv, none⟩)) rfl (by kernel_rfl) (fun _ _ _ h => h) (yieldsR_run rfl rfl (fun _ => rfl) (fun u hu => by clear hu; go_simp; rw [if_pos (by omega), show (3 + 17 * (xv : Int)).toNat = 3 + 17 * xv by omega])) hS ?_
        simp only [Act.put, List.setIfInBounds_toArray]
        refine wpAnyC_take (i := 4) (v := .int .u64 (cx : Nat)) rfl (by kernel_rfl) (fun _ _ _ h => h) (yieldsR_run rfl rfl (fun _ => rfl) (fun u hu => by obtain ⟨u1, u2, u3⟩ := hu; go_simp)) hS ?_
        simp only [Act.put]
        refine wpAnyC_sole (i := 5) rfl (by kernel_rfl) (fun K1 hK1 => ?_)
        go_simp
        refine hK1 _ _ (.inr hS') ?_
        clear hK1 K1
        refine wpAnyC_sole (i := 6) rfl (by kernel_rfl) (fun K1 hK1 => ?_)
        go_simp
        refine hK1 _ _ (.inl rfl) ?_
        clear hK1 K1
        refine wpAnyC_doneP (by kernel_rfl) ?_
        exact ⟨rfl, rfl, HF.out⟩
      · go_simp
        refine hK1 _ _ (.inr hS') ?_
        clear hK1 K1
        refine wpAnyC_sole (i := 2) rfl (by kernel_rfl) (fun K1 hK1 => ?_)
        go_simp
        refine ((callsIn_wide.2 (KC _)).inRound l2).mono ?_
        rintro _ _ ⟨rfl, rfl⟩
        refine hK1 _ _ (.inr hS') ?_
        clear hK1 K1
        refine wpAnyC_take (i := 3) (v := .pointer (some ⟨B, 3 + 17 * xv, none⟩)) rfl (by kernel_rfl) (fun _ _ _ h => h) (yieldsR_run rfl rfl (fun _ => rfl) (fun u hu => by clear hu; go_simp; rw [if_pos (by omega), show (3 + 17 * (xv : Int)).toNat = 3 + 17 * xv by omega])) hS' ?_
        simp only [Act.put, List.setIfInBounds_toArray]
        refine wpAnyC_take (i := 4) (v := .int .u64 (cx : Nat)) rfl (by kernel_rfl) (fun _ _ _ h => h) (yieldsR_run rfl rfl (fun _ => rfl) (fun u hu => by obtain ⟨u1, u2, u3⟩ := hu; go_simp)) hS' ?_
        simp only [Act.put]
        refine wpAnyC_sole (i := 6) rfl (by kernel_rfl) (fun K1 hK1 => ?_)
        go_simp
        refine hK1 _ _ (.inl rfl) ?_
        clear hK1 K1
        refine wpAnyC_doneP (by kernel_rfl) ?_
        exact ⟨rfl, rfl, HF.out⟩
    case rest =>
      rintro e a2 V1 ⟨rfl, rfl, hEV, hbc⟩
      have hbx1 : Boxed V1 Bx 3 (.int .i64 (xv : Nat)) := hEV.keep HBX.out (by simp)
      have cc := hbc.cell
      have KO := fun u => open_any cx hcw u
      have KB := fun m u => bits_any m u
      have hm256 := or_lt256 (mt_lt256 cx 128) (mt_lt256 cx 254)
      obtain ⟨m, hm⟩ : ∃ m, mt cx 128 ||| mt cx 254 = m := ⟨_, rfl⟩
      rw [hm] at hm256
      simp only [hm] at KO
      have HHm := hid hm
      have hE2 := Ext.alloc [] V1 (.cells #[.int .u64 (m : Nat)] 37)
      have HX2 := hid ((HI.out.trans hEV).trans hE2)
      have HBX2 := hid (hE2.keep hbx1 (by simp))
      have HBC2 := hid (hE2.keep hbc (by simp))
      have HL2 := hid ((hEV.trans hE2).keep HL.out (by simp))
      have hbM := Boxed.new V1 37 (.int .u64 (m : Nat))
      have hWV := hid (hEV.trans hE2)
      have hV2s : (V1.alloc (.cells #[.int .u64 (m : Nat)] 37)).heap.size = V1.heap.size + 1 := by simp
      clear hbx1 hE2 hbc hm hBc c0 cX cC KC
      gi_wp2_with (first | (gi_at_call 109; refine ((callsIn_wide.2 (KO _)).inRound l2).mono ?_; rintro _ _ ⟨rfl, hw2⟩; obtain rfl := hw2.symm; clear hw2) | (gi_at_call 104; refine ((callsIn_wide.2 (KB _ _)).inRound l2).mono ?_; rintro _ _ ⟨rfl, hw2⟩; obtain rfl := hw2.symm; clear hw2))
      clear KO KB cc
      obtain ⟨zm, hzm⟩ : ∃ zm, V1.heap.size = zm := ⟨_, rfl⟩
      obtain ⟨V2, hV2⟩ : ∃ V2, V1.alloc (.cells #[.int .u64 (m : Nat)] 37) = V2 := ⟨_, rfl⟩
      rw [hV2] at HX2 HBX2 HBC2 HL2 hbM hWV hV2s ⊢
      rw [hzm] at hbM hV2s ⊢
      have hTb2 := HTb.out.keep0 HX2.out
      have h0V := hTb2.lt
      have h47 : W4.heap.size ≤ V2.heap.size := HX2.out.size
      clear hV2 hzm hEV
      have hBV : B < V2.heap.size := by omega
      have hzV : z + 3 < V2.heap.size := by omega
      refine wpIn_rangeFunc_ownN (l₀ := l2) (r₀ := r2) rfl HL2.out (by omega) (gf := 123) (lb := #[.pointer (some ⟨zm, 0, none⟩)]) rfl trivial (enters_of Tryd.func123 (by kernel_rfl) rfl)
        ((bits_stops 9 (by omega) zm m hm256 V2 hbM hTb2).inRound l2) ktK_t (ktK_b h0V) (Below.refl _ _) (fun _ => rfl)
        (InsJ V2)
        (InsY T B h d z xv cx V2)
        (OwnFrom.and (ext_own (Nat.le_refl _)) (ownFrom_pure _ _))
        (fun cd ps X Y row hs hg hr => by
          rcases hs with ⟨q1, q2, q3⟩ | ⟨q1, y, q2, q3, q4, q5, q6⟩
          · exact .inl ⟨q1, ext_own (β := Unit) (Nat.le_refl _) () X Y row q2 hg hr, q3⟩
          · exact .inr ⟨q1, y, q2, q3, tw_own (β := Unit) B _ () X Y row q4 hg (fun r e => (hr r e).2), boxed_own (z + 3) 4 (fun _ : Unit => .bool true) () X Y row q5 hg (fun r e => (hr r e).2), ext_own (β := Unit) (Nat.le_refl _) () X Y row q6 hg hr⟩)
        ⟨Ext.refl _ _, rfl⟩
        (fun y a' _ => a' = { tmps := #[.slice (some ⟨B, 0, none⟩) (3 + 17 * G) c, .int .u64 (h : Nat), .int .u64 (d : Nat), .pointer (some ⟨z, 0, none⟩), .pointer (some ⟨z + 1, 0, none⟩), .pointer (some ⟨z + 2, 0, none⟩), .pointer (some ⟨z + 3, 0, none⟩), .int .u64 (h1 : Nat), .pointer (some ⟨z + 4, 0, none⟩), .func (.func 122) #[] #[.pointer (some ⟨z + 6, 0, none⟩), .pointer (some ⟨z + 5, 0, none⟩)], .int .i64 0, .pointer (some ⟨Bx, 0, none⟩), .pointer (some ⟨Bc, 0, none⟩), .int .i64 (y.val : Nat), .tuple #[.int .u64 (h1 : Nat), .int .u8 (h2 : Nat)], .int .u64 (h : Nat), .tuple #[.int .u64 (h1 : Nat), .int .u8 (h2 : Nat)], .int .u64 (h1 : Nat), .int .u8 (h2 : Nat), .tuple #[.func (.func 122) #[] #[.pointer (some ⟨z + 6, 0, none⟩), .pointer (some ⟨z + 5, 0, none⟩)], .int .i64 0], .int .u64 (h1 : Nat), .slice (some ⟨B, 0, none⟩) (3 + 17 * G) c, .int .i64 (G : Nat), .tuple #[.func (.func 122) #[] #[.pointer (some ⟨z + 6, 0, none⟩), .pointer (some ⟨z + 5, 0, none⟩)], .int .i64 0], .func (.func 122) #[] #[.pointer (some ⟨z + 6, 0, none⟩), .pointer (some ⟨z + 5, 0, none⟩)], .int .i64 0, .func (.func 122) #[] #[.pointer (some ⟨z + 6, 0, none⟩), .pointer (some ⟨z + 5, 0, none⟩)], .int .i64 (xv : Nat), .slice (some ⟨B, 0, none⟩) (3 + 17 * G) c, .int .i64 (xv : Nat), .int .i64 (3 + 17 * (xv : Int)), .pointer (some ⟨B, 3 + 17 * xv, none⟩), .int .u64 (cx : Nat), .int .u64 (cx : Nat), .int .u64 (m : Nat), itv zm, .int .i64 (y.val : Nat), undef, undef, undef, undef, undef, undef, undef, undef, undef, undef, undef, undef, undef, undef, undef, undef, undef, undef, undef, undef, undef, undef, undef, undef], defers := [] })
        (fun y a' _ X Y row hs hg hr => hs)
        ?iassign ?ibody ?idone ?istop
      case iassign =>
        rintro l3 ps y W' K hI hK
        gi_wp2
        exact hK _ _ (KeepsFrom.refl _ _) (Kt.refl _) hI rfl
      case idone =>
        rintro ps W' hS ⟨hX, rfl⟩
        have HF : Hid (KeepsFrom W4.heap.size W W' ∧ Pr.Kq [z + 5] W W' ∧ InsI T G W4 (pre ++ [x]) W') := by
          have hWW := hWV.out.trans hX
          refine ⟨keeps_ext hWW (by simp), Pr.Kq.of_ext hWW (by simp), HX2.out.trans hX, fun y hy => ?_⟩
          rcases List.mem_append.1 hy with q | q
          · exact HEE.out y q
          · simp only [List.mem_singleton] at q
            subst q
            unfold opn
            rw [HHx.out, HHc.out, HHm.out]
            exact hS.symm
        clear hX hS
        gi_wp2_with fail
        exact HF.out
      case istop =>
        rintro cd ps W' hSp hIx
        rcases hIx with ⟨rfl, hX, hm1, h20, hne⟩ | ⟨rfl, y, rfl, hno, hTw, hb3, hX⟩
        · have HF : Hid (KeepsFrom W4.heap.size W W' ∧ InsX T B h d z G W4 (.exit 0) (pre ++ [x]) W') := by
            refine ⟨keeps_ext (hWV.out.trans hX) (by simp), pre, x, rfl, HEE.out, .inl ⟨rfl, HX2.out.trans hX, ?_, h20, fun e => ?_⟩⟩
            · rw [HHx.out, HHc.out]; exact hm1
            · unfold opn at e
              rw [HHx.out, HHc.out, HHm.out] at e
              obtain ⟨t, ht⟩ := hSp
              rw [e] at ht
              exact hne (List.map_eq_nil_iff.1 (List.append_eq_nil_iff.1 ht).1)
          clear hX hm1 h20 hne hSp
          gi_wp2_with fail
          exact HF.out
        · have HF : Hid (KeepsFrom W4.heap.size W W' ∧ InsX T B h d z G W4 .ret (pre ++ [x]) W') := by
            obtain ⟨l, hl⟩ := hSp
            refine ⟨keeps_ext ((hWV.out.mono (by simp)).trans hX) (by simp; omega), pre, x, rfl, HEE.out, .inr ⟨rfl, y.val, l, ?_, ?_, ?_, hb3, (HX2.out.mono (by simp)).trans hX⟩⟩
            · unfold opn
              rw [HHx.out, HHc.out, HHm.out, ← hl]; rfl
            · rw [HHx.out, HHc.out]; exact hno
            · rw [HHx.out]; exact hTw
          clear hX hno hTw hb3 hSp
          gi_wp2_with fail
          exact HF.out
      case ibody =>
        rintro l3 ps y a' W' hl3 ⟨r3, hr3⟩ ⟨hX, rfl⟩ rfl hlt3
        obtain ⟨yv, hyv⟩ : ∃ yv, y.val = yv := ⟨_, rfl⟩
        have hy8 := y.property
        rw [hyv] at hy8
        have hXall := HX2.out.trans hX
        have hb0 : Boxed W' z 22 (.slice (some ⟨B, 0, none⟩) (3 + 17 * G) c) := hXall.keep HB0.out (by simp)
        have hb1 : Boxed W' (z + 1) 37 (.int .u64 (h : Nat)) := hXall.keep HB1.out (by simp)
        have hb2 : Boxed W' (z + 2) 37 (.int .u64 (d : Nat)) := hXall.keep HB2.out (by simp)
        have hb3 : Boxed W' (z + 3) 4 (.bool false) := hXall.keep HB3.out (by simp)
        have hb4 : Boxed W' (z + 4) 5 (.int .u8 (h2 : Nat)) := hXall.keep HB4.out (by simp)
        have hbx : Boxed W' Bx 3 (.int .i64 (xv : Nat)) := hX.keep HBX2.out (by simp)
        have hbc : Boxed W' Bc 37 (.int .u64 (cx : Nat)) := hX.keep HBC2.out (by simp)
        have hTw := HT4.out.keep0 hXall
        have cc := hbc.cell
        have c0 := hb0.cell
        have KE := fun u => empty_any cx hcw u
        have hlen : T.length = 3 + 17 * G := HTlen.out
        obtain ⟨en, hen⟩ : ∃ en, T.getD 1 0 = en := ⟨_, rfl⟩
        obtain ⟨gr, hgr⟩ : ∃ gr, T.getD 2 0 = gr := ⟨_, rfl⟩
        have hen1 := Hh1c.out
        rw [hen] at hen1
        have hgr1 := getD_lt64 HS.out.lt 2
        rw [hgr] at hgr1
        obtain ⟨en1, hee⟩ : ∃ en1, en + 1 = en1 := ⟨_, rfl⟩
        have hec : (en : Int) + 1 = (en1 : Int) := by omega
        have hel : en1 < 18446744073709551616 := by omega
        have hBx : Bx ≠ B := by omega
        have HXx := hid hX
        have Hyv := hid hyv
        have hcwx : ∀ k x, k < 3 → cw (T.set k x) xv = cx := fun k x hk => by
          rw [← HHc.out]; unfold cw; rw [getD_set (by rw [hlen]; omega), if_neg (by omega)]
        have hen0 := hen
        clear hX hXall hbc hr3 hbM hTb2 h0V
        simp only [hyv]
        clear hyv
        obtain ⟨me, hme⟩ : ∃ me, mt cx 128 = me := ⟨_, rfl⟩
        simp only [hme] at KE
        by_cases hE : me = 0
        · have hE1 : ((me : Int) != 0) = false := by simp [hE]
          have HNo : Hid (¬ (mt cx 128 ≠ 0 ∧ T.getD 2 0 = 0)) := fun q => q.1 (hme.trans hE)
          have hIf : (if mt cx 128 ≠ 0 then T.set 2 (T.getD 2 0 - 1) else T) = T := if_neg (fun q => q (hme.trans hE))
          have hlU := hlen
          have he1 := hen
          have hSU := HS.out
          have hXU := Ext.refl [B] W'
          replace hcwx := HHc.out
          clear hme hgr hlen hen
          have c1 := hTw.cell (j := 1) (by rw [hlU]; omega)
          rw [he1] at c1
          have f1 := hTw.frozen 1
          have hT2 := hTw.set 1 en1 (by rw [hlU]; omega)
          have hXS := hXU.trans (Ext.setCell [B] (W') ⟨B, 1, none⟩ (.int .u64 (en1 : Nat)) (by simp))
          have d0 := Boxed.cell (hXS.keep hb0 (by simp; omega))
          have e0 := Boxed.cell (hXU.keep hb0 (by simp; omega))
          have d1 := Boxed.cell (hXS.keep hb1 (by simp; omega))
          have d2 := Boxed.cell (hXS.keep hb2 (by simp; omega))
          have d4 := Boxed.cell (hXS.keep hb4 (by simp; omega))
          have dx := Boxed.cell (hXS.keep hbx (by simp; omega))
          have KW := write_any B c ((T).set 1 en1) G xv yv h2 h d (hSU.set 1 en1 (by omega) hel) hx hy8 (by omega) _ hT2
          have hins : wr ((T).set 1 en1) xv yv h2 h d = insAt T xv yv h d := by unfold insAt; rw [hcwx, hIf, hq2, hen0, hee]
          rw [hins] at KW
          have HXS := hid hXS
          have Hb3' := hid hb3
          clear hXS hb0 hb1 hb2 hb3 hb4 hbx hT2 hTw hSU hins hIf hcwx
          gi_wp2_with (first | (gi_at_call 107; refine ((callsIn_wide.2 (KE _)).inRound l3).mono ?_; rintro _ _ ⟨rfl, hw2⟩; obtain rfl := hw2.symm; clear hw2))
          gi_at_call 108
          refine ((callsIn_wide.2 KW).inRound l3).mono ?_
          clear KW
          rintro _ W3 ⟨⟨v3, rfl⟩, hTw3, hX3⟩
          have hX4 := HXS.out.trans hX3
          have hb33 : Boxed W3 (z + 3) 4 (.bool false) := hX4.keep Hb3'.out (by simp; omega)
          have c3 := hb33.cell
          have f3 := hb33.frozen
          have hx5 := Ext.setCell [z + 3] W3 ⟨z + 3, 0, none⟩ (.bool true) (by simp)
          have HF : Hid (KeepsFrom V2.heap.size W' (W3.setCell ⟨z + 3, 0, none⟩ (.bool true)) ∧ InsY T B h d z xv cx V2 .ret [y] (W3.setCell ⟨z + 3, 0, none⟩ (.bool true))) := by
            have hX5 : Ext [B, z + 3] W' (W3.setCell ⟨z + 3, 0, none⟩ (.bool true)) := (hX4.mono (by simp)).trans (hx5.mono (by simp))
            refine ⟨keeps_ext hX5 (by simp; omega), .inr ⟨rfl, y, rfl, HNo.out, ?_, hb33.set _, (HXx.out.mono (by simp)).trans hX5⟩⟩
            rw [Hyv.out]
            exact hTw3.keep hx5 (by simp; omega)
          clear hTw3 hX3 hX4 hb33 hx5 d0 d1 d2 d4 dx
          gi_wp2_with fail
          exact HF.out
        · have hE1 : ((me : Int) != 0) = true := by simpa using hE
          have c2 := hTw.cell (j := 2) (by rw [hlen]; omega)
          rw [hgr] at c2
          by_cases hg0 : gr = 0
          · have hg1 : ((gr : Int) == 0) = true := by simp [hg0]
            have HF : Hid (KeepsFrom V2.heap.size W' W' ∧ InsY T B h d z xv cx V2 (.exit 0) [y] W') := ⟨KeepsFrom.refl _ _, .inl ⟨rfl, HXx.out, fun q => hE (hme.symm.trans q), hgr.trans hg0, by simp⟩⟩
            clear hb0 hb1 hb2 hb3 hb4 hbx hTw hlen hen hcwx hme hgr hen0
            gi_wp2_with (first | (gi_at_call 107; refine ((callsIn_wide.2 (KE _)).inRound l3).mono ?_; rintro _ _ ⟨rfl, hw2⟩; obtain rfl := hw2.symm; clear hw2))
            exact HF.out
          · have hg1 : ((gr : Int) == 0) = false := by simpa using hg0
            have hgc : (gr : Int) - 1 = ((gr - 1 : Nat) : Int) := by omega
            have f2 := hTw.frozen 2
            have hTU := hTw.set 2 (gr - 1) (by rw [hlen]; omega)
            have hXU := Ext.setCell [B] W' ⟨B, 2, none⟩ (.int .u64 (gr - 1 : Nat)) (by simp)
            have HNo : Hid (¬ (mt cx 128 ≠ 0 ∧ T.getD 2 0 = 0)) := fun q => hg0 (hgr.symm.trans q.2)
            have hIf : (if mt cx 128 ≠ 0 then T.set 2 (T.getD 2 0 - 1) else T) = T.set 2 (gr - 1) := by rw [if_pos (fun q => hE (hme.symm.trans q)), hgr]
            have hlU : (T.set 2 (gr - 1)).length = 3 + 17 * G := by rw [List.length_set]; exact hlen
            have he1 : (T.set 2 (gr - 1)).getD 1 0 = en := by rw [getD_set (by rw [hlen]; omega), if_neg (by omega)]; exact hen
            have hSU := HS.out.set 2 (gr - 1) (by omega) (by omega)
            replace hcwx := HHc.out
            clear hme hgr hlen hen hTw
            have c1 := hTU.cell (j := 1) (by rw [hlU]; omega)
            rw [he1] at c1
            have f1 := hTU.frozen 1
            have hT2 := hTU.set 1 en1 (by rw [hlU]; omega)
            have hXS := hXU.trans (Ext.setCell [B] (W'.setCell ⟨B, 2, none⟩ (.int .u64 (gr - 1 : Nat))) ⟨B, 1, none⟩ (.int .u64 (en1 : Nat)) (by simp))
            have d0 := Boxed.cell (hXS.keep hb0 (by simp; omega))
            have e0 := Boxed.cell (hXU.keep hb0 (by simp; omega))
            have d1 := Boxed.cell (hXS.keep hb1 (by simp; omega))
            have d2 := Boxed.cell (hXS.keep hb2 (by simp; omega))
            have d4 := Boxed.cell (hXS.keep hb4 (by simp; omega))
            have dx := Boxed.cell (hXS.keep hbx (by simp; omega))
            have KW := write_any B c ((T.set 2 (gr - 1)).set 1 en1) G xv yv h2 h d (hSU.set 1 en1 (by omega) hel) hx hy8 (by omega) _ hT2
            have hins : wr ((T.set 2 (gr - 1)).set 1 en1) xv yv h2 h d = insAt T xv yv h d := by unfold insAt; rw [hcwx, hIf, hq2, hen0, hee]
            rw [hins] at KW
            have HXS := hid hXS
            have Hb3' := hid hb3
            clear hXS hb0 hb1 hb2 hb3 hb4 hbx hT2 hTU hSU hins hIf hcwx
            gi_wp2_with (first | (gi_at_call 107; refine ((callsIn_wide.2 (KE _)).inRound l3).mono ?_; rintro _ _ ⟨rfl, hw2⟩; obtain rfl := hw2.symm; clear hw2))
            gi_at_call 108
            refine ((callsIn_wide.2 KW).inRound l3).mono ?_
            clear KW
            rintro _ W3 ⟨⟨v3, rfl⟩, hTw3, hX3⟩
            have hX4 := HXS.out.trans hX3
            have hb33 : Boxed W3 (z + 3) 4 (.bool false) := hX4.keep Hb3'.out (by simp; omega)
            have c3 := hb33.cell
            have f3 := hb33.frozen
            have hx5 := Ext.setCell [z + 3] W3 ⟨z + 3, 0, none⟩ (.bool true) (by simp)
            have HF : Hid (KeepsFrom V2.heap.size W' (W3.setCell ⟨z + 3, 0, none⟩ (.bool true)) ∧ InsY T B h d z xv cx V2 .ret [y] (W3.setCell ⟨z + 3, 0, none⟩ (.bool true))) := by
              have hX5 : Ext [B, z + 3] W' (W3.setCell ⟨z + 3, 0, none⟩ (.bool true)) := (hX4.mono (by simp)).trans (hx5.mono (by simp))
              refine ⟨keeps_ext hX5 (by simp; omega), .inr ⟨rfl, y, rfl, HNo.out, ?_, hb33.set _, (HXx.out.mono (by simp)).trans hX5⟩⟩
              rw [Hyv.out]
              exact hTw3.keep hx5 (by simp; omega)
            clear hTw3 hX3 hX4 hb33 hx5 d0 d1 d2 d4 dx
            gi_wp2_with fail
            exact HF.out
end Go.Proofs.YtkfagfdefkaenaaDoor

/-
  Copies of tables, new tables, and an entry taken out; no statement is proved here.
-/
namespace Go.Proofs.YtkfagfdefkaenaaDoor
open Go.RowKit Go.Shelf
open Pr (Gp GpI sq pl)
attribute [local go_sem] Oper.semAt_some run_store_func

theorem tw_of_own {w : World} {base : Nat} {a : Option Addr} {n c : Nat} {T : List Nat} (h : w.ownsRow base 37 1 (.slice a n c) n (vw T)) (hn : T.length = n) (h0 : 0 < n) : ∃ g, a = some ⟨g, 0, none⟩ ∧ base ≤ g ∧ Tw w g T := by
  rcases h.2 with ⟨h1, h2⟩ | ⟨g, cap, cur, e, h1, h2, h3, h4, h5, h6⟩
  · omega
  · cases e
    refine ⟨g, rfl, h1, cur, h2, fun j hj => ?_⟩
    have : (cur.toList.take (n * 1))[j]? = cur[j]? := by
      rw [List.getElem?_take, if_pos (by omega)]; simp
    rw [← this, h6, vw_at T hj]

/-- A list of words of its own. -/
def OwPost (w : World) (T : List Nat) (e : Ending) (w' : World) : Prop := ∃ a c, e = .returned (.slice a T.length c) ∧ w'.ownsRow w.heap.size 37 1 (.slice a T.length c) T.length (vw T) ∧ Ext [] w w'
/-- A table of its own. -/
def TPost (w : World) (n : Nat) (T : List Nat) (e : Ending) (w' : World) : Prop := ∃ g c, e = .returned (.slice (some ⟨g, 0, none⟩) n c) ∧ Tw w' g T ∧ w.heap.size ≤ g ∧ Ext [] w w'
theorem eql_slice_nil (w : World) (b o n c : Nat) : (binOp .eql 22 (.slice (some ⟨b, o, none⟩) n c) (.slice none 0 0)).run Tryd.prog w = .ok (.bool false) w := by
  have h : ∀ d, (Op.equalIn (d + 1) 22 (.slice (some ⟨b, o, none⟩) n c) (.slice none 0 0)).run Tryd.prog w = .ok false w := fun d => by simp [Op.equalIn, run_underlying Tryd.underlying22]
  simp only [binOp]
  simp [Op.equal, Op.maxDepth, h 9999]
theorem clone_any (b o n c : Nat) (T : List Nat) (w : World) (hI : Wd w (some ⟨b, o, none⟩) T) (hn : T.length = n) (h0 : 0 < n) (hb : n ≤ 17592186044416) : Calls Tryd.prog 71 #[.slice (some ⟨b, o, none⟩) n c] w (TPost w n T) := by
  have hE0 := Ext.alloc [] w (.cells #[] 37)
  have hown : (w.alloc (.cells #[] 37)).ownsRow w.heap.size 37 1 (.slice (some ⟨w.heap.size, 0, none⟩) 0 0) 0 [] := World.ownsRow_made w #[] 0 (Nat.le_refl _) (Nat.zero_le _) rfl
  obtain ⟨v, w', hr, ho, hE, _⟩ := app_own w _ hE0 22 22 37 _ 8 Tryd.underlying22 info37 rfl (by omega) _ 0 [] hown (some ⟨b, o, none⟩) n c (vw T) (by rw [vw_len]; exact hn) (Vs.keep0 hI hE0) (vw_one T) (by omega)
  rw [Nat.zero_add, List.nil_append] at ho
  obtain ⟨a', c', rfl, hc⟩ := own_slice ho
  obtain ⟨g, rfl, h1, h2⟩ := tw_of_own ho hn h0
  have HF : Hid (TPost w n T (.returned (.slice (some ⟨g, 0, none⟩) n c')) w') := ⟨g, c', rfl, h2, h1, hE⟩
  have heq : ∀ w, Sem.run Tryd.prog (binOp .eql 22 (.slice (some ⟨b, o, none⟩) n c) (.slice none 0 0)) w = .ok (.bool false) w := fun w => eql_slice_nil w b o n c
  clear hE0 hown hI hn ho hE h1 h2
  go_enter Tryd.func71, Tryd.ntmps71
  go_wp2_with (at_builtin; refine wpList_append_run rfl _ _ 22 rfl _ _ _ rfl rfl hr ?_)
  go_ret
  exact HF.out

/-! ### an entry taken out -/
def dec64 (x : Nat) : Nat := (x + 18446744073709551615) % 18446744073709551616
theorem dec64_pos {x : Nat} (h : 1 ≤ x) (h2 : x < 18446744073709551616) : dec64 x = x - 1 := by unfold dec64; omega
theorem dec64_lt (x : Nat) : dec64 x < 18446744073709551616 := Nat.mod_lt _ (by omega)
theorem dec64_wrap (x : Nat) : IntKind.u64.wrap ((x : Int) - 1) = (dec64 x : Int) := by rw [IntKind.wrap_u64]; unfold dec64; omega
def remAt (T : List Nat) (g i : Nat) : List Nat := if mt (cw T g) 128 = 0 then wr (T.set 1 (dec64 (T.getD 1 0))) g i 254 0 0 else wr ((T.set 1 (dec64 (T.getD 1 0))).set 2 (T.getD 2 0 + 1)) g i 128 0 0
set_option maxRecDepth 100000 in
theorem remove_any (B c : Nat) (T : List Nat) (G g i : Nat) (hS : Shp T G) (hg : g < G) (hi : i < 8) (h2 : T.getD 2 0 < 9223372036854775808) (w : World) (hT : Tw w B T) :
    Calls Tryd.prog 72 #[.slice (some ⟨B, 0, none⟩) (3 + 17 * G) c, .int .i64 (g : Nat), .int .i64 (i : Nat)] w fun e w' => (∃ v, e = .returned v) ∧ Tw w' B (remAt T g i) ∧ Ext [B] w w' := by
  have hG := hS.gp.le
  have hlen := hS.len
  have K1 := fun u => controlAt_any g (by omega) u
  have hcw := hS.cw_lt g
  have K2 := fun u => empty_any (cw T g) hcw u
  have c1 := hT.cell (j := 1) (by omega)
  have f1 := hT.frozen 1
  have h64 := getD_lt64 hS.lt 1
  obtain ⟨en, hen⟩ : ∃ en, T.getD 1 0 = en := ⟨_, rfl⟩
  obtain ⟨gr, hgr⟩ : ∃ gr, T.getD 2 0 = gr := ⟨_, rfl⟩
  rw [hen] at c1 h64
  rw [hgr] at h2
  obtain ⟨en1, hee⟩ : ∃ en1, dec64 en = en1 := ⟨_, rfl⟩
  have hec : IntKind.u64.wrap ((en : Int) - 1) = (en1 : Int) := by rw [← hee]; exact dec64_wrap en
  have hel : en1 < 18446744073709551616 := by rw [← hee]; exact dec64_lt en
  have hT1 := hT.set 1 en1 (by omega)
  have hS1 := hS.set 1 en1 (by omega) hel
  have hx1 := Ext.setCell [B] w ⟨B, 1, none⟩ (.int .u64 (en1 : Nat)) (by simp)
  have cC := hT1.cell (j := 3 + 17 * g) (by rw [List.length_set]; omega)
  rw [getD_set (by omega), if_neg (by omega), show T.getD (3 + 17 * g) 0 = cw T g from rfl] at cC
  have hcwx : cw (T.set 1 en1) g = cw T g := by unfold cw; rw [getD_set (by omega), if_neg (by omega)]
  by_cases hE : mt (cw T g) 128 = 0
  · have KW := write_any B c (T.set 1 en1) G g i 254 0 0 hS1 hg hi (by omega) _ hT1
    have hr : wr (T.set 1 en1) g i 254 0 0 = remAt T g i := by unfold remAt; rw [if_pos hE, hen, hee]
    rw [hr] at KW
    rw [hE] at K2
    have HX := hid hx1
    clear hT hT1 hS hS1 hx1 hr hE hcwx hen hgr hlen
    generalize remAt T g i = TT at *
    generalize cw T g = cx at *
    go_enter Tryd.func72, Tryd.ntmps72
    go_wp2_with (first | (go_at_call 65; refine met (K1 _) ?_) | (go_at_call 107; refine met (K2 _) ?_))
    go_at_call 108
    refine KW.mono ?_
    clear KW
    rintro _ W3 ⟨⟨v3, rfl⟩, hTw3, hX3⟩
    go_wp2
    refine bodyPost_ret (results_none rfl _ _ _) rfl ?_
    exact ⟨⟨_, rfl⟩, hTw3, HX.out.trans hX3⟩
  · have c2 := hT1.cell (j := 2) (by rw [List.length_set]; omega)
    rw [getD_set (by omega), if_neg (by omega), hgr] at c2
    have f2 := hT1.frozen 2
    obtain ⟨gr1, hgg⟩ : ∃ gr1, gr + 1 = gr1 := ⟨_, rfl⟩
    have hgc : (gr : Int) + 1 = (gr1 : Int) := by omega
    have hT2 := hT1.set 2 gr1 (by rw [List.length_set]; omega)
    have hS2 := hS1.set 2 gr1 (by omega) (by omega)
    have hx2 := hx1.trans (Ext.setCell [B] (w.setCell ⟨B, 1, none⟩ (.int .u64 (en1 : Nat))) ⟨B, 2, none⟩ (.int .u64 (gr1 : Nat)) (by simp))
    have KW := write_any B c ((T.set 1 en1).set 2 gr1) G g i 128 0 0 hS2 hg hi (by omega) _ hT2
    have hr : wr ((T.set 1 en1).set 2 gr1) g i 128 0 0 = remAt T g i := by unfold remAt; rw [if_neg hE, hen, hee, hgr, hgg]
    rw [hr] at KW
    have hE1 : ((mt (cw T g) 128 : Int) == 0) = false := by simpa using hE
    have HX := hid hx2
    clear hT hT1 hS hS1 hx1 hr hE hcwx hen hgr hlen hT2 hS2 hx2
    generalize remAt T g i = TT at *
    generalize mt (cw T g) 128 = me at *
    generalize cw T g = cx at *
    go_enter Tryd.func72, Tryd.ntmps72
    go_wp2_with (first | (go_at_call 65; refine met (K1 _) ?_) | (go_at_call 107; refine met (K2 _) ?_))
    go_at_call 108
    refine KW.mono ?_
    clear KW
    rintro _ W3 ⟨⟨v3, rfl⟩, hTw3, hX3⟩
    go_wp2
    go_end0
    exact ⟨⟨_, rfl⟩, hTw3, HX.out.trans hX3⟩
end Go.Proofs.YtkfagfdefkaenaaDoor

/-
  New tables; no statement is proved here.
-/
namespace Go.Proofs.YtkfagfdefkaenaaDoor
open Go.RowKit Go.Shelf
open Pr (Gp GpI sq pl)
attribute [local go_sem] Oper.semAt_some run_store_func

/-- A table of G groups without entries, whose first k control words are laid. -/
def newK (G k : Nat) : List Nat := (List.range (3 + 17 * G)).map fun j => if j = 0 then G else if j = 2 then 7 * G else if 3 ≤ j ∧ (j - 3) % 17 = 0 ∧ (j - 3) / 17 < k then 9259542123273814144 else 0
def newT (G : Nat) : List Nat := newK G G
theorem newK_len (G k : Nat) : (newK G k).length = 3 + 17 * G := by simp [newK]
theorem newK_at (G k : Nat) {j : Nat} (hj : j < 3 + 17 * G) : (newK G k).getD j 0 = if j = 0 then G else if j = 2 then 7 * G else if 3 ≤ j ∧ (j - 3) % 17 = 0 ∧ (j - 3) / 17 < k then 9259542123273814144 else 0 := by
  simp [newK, hj]
theorem ext_getD {A B : List Nat} (hl : A.length = B.length) (h : ∀ j, j < A.length → A.getD j 0 = B.getD j 0) : A = B := by
  apply List.ext_getElem hl
  intro j h1 h2
  have := h j h1
  simpa [List.getD_eq_getElem?_getD, h1, h2] using this
theorem newK_step (G k : Nat) (_hk : k < G) : (newK G k).set (3 + 17 * k) 9259542123273814144 = newK G (k + 1) := by
  apply ext_getD (by rw [List.length_set, newK_len, newK_len])
  intro j hj
  rw [List.length_set] at hj
  rw [getD_set hj]
  rw [newK_len] at hj
  rw [newK_at G k hj, newK_at G (k + 1) hj]
  by_cases e : j = 3 + 17 * k
  · subst e
    rw [if_pos rfl, if_neg (by omega), if_neg (by omega), if_pos (by omega)]
  · rw [if_neg e]
    by_cases h0 : j = 0
    · rw [if_pos h0, if_pos h0]
    · rw [if_neg h0, if_neg h0]
      by_cases h2 : j = 2
      · rw [if_pos h2, if_pos h2]
      · rw [if_neg h2, if_neg h2]
        by_cases h3 : 3 ≤ j ∧ (j - 3) % 17 = 0 ∧ (j - 3) / 17 < k
        · rw [if_pos h3, if_pos (by omega)]
        · rw [if_neg h3, if_neg (by omega)]
theorem newK_zero (G : Nat) : ((List.replicate (3 + 17 * G) 0).set 0 G).set 2 (7 * G) = newK G 0 := by
  apply ext_getD (by simp [newK_len])
  intro j hj
  simp only [List.length_set, List.length_replicate] at hj
  rw [getD_set (by simpa using hj), getD_set (by simpa using hj), newK_at G 0 hj]
  by_cases h0 : j = 0
  · subst h0; simp
  · rw [if_neg h0]
    by_cases h2 : j = 2
    · subst h2; simp
    · rw [if_neg h2, if_neg h0, if_neg h2, if_neg (by omega)]
      simp [List.getD_eq_getElem?_getD, hj]
theorem Gp.shp {G : Nat} (hG : Gp G) (k : Nat) : Shp (newK G k) G := by
  have hle := hG.le
  refine ⟨hG, by rw [newK_at G k (by omega)]; simp, newK_len G k, fun x hx => ?_⟩
  simp only [newK, List.mem_map, List.mem_range] at hx
  obtain ⟨j, _, rfl⟩ := hx
  split
  · omega
  · split
    · omega
    · split <;> omega

def NewPost (w : World) (G : Nat) (e : Ending) (w' : World) : Prop := ∃ g c, e = .returned (.tuple #[.slice (some ⟨g, 0, none⟩) (3 + 17 * G) c, .int .i64 0]) ∧ Tw w' g (newT G) ∧ w.heap.size ≤ g ∧ Ext [] w w'
set_option maxRecDepth 100000 in
theorem tnew_ok (G : Nat) (hG : Gp G) (w : World) : Calls Tryd.prog 35 #[.int .i64 (G : Nat)] w (NewPost w G) := by
  have hle := hG.le
  have hpos := hG.pos
  have K1 := fun u => tallowed_yes G hG u
  have K2 := fun u => wordsOf_any G hle u
  obtain ⟨n, hn⟩ : ∃ n, 3 + 17 * G = n := ⟨_, rfl⟩
  have hmk := run_make_row' (P := Tryd.prog) 22 37 (.int .u64 0) 8 Tryd.underlying22 info37 rfl .i64 .i64 n (by omega) (by omega) w
  have hT0 : Tw (w.alloc (.cells (madeCells #[.int .u64 0] n) 37)) w.heap.size (List.replicate (3 + 17 * G) 0) := by
    refine ⟨_, heap_alloc_new w _, fun j hj => ?_⟩
    simp only [List.length_replicate] at hj
    have : (madeCells #[.int .u64 0] n).toList = List.replicate n (.int .u64 0) := toList_madeCells_one _ _
    rw [← Array.getElem?_toList, this, List.getElem?_replicate, if_pos (by omega)]
    simp [hj]
  have hE0 := Ext.alloc [] w (.cells (madeCells #[.int .u64 0] n) 37)
  obtain ⟨g, hg⟩ : ∃ g, w.heap.size = g := ⟨_, rfl⟩
  rw [hg] at hmk hT0
  obtain ⟨W0, hW0⟩ : ∃ W0, w.alloc (.cells (madeCells #[.int .u64 0] n) 37) = W0 := ⟨_, rfl⟩
  rw [hW0] at hmk hT0 hE0
  have c0 := hT0.cell (j := 0) (by simp only [List.length_replicate]; omega)
  have f0 := hT0.frozen 0
  have hT1 := hT0.set 0 G (by simp only [List.length_replicate]; omega)
  have c2 := hT1.cell (j := 2) (by simp only [List.length_set, List.length_replicate]; omega)
  have f2 := hT1.frozen 2
  obtain ⟨G7, hG7⟩ : ∃ G7, 7 * G = G7 := ⟨_, rfl⟩
  have hT2 := hT1.set 2 G7 (by simp only [List.length_set, List.length_replicate]; omega)
  rw [← hG7, newK_zero, hG7] at hT2
  have e7 : 7 * (G : Int) = (G7 : Int) := by omega
  rw [hn] at K2
  have hE2 : Ext [] w ((W0.setCell ⟨g, 0, none⟩ (.int .u64 (G : Nat))).setCell ⟨g, 2, none⟩ (.int .u64 (G7 : Nat))) := (hE0.on (Ext.setCell [g] _ _ _ (by simp)) (by simp; omega)).on (Ext.setCell [g] _ _ _ (by simp)) (by simp; omega)
  have HT2 := hid hT2
  have HE2 := hid hE2
  have HG := hid hG
  have hn3 : 3 ≤ n := by omega
  have hn4 : n ≤ 70000 := by omega
  have HN := hid hn
  have KC := fun k (hk : k < G) u => controlAt_any k (by omega) u
  clear hT0 hT1 hT2 hE2 hE0 hG hW0 hn hG7
  go_enter Tryd.func35, Tryd.ntmps35
  go_wp2_with (first | (go_at_call 62; refine met (K1 _) ?_) | (go_at_call 63; refine met (K2 _) ?_))
  clear hmk c0 f0 c2 f2 e7
  obtain ⟨W2, hW2⟩ : ∃ W2, (W0.setCell ⟨g, 0, none⟩ (.int .u64 (G : Nat))).setCell ⟨g, 2, none⟩ (.int .u64 (G7 : Nat)) = W2 := ⟨_, rfl⟩
  rw [hW2] at HT2 HE2 ⊢
  clear hW2
  have HNl := hid (newK_len G)
  have HNs := hid (newK_step G)
  go_loopw [22] (fun q wr => ∃ k : Nat, q = .int .i64 k ∧ k ≤ G ∧ Tw wr g (newK G k) ∧ Ext [] w wr) (fun q _ => (G - (intOf q)).toNat)
  case atStart => exact ⟨0, rfl, Nat.zero_le _, HT2.out, HE2.out⟩
  case round =>
    clear HT2 HE2
    obtain ⟨k, rfl, hk, hTk, hEk⟩ := hrel
    by_cases hkG : k < G
    · have hki : (k : Int) < G := by omega
      have cC := hTk.cell (j := 3 + 17 * k) (by rw [HNl.out]; omega)
      have fC := hTk.frozen (3 + 17 * k)
      have K3 := KC k hkG
      have hTs := hTk.set (3 + 17 * k) 9259542123273814144 (by rw [HNl.out]; omega)
      rw [HNs.out k hkG] at hTs
      have HTs := hid hTs
      have HEs := hid (hEk.on (Ext.setCell [g] wr ⟨g, 3 + 17 * k, none⟩ (.int .u64 (9259542123273814144 : Nat)) (by simp)) (by simp; omega))
      have hkn : 3 + 17 * k < n := by have := HN.out; omega
      generalize (newK G k).getD (3 + 17 * k) 0 = old at *
      clear hTk hEk hTs
      go_wp2_with (first | (go_at_call 65; refine met (K3 _) ?_) | (go_at_call 64; refine met (new_any _) ?_))
      go_roundw
      case rel => exact ⟨k + 1, by go_num, by omega, HTs.out, HEs.out⟩
      case measure => simp [intOf]; omega
    · obtain rfl : k = G := by omega
      have HF : Hid (NewPost w k (.returned (.tuple #[.slice (some ⟨g, 0, none⟩) n n, .int .i64 0])) wr) := ⟨g, n, by rw [HN.out], hTk, by omega, hEk⟩
      clear hTk hEk
      go_wp2
      go_ret2
      exact HF.out
theorem tnew_bad (G : Int) (hG : ¬ GpI G) (w : World) : Calls Tryd.prog 35 #[.int .i64 G] w fun e w' => e = .returned (.tuple #[.slice none 0 0, .int .i64 2]) ∧ w' = w := by
  have K1 := fun u => tallowed_no G hG u
  clear hG
  go_enter Tryd.func35, Tryd.ntmps35
  go_wp2_with (first | (go_at_call 62; refine met (K1 _) ?_))
  go_ret2
  exact ⟨rfl, rfl⟩
end Go.Proofs.YtkfagfdefkaenaaDoor

/-
  Insert: a table with one more entry; no statement is proved here.
-/
namespace Go.Proofs.YtkfagfdefkaenaaDoor
open Go.RowKit Go.Shelf
open Pr (Gp GpI sq pl)
attribute [local go_sem] Oper.semAt_some run_store_func

/-- What Insert makes of a table: with one more entry, or none. -/
def InsT (T : List Nat) (G h d : Nat) : Option (List Nat) → Prop
  | some T' => ∃ g i, Fst T h G g i ∧ ¬ (mt (cw T g) 128 ≠ 0 ∧ T.getD 2 0 = 0) ∧ T' = insAt T g i h d
  | none => ∀ g i, Fst T h G g i → mt (cw T g) 128 ≠ 0 ∧ T.getD 2 0 = 0
def TInsPost (T : List Nat) (G h d : Nat) (w : World) (e : Ending) (w' : World) : Prop := Ext [] w w' ∧
  ((∃ T' g c, InsT T G h d (some T') ∧ e = .returned (.tuple #[.slice (some ⟨g, 0, none⟩) (3 + 17 * G) c, .int .i64 0]) ∧ Tw w' g T' ∧ w.heap.size ≤ g) ∨
   (InsT T G h d none ∧ e = .returned (.tuple #[.slice none 0 0, .int .i64 7])))
theorem tinsert_any (a : Option Addr) (c : Nat) (T : List Nat) (G h d : Nat) (hS : Sd T G) (hh : h < 18446744073709551616) (hd : d < 18446744073709551616) (w : World) (hT : Wd w a T) (hTb : Tb w) :
    Calls Tryd.prog 42 #[.slice a (3 + 17 * G) c, .int .u64 (h : Nat), .int .u64 (d : Nat)] w (TInsPost T G h d w) := by
  have hlen := hS.shp.len
  have hG := hS.shp.gp.le
  have hn := nfl_le T G
  rw [← hS.cnt] at hn
  have K := sound_true a c T G hS w hT
  have hne : T ≠ [] := by rintro rfl; simp at hlen; omega
  obtain ⟨b, o, rfl, hcc⟩ := hT.at_ hne
  have HT := hid hT
  have HL := hid hlen
  have HTb := hid hTb
  have HS := hid hS
  clear hcc hT hlen hS hTb
  go_enter Tryd.func42, Tryd.ntmps42
  go_wp2_with fail
  refine K.mono ?_
  clear K
  rintro _ w1 ⟨rfl, hX⟩
  have K2 := clone_any b o (3 + 17 * G) c T w1 (HT.out.keep0 hX) HL.out (by omega) (by omega)
  have HX := hid hX
  clear hX
  go_wp2_with fail
  refine K2.mono ?_
  clear K2
  rintro _ w2 ⟨g, cc, rfl, hTw, hg, hX2⟩
  have K3 := insert_any g cc G h d T HS.out.shp hh hd (by omega) w2 hTw (HTb.out.keep0 (HX.out.trans hX2))
  have hX3 := HX.out.trans hX2
  have hgw : w.heap.size ≤ g := Nat.le_trans HX.out.size hg
  have HX3 := hid hX3
  clear hX2 hX3 HX hTw hg
  go_wp2_with fail
  refine K3.mono ?_
  clear K3
  rintro e w3 ⟨hX4, hr⟩
  have hE : Ext [] w w3 := HX3.out.on hX4 (by simp; omega)
  rcases hr with ⟨g1, i1, hf, hno, rfl, hTw⟩ | ⟨rfl, _, hno⟩
  · have HF : Hid (TInsPost T G h d w (.returned (.tuple #[.slice (some ⟨g, 0, none⟩) (3 + 17 * G) cc, .int .i64 0])) w3) := ⟨hE, .inl ⟨_, g, cc, ⟨g1, i1, hf, hno, rfl⟩, rfl, hTw, hgw⟩⟩
    clear hf hno hTw hE hX4
    go_wp2
    go_ret2
    exact HF.out
  · have HF : Hid (TInsPost T G h d w (.returned (.tuple #[.slice none 0 0, .int .i64 7])) w3) := ⟨hE, .inr ⟨hno, rfl⟩⟩
    clear hno hE hX4
    go_wp2
    go_ret2
    exact HF.out
end Go.Proofs.YtkfagfdefkaenaaDoor

/-
  A loop that gathers into a boxed slice; no statement is proved here.
-/
namespace Go.Proofs.YtkfagfdefkaenaaDoor
open Go.RowKit Go.Shelf

theorem boxed_inj {W : World} {z : Nat} {t : TypeId} {v v' : Value} (h : Boxed W z t v) (h' : Boxed W z t v') : v = v' := by
  have e : some (Obj.cells #[v] t (0, 0)) = some (Obj.cells #[v'] t (0, 0)) := (show W.heap[z]? = _ from h).symm.trans h'
  cases e; rfl
/-- What such a loop owns: the box at z1, and the row of the slice in it. -/
def Obx (z1 : Nat) (W : World) (k : Nat) : Prop := k = z1 ∨ ∃ v, Boxed W z1 22 v ∧ v.ownBlock = some k
/-- The box at z1 holds the words L in a row of their own; what was there before w1's end is as it was. -/
def Gat (w1 : World) (z1 : Nat) (L : List Nat) (W : World) : Prop := (∃ v, Boxed W z1 22 v ∧ W.ownsRow z1 37 1 v L.length (vw L) ∧ ∀ q, v.ownBlock = some q → z1 < q) ∧ Below z1 w1 W
theorem cal_gat {α : Type} {w1 : World} {z1 B : Nat} (f : List α → List Nat) (h1 : w1.heap.size = z1) (hB : z1 < B) : Cal (Obx z1) (fun pre W => Gat w1 z1 (f pre) W) B := by
  have hbx : ∀ {A C : World} {row : Option Nat} {k : Nat} {o : Obj}, Stp B A C row → A.heap[k]? = some o → o.isCells = true → C.heap[k]? = some o := fun {A C row k o} x hk hc => by
    refine (x.1.block k (lt_of_heap hk) (fun e => ?_)).trans hk
    obtain ⟨o', ho', hc'⟩ := (x.2 k e.symm).2
    rw [hk] at ho'; cases ho'; rw [hc] at hc'; cases hc'
  refine ⟨fun s A C row hs hg hr => ?_, fun s W k hs hO => ?_, fun s A C row k hs x hO => ?_⟩
  · obtain ⟨⟨v, h2, h3, h4⟩, h5⟩ := hs
    have x : Stp B A C row := ⟨hg, hr⟩
    refine ⟨⟨v, hbx x h2 rfl, ?_, h4⟩, h5.trans ⟨hg.os, hg.tape, hg.output, hg.size, fun k hk => hg.block k (Nat.lt_of_lt_of_le hk (by have := h5.size; omega)) (fun e => by have := (hr k e.symm).1; omega)⟩⟩
    refine ⟨h3.1, ?_⟩
    rcases h3.2 with q | ⟨g, cap, cur, e, q1, q2, q3⟩
    · exact .inl q
    · exact .inr ⟨g, cap, cur, e, q1, hbx x q2 rfl, q3⟩
  · obtain ⟨⟨v, h2, h3, h4⟩, h5⟩ := hs
    rcases hO with rfl | ⟨v', h6, h7⟩
    · exact h2.lt
    · have : v' = v := boxed_inj h6 h2
      subst this
      exact (own_lt h3 k h7).2
  · obtain ⟨⟨v, h2, h3, h4⟩, h5⟩ := hs
    rcases hO with rfl | ⟨v', h6, h7⟩
    · exact .inl rfl
    · have h8 := hbx x h2 rfl
      have : v' = v := boxed_inj h6 h8
      subst this
      exact .inr ⟨v', h2, h7⟩
theorem kc_gat {z1 : Nat} {W W' : World} {v v' : Value} (h1 : Boxed W z1 22 v) (h2 : Boxed W' z1 22 v') (x : Ext (z1 :: v.ownBlock.toList) W W') (hn : v'.ownBlock = v.ownBlock ∨ ∀ q, v'.ownBlock = some q → W.heap.size ≤ q) : Kc (Obx z1) W W' := by
  refine ⟨x.size, fun k o hk _ hO => x.keep hk (fun q => ?_), fun k hk => ?_⟩
  · rcases List.mem_cons.1 q with rfl | q
    · exact hO (.inl rfl)
    · exact hO (.inr ⟨v, h1, by simpa using q⟩)
  · rcases hk with rfl | ⟨u, h3, h4⟩
    · exact .inl (.inl rfl)
    · have : u = v' := boxed_inj h3 h2
      subst this
      rcases hn with q | q
      · exact .inl (.inr ⟨v, h1, by rw [← q]; exact h4⟩)
      · exact .inr (q k h4)
/-- One word more: the world behind append and store. -/
theorem gat_push {w1 W U : World} {z1 : Nat} {L : List Nat} {x : Nat} {va : Option Addr} {n vc : Nat} (hn : L.length = n) (hw : w1.heap.size = z1) (hv : Boxed W z1 22 (.slice va n vc)) (ho : W.ownsRow z1 37 1 (.slice va n vc) n (vw L)) (hvn : ∀ q, (Value.slice va n vc).ownBlock = some q → z1 < q) (hB : Below z1 w1 W) (hU : Ext [] W U)
    (hx : U.cell? ⟨W.heap.size, 0, none⟩ = some (.int .u64 (x : Nat))) (hl : n ≤ 1000000) :
    ∃ v' U', (Builtin.append_ #[22, 22] 22 #[.slice va n vc, .slice (some ⟨W.heap.size, 0, none⟩) 1 1]).run Tryd.prog U = .ok v' U' ∧ (∃ a' c', v' = .slice a' (n + 1) c') ∧ Boxed U' z1 22 (.slice va n vc) ∧ Gat w1 z1 (L ++ [x]) (U'.setCell ⟨z1, 0, none⟩ v') ∧ Kc (Obx z1) W (U'.setCell ⟨z1, 0, none⟩ v') ∧ KeepsOthers W (U'.setCell ⟨z1, 0, none⟩ v') ∧ Ext (z1 :: (Value.slice va n vc).ownBlock.toList) W (U'.setCell ⟨z1, 0, none⟩ v') ∧ Ext (Value.slice va n vc).ownBlock.toList W U' := by
  obtain ⟨i, hi0, hz0, hz1, hz2⟩ := info_parts info37
  have hz1l := hv.lt
  obtain ⟨v', U', hr, ho5, hg5, _, hn5⟩ := run_append_own_at (P := Tryd.prog) U z1 22 22 37 i _ 1 8 Tryd.underlying22 hi0 hz0 hz1 hz2 rfl (by decide) (.slice va n vc) n (vw L) (own_keep0 ho hU) ⟨W.heap.size, 0, none⟩ 1 1 [.int .u64 (x : Nat)] rfl (fun j u2 hu2 => by
    cases j with
    | zero => rw [Addr.add_lit, Nat.zero_add, hx, ← hu2]; rfl
    | succ j => simp at hu2) (by simp [Value.oneCell']) (by unfold maxLen; omega) (by omega) (by have := hU.size; omega)
  have hx5 : Ext (Value.slice va n vc).ownBlock.toList W U' := (hU.mono (by simp)).trans (ext_grown hg5)
  have hzn : z1 ∉ (Value.slice va n vc).ownBlock.toList := by
    intro hm
    rw [Option.mem_toList] at hm
    have := hvn z1 hm
    omega
  have hbz : Boxed U' z1 22 (.slice va n vc) := hx5.keep hv hzn
  have hx6 := Ext.setCell [z1] U' ⟨z1, 0, none⟩ v' (by simp)
  have hvn5 : ∀ g, v'.ownBlock = some g → z1 < g := fun g hg => by
    rcases hn5 with q | q
    · rw [q] at hg; exact hvn g hg
    · rw [q] at hg; simp at hg; have := hU.size; omega
  obtain ⟨a5, c5, hv5, _⟩ := own_slice ho5
  have hxx : Ext (z1 :: (Value.slice va n vc).ownBlock.toList) W (U'.setCell ⟨z1, 0, none⟩ v') := (hx5.mono (by simp; intro a ha; exact .inr ha)).trans (hx6.mono (by simp))
  refine ⟨v', U', hr, ⟨a5, c5, hv5⟩, hbz, ⟨⟨v', hbz.set v', ?_, hvn5⟩, ?_⟩, kc_gat hv (hbz.set v') hxx ?_, ?_, hxx, hx5⟩
  · rw [List.length_append, vw_append, hn]
    exact own_keep ho5 hx6 (fun q hq hvv => by simp only [List.mem_singleton] at hq; have := hvn5 q hvv; omega)
  · refine hB.trans ⟨hxx.os, hxx.tape, hxx.output, hxx.size, fun k hk => hxx.block k (by omega) (fun q => ?_)⟩
    rcases List.mem_cons.1 q with e | q
    · omega
    · rw [Option.mem_toList] at q
      have := hvn k q
      omega
  · rcases hn5 with q | q
    · exact .inl q
    · right
      intro k hk
      rw [q] at hk
      simp at hk
      have := hU.size
      omega
  · refine ⟨hxx.size, fun k o hk ho' => hxx.keep hk (fun q => ?_)⟩
    rcases List.mem_cons.1 q with e | q
    · subst e; rw [show W.heap[k]? = _ from hv] at hk; cases hk; cases ho'
    · rw [Option.mem_toList] at q
      rcases ho.2 with ⟨e, _⟩ | ⟨g, cap, cur, e, _, hg, _⟩
      · rw [e] at q; simp [Value.ownBlock] at q
      · rw [e] at q; simp [Value.ownBlock] at q; subst q; rw [hg] at hk; cases hk; cases ho'
theorem below_gat {w1 W : World} {z1 : Nat} {L : List Nat} (h : Gat w1 z1 L W) : Below z1 w1 W := h.2
theorem matches_any (a : Option Addr) (n c h : Nat) (w : World) : Calls Tryd.prog 69 #[.slice a n c, .int .u64 (h : Nat)] w fun e w' => e = .returned (.func (.func 101) #[] #[.pointer (some ⟨w.heap.size + 1, 0, none⟩), .pointer (some ⟨w.heap.size, 0, none⟩)]) ∧ w' = (w.alloc (.cells #[.slice a n c] 22)).alloc (.cells #[.int .u64 (h : Nat)] 37) := by
  go_enter Tryd.func69, Tryd.ntmps69
  go_wp2
  go_ret
  exact ⟨rfl, rfl⟩
theorem entries_any (a : Option Addr) (n c : Nat) (w : World) : Calls Tryd.prog 110 #[.slice a n c] w fun e w' => e = .returned (.func (.func 126) #[] #[.pointer (some ⟨w.heap.size, 0, none⟩)]) ∧ w' = w.alloc (.cells #[.slice a n c] 22) := by
  go_enter Tryd.func110, Tryd.ntmps110
  go_wp2
  go_ret
  exact ⟨rfl, rfl⟩
theorem tvalues_any (a : Option Addr) (n c : Nat) (w : World) : Calls Tryd.prog 115 #[.slice a n c] w fun e w' => e = .returned (.func (.func 131) #[] #[.pointer (some ⟨w.heap.size, 0, none⟩)]) ∧ w' = w.alloc (.cells #[.slice a n c] 22) := by
  go_enter Tryd.func115, Tryd.ntmps115
  go_wp2
  go_ret
  exact ⟨rfl, rfl⟩
end Go.Proofs.YtkfagfdefkaenaaDoor

/-
  DWt, WFinds: joined by program; no statement is proved here.
-/
import Derived.Test.YtkfagfdefkaenaaDoorZP
import Derived.Test.YtkfagfdefkaenaaDoorZQ
import Derived.Test.YtkfagfdefkaenaaDoorZH
/-
  How often an entry is wanted behind each operation of a script; no statement is proved here.
-/
namespace Go.Proofs.YtkfagfdefkaenaaDoor

/-- How often an entry is there, by the script and what was done; the last operation first. -/
def wt (p : Nat × Nat) : List Opq → List Bool → Nat
  | x :: S, b :: B => if (x.h, x.d) = p then (if b = true then (if x.del = true then wt p S B - 1 else wt p S B + 1) else wt p S B) else wt p S B
  | _, _ => 0
theorem Run.wt : ∀ {S : List Opq} {B : List Bool} {E : List (Nat × Nat)}, Run S B E → ∀ p, E.count p = wt p S B
  | [], [], E, h, p => by rw [show E = [] from h]; rfl
  | x :: S, b :: B, E', h, p => by
    obtain ⟨E, h1, h2⟩ := h
    have ih := Run.wt h1 p
    obtain ⟨dl, hx, dx⟩ := x
    have hbeq : ((hx, dx) == p) = decide ((hx, dx) = p) := by
      by_cases q : (hx, dx) = p
      · simp [q]
      · simp [q]
    cases dl <;> cases b
    · obtain ⟨rfl, _⟩ := h2; simp [Go.Proofs.YtkfagfdefkaenaaDoor.wt, ih]
    · have a1 := List.Perm.count_eq h2 p
      rw [List.count_cons, hbeq] at a1
      by_cases q : (hx, dx) = p
      · simp [Go.Proofs.YtkfagfdefkaenaaDoor.wt, q] at a1 ⊢; omega
      · simp [Go.Proofs.YtkfagfdefkaenaaDoor.wt, q] at a1 ⊢; omega
    · obtain ⟨rfl, _⟩ := h2; simp [Go.Proofs.YtkfagfdefkaenaaDoor.wt, ih]
    · have a1 := List.Perm.count_eq h2 p
      rw [List.count_cons, hbeq] at a1
      by_cases q : (hx, dx) = p
      · simp [Go.Proofs.YtkfagfdefkaenaaDoor.wt, q] at a1 ⊢; omega
      · simp [Go.Proofs.YtkfagfdefkaenaaDoor.wt, q] at a1 ⊢; omega
  | [], _ :: _, _, h, _ => h.elim
  | _ :: _, [], _, h, _ => h.elim
theorem Run.drops : ∀ {A S : List Opq} {C B : List Bool} {E : List (Nat × Nat)}, A.length = C.length → Run (A ++ S) (C ++ B) E → ∃ F, Run S B F
  | [], S, [], B, E, _, h => ⟨E, h⟩
  | x :: A, S, c :: C, B, E, hl, h => by
    obtain ⟨F, h1, _⟩ := h
    exact Run.drops (by simpa using hl) h1
  | [], _, _ :: _, _, _, hl, _ => by simp at hl
  | _ :: _, _, [], _, _, hl, _ => by simp at hl
theorem Run.pre {S : List Opq} {B : List Bool} {E : List (Nat × Nat)} (h : Run S.reverse B.reverse E) (k : Nat) : ∃ F, Run (S.take k).reverse (B.take k).reverse F := by
  have hl := h.len.1
  rw [List.length_reverse, List.length_reverse] at hl
  refine Run.drops (A := (S.drop k).reverse) (C := (B.drop k).reverse) (E := E) (by simp [hl]) ?_
  rw [← List.reverse_append, ← List.reverse_append, List.take_append_drop, List.take_append_drop]
  exact h
/-- How often an entry is wanted behind k operations. -/
def wn (p : Nat × Nat) (S : List Opq) (B : List Bool) (k : Nat) : Nat := wt p (S.take k).reverse (B.take k).reverse
theorem wn_le {S : List Opq} {B : List Bool} {E : List (Nat × Nat)} (h : Run S.reverse B.reverse E) (p : Nat × Nat) (k : Nat) : wn p S B k ≤ k := by
  obtain ⟨F, hF⟩ := h.pre k
  have h1 := hF.wt p
  have h2 := hF.len.2
  have h3 : F.count p ≤ F.length := List.count_le_length
  rw [List.length_reverse, List.length_take] at h2
  unfold wn
  omega
theorem rev_take {α : Type} {S : List α} {k : Nat} {x : α} (h : S[k]? = some x) : (S.take (k + 1)).reverse = x :: (S.take k).reverse := by
  rw [List.take_add_one, h, Option.toList, List.reverse_append]; rfl
theorem wn_step {S : List Opq} {B : List Bool} (p : Nat × Nat) {k : Nat} {x : Opq} {b : Bool} (hx : S[k]? = some x) (hb : B[k]? = some b) :
    wn p S B (k + 1) = if (x.h, x.d) = p then (if b = true then (if x.del = true then wn p S B k - 1 else wn p S B k + 1) else wn p S B k) else wn p S B k := by
  unfold wn
  rw [rev_take hx, rev_take hb]
  rfl
theorem run_at {S : List Opq} {B : List Bool} {E : List (Nat × Nat)} (h : Run S.reverse B.reverse E) {k : Nat} {x : Opq} {b : Bool} (hx : S[k]? = some x) (hb : B[k]? = some b) :
    (x.del = true → b = decide (0 < wn (x.h, x.d) S B k)) ∧ (x.del = false → b = false → 14336 ≤ k) := by
  obtain ⟨E', hE'⟩ := h.pre (k + 1)
  rw [rev_take hx, rev_take hb] at hE'
  obtain ⟨F, hF, hS⟩ := hE'
  have h1 := hF.wt (x.h, x.d)
  have h2 := hF.len.2
  rw [List.length_reverse, List.length_take] at h2
  have h1' : F.count (x.h, x.d) = wn (x.h, x.d) S B k := h1
  obtain ⟨dl, hh, dd⟩ := x
  refine ⟨?_, ?_⟩
  · rintro rfl
    cases b
    · obtain ⟨rfl, h0⟩ := hS
      simp only at h1'
      rw [← h1']
      simp only at h0
      simp [h0]
    · have := List.Perm.count_eq hS (hh, dd)
      rw [List.count_cons_self] at this
      simp only at h1'
      rw [← h1']
      symm
      rw [decide_eq_true_eq]
      omega
  · rintro rfl rfl
    obtain ⟨rfl, h0⟩ := hS
    omega
theorem wn_all {S : List Opq} {B : List Bool} {E : List (Nat × Nat)} (h : Run S.reverse B.reverse E) (p : Nat × Nat) {n : Nat} (hn : S.length = n) : wn p S B n = E.count p := by
  have hl := h.len.1
  rw [List.length_reverse, List.length_reverse] at hl
  unfold wn
  rw [List.take_of_length_le (by omega), List.take_of_length_le (by omega), h.wt]
end Go.Proofs.YtkfagfdefkaenaaDoor

/-
  The walk of DirFinds; no statement is proved here.
-/
namespace Go.Proofs.YtkfagfdefkaenaaDoor
open Go.RowKit Go.Shelf
open Pr (Gp GpI sq pl)
attribute [local go_sem] Oper.semAt_some run_store_func

/-- What is found by a hash, and how often. -/
def FcPost (w : World) (L : List Tq) (h : Nat) (e : Ending) (w' : World) : Prop := ∃ va m vc La, e = .returned (.tuple #[.slice va m vc, .bool true]) ∧ Wd w' va La ∧ La.length = m ∧ m ≤ 1000000 ∧ (∀ d, La.count d = (En L).count (h, d)) ∧ Ext [] w w'
theorem dfound_c (dp bt ct bs os cs n h : Nat) (L : List Tq) (hD : Dq dp L) (hcs : 2 ^ dp ≤ cs) (hn : L.length = n) (hh : h < 18446744073709551616) (w : World) (hR : Dr w bt bs os dp L) (hTb : Tb w) :
    Calls Tryd.prog 21 #[dv dp bt n ct bs os (2 ^ dp) cs, .int .u64 (h : Nat)] w (FcPost w L h) := by
  obtain ⟨A, t, B, hT⟩ := tab_of hD hh
  obtain rfl := hT.eq
  refine (dfound_any dp bt ct bs os cs n h A t B hD hT hcs hn hh w hR hTb).mono ?_
  rintro e w' ⟨v, rfl, ho, hX⟩
  obtain ⟨va, vc, rfl, _⟩ := own_slice ho
  have hSd := hT.ot.sd
  have hml : (fnd t.T h t.G).length ≤ 8 * t.G := by unfold fnd; rw [List.length_map]; exact mts_len hSd.shp.gp
  have hG := hSd.shp.gp.le
  refine ⟨va, _, vc, _, rfl, own_vs ho, rfl, by omega, fun d => ?_, hX⟩
  rw [hT.cnt, ← fnd_cnt hSd]
/-- Is no one of the first k operations of this entry? -/
def frs (S : List Opq) (h d k : Nat) : Bool := !(S.take k).any fun y => decide (y.h = h ∧ y.d = d)
theorem frs_step {S : List Opq} {h d k : Nat} {y : Opq} (hy : S[k]? = some y) : frs S h d (k + 1) = (frs S h d k && !decide (y.h = h ∧ y.d = d)) := by
  unfold frs
  rw [List.take_add_one, hy, Option.toList, List.any_append]
  simp
theorem frs_nam {S : List Opq} {E : List (Nat × Nat)} {i : Nat} {x : Opq} (hx : S[i]? = some x) : nam (S.take (i + 1)) E = if frs S x.h x.d i = true then nam (S.take i) E + E.count (x.h, x.d) else nam (S.take i) E := by
  rw [List.take_add_one, hx, Option.toList]
  by_cases q : ∃ y ∈ S.take i, (y.h, y.d) = (x.h, x.d)
  · have : frs S x.h x.d i = false := by
      obtain ⟨y, hy, e⟩ := q
      unfold frs
      rw [Bool.not_eq_false']
      refine List.any_eq_true.2 ⟨y, hy, ?_⟩
      simp only [Prod.mk.injEq] at e
      simp [e]
    rw [this, nam_old q]; rfl
  · have : frs S x.h x.d i = true := by
      unfold frs
      rw [Bool.not_eq_true', List.any_eq_false]
      intro y hy
      simp only [decide_eq_true_eq]
      intro e
      exact q ⟨y, hy, by rw [e.1, e.2]⟩
    rw [this, nam_new q]; rfl
theorem nam_le (S : List Opq) (E : List (Nat × Nat)) : nam S E ≤ E.length := List.countP_le_length
theorem Scq.at_ {w : World} {a : Option Addr} {S : List Opq} (h : Scq w a S) (h0 : S ≠ []) : ∃ b o, a = some ⟨b, o, none⟩ ∧ ∀ j x, S[j]? = some x → w.cell? ⟨b, o + j * 3, none⟩ = some (.bool x.del) ∧ w.cell? ⟨b, o + j * 3 + 1, none⟩ = some (.int .u64 (x.h : Nat)) ∧ w.cell? ⟨b, o + j * 3 + 2, none⟩ = some (.int .u64 (x.d : Nat)) := by
  rcases h.2 with e | e
  · exact absurd e h0
  · exact e
theorem bools_at {w : World} {k : Nat} {v : Value} {B : List Bool} {m : Nat} (h : w.ownsRow k 4 1 v m (bv B)) (hm : 0 < m) (hB : B.length = m) : ∃ g c, v = .slice (some ⟨g, 0, none⟩) m c ∧ ∀ j b, B[j]? = some b → w.cell? ⟨g, j, none⟩ = some (.bool b) := by
  obtain ⟨m, rfl⟩ : ∃ q, m = q + 1 := ⟨m - 1, by omega⟩
  obtain ⟨g, c, rfl⟩ := ownsRow_succ h
  refine ⟨g, c, rfl, fun j b hj => ?_⟩
  have := World.ownsRow.cells h (g := g) rfl j (.bool b) (by simp [bv, hj])
  rw [Addr.add_lit] at this
  simpa using this
set_option maxRecDepth 100000 in
set_option maxHeartbeats 4000000 in
theorem findsWalk (a : Option Addr) (n c : Nat) (S : List Opq) (w : World) (hS : Scq w a S) (hn : S.length = n) (hnb : n ≤ 17592186044416) (hTb : Tb w) : Calls Tryd.prog 5 #[.slice a n c] w (SayPost w (.bool true)) := by
  have K0 := carried_any a n c S w hS hn hnb hTb
  have HS := hid hS
  have HN := hid hn
  have HTb := hid hTb
  clear hS hn hTb
  go_enter Tryd.func5, Tryd.ntmps5
  go_wp2_with fail
  refine K0.mono ?_
  clear K0
  rintro _ w1 ⟨v, L, B, bvv, rfl, hDa, hRun, hown, hE1⟩
  obtain ⟨dp, n', bt, ct, bs, cs, rfl, hD, hl, hcs, hR, _, _⟩ := hDa
  obtain ⟨pa, pc, rfl, _⟩ := own_slice hown
  have hBn : B.length = n := by have := hRun.len.1; rw [List.length_reverse, List.length_reverse] at this; rw [← this]; exact HN.out
  rw [hBn] at hown ⊢
  obtain ⟨m, hm⟩ : ∃ m, 2 ^ dp = m := ⟨_, rfl⟩
  unfold dv
  rw [hm]
  obtain ⟨z, hz⟩ : ∃ z, w1.heap.size = z := ⟨_, rfl⟩
  have hEa := Ext.alloc [] w1 (.cells #[.int .i64 (dp : Nat), .slice (some ⟨bt, 0, none⟩) n' ct, .slice (some ⟨bs, 0, none⟩) m cs] 27)
  have hb0 := heap_alloc_new w1 (.cells #[.int .i64 (dp : Nat), .slice (some ⟨bt, 0, none⟩) n' ct, .slice (some ⟨bs, 0, none⟩) m cs] 27)
  obtain ⟨W2, hW2⟩ : ∃ W2, w1.alloc (.cells #[.int .i64 (dp : Nat), .slice (some ⟨bt, 0, none⟩) n' ct, .slice (some ⟨bs, 0, none⟩) m cs] 27) = W2 := ⟨_, rfl⟩
  rw [hW2] at hEa hb0
  rw [hz] at hb0
  have HD := hid hD
  have HL := hid hl
  have HM := hid hm
  have HB := hid hBn
  have HRun := hid hRun
  have HR := hid (hR.keep0 hEa)
  have HOw := hid (own_keep0 hown hEa)
  have HE2 := hid (hE1.trans hEa)
  have Hb0 := hid hb0
  have hcs' : 2 ^ dp ≤ cs := hcs
  have HCs := hid hcs'
  clear hD hl hm hBn hRun hR hown hE1 hEa hb0 hcs hcs'
  go_wp2_with fail
  try rw [hW2]
  try simp only [hz]
  clear hW2 hz
  refine (awake_any W2).mono ?_
  rintro _ w3 ⟨rfl, hX⟩
  have HR3 := hid (HR.out.keep0 hX)
  have HOw3 := hid (own_keep0 HOw.out hX)
  have HE3 := hid (HE2.out.trans hX)
  have Hb3 := hid (hX.keep Hb0.out (by simp))
  have HS3 := hid (HS.out.keep0 HE3.out)
  have HTb3 := hid (HTb.out.keep0 HE3.out)
  clear hX HR HOw HE2 Hb0 HS HTb
  go_wp2_with fail
  go_loopw [5, 6] (fun p q wr => ∃ i : Nat, q = .int .i64 i ∧ i ≤ n ∧ p = .int .i64 (nam (S.take i) (En L) : Nat) ∧ Ext [] w3 wr) (fun _ q _ => (n - (intOf q)).toNat)
  case atStart => exact ⟨0, rfl, Nat.zero_le _, by rw [List.take_zero, nam_nil]; rfl, Ext.refl _ _⟩
  case round =>
    obtain ⟨i, rfl, hi, rfl, hXr⟩ := hrel
    generalize wr = wo at *
    by_cases hin : i < n
    · have hii : (i : Int) < n := by omega
      obtain ⟨x, hx⟩ : ∃ x, S[i]? = some x := ⟨_, List.getElem?_eq_getElem (by rw [HN.out]; exact hin)⟩
      obtain ⟨hxh, hxd⟩ := HS3.out.1 x (List.mem_of_getElem? hx)
      have hS0 : S ≠ [] := by intro e; rw [e] at hx; simp at hx
      obtain ⟨sb, so, rfl, _⟩ := HS3.out.at_ hS0
      obtain ⟨gb, cb, hpa, _⟩ := bools_at HOw3.out (by omega) HB.out
      simp only [Value.slice.injEq] at hpa
      obtain ⟨rfl, _, rfl⟩ := hpa
      obtain ⟨xdel, xh, xd⟩ := x
      simp only at hxh hxd
      have hnamle := nam_le (S.take i) (En L)
      have hnams := frs_nam (E := En L) hx
      simp only at hnams
      have hEnle := HD.out.en_le
      obtain ⟨tot, htot⟩ : ∃ tot, nam (S.take i) (En L) = tot := ⟨_, rfl⟩
      rw [htot] at hnamle hnams ⊢
      have Hnams := hid hnams
      have Hx := hid hx
      have HXo := hid hXr
      have hcnl : (En L).count (xh, xd) ≤ 1835008 := Nat.le_trans List.count_le_length hEnle
      have htl : tot ≤ 1835008 := by omega
      have Hcnl := hid hcnl
      clear hXr hx htot hnams hnamle hcnl hEnle hS0
      go_wp2_with fail
      go_loopw [7, 8] (fun p q wr => ∃ k : Nat, q = .int .i64 k ∧ k ≤ n ∧ p = .int .i64 (wn (xh, xd) S B k : Nat) ∧ Ext [] w3 wr) (fun _ q _ => (n - (intOf q)).toNat)
      case atStart => exact ⟨0, rfl, Nat.zero_le _, rfl, HXo.out⟩
      case round =>
        obtain ⟨k, rfl, hk, rfl, hXr⟩ := hrel
        have hwl := wn_le HRun.out (xh, xd) k
        by_cases hkn : k < n
        · have hki : (k : Int) < n := by omega
          obtain ⟨y, hy⟩ : ∃ y, S[k]? = some y := ⟨_, List.getElem?_eq_getElem (by rw [HN.out]; exact hkn)⟩
          obtain ⟨b, hb⟩ : ∃ b, B[k]? = some b := ⟨_, List.getElem?_eq_getElem (by rw [HB.out]; exact hkn)⟩
          have hst := wn_step (xh, xd) hy hb
          have hra := run_at HRun.out hy hb
          obtain ⟨_, _, ea, hsc⟩ := (HS3.out.keep0 hXr).at_ (by intro e; rw [e] at hy; simp at hy)
          simp only [Option.some.injEq, Addr.mk.injEq, and_true] at ea
          obtain ⟨rfl, rfl⟩ := ea
          obtain ⟨_, _, eb, hbc⟩ := bools_at (own_keep0 HOw3.out hXr) (by omega) HB.out
          simp only [Value.slice.injEq, Option.some.injEq, Addr.mk.injEq, and_true, true_and] at eb
          obtain ⟨rfl, _⟩ := eb
          obtain ⟨t0, t1, t2⟩ := hsc k y hy
          obtain ⟨_, s1, s2⟩ := hsc i _ Hx.out
          have r0 := hbc k b hb
          obtain ⟨ydel, yh, yd⟩ := y
          simp only at t0 t1 t2 s1 s2 hst hra
          have HXr := hid hXr
          clear hsc hbc hXr hy hb
          generalize hW : wn (xh, xd) S B k = W at *
          by_cases e1 : yh = xh
          · subst e1
            by_cases e2 : yd = xd
            · subst e2
              rw [if_pos rfl] at hst
              obtain ⟨hr1, hr2⟩ := hra
              rw [hW] at hr1
              cases ydel
              · cases b
                · have hnl : ¬ ((n : Int) < 200) := by have := hr2 rfl rfl; omega
                  have Hst := hid hst
                  clear hst hr1 hr2 hW
                  go_wp2_with (go_quiet (fail))
                  go_roundw
                  case rel => exact ⟨k + 1, by go_num, by omega, by rw [Hst.out]; rfl, HXr.out.trans (Ext.drewN [] _ _)⟩
                  case measure => simp [intOf]; omega
                · have Hst := hid hst
                  clear hst hr1 hr2 hW
                  go_wp2_with (go_quiet (fail))
                  go_roundw
                  case rel => exact ⟨k + 1, by go_num, by omega, by rw [Hst.out]; rfl, HXr.out.trans (Ext.drewN [] _ _)⟩
                  case measure => simp [intOf]; omega
              · have hb' := hr1 rfl
                by_cases hW0 : 0 < W
                · rw [decide_eq_true hW0] at hb'
                  subst hb'
                  have hWi : (0 : Int) < W := by omega
                  have hWd : decide ((0 : Int) < (W : Int)) = true := decide_eq_true hWi
                  have Hst := hid hst
                  clear hst hr1 hr2 hW
                  go_wp2_with (go_quiet (fail))
                  go_roundw
                  case rel => exact ⟨k + 1, by go_num, by omega, by rw [Hst.out]; simp; omega, HXr.out.trans (Ext.drewN [] _ _)⟩
                  case measure => simp [intOf]; omega
                · rw [decide_eq_false hW0] at hb'
                  subst hb'
                  obtain rfl : W = 0 := by omega
                  have Hst := hid hst
                  clear hst hr1 hr2 hW hW0
                  go_wp2_with (go_quiet (fail))
                  go_roundw
                  case rel => exact ⟨k + 1, by go_num, by omega, by rw [Hst.out]; rfl, HXr.out.trans (Ext.drewN [] _ _)⟩
                  case measure => simp [intOf]; omega
            · have hne : ((yd : Int) != (xd : Int)) = true := by simp; omega
              rw [if_neg (by simp; exact e2)] at hst
              have Hst := hid hst
              clear hst hra hW e2
              go_wp2_with (go_quiet (fail))
              go_roundw
              case rel => exact ⟨k + 1, by go_num, by omega, by rw [Hst.out], HXr.out.trans (Ext.drewN [] _ _)⟩
              case measure => simp [intOf]; omega
          · have hne : ((yh : Int) != (xh : Int)) = true := by simp; omega
            rw [if_neg (by simp; intro h; exact absurd h e1)] at hst
            have Hst := hid hst
            clear hst hra hW e1
            go_wp2_with (go_quiet (fail))
            go_roundw
            case rel => exact ⟨k + 1, by go_num, by omega, by rw [Hst.out], HXr.out.trans (Ext.drewN [] _ _)⟩
            case measure => simp [intOf]; omega
        · obtain rfl : k = n := by omega
          have hwa := wn_all HRun.out (xh, xd) HN.out
          obtain ⟨W, hW⟩ : ∃ W, wn (xh, xd) S B k = W := ⟨_, rfl⟩
          rw [hW] at hwa hwl ⊢
          have hWl : W ≤ 1835008 := by rw [hwa]; exact Hcnl.out
          obtain ⟨_, _, ea, hsc⟩ := (HS3.out.keep0 hXr).at_ (by intro e; have := Hx.out; rw [e] at this; simp at this)
          simp only [Option.some.injEq, Addr.mk.injEq, and_true] at ea
          obtain ⟨rfl, rfl⟩ := ea
          obtain ⟨_, s1, s2⟩ := hsc i _ Hx.out
          simp only at s1 s2
          have hEd := Ext.drew [] wr
          obtain ⟨q0, q1, q2⟩ := cells3 (hXr.keep Hb3.out (by simp))
          have f0 := hEd.cell q0 (by simp)
          have f1 := hEd.cell q1 (by simp)
          have f2 := hEd.cell q2 (by simp)
          have g1 := hEd.cell s1 (by simp)
          have g2 := hEd.cell s2 (by simp)
          have KF := dfound_c dp bt ct bs 0 cs n' xh L HD.out HCs.out HL.out hxh wr.drew ((HR3.out.keep0 hXr).keep0 hEd) ((HTb3.out.keep0 hXr).keep0 hEd)
          unfold dv at KF
          rw [HM.out] at KF
          have HXr := hid (hXr.trans hEd)
          have Hwa := hid hwa
          clear hsc hXr hwa hW q0 q1 q2 hEd s1 s2 hwl
          go_wp2_with fail
          go_region_held3 (fun w' => w'.cell? ⟨z, 0, none⟩ = some (.int .i64 (dp : Nat)) ∧ w'.cell? ⟨z, 1, none⟩ = some (.slice (some ⟨bt, 0, none⟩) n' ct) ∧ w'.cell? ⟨z, 2, none⟩ = some (.slice (some ⟨bs, 0, none⟩) m cs) ∧ w'.cell? ⟨sb, so + i * 3 + 1, none⟩ = some (.int .u64 (xh : Nat)))
            (first | go_keep | exact ⟨hE5.cell f0 (by simp), hE5.cell f1 (by simp), hE5.cell f2 (by simp), hE5.cell g1 (by simp)⟩)
            (first
              | (go_at_call 21; refine KF.mono ?_; rintro _ w5 ⟨va, m5, vc, La, rfl, hWd, hLn, hm5, hcnt, hE5⟩)
              | fail "no arm")
          have KT := times_any va m5 vc La xd w5 hWd hLn hm5
          rw [hcnt xd, ← Hwa.out] at KT
          have j2 := hE5.cell g2 (by simp)
          have HX5 := hid (HXr.out.trans hE5)
          clear f0 f1 f2 g1 g2 KF hWd hLn hcnt hE5 HXr
          go_wp2_with fail
          refine met KT ?_
          clear KT
          go_wp2_with fail
          go_loopw [11, 12] (fun p q wr => ∃ j : Nat, q = .int .i64 j ∧ j ≤ i ∧ p = .bool (frs S xh xd j) ∧ Ext [] w3 wr) (fun _ q _ => (i - (intOf q)).toNat)
          case atStart => exact ⟨0, rfl, Nat.zero_le _, rfl, HX5.out⟩
          case round =>
            obtain ⟨j, rfl, hj, rfl, hXr⟩ := hrel
            by_cases hjn : j < i
            · have hji : (j : Int) < i := by omega
              have hjk : (j : Int) < k := by omega
              obtain ⟨y, hy⟩ : ∃ y, S[j]? = some y := ⟨_, List.getElem?_eq_getElem (by rw [HN.out]; omega)⟩
              have hst := frs_step (h := xh) (d := xd) hy
              obtain ⟨_, _, ea, hsc⟩ := (HS3.out.keep0 hXr).at_ (by intro e; rw [e] at hy; simp at hy)
              simp only [Option.some.injEq, Addr.mk.injEq, and_true] at ea
              obtain ⟨rfl, rfl⟩ := ea
              obtain ⟨_, t1, t2⟩ := hsc j y hy
              obtain ⟨_, s1, s2⟩ := hsc i _ Hx.out
              obtain ⟨ydel, yh, yd⟩ := y
              simp only at t1 t2 s1 s2 hst
              have HXr := hid hXr
              clear hsc hXr hy j2
              generalize frs S xh xd j = fl at *
              cases fl
              · have Hst := hid hst
                clear hst
                go_wp2_with (go_quiet (fail))
                go_roundw
                case rel => exact ⟨j + 1, by go_num, by omega, by rw [Hst.out]; rfl, HXr.out.trans (Ext.drewN [] _ _)⟩
                case measure => simp [intOf]; omega
              · by_cases e1 : yh = xh
                · subst e1
                  by_cases e2 : yd = xd
                  · subst e2
                    have Hst := hid hst
                    clear hst
                    go_wp2_with (go_quiet (fail))
                    go_roundw
                    case rel => exact ⟨j + 1, by go_num, by omega, by rw [Hst.out]; simp, HXr.out.trans (Ext.drewN [] _ _)⟩
                    case measure => simp [intOf]; omega
                  · have hne : ((yd : Int) != (xd : Int)) = true := by simp; omega
                    have Hst : Hid (frs S yh xd (j + 1) = true) := by show _ = _; rw [hst]; simp [e2]
                    clear hst e2
                    go_wp2_with (go_quiet (fail))
                    go_roundw
                    case rel => exact ⟨j + 1, by go_num, by omega, by rw [Hst.out], HXr.out.trans (Ext.drewN [] _ _)⟩
                    case measure => simp [intOf]; omega
                · have hne : ((yh : Int) != (xh : Int)) = true := by simp; omega
                  have Hst : Hid (frs S xh xd (j + 1) = true) := by show _ = _; rw [hst]; simp [e1]
                  clear hst e1
                  go_wp2_with (go_quiet (fail))
                  go_roundw
                  case rel => exact ⟨j + 1, by go_num, by omega, by rw [Hst.out], HXr.out.trans (Ext.drewN [] _ _)⟩
                  case measure => simp [intOf]; omega
            · obtain rfl : j = i := by omega
              have hna := Hnams.out
              rw [← Hwa.out] at hna
              have HXr := hid hXr
              clear hXr j2
              generalize frs S xh xd j = fl at *
              cases fl
              · have Hna : Hid (nam (S.take (j + 1)) (En L) = tot) := by show _ = _; rw [hna]; rfl
                clear hna
                go_wp2_with fail
                go_roundw
                case rel => exact ⟨j + 1, by go_num, by omega, by rw [Hna.out], HXr.out⟩
                case measure => simp [intOf]; omega
              · have Hna : Hid (nam (S.take (j + 1)) (En L) = tot + W) := by show _ = _; rw [hna]; rfl
                clear hna
                go_wp2_with fail
                go_roundw
                case rel => exact ⟨j + 1, by go_num, by omega, by rw [Hna.out]; push_cast; rfl, HXr.out⟩
                case measure => simp [intOf]; omega
    · obtain rfl : i = n := by omega
      have hall : nam (S.take i) (En L) = (En L).length := by
        rw [List.take_of_length_le (by rw [HN.out]; omega)]
        exact nam_all (fun p hp => by obtain ⟨x, hx, e⟩ := HRun.out.mem p hp; exact ⟨x, List.mem_reverse.1 hx, e⟩)
      obtain ⟨E, hE⟩ : ∃ E, (En L).length = E := ⟨_, rfl⟩
      have hel := HD.out.en_le
      rw [hall, hE]
      rw [hE] at hel
      have h0n' : 0 < n' := by
        rcases Nat.eq_zero_or_pos n' with e | e
        · obtain rfl : L = [] := List.length_eq_zero_iff.1 (by rw [HL.out]; exact e)
          have h1 := HD.out.all
          have h2 := Nat.pow_pos (n := dp) (show 0 < 2 by omega)
          simp only [pre] at h1
          omega
        · exact e
      obtain ⟨f0, f1, f2⟩ := cells3 (hXr.keep Hb3.out (by simp))
      have KC := copyDir_any dp bt ct bs 0 cs n' L HD.out HL.out h0n' wo (HR3.out.keep0 hXr)
      unfold dv at KC
      rw [HM.out] at KC
      have HXo := hid hXr
      have HEe := hid hE
      clear hXr hall hE
      go_wp2_with fail
      refine KC.mono ?_
      clear KC f0 f1 f2
      rintro _ w5 ⟨btc, ctc, bsc, csc, hvc, hR5, hc5, _, _, hE5⟩
      have HX5 := hid (HXo.out.trans hE5)
      have KL := dlen_any dp btc ctc bsc 0 csc n' L HD.out hc5 HL.out w5 hR5 (HTb3.out.keep0 HX5.out)
      unfold dv at KL hvc
      rw [HM.out] at KL hvc
      subst hvc
      rw [HEe.out] at KL
      clear hR5 hc5 hE5 HXo
      go_wp2_with fail
      refine KL.mono ?_
      clear KL
      rintro _ w6 ⟨rfl, hE6⟩
      have HX6 := hid (HX5.out.trans hE6)
      obtain ⟨f0, f1, f2⟩ := cells3 (HX6.out.keep Hb3.out (by simp))
      have KK := check_yes dp bt ct bs 0 cs n' L HD.out HCs.out HL.out w6 (HR3.out.keep0 HX6.out) (HTb3.out.keep0 HX6.out)
      unfold dv at KK
      rw [HM.out] at KK
      clear hE6 HX5
      go_wp2_with fail
      refine KK.mono ?_
      clear KK f0 f1 f2
      rintro _ w7 ⟨rfl, hE7⟩
      have HX7 := hid (HE3.out.trans (HX6.out.trans hE7))
      clear hE7
      go_wp2_with fail
      go_ret
      exact ⟨rfl, HX7.out⟩
end Go.Proofs.YtkfagfdefkaenaaDoor

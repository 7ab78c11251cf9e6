/-
  What ReachKeeps wants of the calls and of a net with spare room; no statement is proved here.
-/
import Derived.Test.YtfjabjnajcfamaaBoth
import Derived.Test.YtfjabjnajcfamaaRoom
import Derived.Test.YtfjabjnajcfamaaApartE
namespace Go.Proofs.Ytfjabjnajcfamaa
open Go.RowKit

/-- A list of its own, new since w, and an error. -/
def UO (w : World) (P : List Int → Int → Prop) (e : Ending) (w' : World) : Prop := ∃ L er a c, P L er ∧ e = .returned (.tuple #[.slice a L.length c, .int .i64 er]) ∧ w'.ownsRow w.heap.size 3 1 (.slice a L.length c) L.length (L.map (Value.int .i64)) ∧ L.length ≤ 65537 ∧ Ext [] w w'

theorem way_o (a : Option Addr) (n c : Nat) (ra : Option Addr) (rn rc : Nat) (x : Int) (M : List (List Int)) (R : List Int) (w : World) (h : Arg w a n ra rn M R) : Calls Try.prog 14 #[.slice a n c, .slice ra rn rc, .int .i64 x] w (UO w (PW M R x)) := by
  have hrb := h.rb
  by_cases he : errB M R [x] = 0
  · obtain ⟨N, R', t, rfl, rfl, rfl, hG, ht⟩ := node_of he
    have hl := h.len; rw [cn_len] at hl
    have hr := h.rlen; rw [ci_len] at hr
    refine (way_any N R' t a n c ra rn rc w h.net hl hG h.roots hr (by omega) (by omega)).mono ?_
    rintro e w' (⟨u, av, cv, hB, hul, rfl, ho, hE⟩ | ⟨hno, rfl, hE⟩)
    · refine ⟨ci u, 0, av, cv, .inr ⟨N, R', t, rfl, rfl, rfl, hG, ht, .inl ⟨u, hB, hul, rfl, rfl⟩⟩, by rw [ci_len], by rw [ci_len]; exact ho, by rw [ci_len]; have := hG.len; omega, hE⟩
    · exact ⟨[], 4, none, 0, .inr ⟨N, R', t, rfl, rfl, rfl, hG, ht, .inr ⟨hno, rfl, rfl⟩⟩, rfl, own_nil _ _ _ _, by simp, hE⟩
  · refine (way_bad a n c ra rn rc x M R w h.net h.len h.roots h.rlen (by omega) he).mono ?_
    rintro e w' ⟨rfl, hE⟩
    exact ⟨[], _, none, 0, .inl ⟨he, rfl, rfl⟩, rfl, own_nil _ _ _ _, by simp, hE⟩
theorem lost_o (a : Option Addr) (n c : Nat) (ra : Option Addr) (rn rc : Nat) (x : Int) (M : List (List Int)) (R : List Int) (w : World) (h : Arg w a n ra rn M R) : Calls Try.prog 18 #[.slice a n c, .slice ra rn rc, .int .i64 x] w (UO w (PL M R x)) := by
  have hrb := h.rb
  by_cases he : errB M R [x] = 0
  · obtain ⟨N, R', t, rfl, rfl, rfl, hG, ht⟩ := node_of he
    have hl := h.len; rw [cn_len] at hl
    have hr := h.rlen; rw [ci_len] at hr
    refine (lost_any N R' t a n c ra rn rc w h.net hl hG h.roots hr (by omega) (by omega)).mono ?_
    rintro e w' ⟨L1, L2, av, cv, hB1, hB2, rfl, ho, hE⟩
    exact ⟨ci (lostOf L1 L2 N.length), 0, av, cv, .inr ⟨N, R', t, rfl, rfl, rfl, hG, ht, L1, L2, hB1, hB2, rfl, rfl⟩, by rw [ci_len], by rw [ci_len]; exact ho, by rw [ci_len]; have := lostOf_len L1 L2 N.length; have := hG.len; omega, hE⟩
  · refine (lost_bad a n c ra rn rc x M R w h.net h.len h.roots h.rlen (by omega) he).mono ?_
    rintro e w' ⟨rfl, hE⟩
    exact ⟨[], _, none, 0, .inl ⟨he, rfl, rfl⟩, rfl, own_nil _ _ _ _, by simp, hE⟩
/-- Order's iterator and its list. -/
theorem order_o (a : Option Addr) (n c : Nat) (ra : Option Addr) (rn rc : Nat) (M : List (List Int)) (R : List Int) (w : World) (h : Arg w a n ra rn M R) : Calls Try.prog 20 #[.slice a n c, .slice ra rn rc] w fun e w' => ∃ L, PO M R L (errB M R []) ∧ L.length ≤ 65536 ∧ OrPost w L (errB M R []) e w' := by
  have hrb := h.rb
  by_cases he : errB M R [] = 0
  · obtain ⟨N, R', T', rfl, rfl, _, hG, _⟩ := err_good he
    have hl := h.len; rw [cn_len] at hl
    have hr := h.rlen; rw [ci_len] at hr
    refine (order_ok N R' a n c ra rn rc w h.net hl hG h.roots hr (by omega)).mono ?_
    rintro e w' ⟨O, hO, hP⟩
    refine ⟨ci O, .inr ⟨N, R', rfl, rfl, hG, O, hO, rfl, good0 hG⟩, by rw [ci_len]; have := hO.len; have := hG.len; omega, ?_⟩
    rw [good0 hG]
    exact hP
  · refine (order_bad a n c ra rn rc M R w h.net h.len h.roots h.rlen (by omega) he).mono ?_
    intro e w' hP
    exact ⟨[], .inl ⟨he, rfl, rfl⟩, by simp, hP⟩

/-! ### a net whose lists have spare room -/

def gk (K : Nat → Nat × Nat) (i : Nat) : Option Addr × Nat := (some ⟨(K i).1, 0, none⟩, (K i).2)

structure Inn (w0 w : World) (v : Value) (k : Nat) (M : List (List Int)) (K : Nat → Nat × Nat) : Prop where
  row : w.ownsRow w0.heap.size 23 1 v k (rowsN M (gk K) k)
  each : ∀ i, i < k → Ry w0 w (K i).1 (lsAt M i).length (K i).2 (lsAt M i)
  apart : ∀ i j, i < k → j < k → i ≠ j → (K i).1 ≠ (K j).1

theorem Ry.keep {S : List Nat} {w0 w w' : World} {g k cap : Nat} {fs : List Int} (h : Ry w0 w g k cap fs) (x : Ext S w w') (hs : g ∉ S) : Ry w0 w' g k cap fs :=
  ⟨h.1, own_keep h.2 x (by intro b hb hv; simp [Value.ownBlock] at hv; subst hv; exact hs hb)⟩
theorem Ry.base {w0 w1 w : World} {g k cap : Nat} {fs : List Int} (h : Ry w1 w g k cap fs) (hs : w0.heap.size ≤ w1.heap.size) : Ry w0 w g k cap fs := ⟨h.1, own_base h.2 hs⟩
theorem Ry.lt {w0 w : World} {g k cap : Nat} {fs : List Int} (h : Ry w0 w g k cap fs) : w0.heap.size ≤ g ∧ g < w.heap.size := own_lt h.2 g rfl

theorem Inn.keep0 {w0 w w' : World} {v : Value} {k : Nat} {M : List (List Int)} {K : Nat → Nat × Nat} (h : Inn w0 w v k M K) (x : Ext [] w w') : Inn w0 w' v k M K :=
  ⟨own_keep0 h.row x, fun i hi => (h.each i hi).keep x (by simp), h.apart⟩
theorem inn_nil (w0 w : World) (M : List (List Int)) (K : Nat → Nat × Nat) : Inn w0 w (.slice none 0 0) 0 M K := ⟨own_nil _ _ _ _, fun i hi => by omega, fun i j hi => by omega⟩

theorem Inn.net {w0 w : World} {a : Option Addr} {n c : Nat} {M : List (List Int)} {K : Nat → Nat × Nat} (h : Inn w0 w (.slice a n c) n M K) (hn : M.length = n) (hl : n ≤ 5864062014805) (hb : ∀ i, i < n → (lsAt M i).length ≤ 17592186044416) : Nt w a M := by
  subst hn
  refine ⟨?_, hl⟩
  rcases h.row.2 with ⟨h1, h2⟩ | ⟨g, cap, cur, h0, h1, h2, h3, h4, h5, h6⟩
  · left; exact List.length_eq_zero_iff.1 h2
  · right
    cases h0
    refine ⟨g, 0, rfl, fun i hi => ⟨(gk K i).1, (gk K i).2, ?_, ((h.each i hi).cell rfl).1, ?_, hb i hi⟩⟩
    · rw [Nat.zero_add, World.ownsRow.cellAt h.row i (by omega), rowsN_get M _ _ i hi]
    · have := (h.each i hi).1
      simp only [gk]
      omega

theorem Inn.step {w0 w w1 : World} {v : Value} {k g cap : Nat} {M : List (List Int)} {K : Nat → Nat × Nat} (h : Inn w0 w v k M K) (hE0 : Ext [] w0 w) (hR : Ry w w1 g (lsAt M k).length cap (lsAt M k)) (hE : Ext [] w w1) (hk : k ≤ 2097152) :
    ∃ v' w', (Builtin.append_ #[22, 22] 22 #[v, .slice (some ⟨w1.heap.size, 0, none⟩) 1 1]).run Try.prog (w1.alloc (.cells #[.slice (some ⟨g, 0, none⟩) (lsAt M k).length cap] 23)) = .ok v' w' ∧ Inn w0 w' v' (k + 1) M (fun i => if i = k then (g, cap) else K i) ∧ Ext [] w0 w' := by
  have hA := Ext.alloc [] w1 (.cells #[.slice (some ⟨g, 0, none⟩) (lsAt M k).length cap] 23)
  have hV := vs_new w1 23 [.slice (some ⟨g, 0, none⟩) (lsAt M k).length cap]
  have hOw := own_keep0 (own_keep0 h.row hE) hA
  obtain ⟨v', w', hr, hO, hE', hX⟩ := app_own w0 _ ((hE0.trans hE).trans hA) 22 22 23 _ 24 Try.underlying22 info23 rfl (by omega) _ k _ hOw (some ⟨w1.heap.size, 0, none⟩) 1 1 _ rfl hV (by simp [Value.oneCell']) (by omega)
  refine ⟨v', w', hr, ⟨?_, ?_, ?_⟩, hE'⟩
  · have e : rowsN M (gk K) k ++ [.slice (some ⟨g, 0, none⟩) (lsAt M k).length cap] = rowsN M (gk fun i => if i = k then (g, cap) else K i) (k + 1) := by
      rw [rowsN, rowsN_cong k (H := gk fun i => if i = k then (g, cap) else K i) (fun i hi => by simp [gk, Nat.ne_of_lt hi])]
      simp [gk]
    rw [← e]
    exact hO
  · have far : ∀ b q m fs, Ry w0 (w1.alloc (.cells #[.slice (some ⟨g, 0, none⟩) (lsAt M k).length cap] 23)) b q m fs → Ry w0 w' b q m fs := fun b q m fs hb =>
      ⟨hb.1, own_keep hb.2 hX (own_apart hb.2 hOw (by decide))⟩
    intro i hi
    by_cases e : i = k
    · subst e
      simp only [if_true]
      exact far _ _ _ _ ((hR.base hE0.size).keep hA (by simp))
    · simp only [e, if_false]
      exact far _ _ _ _ (((h.each i (by omega)).keep hE (by simp)).keep hA (by simp))
  · intro i j hi hj hij
    have hg := hR.lt.1
    by_cases e : i = k
    · subst e
      have hj' := (h.each j (by omega)).lt.2
      simp only [if_true, show j ≠ i by omega, if_false]
      omega
    · by_cases e2 : j = k
      · subst e2
        have hi' := (h.each i (by omega)).lt.2
        simp only [if_true, e, if_false]
        omega
      · simp only [e, e2, if_false]
        exact h.apart i j (by omega) (by omega) hij

end Go.Proofs.Ytfjabjnajcfamaa

/-
  The program's calls and the reference's by what they answer, errors too; no statement is proved here.
-/
import Derived.Test.YtfjabjnajcfamaaRfF
import Derived.Test.YtfjabjnajcfamaaRfH
import Derived.Test.YtfjabjnajcfamaaWOrd
namespace Go.Proofs.Ytfjabjnajcfamaa
open Go.RowKit

theorem ci_inj : ∀ {a b : List Nat}, ci a = ci b → a = b
  | [], [], _ => rfl
  | [], _ :: _, h => by simp [ci] at h
  | _ :: _, [], h => by simp [ci] at h
  | x :: a, y :: b, h => by
    simp only [ci, List.map_cons, List.cons.injEq] at h
    have h1 : x = y := by omega
    rw [h1, ci_inj (a := a) (b := b) h.2]
theorem cn_inj : ∀ {a b : List (List Nat)}, cn a = cn b → a = b
  | [], [], _ => rfl
  | [], _ :: _, h => by simp [cn] at h
  | _ :: _, [], h => by simp [cn] at h
  | x :: a, y :: b, h => by
    simp only [cn, List.map_cons, List.cons.injEq] at h
    rw [ci_inj h.1, cn_inj (a := a) (b := b) h.2]

/-- What Set answers. -/
def PS (M : List (List Int)) (R : List Int) (L : List Bool) (er : Int) : Prop :=
  (errB M R [] ≠ 0 ∧ L = [] ∧ er = errB M R []) ∨ ∃ N R', M = cn N ∧ R = ci R' ∧ Good N R' ∧ Bl N R' (-1) L ∧ er = 0
/-- What Way answers. -/
def PW (M : List (List Int)) (R : List Int) (x : Int) (xs : List Int) (er : Int) : Prop :=
  (errB M R [x] ≠ 0 ∧ xs = [] ∧ er = errB M R [x]) ∨ ∃ N R', ∃ t : Nat, M = cn N ∧ R = ci R' ∧ x = t ∧ Good N R' ∧ t < N.length ∧ ((∃ u, Best N R' t u ∧ u.length ≤ N.length + 1 ∧ xs = ci u ∧ er = 0) ∨ (¬ Rch N R' (-1) t ∧ xs = [] ∧ er = 4))
/-- What Lost answers. -/
def PL (M : List (List Int)) (R : List Int) (x : Int) (xs : List Int) (er : Int) : Prop :=
  (errB M R [x] ≠ 0 ∧ xs = [] ∧ er = errB M R [x]) ∨ ∃ N R', ∃ t : Nat, M = cn N ∧ R = ci R' ∧ x = t ∧ Good N R' ∧ t < N.length ∧ ∃ L1 L2, Bl N R' (-1) L1 ∧ Bl N R' t L2 ∧ xs = ci (lostOf L1 L2 N.length) ∧ er = 0
/-- What Order answers. -/
def PO (M : List (List Int)) (R : List Int) (xs : List Int) (er : Int) : Prop :=
  (errB M R [] ≠ 0 ∧ xs = [] ∧ er = errB M R []) ∨ ∃ N R', M = cn N ∧ R = ci R' ∧ Good N R' ∧ ∃ O, Ord N R' (-1) O ∧ xs = ci O ∧ er = 0

theorem bl_det {N : List (List Nat)} {R : List Nat} {wo : Int} {A B : List Bool} (hG : Good N R) (h : Bl N R wo A) (k : Bl N R wo B) : A = B := by
  obtain ⟨O, hO⟩ := ord_exists hG wo
  rw [bl_mark h hO, bl_mark k hO]
theorem good0 {N : List (List Nat)} {R : List Nat} (h : Good N R) : errB (cn N) (ci R) [] = 0 := good_err (T := []) h (by intro x hx; cases hx)
theorem good1 {N : List (List Nat)} {R : List Nat} {t : Nat} (h : Good N R) (ht : t < N.length) : errB (cn N) (ci R) [(t : Int)] = 0 := good_err (T := [t]) h (by intro x hx; simp at hx; subst hx; exact ht)

theorem PS.det {M : List (List Int)} {R : List Int} {L L' : List Bool} {er er' : Int} (h : PS M R L er) (k : PS M R L' er') : L = L' ∧ er = er' := by
  rcases h with ⟨h1, rfl, rfl⟩ | ⟨N, R1, rfl, rfl, hG, hB, rfl⟩
  · rcases k with ⟨_, rfl, rfl⟩ | ⟨N, R1, rfl, rfl, hG, _⟩
    · exact ⟨rfl, rfl⟩
    · exact absurd (good0 hG) h1
  · rcases k with ⟨k1, _⟩ | ⟨N', R2, e1, e2, _, hB', rfl⟩
    · exact absurd (good0 hG) k1
    · rw [← cn_inj e1, ← ci_inj e2] at hB'
      exact ⟨bl_det hG hB hB', rfl⟩
theorem PW.det {M : List (List Int)} {R : List Int} {x : Int} {L L' : List Int} {er er' : Int} (h : PW M R x L er) (k : PW M R x L' er') : L = L' ∧ er = er' := by
  rcases h with ⟨h1, rfl, rfl⟩ | ⟨N, R1, t, rfl, rfl, rfl, hG, ht, hc⟩
  · rcases k with ⟨_, rfl, rfl⟩ | ⟨N, R1, t, rfl, rfl, rfl, hG, ht, _⟩
    · exact ⟨rfl, rfl⟩
    · exact absurd (good1 hG ht) h1
  · rcases k with ⟨k1, _⟩ | ⟨N', R2, t', e1, e2, e3, _, _, kc⟩
    · exact absurd (good1 hG ht) k1
    · have e4 : t = t' := by omega
      subst e4
      rw [← cn_inj e1, ← ci_inj e2] at kc
      rcases hc with ⟨u, hu, _, rfl, rfl⟩ | ⟨hn, rfl, rfl⟩
      · rcases kc with ⟨v, hv, _, rfl, rfl⟩ | ⟨hn, _⟩
        · rw [hu.det hv]; exact ⟨rfl, rfl⟩
        · exact absurd hu.wy.rch hn
      · rcases kc with ⟨v, hv, _⟩ | ⟨_, rfl, rfl⟩
        · exact absurd hv.wy.rch hn
        · exact ⟨rfl, rfl⟩
theorem PL.det {M : List (List Int)} {R : List Int} {x : Int} {L L' : List Int} {er er' : Int} (h : PL M R x L er) (k : PL M R x L' er') : L = L' ∧ er = er' := by
  rcases h with ⟨h1, rfl, rfl⟩ | ⟨N, R1, t, rfl, rfl, rfl, hG, ht, L1, L2, hb1, hb2, rfl, rfl⟩
  · rcases k with ⟨_, rfl, rfl⟩ | ⟨N, R1, t, rfl, rfl, rfl, hG, ht, _⟩
    · exact ⟨rfl, rfl⟩
    · exact absurd (good1 hG ht) h1
  · rcases k with ⟨k1, _⟩ | ⟨N', R2, t', e1, e2, e3, _, _, L1', L2', kb1, kb2, rfl, rfl⟩
    · exact absurd (good1 hG ht) k1
    · have e4 : t = t' := by omega
      subst e4
      rw [← cn_inj e1, ← ci_inj e2] at kb1 kb2
      rw [← cn_inj e1, bl_det hG hb1 kb1, bl_det hG hb2 kb2]
      exact ⟨rfl, rfl⟩
theorem PO.det {M : List (List Int)} {R : List Int} {L L' : List Int} {er er' : Int} (h : PO M R L er) (k : PO M R L' er') : L = L' ∧ er = er' := by
  rcases h with ⟨h1, rfl, rfl⟩ | ⟨N, R1, rfl, rfl, hG, O, hO, rfl, rfl⟩
  · rcases k with ⟨_, rfl, rfl⟩ | ⟨N, R1, rfl, rfl, hG, _⟩
    · exact ⟨rfl, rfl⟩
    · exact absurd (good0 hG) h1
  · rcases k with ⟨k1, _⟩ | ⟨N', R2, e1, e2, _, O', hO', rfl, rfl⟩
    · exact absurd (good0 hG) k1
    · rw [← cn_inj e1, ← ci_inj e2] at hO'
      rw [hO.det hO']
      exact ⟨rfl, rfl⟩

/-- What is handed to a call. -/
structure Arg (w : World) (a : Option Addr) (n : Nat) (ra : Option Addr) (rn : Nat) (M : List (List Int)) (R : List Int) : Prop where
  net : Nt w a M
  len : M.length = n
  roots : Is w ra R
  rlen : R.length = rn
  rb : rn ≤ 1048576

theorem Arg.keep0 {w w' : World} {a ra : Option Addr} {n rn : Nat} {M : List (List Int)} {R : List Int} (h : Arg w a n ra rn M R) (e : Ext [] w w') : Arg w' a n ra rn M R := ⟨h.net.keep0 e, h.len, h.roots.keep0 e, h.rlen, h.rb⟩

def UB (w : World) (P : List Bool → Int → Prop) (e : Ending) (w' : World) : Prop := ∃ L er a c, P L er ∧ e = .returned (.tuple #[.slice a L.length c, .int .i64 er]) ∧ Os w' a L ∧ L.length ≤ 65536 ∧ Ext [] w w'
def UI (w : World) (P : List Int → Int → Prop) (e : Ending) (w' : World) : Prop := ∃ L er a c, P L er ∧ e = .returned (.tuple #[.slice a L.length c, .int .i64 er]) ∧ Is w' a L ∧ L.length ≤ 65537 ∧ Ext [] w w'

theorem node_of {M : List (List Int)} {R : List Int} {x : Int} (h : errB M R [x] = 0) : ∃ N R', ∃ t : Nat, M = cn N ∧ R = ci R' ∧ x = t ∧ Good N R' ∧ t < N.length := by
  obtain ⟨N, R', T', rfl, rfl, hT, hGo, hTn⟩ := err_good h
  obtain ⟨t, ht⟩ : ∃ t, T' = [t] := by
    have : (ci T').length = 1 := by rw [← hT]; rfl
    rw [ci_len] at this
    match T', this with
    | [t], _ => exact ⟨t, rfl⟩
  subst ht
  exact ⟨N, R', t, rfl, rfl, by simpa [ci] using hT, hGo, hTn t (by simp)⟩

theorem set_u (a : Option Addr) (n c : Nat) (ra : Option Addr) (rn rc : Nat) (M : List (List Int)) (R : List Int) (w : World) (h : Arg w a n ra rn M R) : Calls Try.prog 10 #[.slice a n c, .slice ra rn rc] w (UB w (PS M R)) := by
  have hrb := h.rb
  by_cases he : errB M R [] = 0
  · obtain ⟨N, R', T', rfl, rfl, _, hG, _⟩ := err_good he
    have hl := h.len; rw [cn_len] at hl
    have hr := h.rlen; rw [ci_len] at hr
    refine (set_ok N R' a n c ra rn rc w h.net hl hG h.roots hr (by omega)).mono ?_
    rintro e w' ⟨v, L, rfl, hB, ho, hE⟩
    obtain ⟨av, cv, rfl, _⟩ := own_slice ho
    refine ⟨L, 0, av, cv, .inr ⟨N, R', rfl, rfl, hG, hB, rfl⟩, by rw [hB.len], own_vs ho, by rw [hB.len]; exact hG.len, hE⟩
  · refine (set_bad a n c ra rn rc M R w h.net h.len h.roots h.rlen (by omega) he).mono ?_
    rintro e w' ⟨rfl, rfl⟩
    exact ⟨[], _, none, 0, .inl ⟨he, rfl, rfl⟩, rfl, .inl rfl, by simp, Ext.refl _ _⟩
theorem rset_u (a : Option Addr) (n c : Nat) (ra : Option Addr) (rn rc : Nat) (M : List (List Int)) (R : List Int) (w : World) (h : Arg w a n ra rn M R) : Calls Try.prog 13 #[.slice a n c, .slice ra rn rc] w (UB w (PS M R)) := by
  have hrb := h.rb
  by_cases he : errB M R [] = 0
  · obtain ⟨N, R', T', rfl, rfl, _, hG, _⟩ := err_good he
    have hl := h.len; rw [cn_len] at hl
    have hr := h.rlen; rw [ci_len] at hr
    refine (rset_ok N R' a n c ra rn rc w h.net hl hG h.roots hr hrb).mono ?_
    rintro e w' ⟨v, L, rfl, hB, ho, hE⟩
    obtain ⟨av, cv, rfl, _⟩ := own_slice ho
    refine ⟨L, 0, av, cv, .inr ⟨N, R', rfl, rfl, hG, hB, rfl⟩, by rw [hB.len], own_vs ho, by rw [hB.len]; exact hG.len, hE⟩
  · refine (rset_bad a n c ra rn rc M R w h.net h.len h.roots h.rlen (by omega) he).mono ?_
    rintro e w' ⟨rfl, rfl⟩
    exact ⟨[], _, none, 0, .inl ⟨he, rfl, rfl⟩, rfl, .inl rfl, by simp, Ext.refl _ _⟩
theorem way_u (a : Option Addr) (n c : Nat) (ra : Option Addr) (rn rc : Nat) (x : Int) (M : List (List Int)) (R : List Int) (w : World) (h : Arg w a n ra rn M R) : Calls Try.prog 14 #[.slice a n c, .slice ra rn rc, .int .i64 x] w (UI w (PW M R x)) := by
  have hrb := h.rb
  by_cases he : errB M R [x] = 0
  · obtain ⟨N, R', t, rfl, rfl, rfl, hG, ht⟩ := node_of he
    have hl := h.len; rw [cn_len] at hl
    have hr := h.rlen; rw [ci_len] at hr
    refine (way_any N R' t a n c ra rn rc w h.net hl hG h.roots hr (by omega) (by omega)).mono ?_
    rintro e w' (⟨u, av, cv, hB, hul, rfl, ho, hE⟩ | ⟨hno, rfl, hE⟩)
    · refine ⟨ci u, 0, av, cv, .inr ⟨N, R', t, rfl, rfl, rfl, hG, ht, .inl ⟨u, hB, hul, rfl, rfl⟩⟩, by rw [ci_len], own_vs ho, by rw [ci_len]; have := hG.len; omega, hE⟩
    · exact ⟨[], 4, none, 0, .inr ⟨N, R', t, rfl, rfl, rfl, hG, ht, .inr ⟨hno, rfl, rfl⟩⟩, rfl, .inl rfl, by simp, hE⟩
  · refine (way_bad a n c ra rn rc x M R w h.net h.len h.roots h.rlen (by omega) he).mono ?_
    rintro e w' ⟨rfl, hE⟩
    exact ⟨[], _, none, 0, .inl ⟨he, rfl, rfl⟩, rfl, .inl rfl, by simp, hE⟩
/-- The first way is not longer than the nodes and one, whoever found it. -/
def PW' (M : List (List Int)) (R : List Int) (x : Int) (xs : List Int) (er : Int) : Prop :=
  (errB M R [x] ≠ 0 ∧ xs = [] ∧ er = errB M R [x]) ∨ ∃ N R', ∃ t : Nat, M = cn N ∧ R = ci R' ∧ x = t ∧ Good N R' ∧ t < N.length ∧ ((∃ u, Best N R' t u ∧ xs = ci u ∧ er = 0) ∨ (¬ Rch N R' (-1) t ∧ xs = [] ∧ er = 4))
theorem PW'.det {M : List (List Int)} {R : List Int} {x : Int} {L L' : List Int} {er er' : Int} (h : PW M R x L er) (k : PW' M R x L' er') : L = L' ∧ er = er' := by
  rcases h with ⟨h1, rfl, rfl⟩ | ⟨N, R1, t, rfl, rfl, rfl, hG, ht, hc⟩
  · rcases k with ⟨_, rfl, rfl⟩ | ⟨N, R1, t, rfl, rfl, rfl, hG, ht, _⟩
    · exact ⟨rfl, rfl⟩
    · exact absurd (good1 hG ht) h1
  · rcases k with ⟨k1, _⟩ | ⟨N', R2, t', e1, e2, e3, _, _, kc⟩
    · exact absurd (good1 hG ht) k1
    · have e4 : t = t' := by omega
      subst e4
      rw [← cn_inj e1, ← ci_inj e2] at kc
      rcases hc with ⟨u, hu, _, rfl, rfl⟩ | ⟨hn, rfl, rfl⟩
      · rcases kc with ⟨v, hv, rfl, rfl⟩ | ⟨hn, _⟩
        · rw [hu.det hv]; exact ⟨rfl, rfl⟩
        · exact absurd hu.wy.rch hn
      · rcases kc with ⟨v, hv, _⟩ | ⟨_, rfl, rfl⟩
        · exact absurd hv.wy.rch hn
        · exact ⟨rfl, rfl⟩
def UJ (w : World) (P : List Int → Int → Prop) (e : Ending) (w' : World) : Prop := ∃ L er a c, P L er ∧ e = .returned (.tuple #[.slice a L.length c, .int .i64 er]) ∧ Is w' a L ∧ Ext [] w w'
theorem rway_u (a : Option Addr) (n c : Nat) (ra : Option Addr) (rn rc : Nat) (x : Int) (M : List (List Int)) (R : List Int) (w : World) (h : Arg w a n ra rn M R) : Calls Try.prog 15 #[.slice a n c, .slice ra rn rc, .int .i64 x] w (UJ w (PW' M R x)) := by
  have hrb := h.rb
  by_cases he : errB M R [x] = 0
  · obtain ⟨N, R', t, rfl, rfl, rfl, hG, ht⟩ := node_of he
    have hl := h.len; rw [cn_len] at hl
    have hr := h.rlen; rw [ci_len] at hr
    refine (rway_any N R' t a n c ra rn rc w h.net hl hG h.roots hr hrb (by omega)).mono ?_
    rintro e w' (⟨u, av, cv, hB, rfl, ho, hE⟩ | ⟨hno, rfl, hE⟩)
    · exact ⟨ci u, 0, av, cv, .inr ⟨N, R', t, rfl, rfl, rfl, hG, ht, .inl ⟨u, hB, rfl, rfl⟩⟩, by rw [ci_len], ho, hE⟩
    · exact ⟨[], 4, none, 0, .inr ⟨N, R', t, rfl, rfl, rfl, hG, ht, .inr ⟨hno, rfl, rfl⟩⟩, rfl, .inl rfl, hE⟩
  · refine (rway_bad a n c ra rn rc x M R w h.net h.len h.roots h.rlen hrb he).mono ?_
    rintro e w' ⟨rfl, hE⟩
    exact ⟨[], _, none, 0, .inl ⟨he, rfl, rfl⟩, rfl, .inl rfl, hE⟩
theorem lost_u (a : Option Addr) (n c : Nat) (ra : Option Addr) (rn rc : Nat) (x : Int) (M : List (List Int)) (R : List Int) (w : World) (h : Arg w a n ra rn M R) : Calls Try.prog 18 #[.slice a n c, .slice ra rn rc, .int .i64 x] w (UI w (PL M R x)) := by
  have hrb := h.rb
  by_cases he : errB M R [x] = 0
  · obtain ⟨N, R', t, rfl, rfl, rfl, hG, ht⟩ := node_of he
    have hl := h.len; rw [cn_len] at hl
    have hr := h.rlen; rw [ci_len] at hr
    refine (lost_any N R' t a n c ra rn rc w h.net hl hG h.roots hr (by omega) (by omega)).mono ?_
    rintro e w' ⟨L1, L2, av, cv, hB1, hB2, rfl, ho, hE⟩
    exact ⟨ci (lostOf L1 L2 N.length), 0, av, cv, .inr ⟨N, R', t, rfl, rfl, rfl, hG, ht, L1, L2, hB1, hB2, rfl, rfl⟩, by rw [ci_len], own_vs ho, by rw [ci_len]; have := lostOf_len L1 L2 N.length; have := hG.len; omega, hE⟩
  · refine (lost_bad a n c ra rn rc x M R w h.net h.len h.roots h.rlen (by omega) he).mono ?_
    rintro e w' ⟨rfl, hE⟩
    exact ⟨[], _, none, 0, .inl ⟨he, rfl, rfl⟩, rfl, .inl rfl, by simp, hE⟩
theorem rlost_u (a : Option Addr) (n c : Nat) (ra : Option Addr) (rn rc : Nat) (x : Int) (M : List (List Int)) (R : List Int) (w : World) (h : Arg w a n ra rn M R) : Calls Try.prog 19 #[.slice a n c, .slice ra rn rc, .int .i64 x] w (UI w (PL M R x)) := by
  have hrb := h.rb
  by_cases he : errB M R [x] = 0
  · obtain ⟨N, R', t, rfl, rfl, rfl, hG, ht⟩ := node_of he
    have hl := h.len; rw [cn_len] at hl
    have hr := h.rlen; rw [ci_len] at hr
    refine (rlost_any N R' t a n c ra rn rc w h.net hl hG h.roots hr hrb (by omega)).mono ?_
    rintro e w' ⟨L1, L2, av, cv, hB1, hB2, rfl, ho, hE⟩
    exact ⟨ci (lostOf L1 L2 N.length), 0, av, cv, .inr ⟨N, R', t, rfl, rfl, rfl, hG, ht, L1, L2, hB1, hB2, rfl, rfl⟩, by rw [ci_len], own_vs ho, by rw [ci_len]; have := lostOf_len L1 L2 N.length; have := hG.len; omega, hE⟩
  · refine (rlost_bad a n c ra rn rc x M R w h.net h.len h.roots h.rlen hrb he).mono ?_
    rintro e w' ⟨rfl, hE⟩
    exact ⟨[], _, none, 0, .inl ⟨he, rfl, rfl⟩, rfl, .inl rfl, by simp, hE⟩

/-- The error that Order answers. -/
theorem order_u (a : Option Addr) (n c : Nat) (ra : Option Addr) (rn rc : Nat) (M : List (List Int)) (R : List Int) (w : World) (h : Arg w a n ra rn M R) : Calls Try.prog 20 #[.slice a n c, .slice ra rn rc] w fun e w' => ∃ v, e = .returned (.tuple #[v, .int .i64 (errB M R [])]) ∧ Ext [] w w' := by
  have hrb := h.rb
  by_cases he : errB M R [] = 0
  · obtain ⟨N, R', T', rfl, rfl, _, hG, _⟩ := err_good he
    have hl := h.len; rw [cn_len] at hl
    have hr := h.rlen; rw [ci_len] at hr
    refine (order_ok N R' a n c ra rn rc w h.net hl hG h.roots hr (by omega)).mono ?_
    rintro e w' ⟨O, _, Bn, v, rfl, _, _, _, _, hE⟩
    exact ⟨_, by rw [good0 hG], hE⟩
  · refine (order_bad a n c ra rn rc M R w h.net h.len h.roots h.rlen (by omega) he).mono ?_
    rintro e w' ⟨Bn, v, rfl, _, _, _, _, hE⟩
    exact ⟨_, rfl, hE⟩
/-- What the statement's own order tells. -/
theorem told_u (a : Option Addr) (n c : Nat) (ra : Option Addr) (rn rc : Nat) (M : List (List Int)) (R : List Int) (w : World) (h : Arg w a n ra rn M R) : Calls Try.prog 21 #[.slice a n c, .slice ra rn rc] w fun e w' => ∃ L a c, PO M R L (errB M R []) ∧ e = .returned (.tuple #[.slice a L.length c, .bool true]) ∧ Is w' a L ∧ L.length ≤ 65537 ∧ Ext [] w w' := by
  have hrb := h.rb
  by_cases he : errB M R [] = 0
  · obtain ⟨N, R', T', rfl, rfl, _, hG, _⟩ := err_good he
    have hl := h.len; rw [cn_len] at hl
    have hr := h.rlen; rw [ci_len] at hr
    obtain ⟨O, hO⟩ := ord_exists hG (-1)
    refine (told_ok hO a n c ra rn rc w h.net hl hG h.roots hr (by omega)).mono ?_
    rintro e w' ⟨v, rfl, hL, _, hE⟩
    obtain ⟨av, cv, rfl, _⟩ := hL.slice
    exact ⟨ci O, av, cv, .inr ⟨N, R', rfl, rfl, hG, O, hO, rfl, good0 hG⟩, rfl, own_vs hL, by rw [ci_len]; have := hO.len; have := hG.len; omega, hE⟩
  · refine (told_bad a n c ra rn rc M R w h.net h.len h.roots h.rlen (by omega) he).mono ?_
    rintro e w' ⟨v, rfl, hL, _, hE⟩
    obtain ⟨av, cv, rfl, _⟩ := hL.slice
    exact ⟨[], av, cv, .inl ⟨he, rfl, rfl⟩, rfl, .inl rfl, by simp, hE⟩
theorem rorder_u (a : Option Addr) (n c : Nat) (ra : Option Addr) (rn rc : Nat) (M : List (List Int)) (R : List Int) (w : World) (h : Arg w a n ra rn M R) : Calls Try.prog 22 #[.slice a n c, .slice ra rn rc] w (UJ w (PO M R)) := by
  have hrb := h.rb
  by_cases he : errB M R [] = 0
  · obtain ⟨N, R', T', rfl, rfl, _, hG, _⟩ := err_good he
    have hl := h.len; rw [cn_len] at hl
    have hr := h.rlen; rw [ci_len] at hr
    refine (rorder_ok N R' a n c ra rn rc w h.net hl hG h.roots hr hrb).mono ?_
    rintro e w' ⟨O, av, cv, hO, rfl, hI, hE⟩
    exact ⟨ci O, 0, av, cv, .inr ⟨N, R', rfl, rfl, hG, O, hO, rfl, rfl⟩, by rw [ci_len], hI, hE⟩
  · refine (rorder_bad a n c ra rn rc M R w h.net h.len h.roots h.rlen (by omega) he).mono ?_
    rintro e w' ⟨rfl, rfl⟩
    exact ⟨[], _, none, 0, .inl ⟨he, rfl, rfl⟩, rfl, .inl rfl, Ext.refl _ _⟩

end Go.Proofs.Ytfjabjnajcfamaa

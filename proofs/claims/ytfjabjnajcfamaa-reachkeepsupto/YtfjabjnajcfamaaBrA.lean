/-
  What a search by the ways' length has in memory; no statement is proved here.
-/
import Derived.Test.YtfjabjnajcfamaaBfs
import Derived.Test.YtfjabjnajcfamaaLib
import Derived.Test.YtfjabjnajcfamaaSet
namespace Go.Proofs.Ytfjabjnajcfamaa
open Go.RowKit

/-! ### sorted lists -/

def srtN (B : List Nat) : List Nat := B.mergeSort fun x y => decide (x ≤ y)
theorem srtN_perm (B : List Nat) : (srtN B).Perm B := List.mergeSort_perm _ _
theorem srtN_mem (B : List Nat) (x : Nat) : x ∈ srtN B ↔ x ∈ B := (srtN_perm B).mem_iff
theorem srtN_len (B : List Nat) : (srtN B).length = B.length := (srtN_perm B).length_eq
theorem srt_ci (B : List Nat) : srt (ci B) = ci (srtN B) := by
  unfold srt srtN ci
  rw [List.map_mergeSort (s := fun x y => decide (x ≤ y))]
  intro a _ b _
  simp
theorem srtN_rise {B : List Nat} (h : B.Nodup) (i j : Nat) (hij : i < j) (hj : j < (srtN B).length) : qa (srtN B) i < qa (srtN B) j := by
  have h1 : (srtN B).Pairwise (fun x y => decide (x ≤ y) = true) := List.pairwise_mergeSort (le := fun (x y : Nat) => decide (x ≤ y)) (fun a b c => by simp; omega) (fun a b => by simp; omega) B
  have h2 : (srtN B).Nodup := (srtN_perm B).nodup_iff.2 h
  rw [List.nodup_iff_pairwise_ne] at h2
  have h3 := List.pairwise_iff_getElem.1 h1 i j (by omega) hj hij
  have h4 := List.pairwise_iff_getElem.1 h2 i j (by omega) hj hij
  simp only [decide_eq_true_eq] at h3
  have e1 : qa (srtN B) i = (srtN B)[i] := by simp [qa, show i < (srtN B).length by omega]
  have e2 : qa (srtN B) j = (srtN B)[j] := by simp [qa, hj]
  rw [e1, e2]
  omega

/-! ### memory -/

structure Bm (w0 : World) (g b0 n : Nat) (W : World) (A : List Int) (Q : List Nat) (v : Value) : Prop where
  ext : Ext [] w0 W
  lo : w0.heap.size ≤ g
  gb : g < b0
  bw : b0 ≤ W.heap.size
  al : A.length = n
  ar : W.heap[g]? = some (.cells (A.map (Value.int .i64)).toArray 3 (0, 0))
  qr : W.ownsRow b0 3 1 v Q.length ((ci Q).map (Value.int .i64))

theorem Bm.cell {w0 : World} {g b0 n : Nat} {W : World} {A : List Int} {Q : List Nat} {v : Value} (h : Bm w0 g b0 n W A Q v) {x : Nat} (hx : x < n) : W.cell? ⟨g, x, none⟩ = some (.int .i64 (A.getD x 0)) := by
  have := h.al
  rw [cell_of_row _ _ _ _ _ _ h.ar]
  simp [show x < A.length by omega]
theorem Bm.frozen {w0 : World} {g b0 n : Nat} {W : World} {A : List Int} {Q : List Nat} {v : Value} (h : Bm w0 g b0 n W A Q v) (x : Nat) : W.frozen? ⟨g, x, none⟩ = false := frozen_of_row _ _ _ _ _ h.ar
theorem Bm.ne {w0 : World} {g b0 n : Nat} {W : World} {A : List Int} {Q : List Nat} {v : Value} (h : Bm w0 g b0 n W A Q v) : v.ownBlock ≠ some g := fun e => by
  have := own_lt h.qr g e
  have := h.gb
  omega
theorem Bm.set {w0 : World} {g b0 n : Nat} {W : World} {A : List Int} {Q : List Nat} {v : Value} (h : Bm w0 g b0 n W A Q v) (x : Nat) (y : Int) : Bm w0 g b0 n (W.setCell ⟨g, x, none⟩ (.int .i64 y)) (A.set x y) Q v := by
  have hE := Ext.setCell [g] W ⟨g, x, none⟩ (.int .i64 y) (by simp)
  have hlo := h.lo
  refine ⟨h.ext.on hE (by simp; omega), h.lo, h.gb, by simpa using h.bw, by simp [h.al], ?_, own_keep h.qr hE (by simpa using h.ne)⟩
  rw [set_row h.ar, List.map_set, List.setIfInBounds_toArray]
theorem Bm.app {w0 : World} {g b0 n : Nat} {W W1 W2 : World} {A : List Int} {Q Q' : List Nat} {v v' : Value} (h : Bm w0 g b0 n W A Q v) (h1 : Ext [] W W1) (h2 : Ext v.ownBlock.toList W1 W2) (ho : W2.ownsRow b0 3 1 v' Q'.length ((ci Q').map (Value.int .i64))) : Bm w0 g b0 n W2 A Q' v' := by
  have hlt := own_lt h.qr
  have hgb := h.gb
  have hlo := h.lo
  have hno : g ∉ v.ownBlock.toList := by simpa using h.ne
  refine ⟨(h.ext.trans h1).on h2 (fun k hk => by have := hlt k (by simpa using hk); omega), h.lo, h.gb, ?_, h.al, h2.keep (h1.keep h.ar (by simp)) hno, ho⟩
  have := h1.size
  have := h2.size
  have := h.bw
  omega
theorem Bm.keep0 {w0 : World} {g b0 n : Nat} {W W1 : World} {A : List Int} {Q : List Nat} {v : Value} (h : Bm w0 g b0 n W A Q v) (h1 : Ext [] W W1) : Bm w0 g b0 n W1 A Q v := ⟨h.ext.trans h1, h.lo, h.gb, Nat.le_trans h.bw h1.size, h.al, h1.keep h.ar (by simp), own_keep0 h.qr h1⟩

/-- A node is put behind the line. -/
theorem Bm.put {w0 : World} {g b0 n : Nat} {W : World} {A : List Int} {Q : List Nat} {v : Value} (h : Bm w0 g b0 n W A Q v) (x : Nat) (hl : Q.length ≤ 65536) :
    ∃ v' W2, (Builtin.append_ #[23, 23] 23 #[v, .slice (some ⟨W.heap.size, 0, none⟩) 1 1]).run Try.prog (W.alloc (.cells #[.int .i64 x] 3)) = .ok v' W2 ∧ Bm w0 g b0 n W2 A (Q ++ [x]) v' := by
  obtain ⟨i3, hi3, hz3, hs3, hy3⟩ := info_parts info3
  have hEa := Ext.alloc [] W (.cells #[.int .i64 x] 3)
  have hna : ∀ (j : Nat) (u : Value), [Value.int .i64 x][j]? = some u → (W.alloc (.cells #[.int .i64 x] 3)).cell? (Addr.add ⟨W.heap.size, 0, none⟩ j) = some u := fun j u hu => by
    rw [Addr.add_lit, cell_of_row _ _ _ _ _ _ (heap_alloc_new W _), Nat.zero_add, ← hu]; simp
  obtain ⟨v', W2, hr, ho2, hg2, _⟩ := run_append_own (P := Try.prog) (W.alloc (.cells #[.int .i64 x] 3)) b0 23 23 3 i3 _ 1 8 Try.underlying23 hi3 hz3 hs3 hy3 rfl (by decide) v Q.length _ (own_keep0 h.qr hEa) ⟨W.heap.size, 0, none⟩ 1 1 [.int .i64 x] rfl hna (by simp [Value.oneCell']) (by unfold maxLen; omega) (by omega) (by have := h.bw; simp; omega)
  exact ⟨v', W2, hr, h.app hEa (ext_grown hg2) (by simpa [ci] using ho2)⟩

/-- The end of the line, sorted. -/
theorem Bm.sort {w0 : World} {g b0 n : Nat} {W : World} {A : List Int} {Q B : List Nat} {v : Value} (h : Bm w0 g b0 n W A (Q ++ B) v) (hl : (Q ++ B).length ≤ 65536) (p : Option Addr) (c : Nat) (hp : B ≠ [] → ∀ gq, v.ownBlock = some gq → p = some ⟨gq, Q.length, none⟩) :
    Calls Try.prog 44 #[.slice p B.length c] W fun e W' => e = .returned (.tuple #[]) ∧ Bm w0 g b0 n W' A (Q ++ srtN B) v := by
  by_cases h0 : B = []
  · subst h0
    refine (Try.slices_Sort_int_none p c W).mono ?_
    rintro e w' ⟨rfl, rfl⟩
    exact ⟨rfl, by simpa [srtN] using h⟩
  · have hq := h.qr
    rcases hq.2 with ⟨_, h2⟩ | ⟨gq, cap, cur, rfl, _⟩
    · have : 0 < B.length := List.length_pos_iff.2 h0
      simp at h2
      exact absurd h2.2 h0
    · have hci : ci (Q ++ B) = ci Q ++ ci B := ci_app Q B
      have hlen : (ci Q ++ ci B).length = (Q ++ B).length := by rw [← hci, ci_len]
      have ho : W.ownsRow b0 3 1 (.slice (some ⟨gq, 0, none⟩) (ci Q ++ ci B).length cap) (ci Q ++ ci B).length ((ci Q ++ ci B).map (Value.int .i64)) := by
        rw [hlen, ← hci]; exact hq
      have K := sort_any b0 gq cap c p (ci Q) (ci B) W ho (by rw [hlen]; omega) (fun _ => by rw [ci_len]; exact hp h0 gq rfl)
      rw [ci_len] at K
      refine K.mono ?_
      rintro e W' ⟨rfl, ho', hE⟩
      refine ⟨rfl, h.app (Ext.refl _ _) hE ?_⟩
      rw [hlen, srt_ci, ← ci_app] at ho'
      have hl2 : (Q ++ srtN B).length = (Q ++ B).length := by simp [srtN_len]
      rw [hl2]
      exact ho'

end Go.Proofs.Ytfjabjnajcfamaa

/-
  What one call of the played script does: the arena and the plain list of bytes answer alike and hold the same bytes behind it; no statement is proved here.
-/
import Derived.Test.YtnnagkinkckoeaaRef
import Derived.Deep.RegionHeld3
namespace Go.Proofs.Ytnnagkinkckoeaa
open Go.ChangeShapes Go.WideShapes Go.ChangeAt Go.RowKit

theorem Ext.cell {S : List Nat} {w w' : World} (h : Ext S w w') {a : Addr} {v : Value} (hc : w.cell? a = some v) (hs : a.block ∉ S) : w'.cell? a = some v :=
  (World.cell?_of_block (h.block a.block (block_lt_of_cell hc) hs)).trans hc

/-- Where nothing lies in a slice it is kept, wherever it points. -/
theorem Sl.keepIf {S : List Nat} {w w' : World} {a : Option Addr} {xs : List Int} (h : Sl w a xs) (e : Ext S w w') (hs : ∀ ad, a = some ad → xs ≠ [] → ad.block ∉ S) : Sl w' a xs := by
  by_cases h0 : xs = []
  · exact ⟨.inl h0, h.ok⟩
  · exact h.keep e (fun ad had => hs ad had h0)

/-! ### each call, whatever its outcome -/

def effS (L : List Int) (i n v : Int) : List Int := if nerr L.length i n = 0 then put L i.toNat (byteOf v) n.toNat else L
def effW (L : List Int) (i : Int) (ys : List Int) : List Int := if perr L.length i ys.length = 0 then put L i.toNat (fun j => ys.getD j 0) ys.length else L
def effC (L : List Int) (i n : Int) : List Int := if perr L.length i n = 0 then put L i.toNat (fun _ => 0) n.toNat else L
def effM (L : List Int) (t i n : Int) : List Int := if merr L.length t i n = 0 then put L t.toNat (fun j => (cut L i.toNat n.toNat).getD j 0) n.toNat else L
def valL (L : List Int) (i n : Int) : Int := if nerr L.length i n = 0 then numAt L i.toNat n.toNat else 0

theorem len_effS (L : List Int) (i n v : Int) : (effS L i n v).length = L.length := by unfold effS; split; exact length_put _ _ _ _; rfl
theorem len_effW (L : List Int) (i : Int) (ys : List Int) : (effW L i ys).length = L.length := by unfold effW; split; exact length_put _ _ _ _; rfl
theorem len_effC (L : List Int) (i n : Int) : (effC L i n).length = L.length := by unfold effC; split; exact length_put _ _ _ _; rfl
theorem len_effM (L : List Int) (t i n : Int) : (effM L t i n).length = L.length := by unfold effM; split; exact length_put _ _ _ _; rfl

theorem merr_ok {l : Nat} {t i n : Int} (h : merr l t i n = 0) : ∃ T I N : Nat, t = T ∧ i = I ∧ n = N ∧ I + N ≤ l ∧ T + N ≤ l := by
  unfold merr at h
  split at h
  · rename_i hz
    obtain ⟨I, N, rfl, rfl, h1⟩ := perr_ok hz
    obtain ⟨T, M, rfl, hM, h2⟩ := perr_ok h
    exact ⟨T, I, N, rfl, rfl, rfl, h1, by omega⟩
  · exact absurd h ‹_›

/-- Answer E; the arena's bytes are L' now. -/
def ArPost (w : World) (p g : Nat) (E : Int) (L' : List Int) (e : Ending) (w' : World) : Prop := e = .returned (.int .i64 E) ∧ Ar w' p g L' ∧ Ext [g] w w'
/-- Answer E; the row's bytes are L' now. -/
def RwPost (w : World) (r : Nat) (E : Int) (L' : List Int) (e : Ending) (w' : World) : Prop := e = .returned (.int .i64 E) ∧ Row w' r L' ∧ Ext [r] w w'

theorem store_all (i n v : Int) (hi : I64 i) (hv : 0 ≤ v ∧ v < 18446744073709551616) (p g : Nat) (w : World) (L : List Int) (hA : Ar w p g L) :
    Calls Try.prog 16 #[.pointer (some ⟨p, 0, none⟩), .int .i64 i, .int .i64 n, .int .u64 v] w (ArPost w p g (nerr L.length i n) (effS L i n v)) := by
  unfold effS
  split
  · rename_i h
    obtain ⟨I, N, rfl, rfl, hb, hn⟩ := nerr_ok h
    refine (store_ok I N v hv p g w L hA hb hn).mono ?_
    rintro e w' ⟨rfl, h1, h2⟩
    exact ⟨by rw [h], h1, h2⟩
  · rename_i h
    refine (store_err i n v p g w L hA hi _ rfl h).mono ?_
    rintro e w' ⟨rfl, rfl⟩
    exact ⟨rfl, hA, Ext.refl _ _⟩

theorem rstore_all (i n v : Int) (hi : I64 i) (hv : 0 ≤ v ∧ v < 18446744073709551616) (r l : Nat) (w : World) (L : List Int) (hR : Row w r L) (hL : L.length = l) (hl : l ≤ 1048576) :
    Calls Try.prog 28 #[.slice (some ⟨r, 0, none⟩) l l, .int .i64 i, .int .i64 n, .int .u64 v] w (RwPost w r (nerr L.length i n) (effS L i n v)) := by
  unfold effS
  split
  · rename_i h
    obtain ⟨I, N, rfl, rfl, hb, hn⟩ := nerr_ok h
    refine (rstore_ok r l L l I N v hv w hR hL hl (by omega) hn).mono ?_
    rintro e w' ⟨rfl, h1, h2⟩
    exact ⟨by rw [h], h1, h2⟩
  · rename_i h
    refine (rstore_err (some ⟨r, 0, none⟩) l l i n v w hl hi _ (by rw [hL]) h).mono ?_
    rintro e w' ⟨rfl, rfl⟩
    exact ⟨rfl, hR, Ext.refl _ _⟩

theorem write_all (i : Int) (hi : I64 i) (a : Option Addr) (n c : Nat) (ys : List Int) (p g : Nat) (w : World) (L : List Int) (hA : Ar w p g L) (hS : Sl w a ys) (hn : ys.length = n) :
    Calls Try.prog 19 #[.pointer (some ⟨p, 0, none⟩), .int .i64 i, .slice a n c] w (ArPost w p g (perr L.length i n) (effW L i ys)) := by
  subst hn
  unfold effW
  split
  · rename_i h
    obtain ⟨I, N, rfl, hN, hb⟩ := perr_ok h
    refine (write_ok I a ys.length c ys p g w L hA hS rfl (by omega)).mono ?_
    rintro e w' ⟨rfl, h1, h2⟩
    exact ⟨by rw [h], h1, h2⟩
  · rename_i h
    refine (write_err i a ys.length c p g w L hA hi _ rfl h).mono ?_
    rintro e w' ⟨rfl, rfl⟩
    exact ⟨rfl, hA, Ext.refl _ _⟩

theorem rwrite_all (i : Int) (hi : I64 i) (a : Option Addr) (n c : Nat) (ys : List Int) (r l : Nat) (w : World) (L : List Int) (hR : Row w r L) (hL : L.length = l) (hl : l ≤ 1048576) (hS : Sl w a ys) (hn : ys.length = n) (hne : ∀ ad, a = some ad → ys ≠ [] → ad.block ≠ r) :
    Calls Try.prog 25 #[.slice (some ⟨r, 0, none⟩) l l, .int .i64 i, .slice a n c] w (RwPost w r (perr L.length i n) (effW L i ys)) := by
  subst hn
  unfold effW
  split
  · rename_i h
    obtain ⟨I, N, rfl, hN, hb⟩ := perr_ok h
    refine (rwrite_ok r l L l I a ys.length c ys w hR hL hl (by omega) hS rfl hne).mono ?_
    rintro e w' ⟨rfl, h1, h2⟩
    exact ⟨by rw [h], h1, h2⟩
  · rename_i h
    refine (rwrite_err (some ⟨r, 0, none⟩) l l i a ys.length c w hl hi _ (by rw [hL]) h).mono ?_
    rintro e w' ⟨rfl, rfl⟩
    exact ⟨rfl, hR, Ext.refl _ _⟩

theorem clear_all (i n : Int) (hi : I64 i) (p g : Nat) (w : World) (L : List Int) (hA : Ar w p g L) :
    Calls Try.prog 20 #[.pointer (some ⟨p, 0, none⟩), .int .i64 i, .int .i64 n] w (ArPost w p g (perr L.length i n) (effC L i n)) := by
  unfold effC
  split
  · rename_i h
    obtain ⟨I, N, rfl, rfl, hb⟩ := perr_ok h
    refine (clear_ok I N p g w L hA hb).mono ?_
    rintro e w' ⟨rfl, h1, h2⟩
    exact ⟨by rw [h], h1, h2⟩
  · rename_i h
    refine (clear_err i n p g w L hA hi _ rfl h).mono ?_
    rintro e w' ⟨rfl, rfl⟩
    exact ⟨rfl, hA, Ext.refl _ _⟩

theorem rclear_all (i n : Int) (hi : I64 i) (r l : Nat) (w : World) (L : List Int) (hR : Row w r L) (hL : L.length = l) (hl : l ≤ 1048576) :
    Calls Try.prog 27 #[.slice (some ⟨r, 0, none⟩) l l, .int .i64 i, .int .i64 n] w (RwPost w r (perr L.length i n) (effC L i n)) := by
  unfold effC
  split
  · rename_i h
    obtain ⟨I, N, rfl, rfl, hb⟩ := perr_ok h
    refine (rclear_ok r l L l I N w hR hL hl (by omega)).mono ?_
    rintro e w' ⟨rfl, h1, h2⟩
    exact ⟨by rw [h], h1, h2⟩
  · rename_i h
    refine (rclear_err (some ⟨r, 0, none⟩) l l i n w hl hi _ (by rw [hL]) h).mono ?_
    rintro e w' ⟨rfl, rfl⟩
    exact ⟨rfl, hR, Ext.refl _ _⟩

theorem move_all (t i n : Int) (ht : I64 t) (hi : I64 i) (p g : Nat) (w : World) (L : List Int) (hA : Ar w p g L) :
    Calls Try.prog 18 #[.pointer (some ⟨p, 0, none⟩), .int .i64 t, .int .i64 i, .int .i64 n] w (ArPost w p g (merr L.length t i n) (effM L t i n)) := by
  unfold effM
  split
  · rename_i h
    obtain ⟨T, I, N, rfl, rfl, rfl, h1, h2⟩ := merr_ok h
    refine (move_ok T I N p g w L hA h1 h2).mono ?_
    rintro e w' ⟨rfl, h1, h2⟩
    exact ⟨by rw [h], h1, h2⟩
  · rename_i h
    refine (move_err t i n p g w L hA hi ht _ rfl h).mono ?_
    rintro e w' ⟨rfl, rfl⟩
    exact ⟨rfl, hA, Ext.refl _ _⟩

theorem rmove_all (t i n : Int) (ht : I64 t) (hi : I64 i) (r l : Nat) (w : World) (L : List Int) (hR : Row w r L) (hB : Bts L) (hL : L.length = l) (hl : l ≤ 1048576) :
    Calls Try.prog 26 #[.slice (some ⟨r, 0, none⟩) l l, .int .i64 t, .int .i64 i, .int .i64 n] w (RwPost w r (merr L.length t i n) (effM L t i n)) := by
  unfold effM
  split
  · rename_i h
    obtain ⟨T, I, N, rfl, rfl, rfl, h1, h2⟩ := merr_ok h
    refine (rmove_ok r L l T I N w hR hB hL hl (by omega) (by omega)).mono ?_
    rintro e w' ⟨rfl, h1, h2⟩
    exact ⟨by rw [h], h1, h2⟩
  · rename_i h
    refine (rmove_err r L l t i n w hR hB hL hl hi ht _ (by rw [hL]) h).mono ?_
    rintro e w' ⟨rfl, h1⟩
    exact ⟨rfl, hR.keep h1 (by simp), h1.mono (by simp)⟩

theorem load_all (i n : Int) (hi : I64 i) (p g : Nat) (w : World) (L : List Int) (hA : Ar w p g L) :
    Calls Try.prog 17 #[.pointer (some ⟨p, 0, none⟩), .int .i64 i, .int .i64 n] w fun e w' => e = .returned (.tuple #[.int .u64 (valL L i n), .int .i64 (nerr L.length i n)]) ∧ w' = w := by
  unfold valL
  split
  · rename_i h
    obtain ⟨I, N, rfl, rfl, hb, hn⟩ := nerr_ok h
    rw [h]
    exact load_ok I N p g w L hA hb hn
  · exact load_err i n p g w L hA hi _ rfl ‹_›

theorem rload_all (i n : Int) (hi : I64 i) (r l : Nat) (w : World) (L : List Int) (hR : Row w r L) (hB : Bts L) (hL : L.length = l) (hl : l ≤ 1048576) :
    Calls Try.prog 23 #[.slice (some ⟨r, 0, none⟩) l l, .int .i64 i, .int .i64 n] w fun e w' => e = .returned (.tuple #[.int .u64 (valL L i n), .int .i64 (nerr L.length i n)]) ∧ w' = w := by
  unfold valL
  split
  · rename_i h
    obtain ⟨I, N, rfl, rfl, hb, hn⟩ := nerr_ok h
    rw [h]
    exact rload_ok r l L l I N w hR hB hL hl (by omega) hn
  · exact rload_err (some ⟨r, 0, none⟩) l l i n w hl hi _ (by rw [hL]) ‹_›

end Go.Proofs.Ytnnagkinkckoeaa

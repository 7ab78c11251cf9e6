/-
  The reference's Fold: what it asks of numbers and lists; no statement is proved here.
-/
import Derived.Test.YtpjcbpgfbhlioaaDoorREqE
namespace Go.Proofs.YtpjcbpgfbhlioaaDoor
open Go.RowKit

/-- A number of 64 bits. -/
def U (x : Int) : Prop := 0 ≤ x ∧ x < 18446744073709551616

theorem bits_U (x y : Int) : U (bits .xor .u64 x y) := by
  unfold bits U
  simp only [IntKind.wrap_u64]
  omega
theorem mix_U (x : Int) : U (mixI x) := bits_U _ _
theorem fold_U (h x : Int) : U (foldI h x) := mix_U _
theorem xor_zero {x : Int} (h : U x) : bits .xor .u64 x 0 = x := by
  have h1 : bits .xor .u64 x 0 = IntKind.u64.wrap ((BitVec.ofInt 64 x ^^^ BitVec.ofInt 64 0).toNat : Int) := rfl
  have h2 : BitVec.ofInt 64 x ^^^ BitVec.ofInt 64 0 = BitVec.ofInt 64 x := by
    rw [show BitVec.ofInt 64 0 = 0#64 from rfl, BitVec.xor_zero]
  rw [h1, h2, BitVec.toNat_ofInt, IntKind.wrap_u64]
  unfold U at h
  omega

/-- What Fold answers. -/
def fo (r : Option Int) : Int × Int := match r with | none => (0, 11) | some h => (h, 0)

theorem hsL_app {f : Int → Cl → Int → Option Int} : ∀ (a b : List Int) (v : List Cl) (h : Int), hsL f (a ++ b) v h = (hsL f a v h).bind (fun h' => hsL f b (v.drop a.length) h')
  | [], b, v, h => by simp [hsL]
  | k :: a, b, v, h => by
    rw [List.cons_append, hsL, hsL]
    cases f k (cAt v 0) h with
    | none => rfl
    | some h' =>
      show hsL f (a ++ b) v.tail h' = _
      rw [hsL_app a b v.tail h']
      cases v <;> simp
theorem hsL_take {f : Int → Cl → Int → Option Int} (ks : List Int) (v : List Cl) (n : Nat) (h : Int) (hn : ks.length ≤ n) : hsL f ks (v.take n) h = hsL f ks v h := by
  refine hsL_cong _ _ _ _ (fun i hi h' => ?_)
  have e : cAt (v.take n) i = cAt v i := by
    simp only [cAt, List.getD]
    rw [List.getElem?_take, if_pos (by omega)]
  rw [e]
theorem hsL_one {f : Int → Cl → Int → Option Int} (k : Int) (v : List Cl) (h : Int) : hsL f [k] v h = f k (cAt v 0) h := by
  rw [hsL]
  cases f k (cAt v 0) h <;> rfl
theorem hsL_U {f : Int → Cl → Int → Option Int} (hf : ∀ k c h h', U h → f k c h = some h' → U h') : ∀ (ks : List Int) (v : List Cl) (h h' : Int), U h → hsL f ks v h = some h' → U h'
  | [], _, h, h', hU, e => by cases e; exact hU
  | k :: ks, v, h, h', hU, e => by
    rw [hsL] at e
    cases hq : f k (cAt v 0) h with
    | none => rw [hq] at e; cases e
    | some x => rw [hq] at e; exact hsL_U hf ks v.tail x h' (hf _ _ _ _ hU hq) e
theorem hsV_U (ts : List Ty) (salt : Int) : ∀ (d : Nat) (t : Int) (v : List Cl) (h h' : Int), U h → hsV ts salt d t v h = some h' → U h'
  | 0, _, _, h, h', hU, e => by cases e; exact hU
  | d + 1, t, v, h, h', hU, e => by
    refine hsL_U (fun k c h h' hU e => ?_) _ _ _ _ hU e
    unfold hsC at e
    split at e
    · cases e; exact fold_U _ _
    · split at e
      · cases e; exact fold_U _ _
      · split at e
        · split at e
          · cases e; exact fold_U _ _
          · split at e
            · cases e
            · exact hsV_U ts salt d _ _ _ _ (fold_U _ _) e
        · cases e; exact fold_U _ _

/-- The reference's Fold of values of this depth. -/
def RfAt (ts : List Ty) (ta : Option Addr) (tn tc d : Nat) (salt : Int) (w0 : World) : Prop := ∀ (t : Nat) (a : Option Addr) (l : List Cl) (n c : Nat) (s : Int) (w : World), Ext [] w0 w → U s → t < tn → Cs d w a l → l.length = n → n ≤ c → Okv ts d (kinds ts t) l →
  Calls Tryd.prog 32 #[.slice ta tn tc, .int .i64 t, .slice a n c, .int .u64 s, .int .u64 salt] w (SayPost w (huV (fo (hsV ts salt d t l s))))

end Go.Proofs.YtpjcbpgfbhlioaaDoor

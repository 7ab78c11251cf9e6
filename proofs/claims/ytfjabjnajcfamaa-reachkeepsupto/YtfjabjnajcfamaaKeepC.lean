/-
  SameInts and Kept where both sides are the same: nothing but draws; a loop of two rounds over an iterator; no statement is proved here.
-/
import Derived.Test.YtfjabjnajcfamaaKeepB
import Derived.Sort.BigQuietIn
import Derived.Shelf.RegionOpen
import Derived.RangeFuncLeaves
namespace Go.Proofs.Ytfjabjnajcfamaa
open Go.RowKit

def DrPost (w : World) (v : Value) (e : Ending) (w' : World) : Prop := e = .returned v ∧ ∃ q, w' = w.drewN q

theorem same_dr (a b : Option Addr) (n c d : Nat) (xs : List Int) (w : World) (ha : Is w a xs) (hb : Is w b xs) (hn : xs.length = n) (hm : n ≤ 17592186044416) :
    Calls Try.prog 17 #[.slice a n c, .slice b n d] w (DrPost w (.bool true)) := by
  by_cases h0 : n = 0
  · subst h0
    go_enter Try.func17, Try.ntmps17
    go_wp2
    go_loop [5] (fun q => q = .int .i64 0) (fun _ => 0)
    case atStart => rfl
    case round =>
      subst hrel
      go_wp2
      go_ret
      exact ⟨rfl, 0, rfl⟩
  · have hne : xs ≠ [] := by rintro rfl; simp at hn; omega
    obtain ⟨b1, o1, rfl, hc1⟩ := ha.at_ hne
    obtain ⟨b2, o2, rfl, hc2⟩ := hb.at_ hne
    rw [hn] at hc1 hc2
    have H1 := hid hc1
    have H2 := hid hc2
    clear hc1 hc2 ha hb hn hne
    go_enter Try.func17, Try.ntmps17
    go_wp2
    go_loopw [5] (fun q wr => ∃ k m : Nat, q = .int .i64 k ∧ k ≤ n ∧ wr = w.drewN m) (fun q _ => (n - (intOf q)).toNat)
    case atStart => exact ⟨0, 0, rfl, Nat.zero_le _, rfl⟩
    case round =>
      obtain ⟨k, m, rfl, hk, rfl⟩ := hrel
      by_cases hkn : k < n
      · have hx := H1.out k hkn
        have hy := H2.out k hkn
        generalize xs.getD k 0 = x at *
        go_wp2
        go_quiet (fail)
        go_wp2
        go_roundw
        case rel => exact ⟨k + 1, _, by go_num, by omega, rfl⟩
        case measure => simp [intOf]; omega
      · go_wp2
        go_ret
        exact ⟨rfl, _, rfl⟩

theorem kept_dr (w0 w : World) (g k cap : Nat) (fs : List Int) (fb : Option Addr) (fd : Nat) (hR : Ry w0 w g k cap fs) (hF : Is w fb fs) (hk : fs.length = k) (hb : k ≤ 17592186044416) :
    Calls Try.prog 26 #[.slice (some ⟨g, 0, none⟩) k cap, .slice fb k fd] w (DrPost w (.bool true)) := by
  obtain ⟨hI, hc⟩ := hR.cell hk
  have hcap := hR.1
  have K := same_dr (some ⟨g, 0, none⟩) fb k cap fd fs w hI hF hk hb
  have HC := hid hc
  clear hI hc hR hF hk
  go_enter Try.func26, Try.ntmps26
  go_wp2_with fail
  go_loop [6] (fun u => ∃ i : Nat, u = .int .i64 (i : Nat) ∧ i ≤ 7) (fun u => (7 - (intOf u)).toNat)
  case atStart => exact ⟨0, rfl, by omega⟩
  case round =>
    obtain ⟨i, rfl, hi⟩ := hrel
    by_cases hi7 : i < 7
    · have hci := HC.out i hi7
      go_wp2_with fail
      go_round
      case rel => exact ⟨i + 1, by go_num, by omega⟩
      case measure => simp [intOf]; omega
    · go_wp2_with fail
      refine K.mono ?_
      clear K
      rintro e w1 ⟨rfl, q, rfl⟩
      go_wp2_with fail
      go_ret
      exact ⟨rfl, q, rfl⟩

/-- A loop of two rounds. -/
theorem wpIn_loop_two {F : Fence} {n : Nat} {P : Program} {C : Code} {Q : Exit → Act → World → Prop} {a : Act} {w : World} (I : Nat → Act → World → Prop) (h0 : I 0 a w) (hs : ∀ r a w, r < 2 → I r a w → C.wpIn F n P (Exit.then (I (r + 1)) Q) a w) (he : ∀ a w, I 2 a w → C.wpIn F n P (Exit.then (fun _ _ => False) Q) a w) : (Code.loop C).wpIn F n P Q a w := by
  refine wpIn_loop_rounds 3 ?_
  have h2 : ∀ a w, I 2 a w → Code.roundsIn F n P C Q 1 a w := he
  have h1 : ∀ a w, I 1 a w → Code.roundsIn F n P C Q 2 a w := fun a w h => Code.wpIn_mono (fun e a w q => by cases e <;> first | exact h2 _ _ q | exact q) (hs 1 a w (by omega) h)
  exact Code.wpIn_mono (fun e a w q => by cases e <;> first | exact h1 _ _ q | exact q) (hs 0 a w (by omega) h0)

/-- What code does, told once. -/
theorem wpIn_at {F : Fence} {n : Nat} {P : Program} {C : Code} {Q : Exit → Act → World → Prop} {a : Act} {w : World} (A : Act) (V : World) (h : C.wpIn F n P (fun e a2 w2 => e = Exit.normal ∧ w2 = V ∧ a2 = A) a w) (hq : Q .normal A V) : C.wpIn F n P Q a w :=
  Code.wpIn_mono (fun e a2 w2 ⟨h1, h2, h3⟩ => by subst h1 h2 h3; exact hq) h

/-- Marks that a function leaves behind. -/
def mk (D : Nat) : Deferred := { target := .collected D, args := #[] }
def Marks (Ds : List Nat) (W : World) : Prop := ∀ D ∈ Ds, W.heap[D]? = some (.deferred (some []))

theorem leaves_marks {F : Fence} {n : Nat} {P : Program} {fn : Func} {tmps : Array Value} {R : Ending → World → Prop} : ∀ (Ds : List Nat) (W : World), Marks Ds W → Ds.Nodup →
    (∀ W', Ext Ds W W' → ∃ v, (results fn tmps).run P W' = .ok v W' ∧ R (.returned v) W') → LeavesInM F n P fn tmps R (Ds.map mk) .returning W
  | [], W, _, _, h => by
    obtain ⟨v, h1, h2⟩ := h W (Ext.refl _ _)
    exact ⟨v, h1, h2⟩
  | D :: Ds, W, hM, hN, h => by
    have hD := hM D (by simp)
    refine ⟨by simp, .inl ⟨_, _, rfl, run_takeDeferred hD, leaves_marks Ds _ ?_ (List.nodup_cons.1 hN).2 ?_⟩⟩
    · intro D' h'
      refine (World.putObj_heap_other ?_).trans (hM D' (by simp [h']))
      rintro rfl
      exact (List.nodup_cons.1 hN).1 h'
    · intro W' hX
      refine h W' ?_
      exact (Ext.grown (S := D :: Ds) (grownBy_putObj' W D (.deferred none)) (by simp)).trans (hX.mono (by simp; intro a ha; exact .inr ha))

theorem Marks.ext {Ds : List Nat} {W W' : World} (h : Marks Ds W) (k : KeepsFrom 0 W W') : Marks Ds W' := fun D hD => k.same D _ (Nat.zero_le _) (h D hD) rfl
theorem marks_own {β : Type} {Ds : List Nat} {B : Nat} (hB : ∀ D ∈ Ds, D < B) : OwnFrom B (fun (_ : β) W => Marks Ds W) := fun s X Y row h hg hr D hD => by
  refine (hg.block D (lt_of_heap (h D hD)) (fun e => ?_)).trans (h D hD)
  have := (hr D e.symm).1
  have := hB D hD
  omega

theorem results_cell1 {P : Program} {fn : Func} {p : Tmp} {ty : TypeId} (h : fn.results = #[.cell p ty]) (tmps : Array Value) (w : World) (a : Addr) (v : Value)
    (hp : tmps.getD p undef = .pointer (some a)) (h1 : (loadVar ty a).run P w = .ok v w) : (results fn tmps).run P w = .ok v w := by
  have hp' : tmps[p]?.getD undef = .pointer (some a) := by simpa using hp
  simp [results, h, hp', asAddr, h1]


/-- How far a loop over an iterator is: what came is a beginning of the list, and no cut was met. -/
def Gd (L : List Int) (cut : Int) (pre : List Int) : Prop := pre <+: L ∧ ∀ j : Nat, 1 ≤ j → j ≤ pre.length → (j : Int) ≠ cut
theorem gd_nil (L : List Int) (cut : Int) : Gd L cut [] := ⟨List.nil_prefix, fun j h1 h2 => by simp at h2; omega⟩
theorem gd_snoc {L : List Int} {cut : Int} {pre : List Int} {x : Int} (h : Gd L cut pre) (hl : pre.length < L.length) (hx : x = L.getD pre.length 0) (hc : ((pre.length : Int) + 1) ≠ cut) : Gd L cut (pre ++ [x]) := by
  obtain ⟨⟨t, rfl⟩, h2⟩ := h
  refine ⟨?_, fun j h1 hj => ?_⟩
  · cases t with
    | nil => simp at hl
    | cons y t =>
      have : (pre ++ (y :: t)).getD pre.length 0 = y := by simp
      rw [hx, this]
      exact ⟨t, by simp⟩
  · simp only [List.length_append, List.length_cons, List.length_nil] at hj
    by_cases e : j = pre.length + 1
    · subst e; simpa using hc
    · exact h2 j h1 (by omega)
theorem not_prefix {L pre : List Int} {x : Int} (hl : pre.length < L.length) (hx : x ≠ L.getD pre.length 0) : ¬ (pre ++ [x]) <+: L := by
  rintro ⟨t, rfl⟩
  apply hx
  simp
def NotPre (L pre : List Int) : Prop := ¬ pre <+: L

theorem ext_own {β : Type} {W3 : World} {B : Nat} (hB : W3.heap.size ≤ B) : OwnFrom B (fun (_ : β) W => Ext [] W3 W) := fun _ X Y row h hg hr =>
  below_ext (ownFrom_below (β := Unit) (Nat.le_refl _) hB () X Y row h.below hg hr)
theorem kl_ext {Bn : Nat} {v : Value} {W3 W W' : World} (h : Ext [] W3 W) (h' : Ext [] W3 W') (h1 : Bn < W3.heap.size) (h2 : ∀ g, v.ownBlock = some g → g < W3.heap.size) : Kl Bn v W W' :=
  ⟨fun _ ho => ((h'.block _ h1 (by simp)).trans (h.block _ h1 (by simp)).symm).trans ho, fun g hg _ ho => ((h'.block _ (h2 g hg) (by simp)).trans (h.block _ (h2 g hg) (by simp)).symm).trans ho⟩

end Go.Proofs.Ytfjabjnajcfamaa

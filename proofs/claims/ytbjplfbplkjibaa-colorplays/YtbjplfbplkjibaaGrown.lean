/-
  New, awake, and a graph on which a script was carried out; no statement is proved here.
-/
import Derived.Test.YtbjplfbplkjibaaWork
import Derived.Test.YtbjplfbplkjibaaNode
import Derived.Test.YtbjplfbplkjibaaStart
namespace Go.Proofs.Ytbjplfbplkjibaa
open Go.RowKit

/-- A new graph. -/
def NwPost (w : World) (e : Ending) (w' : World) : Prop := ∃ p, e = .returned (.pointer (some ⟨p, 0, none⟩)) ∧ Gr w' p g0 (fun k => w.heap.size ≤ k) ∧ Ext [] w w'

theorem new_any (w : World) : Calls Try.prog 4 #[] w (NwPost w) := by
  have HF : Hid (NwPost w (.returned (.pointer (some ⟨w.heap.size, 0, none⟩))) (w.alloc (.cells #[.slice none 0 0, .int .i64 0, .slice none 0 0, .int .i64 0, .int .i64 0, .int .i64 0, .int .i64 0] 42))) := by
    refine ⟨_, rfl, ⟨.slice none 0 0, .slice none 0 0, [], ⟨heap_alloc_new w _, own_nil _ _ _ _, .inl ⟨rfl, rfl⟩, rfl, fun i hi => by simp [g0] at hi, fun i j _ g hg => by simp [svAt, Value.ownBlock] at hg, fun i g hg => by simp [svAt, Value.ownBlock] at hg⟩, ⟨Nat.le_refl _, by simp [Value.ownBlock], by simp [Value.ownBlock], fun i g hg => by simp [svAt, Value.ownBlock] at hg⟩⟩, Ext.alloc _ _ _⟩
  go_enter Try.func4, Try.ntmps4
  go_wp2
  go_ret
  exact HF.out

theorem gpost_on {w0 w w' : World} {p : Nat} {G : Gs} {B : Nat → Prop} {r : Value} {e : Ending} (h : GPost w p G B r e w') (hE : Ext [] w0 w) (hB : ∀ k, B k → w0.heap.size ≤ k) : e = .returned r ∧ Gr w' p G (fun k => w0.heap.size ≤ k) ∧ Ext [] w0 w' := by
  obtain ⟨he, h1, h2⟩ := h
  refine ⟨he, h1.mono ?_, h2.on hE hB⟩
  rintro k (q | q)
  · exact hB k q
  · exact Nat.le_trans hE.size q

theorem awake_any (w : World) : Calls Try.prog 5 #[] w (SayPost w (.bool true)) := by
  have K1 := new_any w
  have hn : node g0 0 = (⟨[⟨3, [], 0⟩], 0, [], 0, 0, 0, 0⟩, 0, 0) := by
    have hf : fr g0 = 0 := rfl
    simp only [node, nodeG, hf]
    simp [g0]
  go_enter Try.func5, Try.ntmps5
  go_wp2_with fail
  refine K1.mono ?_
  clear K1
  rintro e w1 ⟨p, rfl, hG, hE⟩
  have K2 := node_any p g0 _ 0 w1 hG iv_new
  rw [hn] at K2
  have HE := hid hE
  clear hG hE
  go_wp2_with fail
  refine K2.mono ?_
  clear K2
  intro e w2 h
  obtain ⟨rfl, hG2, hE2⟩ := gpost_on h HE.out (fun _ q => q)
  have K3 := color_any p _ _ 0 w2 hG2 (by simp)
  rw [show lvB ⟨[⟨3, [], 0⟩], 0, [], 0, 0, 0, 0⟩ 0 = true by decide, show fl ⟨[⟨3, [], 0⟩], 0, [], 0, 0, 0, 0⟩ 0 = 0 by decide] at K3
  rw [show (if true = true then ((ndAt [⟨3, [], 0⟩] (0 : Int).toNat).c : Int) else 0) = 3 by decide] at K3
  have HE2 := hid hE2
  clear h hG2 hE2 HE
  go_wp2_with (go_at_call 13; refine met K3 ?_)
  go_ret
  exact ⟨rfl, HE2.out⟩

theorem units_any (x : Int) (w : World) : Calls Try.prog 19 #[.int .i64 x] w fun e w' => e = .returned (.int .i64 (min x 100000)) ∧ w' = w := by
  by_cases h : x ≤ 100000
  · rw [show min x 100000 = x by omega]
    go_enter Try.func19, Try.ntmps19
    go_wp2
    all_goals
      go_ret
      exact ⟨rfl, rfl⟩
  · rw [show min x 100000 = 100000 by omega]
    have h2 : 100000 ≤ x := by omega
    go_enter Try.func19, Try.ntmps19
    go_wp2
    all_goals
      go_ret
      exact ⟨rfl, rfl⟩

/-- An operation as a value. -/
def oqv (o : Oq) (ra : Option Addr) (rn rc : Nat) : Value := .agg #[.int .i64 o.kd, .int .i64 o.a, .int .i64 o.b, .int .i64 o.c, .slice ra rn rc]

/-- A copy of a list of numbers, by append onto an empty one. -/
theorem app_copy (w : World) (ra : Option Addr) (R : List Int) (rc : Nat) (hR : Is w ra R) (hb : R.length ≤ 17592186044416) :
    ∃ a c w', (Builtin.append_ #[28, 28] 28 #[.slice (some ⟨w.heap.size, 0, none⟩) 0 0, .slice ra R.length rc]).run Try.prog (w.alloc (.cells #[] 3)) = .ok (.slice a R.length c) w' ∧ Is w' a R ∧ (∀ ad, a = some ad → w.heap.size ≤ ad.block) ∧ Ext [] w w' := by
  have hE0 := Ext.alloc [] w (.cells #[] 3)
  have hown : (w.alloc (.cells #[] 3)).ownsRow w.heap.size 3 1 (.slice (some ⟨w.heap.size, 0, none⟩) 0 0) 0 [] := World.ownsRow_made w #[] 0 (Nat.le_refl _) (Nat.zero_le _) rfl
  obtain ⟨v', w', hr, ho, hE, _⟩ := app_own w (w.alloc (.cells #[] 3)) hE0 28 28 3 _ 8 Try.underlying28 info3 rfl (by decide) _ 0 [] hown ra R.length rc (R.map (Value.int .i64)) (by simp) (hR.keep0 hE0) (fun u hu => by obtain ⟨y, _, rfl⟩ := List.mem_map.1 hu; rfl) (by omega)
  rw [Nat.zero_add, List.nil_append] at ho
  obtain ⟨a, c, rfl, _⟩ := own_slice ho
  exact ⟨a, c, w', hr, own_vs ho, fun ad had => (own_lt ho ad.block (by rw [had]; rfl)).1, hE⟩

theorem oq_eq (G : Gs) (o : Oq) :
    (o.kd = 1 → opG G o = (set G o.a o.b o.c).1) ∧ (o.kd = 2 → opG G o = (start G o.r).1) ∧ (o.kd = 3 → opG G o = (work (min o.a 100000).toNat G).2.2) ∧ (o.kd = 6 → opG G o = (shade G o.a).1) ∧ (o.kd = 4 ∨ o.kd = 5 → opG G o = G) ∧
    (o.kd ≠ 1 → o.kd ≠ 2 → o.kd ≠ 3 → o.kd ≠ 4 → o.kd ≠ 5 → o.kd ≠ 6 → opG G o = (node G (min o.a 64)).1) := by
  refine ⟨fun h => ?_, fun h => ?_, fun h => ?_, fun h => ?_, fun h => ?_, fun h1 h2 h3 h4 h5 h6 => ?_⟩ <;> unfold opG
  · simp [h]
  · simp [h]
  · simp [h]
  · simp [h]
  · rcases h with h | h <;> simp [h]
  · simp [h1, h2, h3, h4, h5, h6]

/-! ### scripts in memory -/

def oqAt (S : List Oq) (i : Nat) : Oq := S.getD i ⟨0, 0, 0, 0, []⟩
structure Sc (w : World) (a : Option Addr) (S : List Oq) : Prop where
  at_ : S = [] ∨ ∃ b o, a = some ⟨b, o, none⟩ ∧ ∀ i, i < S.length → ∃ ra rc, w.cell? ⟨b, o + i * 5, none⟩ = some (.int .i64 (oqAt S i).kd) ∧ w.cell? ⟨b, o + i * 5 + 1, none⟩ = some (.int .i64 (oqAt S i).a) ∧ w.cell? ⟨b, o + i * 5 + 2, none⟩ = some (.int .i64 (oqAt S i).b) ∧ w.cell? ⟨b, o + i * 5 + 3, none⟩ = some (.int .i64 (oqAt S i).c) ∧ w.cell? ⟨b, o + i * 5 + 4, none⟩ = some (.slice ra (oqAt S i).r.length rc) ∧ Is w ra (oqAt S i).r ∧ (oqAt S i).r.length ≤ 17592186044416
  len : S.length ≤ 2513169434917
theorem Sc.keep0 {w w' : World} {a : Option Addr} {S : List Oq} (h : Sc w a S) (e : Ext [] w w') : Sc w' a S := by
  refine ⟨?_, h.len⟩
  rcases h.at_ with h | ⟨b, o, rfl, hc⟩
  · exact .inl h
  · refine .inr ⟨b, o, rfl, fun i hi => ?_⟩
    obtain ⟨ra, rc, h0, h1, h2, h3, h4, h5, h6⟩ := hc i hi
    exact ⟨ra, rc, e.cell h0 (by simp), e.cell h1 (by simp), e.cell h2 (by simp), e.cell h3 (by simp), e.cell h4 (by simp), h5.keep0 e, h6⟩

theorem sameInts_true (a b : Option Addr) (n c d : Nat) (xs : List Int) (w : World) (ha : Is w a xs) (hb : Is w b xs) (hn : xs.length = n) (hm : n ≤ 17592186044416) :
    Calls Try.prog 10 #[.slice a n c, .slice b n d] w (SayPost w (.bool true)) := by
  by_cases h0 : n = 0
  · subst h0
    go_enter Try.func10, Try.ntmps10
    go_wp2
    go_loop [5] (fun q => q = .int .i64 0) (fun _ => 0)
    case atStart => rfl
    case round =>
      subst hrel
      go_wp2
      go_ret
      exact ⟨rfl, Ext.refl _ _⟩
  · have hne : xs ≠ [] := by rintro rfl; simp at hn; omega
    obtain ⟨b1, o1, rfl, hc1⟩ := ha.at_ hne
    obtain ⟨b2, o2, rfl, hc2⟩ := hb.at_ hne
    rw [hn] at hc1 hc2
    have H1 := hid hc1
    have H2 := hid hc2
    clear hc1 hc2 ha hb hn hne
    go_enter Try.func10, Try.ntmps10
    go_wp2
    go_loopw [5] (fun q wr => ∃ k m : Nat, q = .int .i64 k ∧ k ≤ n ∧ wr = w.drewN m) (fun q _ => (n - (intOf q)).toNat)
    case atStart => exact ⟨0, 0, rfl, Nat.zero_le _, rfl⟩
    case round =>
      obtain ⟨k, m, rfl, hk, rfl⟩ := hrel
      by_cases hkn : k < n
      · have hx := H1.out k hkn
        have hy := H2.out k hkn
        generalize xs.getD k 0 = x at *
        go_wp2
        go_quiet (fail)
        go_wp2
        go_roundw
        case rel => exact ⟨k + 1, _, by go_num, by omega, rfl⟩
        case measure => simp [intOf]; omega
      · go_wp2
        go_ret
        exact ⟨rfl, Ext.drewN _ _ _⟩


end Go.Proofs.Ytbjplfbplkjibaa

/-
  New, awake, and a graph on which a script was carried out; no statement is proved here.
-/
import Derived.Test.YtfgdoehiocgkhaaWork
import Derived.Test.YtfgdoehiocgkhaaNode
import Derived.Test.YtfgdoehiocgkhaaStart
namespace Go.Proofs.Ytfgdoehiocgkhaa
open Go.RowKit

/-- A new graph. -/
def NwPost (w : World) (e : Ending) (w' : World) : Prop := ∃ p, e = .returned (.pointer (some ⟨p, 0, none⟩)) ∧ Gr w' p g0 (fun k => w.heap.size ≤ k) ∧ Ext [] w w'

theorem new_any (w : World) : Calls Try.prog 32 #[] w (NwPost w) := by
  have HF : Hid (NwPost w (.returned (.pointer (some ⟨w.heap.size, 0, none⟩))) (w.alloc (.cells #[.slice none 0 0, .int .i64 0, .slice none 0 0, .int .i64 0, .int .i64 0, .int .i64 0, .int .i64 0] 66))) := by
    refine ⟨_, rfl, ⟨.slice none 0 0, .slice none 0 0, [], ⟨heap_alloc_new w _, own_nil _ _ _ _, .inl ⟨rfl, rfl⟩, rfl, fun i hi => by simp [g0] at hi, fun i j _ g hg => by simp [svAt, Value.ownBlock] at hg, fun i g hg => by simp [svAt, Value.ownBlock] at hg⟩, ⟨Nat.le_refl _, by simp [Value.ownBlock], by simp [Value.ownBlock], fun i g hg => by simp [svAt, Value.ownBlock] at hg⟩⟩, Ext.alloc _ _ _⟩
  go_enter Try.func32, Try.ntmps32
  go_wp2
  go_ret
  exact HF.out

theorem gpost_on {w0 w w' : World} {p : Nat} {G : Gs} {B : Nat → Prop} {r : Value} {e : Ending} (h : GPost w p G B r e w') (hE : Ext [] w0 w) (hB : ∀ k, B k → w0.heap.size ≤ k) : e = .returned r ∧ Gr w' p G (fun k => w0.heap.size ≤ k) ∧ Ext [] w0 w' := by
  obtain ⟨he, h1, h2⟩ := h
  refine ⟨he, h1.mono ?_, h2.on hE hB⟩
  rintro k (q | q)
  · exact hB k q
  · exact Nat.le_trans hE.size q

theorem awake_any (w : World) : Calls Try.prog 10 #[] w (SayPost w (.bool true)) := by
  have K1 := new_any w
  have hn : node g0 0 = (⟨[⟨3, [], 0⟩], 0, [], 0, 0, 0, 0⟩, 0, 0) := by
    have hf : fr g0 = 0 := rfl
    simp only [node, nodeG, hf]
    simp [g0]
  go_enter Try.func10, Try.ntmps10
  go_wp2_with fail
  refine K1.mono ?_
  clear K1
  rintro e w1 ⟨p, rfl, hG, hE⟩
  have K2 := node_any p g0 _ 0 w1 hG iv_new
  rw [hn] at K2
  have HE := hid hE
  clear hG hE
  go_wp2_with fail
  refine K2.mono ?_
  clear K2
  intro e w2 h
  obtain ⟨rfl, hG2, hE2⟩ := gpost_on h HE.out (fun _ q => q)
  have K3 := color_any p _ _ 0 w2 hG2 (by simp)
  rw [show lvB ⟨[⟨3, [], 0⟩], 0, [], 0, 0, 0, 0⟩ 0 = true by decide, show fl ⟨[⟨3, [], 0⟩], 0, [], 0, 0, 0, 0⟩ 0 = 0 by decide] at K3
  rw [show (if true = true then ((ndAt [⟨3, [], 0⟩] (0 : Int).toNat).c : Int) else 0) = 3 by decide] at K3
  have HE2 := hid hE2
  clear h hG2 hE2 HE
  go_wp2_with (go_at_call 27; refine met K3 ?_)
  go_ret
  exact ⟨rfl, HE2.out⟩

theorem units_any (x : Int) (w : World) : Calls Try.prog 39 #[.int .i64 x] w fun e w' => e = .returned (.int .i64 (min x 100000)) ∧ w' = w := by
  by_cases h : x ≤ 100000
  · rw [show min x 100000 = x by omega]
    go_enter Try.func39, Try.ntmps39
    go_wp2
    all_goals
      go_ret
      exact ⟨rfl, rfl⟩
  · rw [show min x 100000 = 100000 by omega]
    have h2 : 100000 ≤ x := by omega
    go_enter Try.func39, Try.ntmps39
    go_wp2
    all_goals
      go_ret
      exact ⟨rfl, rfl⟩

/-- An operation as a value. -/
def oqv (o : Oq) (ra : Option Addr) (rn rc : Nat) : Value := .agg #[.int .i64 o.kd, .int .i64 o.a, .int .i64 o.b, .int .i64 o.c, .slice ra rn rc]

/-- A copy of a list of numbers, by append onto an empty one. -/
theorem app_copy (w : World) (ra : Option Addr) (R : List Int) (rc : Nat) (hR : Is w ra R) (hb : R.length ≤ 17592186044416) :
    ∃ a c w', (Builtin.append_ #[23, 23] 23 #[.slice (some ⟨w.heap.size, 0, none⟩) 0 0, .slice ra R.length rc]).run Try.prog (w.alloc (.cells #[] 3)) = .ok (.slice a R.length c) w' ∧ Is w' a R ∧ (∀ ad, a = some ad → w.heap.size ≤ ad.block) ∧ Ext [] w w' := by
  have hE0 := Ext.alloc [] w (.cells #[] 3)
  have hown : (w.alloc (.cells #[] 3)).ownsRow w.heap.size 3 1 (.slice (some ⟨w.heap.size, 0, none⟩) 0 0) 0 [] := World.ownsRow_made w #[] 0 (Nat.le_refl _) (Nat.zero_le _) rfl
  obtain ⟨v', w', hr, ho, hE, _⟩ := app_own w (w.alloc (.cells #[] 3)) hE0 23 23 3 _ 8 Try.underlying23 info3 rfl (by decide) _ 0 [] hown ra R.length rc (R.map (Value.int .i64)) (by simp) (hR.keep0 hE0) (fun u hu => by obtain ⟨y, _, rfl⟩ := List.mem_map.1 hu; rfl) (by omega)
  rw [Nat.zero_add, List.nil_append] at ho
  obtain ⟨a, c, rfl, _⟩ := own_slice ho
  exact ⟨a, c, w', hr, own_vs ho, fun ad had => (own_lt ho ad.block (by rw [had]; rfl)).1, hE⟩

theorem oq_eq (G : Gs) (o : Oq) :
    (o.kd = 1 → opG G o = (set G o.a o.b o.c).1) ∧ (o.kd = 2 → opG G o = (start G o.r).1) ∧ (o.kd = 3 → opG G o = (work (min o.a 100000).toNat G).2.2) ∧ (o.kd = 6 → opG G o = (shade G o.a).1) ∧ (o.kd = 4 ∨ o.kd = 5 → opG G o = G) ∧
    (o.kd ≠ 1 → o.kd ≠ 2 → o.kd ≠ 3 → o.kd ≠ 4 → o.kd ≠ 5 → o.kd ≠ 6 → opG G o = (node G (min o.a 64)).1) := by
  refine ⟨fun h => ?_, fun h => ?_, fun h => ?_, fun h => ?_, fun h => ?_, fun h1 h2 h3 h4 h5 h6 => ?_⟩ <;> unfold opG
  · simp [h]
  · simp [h]
  · simp [h]
  · simp [h]
  · rcases h with h | h <;> simp [h]
  · simp [h1, h2, h3, h4, h5, h6]

set_option maxHeartbeats 1000000 in
theorem do_any (p : Nat) (G : Gs) (B : Nat → Prop) (o : Oq) (ra : Option Addr) (rc : Nat) (w : World) (h : Gr w p G B) (hI : Iv G) (hcy : G.cy < 900000000000000000) (hR : Is w ra o.r) (hb : o.r.length ≤ 17592186044416) :
    Calls Try.prog 23 #[.pointer (some ⟨p, 0, none⟩), oqv o ra o.r.length rc] w (GPost w p (opG G o) B (.tuple #[])) := by
  obtain ⟨e1, e2, e3, e6, e45, e0⟩ := oq_eq G o
  have hEa := Ext.alloc [] w (.cells #[.int .i64 o.kd, .int .i64 o.a, .int .i64 o.b, .int .i64 o.c, .slice ra o.r.length rc] 44)
  have ha := h.keep0 hEa
  have HFin : Hid (∀ {G' : Gs} {w1 w2 : World} {r : Value} {e : Ending} {C : Nat → Prop}, Ext [] w w1 → (∀ k, C k → B k ∨ w.heap.size ≤ k) → GPost w1 p G' C r e w2 → e = .returned r ∧ GPost w p G' B (.tuple #[]) (.returned (.tuple #[])) w2) := by
    rintro G' w1 w2 r e C hE hC ⟨rfl, hg, hx⟩
    refine ⟨rfl, rfl, hg.mono ?_, (Fx.of_ext0 hE).trans hx hC⟩
    rintro k (q | q)
    · exact hC k q
    · exact .inr (Nat.le_trans hE.size q)
  unfold oqv
  have HEa := hid hEa
  have bl : (w.alloc (.cells #[.int .i64 o.kd, .int .i64 o.a, .int .i64 o.b, .int .i64 o.c, .slice ra o.r.length rc] 44)).heap[w.heap.size]? = some (.cells #[.int .i64 o.kd, .int .i64 o.a, .int .i64 o.b, .int .i64 o.c, .slice ra o.r.length rc] 44 (0, 0)) := heap_alloc_new w _
  have HBl := hid bl
  clear bl
  by_cases k1 : o.kd = 1
  · rw [e1 k1]
    have K := set_any p G B o.a o.b o.c _ ha hI
    have b1 : (o.kd == 1) = true := by simp [k1]
    clear e1 e2 e3 e6 e45 e0 h ha hR k1 hEa
    generalize set G o.a o.b o.c = res at *
    go_enter Try.func23, Try.ntmps23
    go_wp2_with fail
    refine K.mono ?_
    clear K
    intro e w2 hq
    obtain ⟨rfl, hF⟩ := HFin.out HEa.out (fun k q => .inl q) hq
    have HF := hid hF
    clear hF hq
    go_wp2_with fail
    go_end0
    exact HF.out
  have b1 : (o.kd == 1) = false := by simp [k1]
  by_cases k2 : o.kd = 2
  · rw [e2 k2]
    have b2 : (o.kd == 2) = true := by simp [k2]
    obtain ⟨a2, c2, w2, hr, hI2, hn2, hE2⟩ := app_copy _ ra o.r rc (hR.keep0 hEa) hb
    have K := start_any p G (fun k => B k ∧ k < w.heap.size) a2 o.r.length c2 o.r w2 ((h.there.keep0 hEa).keep0 hE2) hI hI2 rfl hb (fun ad had q => by have := hn2 ad had; simp at this; omega)
    have HE2 := hid (hEa.trans hE2)
    simp only [World.size_alloc] at hr
    clear e1 e2 e3 e6 e45 e0 h ha hR k1 k2 hEa hI2 hn2 hE2
    generalize start G o.r = res at *
    generalize o.r.length = rn at *
    go_enter Try.func23, Try.ntmps23
    go_wp2_with (at_builtin; refine wpList_append_run rfl _ _ 23 rfl _ _ _ rfl rfl hr ?_)
    refine K.mono ?_
    clear K
    intro e w2 hq
    obtain ⟨rfl, hF⟩ := HFin.out HE2.out (fun k q => .inl q.1) hq
    have HF := hid hF
    clear hF hq
    go_wp2_with fail
    go_end0
    exact HF.out
  have b2 : (o.kd == 2) = false := by simp [k2]
  by_cases k3 : o.kd = 3
  · rw [e3 k3]
    have b3 : (o.kd == 3) = true := by simp [k3]
    have KU := fun W => units_any o.a W
    have K := work_any p G B (min o.a 100000) _ ha hI (by omega) hcy
    have HP : Hid (∀ e w2, WkPost (w.alloc (.cells #[.int .i64 o.kd, .int .i64 o.a, .int .i64 o.b, .int .i64 o.c, .slice ra o.r.length rc] 44)) p B G (min o.a 100000).toNat e w2 → (∃ v v', e = .returned (.tuple #[v, v'])) ∧ GPost w p (work (min o.a 100000).toNat G).2.2 B (.tuple #[]) (.returned (.tuple #[])) w2) := by
      rintro e w2 ⟨v, C, rfl, _, hg, hC, _, hx⟩
      exact ⟨⟨_, _, rfl⟩, (HFin.out (r := .tuple #[]) HEa.out (fun k q => .inl q) ⟨rfl, hg.mono hC, hx⟩).2⟩
    clear e1 e2 e3 e6 e45 e0 h ha hR k1 k2 k3 hEa HFin
    generalize min o.a 100000 = u at *
    generalize (work u.toNat G).2.2 = res at *
    go_enter Try.func23, Try.ntmps23
    go_wp2_with (go_at_call 39; refine met (KU _) ?_)
    refine K.mono ?_
    clear K
    intro e w2 hq
    obtain ⟨⟨v, v', rfl⟩, hF⟩ := HP.out e w2 hq
    have HF := hid hF
    clear hF hq HP
    go_wp2_with fail
    go_end0
    exact HF.out
  have b3 : (o.kd == 3) = false := by simp [k3]
  by_cases k6 : o.kd = 6
  · rw [e6 k6]
    have b6 : (o.kd == 6) = true := by simp [k6]
    have K := shadeC_any p G B o.a _ ha hI
    clear e1 e2 e3 e6 e45 e0 h ha hR k1 k2 k3 k6 hEa
    generalize shade G o.a = res at *
    go_enter Try.func23, Try.ntmps23
    go_wp2_with fail
    refine K.mono ?_
    clear K
    intro e w2 hq
    obtain ⟨rfl, hF⟩ := HFin.out HEa.out (fun k q => .inl q) hq
    have HF := hid hF
    clear hF hq
    go_wp2_with fail
    go_end0
    exact HF.out
  have b6 : (o.kd == 6) = false := by simp [k6]
  by_cases k4 : o.kd = 4
  · rw [e45 (.inl k4)]
    have b4 : (o.kd == 4) = true := by simp [k4]
    have HF := hid (HFin.out HEa.out (fun k q => .inl q) (gr_same ha (.tuple #[]))).2
    clear e1 e2 e3 e6 e45 e0 h ha hR k1 k2 k3 k6 k4 hEa
    go_enter Try.func23, Try.ntmps23
    go_wp2_with fail
    go_end0
    exact HF.out
  have b4 : (o.kd == 4) = false := by simp [k4]
  by_cases k5 : o.kd = 5
  · rw [e45 (.inr k5)]
    have b5 : (o.kd == 5) = true := by simp [k5]
    have HF := hid (HFin.out HEa.out (fun k q => .inl q) (gr_same ha (.tuple #[]))).2
    clear e1 e2 e3 e6 e45 e0 h ha hR k1 k2 k3 k6 k4 k5 hEa
    go_enter Try.func23, Try.ntmps23
    go_wp2_with fail
    go_end0
    exact HF.out
  have b5 : (o.kd == 5) = false := by simp [k5]
  rw [e0 k1 k2 k3 k4 k5 k6]
  have K := node_any p G B (min o.a 64) _ ha hI
  clear e1 e2 e3 e6 e45 e0 h ha hR k1 k2 k3 k6 k4 k5 hEa
  by_cases hm : o.a ≤ 64
  · rw [show min o.a 64 = o.a by omega] at K ⊢
    generalize node G o.a = res at *
    go_enter Try.func23, Try.ntmps23
    go_wp2_with fail
    all_goals
      refine K.mono ?_
      intro e w2 hq
      obtain ⟨rfl, hF⟩ := HFin.out HEa.out (fun k q => .inl q) hq
      have HF := hid hF
      clear hF hq K
      go_wp2_with fail
      go_end0
      exact HF.out
  · rw [show min o.a 64 = 64 by omega] at K ⊢
    have hm2 : 64 ≤ o.a := by omega
    generalize node G 64 = res at *
    go_enter Try.func23, Try.ntmps23
    go_wp2_with fail
    all_goals
      refine K.mono ?_
      intro e w2 hq
      obtain ⟨rfl, hF⟩ := HFin.out HEa.out (fun k q => .inl q) hq
      have HF := hid hF
      clear hF hq K
      go_wp2_with fail
      go_end0
      exact HF.out

end Go.Proofs.Ytfgdoehiocgkhaa

/-
  The program's clone, told by its row, and a row that is copied into another; no statement is proved here.
-/
import Derived.Test.YtfabhhmeanpmhaaDoorClone
import Derived.Laws.CopyOwn
import Derived.Deep.RegionLaw
namespace Go.Proofs.YtfabhhmeanpmhaaDoor
open Go.RowKit

def RwPost (w : World) (d : Nat) (l : List Cl) (n : Nat) (e : Ending) (w' : World) : Prop :=
  ∃ g G, e = .returned (.slice (some ⟨g, 0, none⟩) n n) ∧ Rw w' g n l G n ∧ Bx (fun b => w.heap.size ≤ b ∧ b ≠ g) d w' l G n ∧ w.heap.size ≤ g ∧ Ext [] w w'

set_option maxRecDepth 100000 in
set_option maxHeartbeats 4000000 in
theorem clone_row (d : Nat) (a : Option Addr) (l : List Cl) (n c : Nat) (w : World) (hC : Cs (d + 1) w a l) (hn : l.length = n) (hn0 : n ≠ 0) : Calls Tryd.prog 44 #[.slice a n c] w (RwPost w d l n) := by
    have HC := hid hC
    have HN := hid hn
    have hl := hC.len
    rw [hn] at hl
    have HIH := hid (clone_any d)
    have hmk := mk_cells w n hl
    have hn1 : ((n : Int) == 0) = false := by simp; omega
    have hn2 : ¬ ((n : Int) = 0) := by omega
    clear hC hn0
    go_enter Tryd.func44, Tryd.ntmps44
    go_wp2_with fail
    go_loopw [14] (fun u wr => ∃ k : Nat, ∃ G, u = .int .i64 k ∧ k ≤ n ∧ Rw wr w.heap.size n l G k ∧ Bx (fun b => w.heap.size < b) d wr l G k ∧ Ext [] w wr) (fun u _ => (n - (intOf u)).toNat)
    case atStart => exact ⟨0, fun _ => (none, 0), rfl, Nat.zero_le _, ⟨_, heap_alloc_new _ _, size_madeCells _ _, fun i hi => by omega⟩, fun i hi => by omega, Ext.alloc _ _ _⟩
    case round =>
      obtain ⟨k, G, rfl, hkn, hO, hB, hE⟩ := hrel
      have HO := hid hO
      have HB := hid hB
      have HE := hid hE
      clear hO hB hE
      by_cases hlt : k < n
      · obtain ⟨d1, b, o, hd, rfl, hat⟩ := (HC.out.keep0 HE.out).at_ (by rw [HN.out]; omega)
        obtain rfl : d1 = d := by omega
        obtain ⟨ba, bc, hcl, hbx⟩ := hat k (by rw [HN.out]; omega)
        have x0 := hcl.c0
        have x1 := hcl.c1
        have x2 := hcl.c2
        have x3 := hcl.c3
        have hE1 := Ext.alloc [] wr (.cells #[.int .u64 (cAt l k).n, .string (cAt l k).s, .int .i64 (cAt l k).t, .slice ba (cAt l k).box.length bc] 49)
        have K := HIH.out ba (cAt l k).box _ bc _ (hbx.keep0 hE1) rfl
        have hb1 := heap_alloc_new wr (.cells #[.int .u64 (cAt l k).n, .string (cAt l k).s, .int .i64 (cAt l k).t, .slice ba (cAt l k).box.length bc] 49)
        have HB1 := hid hb1
        have hgl : w.heap.size < wr.heap.size := by obtain ⟨cs, h1, _⟩ := HO.out; exact lt_of_heap h1
        have hgB : ¬ (w.heap.size = wr.heap.size) := by omega
        have hkn2 : (k : Int) < n := by omega
        clear hat hcl hbx hE1 hd hb1
        generalize hg : w.heap.size = g at *
        go_wp2_with (first
          | (go_at_call 44
             refine K.mono ?_
             rintro e w2 ⟨a1, c1, rfl, hac, hCo, hE2⟩
             have hb2 := hE2.keep HB1.out (by simp)
             have hE12 := (Ext.alloc [] wr (.cells #[.int .u64 (cAt l k).n, .string (cAt l k).s, .int .i64 (cAt l k).t, .slice ba (cAt l k).box.length bc] 49)).trans hE2
             have hO2 := HO.out.keep hE12 (by simp)
             have HO2 := hid hO2
             have HE12 := hid hE12
             have HCo := hid hCo
             have HAC := hid hac
             have e0 : w2.cell? ⟨wr.heap.size, 0, none⟩ = some (.int .u64 (cAt l k).n) := by rw [cell_of_row _ _ _ _ _ _ hb2]; rfl
             have e1 : w2.cell? ⟨wr.heap.size, 1, none⟩ = some (.string (cAt l k).s) := by rw [cell_of_row _ _ _ _ _ _ hb2]; rfl
             have e2 : w2.cell? ⟨wr.heap.size, 2, none⟩ = some (.int .i64 (cAt l k).t) := by rw [cell_of_row _ _ _ _ _ _ hb2]; rfl
             have e3 : w2.cell? ⟨wr.heap.size, 3, none⟩ = some (.slice ba (cAt l k).box.length bc) := by rw [cell_of_row _ _ _ _ _ _ hb2]; rfl
             have ef : ∀ i, w2.frozen? ⟨wr.heap.size, i, none⟩ = false := fun i => frozen_of_row _ _ i _ _ hb2
             obtain ⟨z0, q0⟩ := hO2.cell (i := k * 4) (by omega)
             obtain ⟨z1, q1⟩ := hO2.cell (i := k * 4 + 1) (by omega)
             obtain ⟨z2, q2⟩ := hO2.cell (i := k * 4 + 2) (by omega)
             obtain ⟨z3, q3⟩ := hO2.cell (i := k * 4 + 3) (by omega)
             have gf : ∀ i, w2.frozen? ⟨g, i, none⟩ = false := fun i => hO2.frz i
             clear hCo hE2 hb2 hO2 hac hE12))
        have hX : Ext [wr.heap.size, g] w2 (((((w2.setCell ⟨wr.heap.size, 3, none⟩ (.slice a1 (cAt l k).box.length c1)).setCell ⟨g, k * 4, none⟩ (.int .u64 (cAt l k).n)).setCell ⟨g, k * 4 + 1, none⟩ (.string (cAt l k).s)).setCell ⟨g, k * 4 + 2, none⟩ (.int .i64 (cAt l k).t)).setCell ⟨g, k * 4 + 3, none⟩ (.slice a1 (cAt l k).box.length c1)) :=
          ((((Ext.setCell _ _ _ _ (by simp)).trans (Ext.setCell _ _ _ _ (by simp))).trans (Ext.setCell _ _ _ _ (by simp))).trans (Ext.setCell _ _ _ _ (by simp))).trans (Ext.setCell _ _ _ _ (by simp))
        refine ⟨⟨k + 1, fun i => if i = k then (a1, c1) else G i, by go_num, by omega, (HO2.out.keep (Ext.setCell [wr.heap.size] _ _ _ (by simp)) (by simpa using hgB)).put hlt a1 c1, fun i hi => ?_, (HE.out.trans HE12.out).on hX (by simp; omega)⟩, by simp [intOf]; omega⟩
        have hfin : ∀ (a : Option Addr) (b : List Cl), Co (fun b => g < b ∧ b ≠ wr.heap.size) d1 w2 a b → Co (fun b => g < b) d1 _ a b := fun a b hb => (hb.keep hX (by simp)).imp (fun b _ hp => hp.1)
        by_cases e : i = k
        · subst e
          simp only [if_true]
          refine ⟨HAC.out, hfin _ _ (HCo.out.imp fun b _ hp => ?_)⟩
          simp only [World.size_alloc] at hp
          exact ⟨by omega, by omega⟩
        · simp only [e, if_false]
          obtain ⟨h1, h2⟩ := HB.out i (by omega)
          refine ⟨h1, hfin _ _ ?_⟩
          exact (h2.imp (Q := fun b => g < b ∧ b ≠ wr.heap.size) (fun b hlt hp => ⟨hp, by omega⟩)).keep0 HE12.out
      · obtain rfl : k = n := by omega
        go_wp2_with fail
        go_ret
        exact ⟨w.heap.size, G, rfl, HO.out, fun i hi => ⟨(HB.out i hi).1, (HB.out i hi).2.imp fun b _ hp => ⟨by omega, by omega⟩⟩, Nat.le_refl _, HE.out⟩

/-- copy between slices of elements of k cells, the target a row that is known whole. -/
theorem run_copy_k {P : Program} (w : World) (dT sT ty elem : TypeId) (k g o dLen dCap : Nat) (a : Addr) (sLen sCap m : Nat) (cur : List Value) (t : TypeId) (cs : List Value)
    (hu : P.underlying dT = some (.slice elem)) (hs : (P.info? elem).map (·.size) = some k) (hg : w.heap[g]? = some (.cells cur.toArray t (0, 0))) (hm : Nat.min sLen dLen = m) (hn : cs.length = m * k)
    (hsrc : ∀ j v, cs[j]? = some v → w.cell? (a.add j) = some v) (hfit : o + cs.length ≤ cur.length) (h1 : ∀ v ∈ cs, v.oneCell' = true) :
    (Builtin.copy_ #[dT, sT] ty #[.slice (some ⟨g, o, none⟩) dLen dCap, .slice (some a) sLen sCap]).run P w = .ok (goInt m) (w.setRow g (splice cur o cs).toArray) := by
  have hf := run_firstCells_some (P := P) w k m a sLen sCap cs hn hsrc
  have hst := run_storeCells_at P g o t cs 0 cur.toArray w hg (by simpa using hfit) h1
  cases hq : P.info? elem with
  | none => simp [hq] at hs
  | some i =>
    have hi : i.size = k := by simpa [hq] using hs
    simp only [Nat.add_zero] at hst
    simp [Builtin.copy_, run_underlying hu, Builtin.lenOf, sizeOf, typeInfo, hq, hi, hm, hf, hst, splice]

theorem wpList_copy_run {P : Program} {w w' : World} {ops : Array Oper} {rest : List Oper} {o : Oper} {a : Act} {Q : Exit → Act → World → Prop} (hgd : o.guard = none) (d s : Operand) (t t' : TypeId)
    (ho : o.op = .call { callee := .builtin .copy, args := #[d, s], argTypes := #[t, t'] }) (vd vs v' : Value) (hd : a.eval d = vd) (hs : a.eval s = vs)
    (hr : (Builtin.copy_ #[t, t'] o.type #[vd, vs]).run P w = .ok v' w') (h : wpList P ops Q rest (a.put o.dst v') w') : wpList P ops Q (o :: rest) a w := by
  refine wpList_plain hgd fun K hK => ?_
  unfold Oper.wp execOp
  simp only [ho, resolve, invoke, builtin, Sem.run_bind, Sem.run_pure, Result.andThen_ok, List.map_toArray, List.map_cons, List.map_nil, hd, hs, hr]
  exact hK _ _ h

theorem wpList_append_run2 {P : Program} {w w' : World} {ops : Array Oper} {rest : List Oper} {o : Oper} {a : Act} {Q : Exit → Act → World → Prop} (hgd : o.guard = none) (s x : Operand) (t t' : TypeId)
    (ho : o.op = .call { callee := .builtin .append, args := #[s, x], argTypes := #[t, t'] }) (vs vx v' : Value) (hs : a.eval s = vs) (hx : a.eval x = vx)
    (hr : (Builtin.append_ #[t, t'] o.type #[vs, vx]).run P w = .ok v' w') (h : wpList P ops Q rest (a.put o.dst v') w') : wpList P ops Q (o :: rest) a w := by
  refine wpList_plain hgd fun K hK => ?_
  unfold Oper.wp execOp
  simp only [ho, resolve, invoke, builtin, Sem.run_bind, Sem.run_pure, Result.andThen_ok, List.map_toArray, List.map_cons, List.map_nil, hs, hx, hr]
  exact hK _ _ h

theorem step_copy_run {P : Program} {ops : Array Oper} {o : Oper} {a : Act} {w w' : World} {K : Act → World → Prop} {Q : Exit → Act → World → Prop} {E : Prop} (hgd : o.guard = none) (d s : Operand) (t t' : TypeId)
    (ho : o.op = .call { callee := .builtin .copy, args := #[d, s], argTypes := #[t, t'] }) (vd vs v' : Value) (hd : a.eval d = vd) (hs : a.eval s = vs)
    (hr : (Builtin.copy_ #[t, t'] o.type #[vd, vs]).run P w = .ok v' w') (h : K (a.put o.dst v') w') :
    if Region.wanted o (yielded ops a.tmps) = true then Oper.wp P o a w K Q else E := by
  rw [if_pos (by simp [Region.wanted, hgd])]
  unfold Oper.wp execOp
  simp only [ho, resolve, invoke, builtin, Sem.run_bind, Sem.run_pure, Result.andThen_ok, List.map_toArray, List.map_cons, List.map_nil, hd, hs, hr]
  exact h

theorem Rw.one {n : Nat} {l : List Cl} {G : Nat → Option Addr × Nat} {cs : Array Value} (h2 : cs.size = n * 4) (h3 : ∀ i, i < n → ∀ j, j < 4 → cs[i * 4 + j]? = (clRow (cAt l i) (G i))[j]?) : ∀ v ∈ cs.toList, v.oneCell' = true := by
  intro v hv
  obtain ⟨x, hx, rfl⟩ := List.getElem_of_mem hv
  have hx' : x < n * 4 := by simpa [h2] using hx
  have := h3 (x / 4) (by omega) (x % 4) (Nat.mod_lt _ (by omega))
  rw [show x / 4 * 4 + x % 4 = x by omega] at this
  have e : cs[x]? = some (cs.toList[x]) := by simp
  rw [e] at this
  generalize cs.toList[x] = u at *
  rcases (by omega : x % 4 = 0 ∨ x % 4 = 1 ∨ x % 4 = 2 ∨ x % 4 = 3) with h | h | h | h <;> rw [h] at this <;> simp [clRow] at this <;> subst this <;> rfl

/-- A list with others put in from b on. -/
def putIn (l m : List Cl) (b : Nat) : List Cl := l.take b ++ m ++ l.drop (b + m.length)
theorem putIn_len {l m : List Cl} {b : Nat} (h : b + m.length ≤ l.length) : (putIn l m b).length = l.length := by simp [putIn]; omega
theorem putIn_lo {l m : List Cl} {b i : Nat} (h : b + m.length ≤ l.length) (hi : i < b) : cAt (putIn l m b) i = cAt l i := by
  simp only [putIn, cAt, List.getD_eq_getElem?_getD, List.append_assoc]
  rw [List.getElem?_append_left (by simp; omega), List.getElem?_take, if_pos hi]
theorem putIn_mid {l m : List Cl} {b i : Nat} (h : b + m.length ≤ l.length) (hi : b ≤ i) (hi2 : i < b + m.length) : cAt (putIn l m b) i = cAt m (i - b) := by
  simp only [putIn, cAt, List.getD_eq_getElem?_getD, List.append_assoc]
  rw [List.getElem?_append_right (by simp; omega), List.getElem?_append_left (by simp; omega)]
  congr 2
  simp; omega
theorem putIn_hi {l m : List Cl} {b i : Nat} (h : b + m.length ≤ l.length) (hi : b + m.length ≤ i) : cAt (putIn l m b) i = cAt l i := by
  simp only [putIn, cAt, List.getD_eq_getElem?_getD, List.append_assoc]
  rw [List.getElem?_append_right (by simp; omega), List.getElem?_append_right (by simp; omega), List.getElem?_drop]
  congr 2
  simp; omega

theorem splice_get {α : Type} {L cs : List α} {o x : Nat} (h : o + cs.length ≤ L.length) : (splice L o cs)[x]? = if x < o then L[x]? else if x < o + cs.length then cs[x - o]? else L[x]? := by
  unfold splice
  by_cases h1 : x < o
  · rw [if_pos h1, List.getElem?_append_left (by simp; omega), List.getElem?_take, if_pos h1]
  · rw [if_neg h1]
    by_cases h2 : x < o + cs.length
    · rw [if_pos h2, List.getElem?_append_right (by simp; omega), List.getElem?_append_left (by simp; omega)]
      congr 1; simp; omega
    · rw [if_neg h2, List.getElem?_append_right (by simp; omega), List.getElem?_append_right (by simp; omega), List.getElem?_drop]
      congr 1; simp; omega

/-- One row is copied into another. -/
theorem put_row {w : World} {g g2 n b : Nat} {l m : List Cl} {G G2 : Nat → Option Addr × Nat} (h : Rw w g n l G n) (hm : Rw w g2 m.length m G2 m.length) (hn : l.length = n) (hb : b + m.length ≤ n) :
    ∃ cs : List Value, (∀ ty dc sc, (Builtin.copy_ #[23, 23] ty #[.slice (some ⟨g, b * 4, none⟩) m.length dc, .slice (some ⟨g2, 0, none⟩) m.length sc]).run Tryd.prog w = .ok (goInt m.length) (w.setRow g cs.toArray)) ∧
      Rw (w.setRow g cs.toArray) g n (putIn l m b) (fun i => if i < b then G i else if i < b + m.length then G2 (i - b) else G i) n := by
  obtain ⟨c1, h1, h2, h3⟩ := h
  obtain ⟨c2, k1, k2, k3⟩ := hm
  have hfit : b * 4 + c2.toList.length ≤ c1.toList.length := by simp; omega
  refine ⟨splice c1.toList (b * 4) c2.toList, fun ty dc sc => ?_, ?_⟩
  · refine run_copy_k w 23 23 ty 49 4 g (b * 4) _ dc ⟨g2, 0, none⟩ _ sc m.length c1.toList 49 c2.toList Tryd.underlying23 (by obtain ⟨i, hi, _, hs, _⟩ := info_parts info49; rw [hi]; simp [hs]) (by simpa using h1) (Nat.min_self _) (by simp [k2]) (fun j v hv => ?_) hfit (Rw.one k2 k3)
    rw [Addr.add_lit, Nat.zero_add, cell_of_row _ _ _ _ _ _ k1]
    simpa using hv
  · refine ⟨_, setRow_heap _ _ _ _ _ _ h1, by have := length_splice c1.toList (b * 4) c2.toList hfit; simp only [List.size_toArray]; rw [this]; simpa using h2, fun i hi j hj => ?_⟩
    have hl2 : c2.toList.length = m.length * 4 := by simp [k2]
    rw [List.getElem?_toArray, splice_get hfit, hl2]
    dsimp only
    by_cases e1 : i < b
    · rw [if_pos (by omega), putIn_lo (by omega) e1, if_pos e1]
      simpa using h3 i hi j hj
    · rw [if_neg (by omega), if_neg e1]
      by_cases e2 : i < b + m.length
      · rw [if_pos (by omega), putIn_mid (by omega) (by omega) e2, if_pos e2, show i * 4 + j - b * 4 = (i - b) * 4 + j by omega]
        simpa using k3 (i - b) (by omega) j hj
      · rw [if_neg (by omega), putIn_hi (by omega) (by omega), if_neg e2]
        simpa using h3 i hi j hj

theorem putIn_tot {l m : List Cl} {b e : Nat} (h : e = b + m.length) : totL (putIn l m b) + totL ((l.take e).drop b) = totL l + totL m := by
  have e1 : l = l.take b ++ ((l.take e).drop b ++ l.drop e) := by
    rw [← List.append_assoc]
    have : l.take b ++ (l.take e).drop b = l.take e := by
      have := List.take_append_drop b (l.take e)
      rwa [List.take_take, Nat.min_eq_left (by omega)] at this
    rw [this, List.take_append_drop]
  have e2 := congrArg totL e1
  simp only [totL_append] at e2
  simp only [putIn, totL_append, ← h]
  omega

end Go.Proofs.YtfabhhmeanpmhaaDoor

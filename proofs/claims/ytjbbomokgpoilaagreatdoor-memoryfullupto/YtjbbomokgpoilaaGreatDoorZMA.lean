/-
  MMath, Mp, MMem, MFind, MNodes: joined by program; no statement is proved here.
-/
import Derived.Test.YtjbbomokgpoilaaGreatDoorZCA
import Derived.Test.YtjbbomokgpoilaaGreatDoorZHE
import Derived.Test.YtjbbomokgpoilaaGreatDoorZHB
import Derived.Maps.OwnSet
import Derived.Test.YtjbbomokgpoilaaGreatDoorZCC
import Derived.Test.YtjbbomokgpoilaaGreatDoorZHC
import Derived.Test.YtjbbomokgpoilaaGreatDoorZCD
/-
  Memories as plain data: a graph, a heap and what lies where; no statement is proved here.
-/
namespace Go.Proofs.YtjbbomokgpoilaaGreatDoor

/-! ### the graph with other cells behind it -/

namespace Co

def Gs.wx (G : Gs) (X : Fo) : Gs := { G with X := X }

theorem wx_wx (G : Gs) (X Y : Fo) : (G.wx X).wx Y = G.wx Y := rfl
theorem sh_wx (G : Gs) (X : Fo) (x : Int) : sh (G.wx X) x = (sh G x).wx X := by
  unfold sh shN
  by_cases h : x = -1
  · rw [if_pos h, if_pos h]
  · rw [if_neg h, if_neg h]
    by_cases h1 : (ndAt G.ns x.toNat).c = 1
    · rw [if_pos (by exact h1), if_pos h1]; rfl
    · rw [if_neg (by exact h1), if_neg h1]
theorem shs_wx (X : Fo) (R : List Int) : ∀ G : Gs, R.foldl sh (G.wx X) = (R.foldl sh G).wx X := by
  induction R with
  | nil => intro G; rfl
  | cons x R ih => intro G; rw [List.foldl_cons, List.foldl_cons, sh_wx, ih]
theorem shade_wx (G : Gs) (X : Fo) (x : Int) : shade (G.wx X) x = ((shade G x).1.wx X, (shade G x).2) := by
  unfold shade
  rw [sh_wx]
  by_cases h : lvB G x = false
  · rw [if_pos (by exact h), if_pos h]
  · rw [if_neg (by exact h), if_neg h]
theorem node_wx (G : Gs) (X : Fo) (x : Int) : node (G.wx X) x = ((node G x).1.wx X, (node G x).2) := by
  have hf : fr (G.wx X) = fr G := rfl
  have hn : nodeG (G.wx X) x.toNat = (nodeG G x.toNat).wx X := by
    unfold nodeG
    rw [hf]
    by_cases h : fr G = 65536
    · rw [if_pos h, if_pos h]; rfl
    · rw [if_neg h, if_neg h]; rfl
  unfold node
  rw [hf, hn]
  by_cases h : x < 0 ∨ 8192 < x
  · rw [if_pos h, if_pos h]
  · rw [if_neg h, if_neg h]
    by_cases h : fr G = 65536
    · rw [if_pos h, if_pos h]
    · rw [if_neg h, if_neg h]
theorem setG_wx (G : Gs) (X : Fo) (n j : Nat) (x : Int) : setG (G.wx X) n j x = (setG G n j x).wx X := by
  unfold setG
  rw [show ((G.wx X).ns) = G.ns from rfl, sh_wx, sh_wx]
  rfl
theorem set_wx (G : Gs) (X : Fo) (n j x : Int) : set (G.wx X) n j x = ((set G n j x).1.wx X, (set G n j x).2) := by
  unfold set
  rw [setG_wx, show (G.wx X).ns = G.ns from rfl, show lvB (G.wx X) = lvB G from rfl]
  split
  · rfl
  · split
    · rfl
    · split <;> rfl
theorem start_wx (G : Gs) (X : Fo) (R : List Int) : start (G.wx X) R = ((start G R).1.wx X, (start G R).2) := by
  have h := shs_wx X R { G with ph := 1, ns := G.ns.map wh }
  have e : ({ (G.wx X) with ph := 1, ns := (G.wx X).ns.map wh } : Gs) = ({ G with ph := 1, ns := G.ns.map wh } : Gs).wx X := rfl
  unfold start
  rw [e, h, show lvB (G.wx X) = lvB G from rfl, show (G.wx X).ph = G.ph from rfl]
  split
  · rfl
  · split <;> rfl
theorem mark_wx (G : Gs) (X : Fo) : mark (G.wx X) = (mark G).wx X := by
  unfold mark
  rw [show (G.wx X).ln = G.ln from rfl]
  cases G.ln with
  | nil => rfl
  | cons x t =>
    simp only
    rw [show (G.wx X).ns = G.ns from rfl]
    split
    · rfl
    · rw [← sh_wx]; rfl
theorem sweep_wx (G : Gs) (X : Fo) : sweep (G.wx X) = ((sweep G).1.wx X, (sweep G).2) := by
  unfold sweep
  rw [show (G.wx X).pl = G.pl from rfl, show (G.wx X).en = G.en from rfl, show (G.wx X).ns = G.ns from rfl]
  split
  · rfl
  · split <;> rfl
theorem unit_wx (G : Gs) (X : Fo) : unit (G.wx X) = ((unit G).1.wx X, (unit G).2) := by
  unfold unit
  rw [mark_wx, sweep_wx, show (G.wx X).ph = G.ph from rfl]
  split <;> rfl
theorem work_wx (X : Fo) : ∀ (u : Nat) (G : Gs), work u (G.wx X) = ((work u G).1, (work u G).2.1, (work u G).2.2.wx X)
  | 0, G => rfl
  | u + 1, G => by
    unfold work
    rw [show (G.wx X).ph = G.ph from rfl, unit_wx]
    split
    · rfl
    · simp only
      rw [work_wx X u]
theorem Iv.wx {G : Gs} (h : Iv G) (X : Fo) : Iv (G.wx X) := ⟨h.len, h.col, h.sl, h.lo, h.no, h.cl, h.ph, h.idle, h.grey, h.nd, h.tri, h.trg, h.pe, h.le, h.les⟩

end Co

/-! ### a memory -/

/-- An object: its node, and of each word its slot (-1: none). -/
structure Mo where
  nd : Int
  sl : List Int

structure Ms where
  G : Co.Gs
  H : Hs
  ob : Int → Option Mo
  ad : Int → Option Int
  pc : Int
  sn : Int
  cn : Nat

/-- The live object that begins at an address. -/
def fndM (M : Ms) (a : Int) : Option Mo := match M.ob a with
  | some o => if Co.lvB M.G o.nd then some o else none
  | none => none

/-- The nodes of roots. -/
def nodesM (M : Ms) : List Int → Option (List Int)
  | [] => some []
  | a :: R => if a = 0 then nodesM M R else match fndM M a with
    | none => none
    | some o => match nodesM M R with
      | none => none
      | some l => some (o.nd :: l)

/-- The slots of an object's words, the first free slot being c. -/
def slotsF : List Bool → Nat → List Int
  | [], _ => []
  | true :: t, c => (c : Int) :: slotsF t (c + 1)
  | false :: t, c => -1 :: slotsF t c
def cntT (ps : List Bool) : Nat := ps.countP id
theorem slotsF_len (ps : List Bool) : ∀ c, (slotsF ps c).length = ps.length := by
  induction ps with
  | nil => intro c; rfl
  | cons b t ih => intro c; cases b <;> simp [slotsF, ih]

def updO {α : Type} (f : Int → Option α) (k : Int) (v : Option α) : Int → Option α := fun x => if x = k then v else f x

def holdM (M : Ms) (l : List Int) : Ms := { M with G := l.foldl (fun G n => (Co.shade G n).1) M.G }
def beginM (M : Ms) (l : List Int) : Ms := { M with G := (Co.start M.G l).1, sn := if (Co.start M.G l).2 = 0 then 0 else M.sn }
def beginE (M : Ms) (l : List Int) : Int := (Co.start M.G l).2
def adrM (M : Ms) (n : Int) : Int := (M.ad n).getD 0
def freeM (M : Ms) (n : Int) : Ms := { M with H := (freeH M.H (adrM M n)).2, ob := updO M.ob (adrM M n) none, ad := updO M.ad n none }
def workM (M : Ms) (u : Nat) : Ms := ((Co.work u M.G).2.1.map Int.ofNat).foldl freeM { M with G := (Co.work u M.G).2.2 }
def workL (M : Ms) (u : Nat) : Nat := (Co.work u M.G).1
def finishM (M : Ms) : Ms := workM M 9223372036854775807
def cycleM (M : Ms) (l : List Int) : Ms := finishM (beginM M l)
def fitsM (M : Ms) (n : Int) : Bool := decide (1 ≤ n ∧ n ≤ 8192) && fitsH M.H (n * 8)
def room1 (M : Ms) (n : Int) : Ms := if fitsM M n then M else finishM M
def roomM (M : Ms) (n : Int) (l : List Int) : Ms := if fitsM (room1 M n) n then room1 M n else cycleM (room1 M n) l
def placeM (M : Ms) (ps : List Bool) (tag : Int) : Ms × Int × Int :=
  if (Co.node M.G (cntT ps : Int)).2.2 ≠ 0 then ({ M with G := (Co.node M.G (cntT ps : Int)).1 }, 0, (Co.node M.G (cntT ps : Int)).2.2)
  else if (allocH M.H (ps.length * 8) tag).2.1 ≠ 0 then ({ M with G := (Co.node M.G (cntT ps : Int)).1, H := (allocH M.H (ps.length * 8) tag).2.2 }, 0, (allocH M.H (ps.length * 8) tag).2.1)
  else ({ M with
      G := (Co.node M.G (cntT ps : Int)).1
      H := (allocH M.H (ps.length * 8) tag).2.2
      ob := updO M.ob (allocH M.H (ps.length * 8) tag).1 (some ⟨(Co.node M.G (cntT ps : Int)).2.1, slotsF ps 0⟩)
      ad := updO M.ad (Co.node M.G (cntT ps : Int)).2.1 (some (allocH M.H (ps.length * 8) tag).1)
      sn := M.sn + ps.length
      cn := M.cn + 1 }, (allocH M.H (ps.length * 8) tag).1, 0)

end Go.Proofs.YtjbbomokgpoilaaGreatDoor

/-
  Maps from ints, as they lie in memory, with values of any kind; no statement is proved here.
-/
namespace Go.Proofs.YtjbbomokgpoilaaGreatDoor
open Go.RowKit Go.Maps

/-- An element reads as itself. -/
def Rv (v : Value) : Option (DataW Value × List MemPlace) := some (.held v, [])

/-- Block b is a map with at most N entries, of which f tells what stands at each key. -/
def Mp (w : World) (b : Nat) (N : Nat) (f : Int → Option Value) : Prop :=
  ∃ D : DataW Value, w.ownsMap Tryz.prog 3 Rv b N D ∧ IsMap D ∧ ∀ k, I64 k → Maps.has D (.int .i64 k) = (f k).isSome ∧ ∀ z, D.atKey (.int .i64 k) z = ((f k).map DataW.held).getD z

theorem keyed3 : Keyed Tryz.prog 3 := int_keyed Tryz.underlying3
theorem key_int {k : Int} (h : I64 k) : keyOf Tryz.prog 3 (.int .i64 k) = some (.int .i64 k) := keyOf_int_mk Tryz.underlying3 (by unfold I64 at h; simp [Lit.wf, IntKind.min, IntKind.max, IntKind.signed, IntKind.bits]; omega)

/-- Another function's value at one key. -/
def upd (f : Int → Option Value) (k : Int) (v : Option Value) : Int → Option Value := fun x => if x = k then v else f x

theorem Mp.new (w : World) : Mp (w.alloc (.map #[] 0)) w.heap.size 0 (fun _ => none) :=
  ⟨.map [], World.ownsMap_made w _ _ _, isMap_empty, fun _ _ => ⟨rfl, fun _ => rfl⟩⟩
theorem Mp.lt {w : World} {b N : Nat} {f : Int → Option Value} (h : Mp w b N f) : b < w.heap.size := by
  obtain ⟨D, h, _⟩ := h; exact h.lt
theorem Mp.keepB {w w' : World} {b N : Nat} {f : Int → Option Value} (h : Mp w b N f) (x : w'.heap[b]? = w.heap[b]?) : Mp w' b N f := by
  obtain ⟨D, ⟨es, clock, h1, h2⟩, h3⟩ := h
  exact ⟨D, ⟨es, clock, x.trans h1, h2⟩, h3⟩
theorem Mp.keep {B : Nat → Prop} {w w' : World} {b N : Nat} {f : Int → Option Value} (h : Mp w b N f) (x : Fx B w w') (hb : ¬ B b) : Mp w' b N f := h.keepB (x.block b h.lt hb)

theorem Mp.look {w : World} {b N : Nat} {f : Int → Option Value} (h : Mp w b N f) {t e : TypeId} (ht : Tryz.prog.underlying t = some (.map 3 e)) {z : Value} (hz : (zeroValue e).run Tryz.prog w = .ok z w) {k : Int} (hk : I64 k) (c : Bool) :
    (Instr.lookup t (.map (some b)) (.int .i64 k) c).run Tryz.prog w = .ok (if c then .tuple #[(f k).getD z, .bool (f k).isSome] else (f k).getD z) w := by
  obtain ⟨D, ⟨es, clock, hb, F, _, rfl⟩, _, hf⟩ := h
  have h1 := (hf k hk).2
  rcases Maps.fit_look c keyed3 ht hz hb F (key_int hk) with ⟨hrun, _, hat⟩ | ⟨e0, y, _, _, hrun, hRv, hat, _⟩
  · have h2 := (hat .nil).symm.trans (h1 .nil)
    cases hq : f k with
    | none => rw [hrun]; simp
    | some v => rw [hq] at h2; simp at h2
  · have h2 := (hat .nil).symm.trans (h1 .nil)
    unfold Rv at hRv
    cases hRv
    cases hq : f k with
    | none => rw [hq] at h2; simp at h2
    | some v =>
      rw [hq] at h2
      simp at h2
      rw [hrun, h2]; simp
theorem Mp.len_le {w : World} {b N : Nat} {f : Int → Option Value} (h : Mp w b N f) {n : Nat} (hn : N ≤ n) : Mp w b n f := by
  obtain ⟨D, h1, h2⟩ := h
  exact ⟨D, h1.mono hn, h2⟩

theorem ext_turned {w w' : World} {b : Nat} (h : w.mapTurned w' b) : Ext [b] w w' := Ext.grown h.grown (by intro k hk; cases hk; simp)

theorem Mp.put {w : World} {b N : Nat} {f : Int → Option Value} (h : Mp w b N f) {t e : TypeId} (ht : Tryz.prog.underlying t = some (.map 3 e)) (hN : N < maxLen) {k : Int} (hk : I64 k) (v : Value) :
    ∃ w', (Instr.mapUpdate t (.map (some b)) (.int .i64 k) v).run Tryz.prog w = .ok () w' ∧ Mp w' b (N + 1) (upd f k (some v)) ∧ Ext [b] w w' := by
  obtain ⟨D, h1, h2, hf⟩ := h
  obtain ⟨w', hr, ho, ht⟩ := h1.store (d := .held v) (ps := []) keyed3 ht hN (key_int hk) rfl
  refine ⟨w', hr, ⟨_, ho, h2.put _ _, fun x hx => ?_⟩, ext_turned ht⟩
  have hkk : WideAt.IsKeyLit (.int .i64 k) := trivial
  by_cases e : x = k
  · subst e
    simp only [upd, if_true]
    exact ⟨has_put_same h2 hkk _, fun z => atKey_put_same h2 hkk _ _⟩
  · have hne : Lit.int .i64 x ≠ Lit.int .i64 k := by simpa using e
    simp only [upd, if_neg e]
    exact ⟨(has_put_other hne _).trans (hf x hx).1, fun z => (atKey_put_other hne _ _).trans ((hf x hx).2 z)⟩
theorem Mp.del {w : World} {b N : Nat} {f : Int → Option Value} (h : Mp w b N f) {t e : TypeId} (ht : Tryz.prog.underlying t = some (.map 3 e)) {k : Int} (hk : I64 k) (ty : TypeId) :
    ∃ w', (Builtin.delete_ #[t, 3] ty #[.map (some b), .int .i64 k]).run Tryz.prog w = .ok (.tuple #[]) w' ∧ Mp w' b N (upd f k none) ∧ Ext [b] w w' := by
  obtain ⟨D, h1, h2, hf⟩ := h
  obtain ⟨w', hr, ho, ht⟩ := h1.drop keyed3 ht (key_int hk) ty
  refine ⟨w', hr, ⟨_, ho, h2.del _, fun x hx => ?_⟩, ext_turned ht⟩
  by_cases e : x = k
  · subst e
    simp only [upd, if_true]
    exact ⟨by rw [has_del_same]; rfl, fun z => atKey_del_same _⟩
  · have hne : Lit.int .i64 x ≠ Lit.int .i64 k := by simpa using e
    simp only [upd, if_neg e]
    exact ⟨(has_del_other hne).trans (hf x hx).1, fun z => (atKey_del_other hne _).trans ((hf x hx).2 z)⟩

end Go.Proofs.YtjbbomokgpoilaaGreatDoor

/-
  A memory as it lies in memory; no statement is proved here.
-/
namespace Go.Proofs.YtjbbomokgpoilaaGreatDoor
open Go.RowKit

theorem fx_co {B : Nat → Prop} {w w' : World} (h : Co.Fx B w w') : Fx B w w' := ⟨h.os, h.tape, h.output, h.size, h.block⟩
theorem co_fx {B : Nat → Prop} {w w' : World} (h : Fx B w w') : Co.Fx B w w' := ⟨h.os, h.tape, h.output, h.size, h.block⟩
theorem ext_co {S : List Nat} {w w' : World} (h : Co.Ext S w w') : Ext S w w' := ⟨h.os, h.tape, h.output, h.size, h.block⟩
theorem co_ext {S : List Nat} {w w' : World} (h : Ext S w w') : Co.Ext S w w' := ⟨h.os, h.tape, h.output, h.size, h.block⟩

/-- What stands in the map of objects for an object. -/
def moV (o : Mo) (g : Nat) : Value := .agg #[.int .i64 o.nd, .slice (some ⟨g, 0, none⟩) o.sl.length o.sl.length]

/-- A memory in block p. The classes of blocks: 1 the graph's, 2 the heap's, 3 slots, 4 the map of objects, 5 the map of addresses. -/
structure Mm (w : World) (p : Nat) (M : Ms) (X : Co.Fo) (cs : Array Value) (cl : Nat → Nat) (bo ba : Nat) (fo : Int → Option Value) : Prop where
  g : Co.Gr w p (M.G.wx X) (fun k => cl k = 1)
  h : Hw w p 7 85 cs (fun k => cl k = 2) M.H
  xd : X.d = .map (some bo)
  xe : X.e = .map (some ba)
  xf : X.f = .int .i64 M.pc
  xg : X.g = .int .i64 M.sn
  mo : Mp w bo M.cn fo
  ma : Mp w ba M.cn (fun k => (M.ad k).map (Value.int .i64))
  co : cl bo = 4
  ca : cl ba = 5
  th : ∀ k, cl k ≠ 0 → k < w.heap.size
  os : ∀ a o, M.ob a = some o → ∃ g, fo a = some (moV o g) ∧ w.heap[g]? = some (.cells (o.sl.map (Value.int .i64)).toArray 3 (0, 0)) ∧ cl g = 3 ∧ o.sl.length ≤ 8192
  on : ∀ a, M.ob a = none → fo a = none

/-- A memory whose blocks are of Z. -/
def Mw (w : World) (p : Nat) (M : Ms) (Z : Nat → Prop) : Prop := ∃ X cs cl bo ba fo, Mm w p M X cs cl bo ba fo ∧ ∀ k, cl k ≠ 0 → Z k

/-- How a memory has turned, and what was answered. -/
def MPost (w : World) (p : Nat) (M' : Ms) (Z : Nat → Prop) (r : Value) (e : Ending) (w' : World) : Prop := e = .returned r ∧ Mw w' p M' (Co.Nw Z w) ∧ Fx Z w w'

section
variable {w w' : World} {p : Nat} {M : Ms} {X : Co.Fo} {cs : Array Value} {cl : Nat → Nat} {bo ba : Nat} {fo : Int → Option Value}

theorem Mm.p1 (h : Mm w p M X cs cl bo ba fo) : cl p = 1 := by obtain ⟨_, _, _, _, f⟩ := h.g; exact f.p
theorem Mm.pt (h : Mm w p M X cs cl bo ba fo) : p < w.heap.size := h.th p (by rw [h.p1]; decide)

/-- The block's cells. -/
theorem Mm.blk (h : Mm w p M X cs cl bo ba fo) : ∃ vn vl, w.heap[p]? = some (.cells #[vn, .int .i64 M.G.le, vl, .int .i64 M.G.ph, .int .i64 M.G.cy, .int .i64 M.G.pl, .int .i64 M.G.en, X.a, X.b, X.c, X.d, X.e, X.f, X.g] 85 (0, 0)) := by
  obtain ⟨vn, vl, _, g, _⟩ := h.g
  exact ⟨vn, vl, g.blk⟩
theorem Mm.flds (h : Mm w p M X cs cl bo ba fo) : w.cell? ⟨p, 10, none⟩ = some (.map (some bo)) ∧ w.cell? ⟨p, 11, none⟩ = some (.map (some ba)) ∧ w.cell? ⟨p, 12, none⟩ = some (.int .i64 M.pc) ∧ w.cell? ⟨p, 13, none⟩ = some (.int .i64 M.sn) ∧ ∀ j, w.frozen? ⟨p, j, none⟩ = false := by
  obtain ⟨vn, vl, hb⟩ := h.blk
  simp only [cell_of_row _ _ _ _ _ _ hb]
  exact ⟨by rw [← h.xd]; rfl, by rw [← h.xe]; rfl, by rw [← h.xf]; rfl, by rw [← h.xg]; rfl, fun j => frozen_of_row _ _ _ _ _ hb⟩

/-- What leaves a memory's blocks alone leaves the memory alone. -/
theorem Mm.keep {B : Nat → Prop} (h : Mm w p M X cs cl bo ba fo) (x : Fx B w w') (hd : ∀ k, cl k ≠ 0 → ¬ B k) : Mm w' p M X cs cl bo ba fo := by
  refine ⟨h.g.keep (co_fx x) (fun k hk => hd k (by rw [hk]; decide)), h.h.keep x (hd p (by rw [h.p1]; decide)) (fun k hk => hd k (by rw [hk]; decide)), h.xd, h.xe, h.xf, h.xg, h.mo.keep x (hd _ (by rw [h.co]; decide)), h.ma.keep x (hd _ (by rw [h.ca]; decide)), h.co, h.ca, fun k hk => Nat.lt_of_lt_of_le (h.th k hk) x.size, fun a o ho => ?_, h.on⟩
  obtain ⟨g, h1, h2, h3, h4⟩ := h.os a o ho
  exact ⟨g, h1, x.keep h2 (hd g (by rw [h3]; decide)), h3, h4⟩
theorem Mm.keep0 (h : Mm w p M X cs cl bo ba fo) (x : Ext [] w w') : Mm w' p M X cs cl bo ba fo := h.keep (B := fun _ => False) (Fx.of_ext0 x) (fun _ _ q => q)
theorem Mw.keep {B Z : Nat → Prop} (h : Mw w p M Z) (x : Fx B w w') (hd : ∀ k, Z k → ¬ B k) : Mw w' p M Z := by
  obtain ⟨X, cs, cl, bo, ba, fo, h1, h2⟩ := h
  exact ⟨X, cs, cl, bo, ba, fo, h1.keep x (fun k hk => hd k (h2 k hk)), h2⟩
theorem Mw.keep0 {Z : Nat → Prop} (h : Mw w p M Z) (x : Ext [] w w') : Mw w' p M Z := h.keep (B := fun _ => False) (Fx.of_ext0 x) (fun _ _ q => q)
theorem Mw.mono {Y Z : Nat → Prop} (h : Mw w p M Z) (hm : ∀ k, Z k → Y k) : Mw w p M Y := by
  obtain ⟨X, cs, cl, bo, ba, fo, h1, h2⟩ := h
  exact ⟨X, cs, cl, bo, ba, fo, h1, fun k hk => hm k (h2 k hk)⟩
theorem Mw.there {Z : Nat → Prop} (h : Mw w p M Z) : Mw w p M (fun k => Z k ∧ k < w.heap.size) := by
  obtain ⟨X, cs, cl, bo, ba, fo, h1, h2⟩ := h
  exact ⟨X, cs, cl, bo, ba, fo, h1, fun k hk => ⟨h2 k hk, h1.th k hk⟩⟩
theorem Mw.zp {Z : Nat → Prop} (h : Mw w p M Z) : Z p := by
  obtain ⟨X, cs, cl, bo, ba, fo, h1, h2⟩ := h
  exact h2 p (by rw [h1.p1]; decide)
theorem Mw.pt {Z : Nat → Prop} (h : Mw w p M Z) : p < w.heap.size := by
  obtain ⟨X, cs, cl, bo, ba, fo, h1, h2⟩ := h
  exact h1.pt

open Classical in
/-- The classes with what is new. -/
noncomputable def clN (cl : Nat → Nat) (w w' : World) (C : Nat → Prop) (c : Nat) : Nat → Nat := fun k => if k < w.heap.size then cl k else if C k ∧ k < w'.heap.size then c else 0

theorem clN_old {C : Nat → Prop} {c k : Nat} (h : k < w.heap.size) : clN cl w w' C c k = cl k := by unfold clN; rw [if_pos h]
theorem clN_new {C : Nat → Prop} {c k : Nat} (h : w.heap.size ≤ k) (h1 : C k) (h2 : k < w'.heap.size) : clN cl w w' C c k = c := by unfold clN; rw [if_neg (by omega), if_pos ⟨h1, h2⟩]
theorem clN_ne {C : Nat → Prop} {c k : Nat} (h : clN cl w w' C c k ≠ 0) : cl k ≠ 0 ∧ k < w.heap.size ∨ w.heap.size ≤ k ∧ C k ∧ k < w'.heap.size := by
  unfold clN at h
  split at h
  · rename_i q; exact .inl ⟨h, q⟩
  · split at h
    · rename_i q1 q2; exact .inr ⟨by omega, q2⟩
    · exact absurd rfl h

/-- The heap is the same where another block's cells are its own. -/
theorem Hw.swap {B F : Nat → Prop} {H : Hs} {cs cs' : Array Value} (h : Hw w p 7 85 cs F H) (x : Fx B w w') (hF : ∀ k, F k → ¬ B k) {c0 : Array Value} (h0 : w.heap[p]? = some (.cells c0 85 (0, 0))) (h1 : w'.heap[p]? = some (.cells cs' 85 (0, 0))) (hz : 8 < cs'.size)
    (e7 : cs'[7]? = c0[7]?) (e8 : cs'[8]? = c0[8]?) (e9 : cs'[9]? = c0[9]?) : Hw w' p 7 85 cs' F H := by
  obtain ⟨ag, og, V, sb, O, h⟩ := h
  have hb := h.box.at_
  rw [h0] at hb
  simp only [Option.some.injEq, Obj.cells.injEq, and_true] at hb
  have hsz := h.box.sz
  have e8' : cs'[8]? = some V := by rw [e8, hb, Array.getElem?_setIfInBounds, if_pos rfl, if_pos (by omega)]
  refine ⟨ag, og, V, sb, O, ⟨?_, hz, by decide⟩, h.ty, ?_, ?_, x.keep h.bytes (hF _ h.fa), ?_, x.keep h.owners (hF _ h.fo), h.olen, h.own, fun y hy => ?_, h.inj, h.fa, h.fo, h.fv, h.fs, h.np, h.ok⟩
  · rw [h1]
    congr 2
    apply Array.ext_getElem?
    intro i
    rw [Array.getElem?_setIfInBounds]
    by_cases e : 7 + 1 = i
    · subst e; rw [if_pos rfl, if_pos (by omega)]; exact e8'
    · rw [if_neg e]
  · rw [e7, hb, Array.getElem?_setIfInBounds, if_neg (by omega)]; exact h.ca
  · have e9' : cs'[7 + 2]? = c0[7 + 2]? := e9
    rw [e9', hb, Array.getElem?_setIfInBounds, if_neg (by omega)]; exact h.co
  · refine ⟨h.runs.1, ?_⟩
    rcases h.runs.2 with q | ⟨g, cap, cur, hv, h1, h2, h3⟩
    · exact .inl q
    · exact .inr ⟨g, cap, cur, hv, h1, x.keep h2 (hF _ (h.fv g (by rw [hv]; rfl))), h3⟩
  · exact ⟨x.keep (h.spans y hy).box (hF _ (h.fs y hy).1), x.keep (h.spans y hy).row (hF _ (h.fs y hy).2)⟩

/-- Behind a call on the graph. -/
theorem Mm.graph (h : Mm w p M X cs cl bo ba fo) {G' : Co.Gs} {C : Nat → Prop} (hG : Co.Gr w' p (G'.wx X) C) (hC : ∀ k, C k → Co.Nw (fun k => cl k = 1) w k) (x : Co.Fx (fun k => cl k = 1) w w') :
    ∃ cs', Mm w' p { M with G := G' } X cs' (clN cl w w' C 1) bo ba fo := by
  obtain ⟨vn, vl, hb⟩ := h.blk
  have hG0 := hG
  obtain ⟨vn', vl', SV', hg', _⟩ := hG0
  have x' := fx_co x
  have ho := fun k hk => clN_old (cl := cl) (w' := w') (C := C) (c := 1) (h.th k hk)
  have hpp : ∀ k, cl k = 2 → ¬ cl k = 1 := fun k h1 h2 => by omega
  refine ⟨#[vn', .int .i64 G'.le, vl', .int .i64 G'.ph, .int .i64 G'.cy, .int .i64 G'.pl, .int .i64 G'.en, X.a, X.b, X.c, X.d, X.e, X.f, X.g], ?_, ?_, h.xd, h.xe, h.xf, h.xg, ?_, ?_, ?_, ?_, fun k hk => ?_, fun a o hao => ?_, h.on⟩
  · refine hG.there.mono (fun k hk => ?_)
    rcases hC k hk.1 with q | q
    · rw [ho k (by rw [q]; decide)]; exact q
    · exact clN_new q hk.1 hk.2
  · have h2 := Hw.swap h.h x' hpp hb hg'.blk (by simp) rfl rfl rfl
    obtain ⟨ag, og, V, sb, O, h2⟩ := h2
    refine ⟨ag, og, V, sb, O, h2.foot (fun k hk => ?_) ?_⟩
    · rw [ho k (by rw [hk]; decide)]; exact hk
    · rw [ho p (by rw [h.p1]; decide), h.p1]; decide
  · exact h.mo.keep x' (by rw [h.co]; decide)
  · exact h.ma.keep x' (by rw [h.ca]; decide)
  · rw [ho _ (by rw [h.co]; decide)]; exact h.co
  · rw [ho _ (by rw [h.ca]; decide)]; exact h.ca
  · rcases clN_ne hk with q | q
    · exact Nat.lt_of_lt_of_le q.2 x.size
    · exact q.2.2
  · obtain ⟨g, h1, h2, h3, h4⟩ := h.os a o hao
    exact ⟨g, h1, x'.keep h2 (by rw [h3]; decide), by rw [ho g (by rw [h3]; decide)]; exact h3, h4⟩

/-- Behind a call on the heap. -/
theorem Mm.heap (h : Mm w p M X cs cl bo ba fo) {H' : Hs} {F' : Nat → Prop} (hH : Hw w' p 7 85 cs F' H') (hF : ∀ k, F' k → cl k = 2 ∨ w.heap.size ≤ k) (x : Fx (fun k => k = p ∨ cl k = 2) w w') :
    ∃ X', Mm w' p { M with H := H' } X' cs (clN cl w w' F' 2) bo ba fo := by
  obtain ⟨vn, vl, SV, hg, hf⟩ := h.g
  obtain ⟨ag0, og0, V0, sb0, O0, h0⟩ := h.h
  have hH0 := hH
  obtain ⟨ag, og, V, sb, O, h1⟩ := hH0
  have ho := fun k hk => clN_old (cl := cl) (w' := w') (C := F') (c := 2) (h.th k hk)
  have e0 := h0.box.at_
  rw [hg.blk] at e0
  simp only [Option.some.injEq, Obj.cells.injEq, and_true] at e0
  have e1 := h1.box.at_
  have e2 : cs.setIfInBounds (7 + 1) V = (#[vn, .int .i64 M.G.le, vl, .int .i64 M.G.ph, .int .i64 M.G.cy, .int .i64 M.G.pl, .int .i64 M.G.en, X.a, V, X.c, X.d, X.e, X.f, X.g] : Array Value) := by
    have : cs.setIfInBounds (7 + 1) V = (cs.setIfInBounds (7 + 1) V0).setIfInBounds (7 + 1) V := by simp
    rw [this, ← e0]; rfl
  rw [e2] at e1
  have hpn : p < w.heap.size := h.pt
  have hb1 : ∀ k, cl k = 1 → k ≠ p → ¬ (k = p ∨ cl k = 2) := fun k a b c => by rcases c with c | c; exact b c; omega
  have hsep : ∀ g, cl g = 1 → (∃ c t, t ≠ 85 ∧ w.heap[g]? = some (.cells c t (0, 0))) → ¬ (g = p ∨ cl g = 2) := fun g a b => hb1 g a (fun e => by
    obtain ⟨c, t, ht, hc⟩ := b
    rw [e, hg.blk] at hc
    simp at hc
    exact ht hc.2.symm)
  refine ⟨{ X with b := V }, ?_, ?_, h.xd, h.xe, h.xf, h.xg, ?_, ?_, ?_, ?_, fun k hk => ?_, fun a o hao => ?_, h.on⟩
  · refine ⟨vn, vl, SV, ⟨e1, ?_, ?_, hg.svl, fun i hi => ?_, hg.sep, hg.sel⟩, ?_⟩
    · exact Co.own_keepF hg.row (co_fx x) (fun g q => by
        obtain ⟨c, hc⟩ := Co.own_at hg.row q
        exact hsep g (hf.n g q) ⟨c, 154, by decide, hc⟩)
    · exact hg.lin.keep (co_fx x) (fun g q => by
        obtain ⟨c, hc⟩ := hg.lin.row g q
        exact hsep g (hf.l g q) ⟨c, 3, by decide, hc⟩)
    · exact (hg.slo i hi).keep (co_fx x) (fun g q => by
        obtain ⟨c, hc⟩ := (hg.slo i hi).row g q
        exact hsep g (hf.s i g q) ⟨c, 3, by decide, hc⟩)
    · refine hf.mono (fun k hk => ?_)
      rw [ho k (by rw [hk]; decide)]; exact hk
  · refine ⟨ag, og, V, sb, O, h1.there.foot (fun k hk => ?_) ?_⟩
    · rcases hF k hk.1 with q | q
      · rw [ho k (by rw [q]; decide)]; exact q
      · exact clN_new q hk.1 hk.2
    · rw [ho p (by rw [h.p1]; decide), h.p1]; decide
  · exact h.mo.keep x (by rintro (q | q); (have := h.co; have := h.p1; rw [q] at *; omega); (have := h.co; omega))
  · exact h.ma.keep x (by rintro (q | q); (have := h.ca; have := h.p1; rw [q] at *; omega); (have := h.ca; omega))
  · rw [ho _ (by rw [h.co]; decide)]; exact h.co
  · rw [ho _ (by rw [h.ca]; decide)]; exact h.ca
  · rcases clN_ne hk with q | q
    · exact Nat.lt_of_lt_of_le q.2 x.size
    · exact q.2.2
  · obtain ⟨g, h1, h2, h3, h4⟩ := h.os a o hao
    exact ⟨g, h1, x.keep h2 (by rintro (q | q); (have e := h.p1; rw [← q] at e; omega); omega), by rw [ho g (by rw [h3]; decide)]; exact h3, h4⟩

end

end Go.Proofs.YtjbbomokgpoilaaGreatDoor

/-
  The live object that begins at an address; no statement is proved here.
-/
namespace Go.Proofs.YtjbbomokgpoilaaGreatDoor
open Go.RowKit

/-- What stands for no object. -/
def moZ : Value := .agg #[.int .i64 0, .slice none 0 0]

theorem load89 {w : World} {g : Nat} {u : Int} {v : Value} (h : w.heap[g]? = some (.cells #[.int .i64 u, v] 89 (0, 0))) : (loadVar 89 ⟨g, 0, none⟩).run Tryz.prog w = .ok (.agg #[.int .i64 u, v]) w := by
  have c0 : w.cell? ⟨g, 0, none⟩ = some (.int .i64 u) := by rw [cell_of_row _ _ _ _ _ _ h]; rfl
  have c1 : w.cell? ⟨g, 1, none⟩ = some v := by rw [cell_of_row _ _ _ _ _ _ h]; rfl
  simp [go_sem, c0, c1]
/-- What a function answers whose first result is an object. -/
theorem res89 {fn : Func} {p q : Tmp} (hr : fn.results = #[.cell p 89, .tmp q]) {w : World} {g : Nat} {u er : Int} {v : Value} (h : w.heap[g]? = some (.cells #[.int .i64 u, v] 89 (0, 0))) (tmps : Array Value) (h4 : tmps.getD p undef = .pointer (some ⟨g, 0, none⟩)) (h5 : tmps.getD q undef = .int .i64 er) :
    (results fn tmps).run Tryz.prog w = .ok (.tuple #[.agg #[.int .i64 u, v], .int .i64 er]) w := by
  have := results_cell_tmp2 (P := Tryz.prog) hr tmps w ⟨g, 0, none⟩ _ h4 (load89 h)
  rw [h5] at this
  exact this
theorem set89 {w : World} {g : Nat} {c : Array Value} (h : w.heap[g]? = some (.cells c 89 (0, 0))) (hc : c.size = 2) (u : Int) (v : Value) : ((w.setCell ⟨g, 0, none⟩ (.int .i64 u)).setCell ⟨g, 1, none⟩ v).heap[g]? = some (.cells #[.int .i64 u, v] 89 (0, 0)) := by
  obtain ⟨x, y, rfl⟩ : ∃ x y, c = #[x, y] := ⟨c[0], c[1], by apply Array.ext (by simpa using hc); intro i h1 h2; rcases i with _ | _ | i; rfl; rfl; simp at h2; omega⟩
  rw [heap_setCell_same _ g 1 _ _ _ (heap_setCell_same _ g 0 _ _ _ h)]
  rfl
theorem ext89 {w W : World} (hE : Ext [] w W) {g : Nat} (hg : w.heap.size ≤ g) (u v : Value) : Ext [] w ((W.setCell ⟨g, 0, none⟩ u).setCell ⟨g, 1, none⟩ v) :=
  hE.on ((Ext.setCell [g] W _ _ (by simp)).trans (Ext.setCell [g] _ _ _ (by simp))) (by simpa using hg)

theorem find_nil (a : Int) (w : World) : Calls Tryz.prog 40 #[.pointer none, .int .i64 a] w (SayPost w (.tuple #[moZ, .int .i64 2])) := by
  have HF : Hid (Ext [] w (w.alloc (.cells #[.int .i64 0, .slice none 0 0] 89)) ∧ (w.alloc (.cells #[.int .i64 0, .slice none 0 0] 89)).heap[w.heap.size]? = some (.cells #[.int .i64 0, .slice none 0 0] 89 (0, 0))) := ⟨Ext.alloc [] w _, heap_alloc_new _ _⟩
  unfold moZ
  go_enter Tryz.func40, Tryz.ntmps40
  go_wp2
  refine bodyPost_ret (res89 rfl HF.out.2 _ ?_ ?_) rfl ⟨rfl, HF.out.1⟩
  · rfl
  · rfl

section
variable {w : World} {p : Nat} {M : Ms} {X : Co.Fo} {cs : Array Value} {cl : Nat → Nat} {bo ba : Nat} {fo : Int → Option Value}

theorem find_none (h : Mm w p M X cs cl bo ba fo) (a : Int) (hi : I64 a) (hn : M.ob a = none) : Calls Tryz.prog 40 #[.pointer (some ⟨p, 0, none⟩), .int .i64 a] w (SayPost w (.tuple #[moZ, .int .i64 4])) := by
  have hpt := h.pt
  obtain ⟨f10, _, _, _, fz⟩ := h.flds
  have hE := Ext.alloc [] w (.cells #[.int .i64 0, .slice none 0 0] 89)
  have c10 := hE.cell f10 (by simp)
  have hl := (h.mo.keepB (w' := w.alloc (.cells #[.int .i64 0, .slice none 0 0] 89)) (hE.block _ h.mo.lt (by simp))).look (t := 82) (e := 89) Tryz.underlying82 (z := moZ) (by exact Tryz.zeroValue89 _) hi true
  rw [h.on a hn] at hl
  simp only [Option.getD, Option.isSome, if_true] at hl
  unfold moZ at *
  have HF : Hid (Ext [] w ((w.alloc (.cells #[.int .i64 0, .slice none 0 0] 89)).alloc (.cells #[.int .i64 0, .slice none 0 0] 89)) ∧ ((w.alloc (.cells #[.int .i64 0, .slice none 0 0] 89)).alloc (.cells #[.int .i64 0, .slice none 0 0] 89)).heap[w.heap.size]? = some (.cells #[.int .i64 0, .slice none 0 0] 89 (0, 0))) :=
    ⟨hE.trans (Ext.alloc _ _ _), (Ext.alloc [] _ _).keep (heap_alloc_new _ _) (by simp)⟩
  clear h hE
  go_enter Tryz.func40, Tryz.ntmps40
  go_wp2
  refine bodyPost_ret (res89 rfl HF.out.2 _ ?_ ?_) rfl ⟨rfl, HF.out.1⟩
  · rfl
  · rfl

theorem find_some (h : Mm w p M X cs cl bo ba fo) (hlen : M.G.ns.length ≤ 65536) (a : Int) (hi : I64 a) (o : Mo) (g : Nat) (hf : fo a = some (moV o g)) :
    Calls Tryz.prog 40 #[.pointer (some ⟨p, 0, none⟩), .int .i64 a] w (SayPost w (.tuple #[if Co.lvB M.G o.nd then moV o g else moZ, .int .i64 (if Co.lvB M.G o.nd then 0 else 4)])) := by
  have hpt := h.pt
  obtain ⟨f10, _, _, _, fz⟩ := h.flds
  have hE := Ext.alloc [] w (.cells #[.int .i64 0, .slice none 0 0] 89)
  have c10 := hE.cell f10 (by simp)
  have hl := (h.mo.keepB (w' := w.alloc (.cells #[.int .i64 0, .slice none 0 0] 89)) (hE.block _ h.mo.lt (by simp))).look (t := 82) (e := 89) Tryz.underlying82 (z := moZ) (by exact Tryz.zeroValue89 _) hi true
  rw [hf] at hl
  simp only [Option.getD, Option.isSome, if_true] at hl
  have hW : Ext [] w ((w.alloc (.cells #[.int .i64 0, .slice none 0 0] 89)).alloc (.cells #[.int .i64 o.nd, .slice (some ⟨g, 0, none⟩) o.sl.length o.sl.length] 89)) := hE.trans (Ext.alloc _ _ _)
  have KC : Hid (∀ n, Calls Tryz.prog 72 #[.pointer (some ⟨p, 0, none⟩), .int .i64 o.nd] (((w.alloc (.cells #[.int .i64 0, .slice none 0 0] 89)).alloc (.cells #[.int .i64 o.nd, .slice (some ⟨g, 0, none⟩) o.sl.length o.sl.length] 89)).drewN n) (Qt (((w.alloc (.cells #[.int .i64 0, .slice none 0 0] 89)).alloc (.cells #[.int .i64 o.nd, .slice (some ⟨g, 0, none⟩) o.sl.length o.sl.length] 89)).drewN n) (.tuple #[.int .i64 (if Co.lvB M.G o.nd then ((Co.ndAt M.G.ns o.nd.toNat).c : Int) else 0), .int .i64 (if Co.lvB M.G o.nd then 0 else 4)]))) := fun n =>
    (Co.color_any p (M.G.wx X) _ o.nd _ ((h.keep0 (hW.trans (Ext.drewN _ _ n))).g) hlen).mono (by rintro e w1 ⟨rfl, rfl⟩; exact ⟨rfl, 0, rfl⟩)
  have KC := KC.out
  have HG : Hid (∀ n, Ext [] w ((((w.alloc (.cells #[.int .i64 0, .slice none 0 0] 89)).alloc (.cells #[.int .i64 o.nd, .slice (some ⟨g, 0, none⟩) o.sl.length o.sl.length] 89)).drewN n)) ∧ ((((w.alloc (.cells #[.int .i64 0, .slice none 0 0] 89)).alloc (.cells #[.int .i64 o.nd, .slice (some ⟨g, 0, none⟩) o.sl.length o.sl.length] 89)).drewN n)).heap[w.heap.size]? = some (.cells #[.int .i64 0, .slice none 0 0] 89 (0, 0))) :=
    fun n => ⟨hW.trans (Ext.drewN _ _ n), ((Ext.alloc [] _ _).trans (Ext.drewN [] _ n)).keep (heap_alloc_new _ _) (by simp)⟩
  clear h hE hW
  unfold moZ moV at *
  cases hb : Co.lvB M.G o.nd
  · simp only [hb, Bool.false_eq_true, if_false] at KC ⊢
    go_enter Tryz.func40, Tryz.ntmps40
    go_wp2_with fail
    go_quiet ((go_at_call 72; exact Calls.quiet_of (KC _)))
    go_wp2_with fail
    refine bodyPost_ret (res89 rfl (set89 (HG.out _).2 rfl _ _) _ ?_ ?_) rfl ⟨rfl, ext89 (HG.out _).1 (Nat.le_refl _) _ _⟩
    · rfl
    · rfl
  · simp only [hb, if_true] at KC ⊢
    go_enter Tryz.func40, Tryz.ntmps40
    go_wp2_with fail
    go_quiet ((go_at_call 72; exact Calls.quiet_of (KC _)))
    go_wp2_with fail
    refine bodyPost_ret (res89 rfl (set89 (HG.out _).2 rfl _ _) _ ?_ ?_) rfl ⟨rfl, ext89 (HG.out _).1 (Nat.le_refl _) _ _⟩
    · rfl
    · rfl

end

end Go.Proofs.YtjbbomokgpoilaaGreatDoor

/-
  The nodes of roots; which slots words are; no statement is proved here.
-/
namespace Go.Proofs.YtjbbomokgpoilaaGreatDoor
open Go.RowKit

def lI (l : List Int) : List Value := l.map (Value.int .i64)

/-- One number more behind a list of one's own. -/
theorem app_int (w0 w : World) (hE : Ext [] w0 w) (v : Value) (l : List Int) (hown : w.ownsRow w0.heap.size 3 1 v l.length (lI l)) (x : Int) (ty : TypeId) (hn : l.length ≤ 17592186044415) :
    ∃ v' w', (Builtin.append_ #[32, 32] ty #[v, .slice (some ⟨w.heap.size, 0, none⟩) 1 1]).run Tryz.prog (w.alloc (.cells #[.int .i64 x] 3)) = .ok v' w' ∧ w'.ownsRow w0.heap.size 3 1 v' (l ++ [x]).length (lI (l ++ [x])) ∧ Ext [] w0 w' := by
  have hE2 := Ext.alloc [] w (.cells #[.int .i64 x] 3)
  have ho := own_keep0 hown hE2
  obtain ⟨v2, w2, hr2, hO2, hE3, _⟩ := Co.app_own w0 _ (co_ext (hE.trans hE2)) 32 ty 3 _ 8 Tryz.underlying32 Co.info3 rfl (by omega) v l.length _ ho (some ⟨w.heap.size, 0, none⟩) 1 1 [.int .i64 x] rfl (Co.vs_new w 3 [.int .i64 x]) (by simp [Value.oneCell']) (by omega)
  exact ⟨v2, w2, hr2, by simpa [lI] using hO2, ext_co hE3⟩

section
variable {w : World} {p : Nat} {M : Ms} {X : Co.Fo} {cs : Array Value} {cl : Nat → Nat} {bo ba : Nat} {fo : Int → Option Value}

/-- What find answers. -/
def fV (M : Ms) (fo : Int → Option Value) (a : Int) : Value := if (fndM M a).isSome then (fo a).getD moZ else moZ
def fE (M : Ms) (a : Int) : Int := if (fndM M a).isSome then 0 else 4

theorem mfind_any (h : Mm w p M X cs cl bo ba fo) (hlen : M.G.ns.length ≤ 65536) (a : Int) (hi : I64 a) : Calls Tryz.prog 40 #[.pointer (some ⟨p, 0, none⟩), .int .i64 a] w (SayPost w (.tuple #[fV M fo a, .int .i64 (fE M a)])) := by
  unfold fV fE fndM
  cases ho : M.ob a with
  | none => simpa using find_none h a hi ho
  | some o =>
    obtain ⟨g, hf, _⟩ := h.os a o ho
    have K := find_some h hlen a hi o g hf
    rw [hf]
    cases hb : Co.lvB M.G o.nd
    · rw [hb] at K; simpa [hb] using K
    · rw [hb] at K; simpa [hb] using K
theorem fV_some (h : Mm w p M X cs cl bo ba fo) {a : Int} {o : Mo} (ho : fndM M a = some o) : ∃ g, fV M fo a = moV o g ∧ fE M a = 0 ∧ w.heap[g]? = some (.cells (o.sl.map (Value.int .i64)).toArray 3 (0, 0)) ∧ cl g = 3 ∧ o.sl.length ≤ 8192 ∧ M.ob a = some o ∧ Co.lvB M.G o.nd = true := by
  have hq := ho
  unfold fndM at hq
  cases h1 : M.ob a with
  | none => rw [h1] at hq; cases hq
  | some o' =>
    rw [h1] at hq
    simp only at hq
    split at hq
    · cases hq
      obtain ⟨g, hf, h2, h3, h4⟩ := h.os a o h1
      exact ⟨g, by simp [fV, ho, hf], by simp [fE, ho], h2, h3, h4, rfl, by assumption⟩
    · cases hq
theorem fV_none {a : Int} (ho : fndM M a = none) : fV M fo a = moZ ∧ fE M a = 4 := by simp [fV, fE, ho]

/-- What nodes answers. -/
def NdPost (w : World) (r : Option (List Int)) (e : Ending) (w' : World) : Prop := Ext [] w w' ∧ match r with
  | none => e = .returned (.tuple #[.slice none 0 0, .int .i64 4])
  | some l => ∃ v, e = .returned (.tuple #[v, .int .i64 0]) ∧ w'.ownsRow w.heap.size 3 1 v l.length (lI l)

theorem mnodes_nil (r : Value) (w : World) : Calls Tryz.prog 33 #[.pointer none, r] w fun e w' => e = .returned (.tuple #[.slice none 0 0, .int .i64 2]) ∧ w' = w := by
  go_enter Tryz.func33, Tryz.ntmps33
  go_wp2
  go_ret2
  exact ⟨rfl, rfl⟩

theorem nodesM_cons (M : Ms) (a : Int) (R : List Int) : nodesM M (a :: R) = if a = 0 then nodesM M R else match fndM M a with
    | none => none
    | some o => match nodesM M R with
      | none => none
      | some l => some (o.nd :: l) := rfl
theorem map_nil (o : Option (List Int)) : o = o.map ([] ++ ·) := by cases o <;> rfl
theorem drop_at {R : List Int} {k : Nat} (h : k < R.length) : R.drop k = R.getD k 0 :: R.drop (k + 1) := by
  rw [List.drop_eq_getElem_cons h]; simp [List.getD, h]

theorem nodesM_len (M : Ms) (R : List Int) : ∀ l, nodesM M R = some l → l.length ≤ R.length := by
  induction R with
  | nil => intro l h; cases h; simp
  | cons a R ih =>
    intro l h
    unfold nodesM at h
    split at h
    · have := ih l h; simp; omega
    · split at h
      · cases h
      · split at h
        · cases h
        · rename_i l' hl
          cases h
          have := ih l' hl
          simp; omega

set_option maxRecDepth 100000 in
set_option maxHeartbeats 4000000 in
theorem mnodes_any (h : Mm w p M X cs cl bo ba fo) (hlen : M.G.ns.length ≤ 65536) (ra : Option Addr) (n rc : Nat) (R : List Int) (hR : Co.Is w ra R) (hn : R.length = n) (hb : n ≤ 17592186044415) (hi : ∀ x ∈ R, I64 x) :
    Calls Tryz.prog 33 #[.pointer (some ⟨p, 0, none⟩), .slice ra n rc] w (NdPost w (nodesM M R)) := by
  have HK : Hid (∀ u, Ext [] w u → ∀ a, I64 a → Calls Tryz.prog 40 #[.pointer (some ⟨p, 0, none⟩), .int .i64 a] u (SayPost u (.tuple #[fV M fo a, .int .i64 (fE M a)]))) := fun u hu a ha => mfind_any (h.keep0 hu) hlen a ha
  have HV : Hid (∀ a o, fndM M a = some o → ∃ g, fV M fo a = moV o g ∧ fE M a = 0) := fun a o ho => by
    obtain ⟨g, h1, h2, _⟩ := fV_some h ho
    exact ⟨g, h1, h2⟩
  have HR := hid hR
  have HI := hid hi
  have HN := hid hn
  clear h hR hi hlen hn
  go_enter Tryz.func33, Tryz.ntmps33
  go_wp2_with fail
  go_loopw [6, 15] (fun v q wr => ∃ (k : Nat) (l : List Int), q = .int .i64 k ∧ k ≤ n ∧ (∃ ad m d, v = .slice ad m d) ∧ wr.ownsRow w.heap.size 3 1 v l.length (lI l) ∧ Ext [] w wr ∧ l.length ≤ k ∧ nodesM M R = (nodesM M (R.drop k)).map (l ++ ·)) (fun _ q _ => (n - (intOf q)).toNat)
  case atStart => exact ⟨0, [], rfl, by omega, ⟨_, _, _, rfl⟩, own_nil _ _ _ _, Ext.refl _ _, by simp, map_nil _⟩
  case round =>
    obtain ⟨k, l, rfl, hk, ⟨ad, m, d, rfl⟩, ho, hE, hlk, hd⟩ := hrel
    have HO := hid ho
    have HE := hid hE
    have HD := hid hd
    clear ho hE hd
    by_cases hlt : k < n
    · have hkl : k < R.length := by have := HN.out; omega
      obtain ⟨b, o, rfl, hcell⟩ := Co.Is.cell (HR.out.keep0 (co_ext HE.out)) hkl
      have hix := HI.out _ (show R.getD k 0 ∈ R by simp [List.getD, hkl])
      have HD2 := HD.out
      rw [drop_at hkl] at HD2
      rw [nodesM_cons] at HD2
      have K := HK.out wr HE.out _ hix
      clear hkl HD hix
      generalize R.getD k 0 = x at *
      by_cases hx0 : x = 0
      · rw [if_pos hx0] at HD2
        have HD3 := hid HD2
        clear HD2 K
        subst hx0
        go_wp2_with fail
        go_roundw
        case rel => exact ⟨k + 1, l, by go_num, by omega, ⟨_, _, _, rfl⟩, HO.out, HE.out, by omega, HD3.out⟩
        case measure => simp [intOf]; omega
      · rw [if_neg hx0] at HD2
        have hbx : (x == 0) = false := by simpa using hx0
        cases hf : fndM M x with
        | none =>
          rw [hf] at HD2
          have HQ : Hid (nodesM M R = none) := hid (by simpa using HD2)
          obtain ⟨e1, e2⟩ := fV_none (fo := fo) hf
          rw [e1, e2] at K
          unfold moZ at K
          clear HD2 hf e1 e2 hx0
          go_wp2_with (first | (go_at_call 40; refine K.mono ?_; clear K; rintro e w1 ⟨rfl, hE1⟩; have HE1 := hid (HE.out.trans hE1); clear hE1 HE HO) | fail "no arm")
          go_ret2
          rw [HQ.out]
          exact ⟨HE1.out.trans (Ext.alloc [] _ _), rfl⟩
        | some o' =>
          rw [hf] at HD2
          obtain ⟨g, e1, e2⟩ := HV.out x o' hf
          rw [e1, e2] at K
          unfold moV at K
          have hD3 : nodesM M R = (nodesM M (R.drop (k + 1))).map ((l ++ [o'.nd]) ++ ·) := by
            rw [HD2]
            cases nodesM M (R.drop (k + 1)) <;> simp
          have HD3 := hid hD3
          clear hD3
          have HA : Hid (∀ w1, Ext [] wr w1 → ∃ v' w2, (Builtin.append_ #[32, 32] 32 #[.slice ad m d, .slice (some ⟨(w1.alloc (.cells #[.int .i64 o'.nd, .slice (some ⟨g, 0, none⟩) o'.sl.length o'.sl.length] 89)).heap.size, 0, none⟩) 1 1]).run Tryz.prog ((w1.alloc (.cells #[.int .i64 o'.nd, .slice (some ⟨g, 0, none⟩) o'.sl.length o'.sl.length] 89)).alloc (.cells #[.int .i64 o'.nd] 3)) = .ok v' w2 ∧ (∃ a2 n2 c2, v' = .slice a2 n2 c2) ∧ Hid (w2.ownsRow w.heap.size 3 1 v' (l ++ [o'.nd]).length (lI (l ++ [o'.nd])) ∧ Ext [] w w2)) := fun w1 hw1 => by
            have hw2 := hw1.trans (Ext.alloc [] w1 (.cells #[.int .i64 o'.nd, .slice (some ⟨g, 0, none⟩) o'.sl.length o'.sl.length] 89))
            obtain ⟨v', w2, hr, ho2, hE2⟩ := app_int w _ (HE.out.trans hw2) (.slice ad m d) l (own_keep0 HO.out hw2) o'.nd 32 (by omega)
            obtain ⟨a2, c2, e, _⟩ := own_slice ho2
            exact ⟨v', w2, hr, ⟨_, _, _, e⟩, ho2, hE2⟩
          clear HD2 hf e1 e2 hx0
          simp only [World.size_alloc] at HA
          go_wp2_with (first | (go_at_call 40; refine K.mono ?_; clear K; rintro e w1 ⟨rfl, hE1⟩; obtain ⟨v', w2, hr, ⟨a2, n2, c2, rfl⟩, HO2⟩ := HA.out w1 hE1; clear hE1 HE HO HA) | (at_builtin; refine wpList_append_run rfl _ _ 32 rfl _ _ _ rfl rfl hr ?_) | fail "no arm")
          go_roundw
          case rel => exact ⟨k + 1, l ++ [o'.nd], by go_num, by omega, ⟨_, _, _, rfl⟩, HO2.out.1, HO2.out.2, by simp; omega, HD3.out⟩
          case measure => simp [intOf]; omega
    · obtain rfl : k = n := by omega
      have hQ : nodesM M R = some l := by
        rw [HD.out, List.drop_eq_nil_of_le (by have := HN.out; omega)]; simp [nodesM]
      have HQ := hid hQ
      clear hQ
      go_wp2_with fail
      go_ret2
      rw [HQ.out]
      exact ⟨HE.out, _, rfl, HO.out⟩

end

end Go.Proofs.YtjbbomokgpoilaaGreatDoor

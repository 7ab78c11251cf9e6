/-
  MTurn, MFree, MCyc, MRoom, MNum: joined by program; no statement is proved here.
-/
import Derived.Test.YtjbbomokgpoilaaGreatDoorZMA
import Derived.Test.YtjbbomokgpoilaaGreatDoorZCD
/-
  How a memory turns: calls on its graph, on its heap, on its maps; no statement is proved here.
-/
namespace Go.Proofs.YtjbbomokgpoilaaGreatDoor
open Go.RowKit

section
variable {w w' : World} {p : Nat} {M : Ms} {X : Co.Fo} {cs : Array Value} {cl : Nat → Nat} {bo ba : Nat} {fo : Int → Option Value} {Z : Nat → Prop}

theorem nw_nw {a b : World} (h : a.heap.size ≤ b.heap.size) {k : Nat} (hk : Co.Nw (Co.Nw Z a) b k) : Co.Nw Z a k := by
  rcases hk with q | q
  · exact q
  · exact .inr (Nat.le_trans h q)
theorem nw_of {k : Nat} (h : Z k) : Co.Nw Z w k := .inl h

/-- One call behind another. -/
theorem MPost.then {w1 w2 : World} {M1 M2 : Ms} {r1 r2 : Value} {e1 e2 : Ending} (h1 : MPost w p M1 Z r1 e1 w1) (h2 : MPost w1 p M2 (Co.Nw Z w) r2 e2 w2) : MPost w p M2 Z r2 e2 w2 :=
  ⟨h2.1, h2.2.1.mono (fun _ hk => nw_nw h1.2.2.size hk), h1.2.2.trans h2.2.2 (fun _ hk => hk)⟩
theorem MPost.refl (h : Mw w p M Z) (x : Ext [] w w') (r : Value) : MPost w p M Z r (.returned r) w' := ⟨rfl, (h.keep0 x).mono (fun _ => nw_of), Fx.of_ext0 x⟩
theorem MPost.more {w1 w2 : World} {M1 : Ms} {r1 : Value} {e1 : Ending} (h1 : MPost w p M1 Z r1 e1 w1) (x : Ext [] w1 w2) (r : Value) : MPost w p M1 Z r (.returned r) w2 := h1.then (MPost.refl h1.2.1 x r)
theorem MPost.say {w1 : World} {M1 : Ms} {r1 : Value} {e1 : Ending} (h1 : MPost w p M1 Z r1 e1 w1) (r : Value) : MPost w p M1 Z r (.returned r) w1 := ⟨rfl, h1.2⟩

/-- A call on the graph. -/
theorem mgraph (h : Mw w p M Z) {f : FuncId} {args : Array Value} {G' : Co.Gs} {r : Value} (K : ∀ X B, (∀ k, B k → Z k) → Co.Gr w p (M.G.wx X) B → Calls Tryz.prog f args w (Co.GPost w p (G'.wx X) B r)) : Calls Tryz.prog f args w (MPost w p { M with G := G' } Z r) := by
  obtain ⟨X, cs, cl, bo, ba, fo, h1, h2⟩ := h
  refine (K X _ (fun k hk => h2 k (by rw [hk]; decide)) h1.g).mono ?_
  rintro e w1 ⟨rfl, hG, hx⟩
  obtain ⟨cs', hm⟩ := h1.graph hG (fun k hk => hk) hx
  refine ⟨rfl, ⟨X, cs', _, bo, ba, fo, hm, fun k hk => ?_⟩, (fx_co hx).mono (fun k hk => h2 k (by rw [hk]; decide))⟩
  rcases clN_ne hk with q | q
  · exact .inl (h2 k q.1)
  · exact .inr q.1
/-- A call on the heap. -/
theorem mheap (h : Mw w p M Z) {f : FuncId} {args : Array Value} {H' : Hs} {r : Value} (K : ∀ cs F, Hw w p 7 85 cs F M.H → Calls Tryz.prog f args w (HPost w p 7 85 cs F H' r)) : Calls Tryz.prog f args w (MPost w p { M with H := H' } Z r) := by
  obtain ⟨X, cs, cl, bo, ba, fo, h1, h2⟩ := h
  refine (K _ _ h1.h).mono ?_
  rintro e w1 ⟨rfl, F', hH, hx, hF⟩
  obtain ⟨X', hm⟩ := h1.heap hH hF hx
  refine ⟨rfl, ⟨X', cs, _, bo, ba, fo, hm, fun k hk => ?_⟩, hx.mono (fun k hk => ?_)⟩
  · rcases clN_ne hk with q | q
    · exact .inl (h2 k q.1)
    · exact .inr q.1
  · rcases hk with q | q
    · exact h2 k (by rw [q, h1.p1]; decide)
    · exact h2 k (by rw [q]; decide)

theorem mshade (h : Mw w p M Z) (hI : Co.Iv M.G) (x : Int) : Calls Tryz.prog 65 #[.pointer (some ⟨p, 0, none⟩), .int .i64 x] w (MPost w p { M with G := (Co.shade M.G x).1 } Z (.int .i64 (Co.shade M.G x).2)) :=
  mgraph h (fun X B _ hG => by have K := Co.shadeC_any p _ B x w hG (hI.wx X); rw [Co.shade_wx] at K; exact K)
theorem mnode (h : Mw w p M Z) (hI : Co.Iv M.G) (x : Int) : Calls Tryz.prog 68 #[.pointer (some ⟨p, 0, none⟩), .int .i64 x] w (MPost w p { M with G := (Co.node M.G x).1 } Z (.tuple #[.int .i64 (Co.node M.G x).2.1, .int .i64 (Co.node M.G x).2.2])) :=
  mgraph h (fun X B _ hG => by have K := Co.node_any p _ B x w hG (hI.wx X); rw [Co.node_wx] at K; exact K)
theorem mhalloc (h : Mw w p M Z) (hG : Gl w) (s t : Int) : Calls Tryz.prog 69 #[.pointer (some ⟨p, 7, none⟩), .int .i64 s, .int .i64 t] w (MPost w p { M with H := (allocH M.H s t).2.2 } Z (.tuple #[.int .i64 (allocH M.H s t).1, .int .i64 (allocH M.H s t).2.1])) :=
  mheap h (fun _ _ hH => halloc_any s t w hG hH)
theorem mhfree (h : Mw w p M Z) (a : Int) : Calls Tryz.prog 89 #[.pointer (some ⟨p, 7, none⟩), .int .i64 a] w (MPost w p { M with H := (freeH M.H a).2 } Z (.int .i64 (freeH M.H a).1)) :=
  mheap h (fun _ _ hH => hfree_any a w hH)
theorem mhfits (h : Mw w p M Z) (hG : Gl w) (s : Int) : Calls Tryz.prog 56 #[.pointer (some ⟨p, 7, none⟩), .int .i64 s] w (SayPost w (.bool (fitsH M.H s))) := by
  obtain ⟨X, cs, cl, bo, ba, fo, h1, h2⟩ := h
  exact hfits_any s w hG h1.h

/-- The graph with other cells behind it. -/
theorem gr_swap {G : Co.Gs} {B C : Nat → Prop} {X X' : Co.Fo} (h : Co.Gr w p (G.wx X) B) (x : Fx C w w') (hC : ∀ k, B k → k ≠ p → ¬ C k)
    (hb : ∀ vn vl, w.heap[p]? = some (.cells #[vn, .int .i64 G.le, vl, .int .i64 G.ph, .int .i64 G.cy, .int .i64 G.pl, .int .i64 G.en, X.a, X.b, X.c, X.d, X.e, X.f, X.g] 85 (0, 0)) → w'.heap[p]? = some (.cells #[vn, .int .i64 G.le, vl, .int .i64 G.ph, .int .i64 G.cy, .int .i64 G.pl, .int .i64 G.en, X'.a, X'.b, X'.c, X'.d, X'.e, X'.f, X'.g] 85 (0, 0))) : Co.Gr w' p (G.wx X') B := by
  obtain ⟨vn, vl, SV, hg, hf⟩ := h
  have hsep : ∀ g, B g → (∃ c t, t ≠ 85 ∧ w.heap[g]? = some (.cells c t (0, 0))) → ¬ C g := fun g a b => hC g a (fun e => by
    obtain ⟨c, t, ht, hc⟩ := b
    rw [e, hg.blk] at hc
    simp at hc
    exact ht hc.2.symm)
  refine ⟨vn, vl, SV, ⟨hb vn vl hg.blk, ?_, ?_, hg.svl, fun i hi => ?_, hg.sep, hg.sel⟩, hf⟩
  · exact Co.own_keepF hg.row (co_fx x) (fun g q => by
      obtain ⟨c, hc⟩ := Co.own_at hg.row q
      exact hsep g (hf.n g q) ⟨c, 154, by decide, hc⟩)
  · exact hg.lin.keep (co_fx x) (fun g q => by
      obtain ⟨c, hc⟩ := hg.lin.row g q
      exact hsep g (hf.l g q) ⟨c, 3, by decide, hc⟩)
  · exact (hg.slo i hi).keep (co_fx x) (fun g q => by
      obtain ⟨c, hc⟩ := (hg.slo i hi).row g q
      exact hsep g (hf.s i g q) ⟨c, 3, by decide, hc⟩)

/-- How many words were allocated since is another number. -/
theorem Mm.setSn (h : Mm w p M X cs cl bo ba fo) (s : Int) : ∃ X' cs', Mm (w.setCell ⟨p, 13, none⟩ (.int .i64 s)) p { M with sn := s } X' cs' cl bo ba fo := by
  have hE : Fx (fun k => k = p) w (w.setCell ⟨p, 13, none⟩ (.int .i64 s)) := Fx.of_ext (Ext.setCell [p] w _ _ (by simp)) (by simp)
  obtain ⟨vn, vl, hb⟩ := h.blk
  have hb' := heap_setCell_same w p 13 _ _ (.int .i64 s) hb
  have hp1 := h.p1
  refine ⟨{ X with g := .int .i64 s }, #[vn, .int .i64 M.G.le, vl, .int .i64 M.G.ph, .int .i64 M.G.cy, .int .i64 M.G.pl, .int .i64 M.G.en, X.a, X.b, X.c, X.d, X.e, X.f, .int .i64 s], ?_, ?_, h.xd, h.xe, h.xf, rfl, ?_, ?_, h.co, h.ca, fun k hk => ?_, fun a o hao => ?_, h.on⟩
  · exact gr_swap h.g hE (fun k _ q => q) (fun vn vl hb => by rw [heap_setCell_same w p 13 _ _ (.int .i64 s) hb]; rfl)
  · exact Hw.swap h.h hE (fun k hk e => by rw [e] at hk; omega) hb hb' (by simp) rfl rfl rfl
  · exact h.mo.keep hE (fun e => by have := h.co; rw [e] at this; omega)
  · exact h.ma.keep hE (fun e => by have := h.ca; rw [e] at this; omega)
  · exact Nat.lt_of_lt_of_le (h.th k hk) hE.size
  · obtain ⟨g, h1, h2, h3, h4⟩ := h.os a o hao
    exact ⟨g, h1, hE.keep h2 (fun e => by rw [e] at h3; omega), h3, h4⟩
theorem Mw.setSn (h : Mw w p M Z) (s : Int) : Mw (w.setCell ⟨p, 13, none⟩ (.int .i64 s)) p { M with sn := s } Z ∧ Fx Z w (w.setCell ⟨p, 13, none⟩ (.int .i64 s)) := by
  have hz := h.zp
  obtain ⟨X, cs, cl, bo, ba, fo, h1, h2⟩ := h
  obtain ⟨X', cs', h3⟩ := h1.setSn s
  exact ⟨⟨X', cs', cl, bo, ba, fo, h3, h2⟩, Fx.of_ext (Ext.setCell [p] w _ _ (by simp)) (by intro x hx; simp at hx; subst hx; exact .inl hz)⟩

/-- The maps are others. -/
theorem Mm.maps {C : Nat → Prop} (h : Mm w p M X cs cl bo ba fo) (x : Fx C w w') (hC : ∀ k, cl k ≠ 0 → C k → k = bo ∨ k = ba) (M' : Ms) (hg : M'.G = M.G) (hh : M'.H = M.H) (hp : M'.pc = M.pc) (hs : M'.sn = M.sn) {fo' : Int → Option Value}
    (mo : Mp w' bo M'.cn fo') (ma : Mp w' ba M'.cn (fun k => (M'.ad k).map (Value.int .i64)))
    (os : ∀ a o, M'.ob a = some o → (∃ g, fo' a = some (moV o g) ∧ w'.heap[g]? = some (.cells (o.sl.map (Value.int .i64)).toArray 3 (0, 0)) ∧ cl g = 3 ∧ o.sl.length ≤ 8192) ∨ (M.ob a = some o ∧ fo' a = fo a))
    (on : ∀ a, M'.ob a = none → fo' a = none) : Mm w' p M' X cs cl bo ba fo' := by
  have hp1 := h.p1
  have hco := h.co
  have hca := h.ca
  have hne : ∀ k c, cl k = c → c ≠ 0 → c ≠ 4 → c ≠ 5 → ¬ C k := fun k c e1 e2 e3 e4 q => by
    rcases hC k (by omega) q with r | r
    · rw [r] at e1; omega
    · rw [r] at e1; omega
  refine ⟨?_, ?_, h.xd, h.xe, by rw [hp]; exact h.xf, by rw [hs]; exact h.xg, mo, ma, h.co, h.ca, fun k hk => Nat.lt_of_lt_of_le (h.th k hk) x.size, fun a o hao => ?_, on⟩
  · rw [hg]; exact h.g.keep (co_fx x) (fun k hk => hne k 1 hk (by decide) (by decide) (by decide))
  · rw [hh]; exact h.h.keep x (hne p 1 hp1 (by decide) (by decide) (by decide)) (fun k hk => hne k 2 hk (by decide) (by decide) (by decide))
  · rcases os a o hao with q | ⟨q1, q2⟩
    · exact q
    · obtain ⟨g, h1, h2, h3, h4⟩ := h.os a o q1
      exact ⟨g, q2.trans h1, x.keep h2 (hne g 3 h3 (by decide) (by decide) (by decide)), h3, h4⟩

end

end Go.Proofs.YtjbbomokgpoilaaGreatDoor

/-
  An object that was swept is freed; no statement is proved here.
-/
namespace Go.Proofs.YtjbbomokgpoilaaGreatDoor
open Go.RowKit

/-- delete, met by what its run is known to be. -/
theorem wpList_delete_run {P : Program} {w w' : World} {ops : Array Oper} {rest : List Oper} {o : Oper} {a : Act} {Q : Exit → Act → World → Prop} (hgd : o.guard = none) (s x : Operand) (t k : TypeId)
    (ho : o.op = .call { callee := .builtin .delete, args := #[s, x], argTypes := #[t, k] }) (vs vx v' : Value) (hs : a.eval s = vs) (hx : a.eval x = vx)
    (hr : (Builtin.delete_ #[t, k] o.type #[vs, vx]).run P w = .ok v' w') (h : wpList P ops Q rest (a.put o.dst v') w') : wpList P ops Q (o :: rest) a w := by
  refine wpList_plain hgd fun K hK => ?_
  unfold Oper.wp execOp
  simp only [ho, resolve, invoke, builtin, Sem.run_bind, Sem.run_pure, Result.andThen_ok, List.map_toArray, List.map_cons, List.map_nil, hs, hx, hr]
  exact hK _ _ h

section
variable {w : World} {p : Nat} {M : Ms} {Z : Nat → Prop}

set_option maxHeartbeats 1000000 in
theorem mfree_any (h : Mw w p M Z) (n : Int) (hn : I64 n) (ha : I64 (adrM M n)) : Calls Tryz.prog 53 #[.pointer (some ⟨p, 0, none⟩), .int .i64 n] w (MPost w p (freeM M n) Z (.tuple #[])) := by
  have K := mhfree h (adrM M n)
  have hl : ∃ ba, w.cell? ⟨p, 11, none⟩ = some (.map (some ba)) ∧ (Instr.lookup 83 (.map (some ba)) (.int .i64 n) false).run Tryz.prog w = .ok (.int .i64 (adrM M n)) w := by
    obtain ⟨X, cs, cl, bo, ba, fo, h1, h2⟩ := h
    have := h1.ma.look (t := 83) (e := 3) Tryz.underlying83 (z := .int .i64 0) (by exact Tryz.zeroValue3 _) hn false
    refine ⟨ba, h1.flds.2.1, ?_⟩
    rw [this]
    unfold adrM
    cases M.ad n <;> simp
  obtain ⟨ba, f11, hl⟩ := hl
  have HB : Hid (∀ w1, Mw w1 p { M with H := (freeH M.H (adrM M n)).2 } (Co.Nw Z w) → Fx Z w w1 → ∃ bo ba w2 w3, w1.cell? ⟨p, 10, none⟩ = some (.map (some bo)) ∧ (Builtin.delete_ #[82, 3] 0 #[.map (some bo), .int .i64 (adrM M n)]).run Tryz.prog w1 = .ok (.tuple #[]) w2 ∧
      w2.cell? ⟨p, 11, none⟩ = some (.map (some ba)) ∧ (Builtin.delete_ #[83, 3] 0 #[.map (some ba), .int .i64 n]).run Tryz.prog w2 = .ok (.tuple #[]) w3 ∧ Hid (MPost w p (freeM M n) Z (.tuple #[]) (.returned (.tuple #[])) w3)) := fun w1 hm hx => by
    obtain ⟨X, cs, cl, bo, ba, fo, h1, h2⟩ := hm
    have hp1 := h1.p1
    have hco := h1.co
    have hca := h1.ca
    have hbo : ba ≠ bo := fun e => by rw [e] at hca; omega
    obtain ⟨w2, hr2, hm2, hE2⟩ := h1.mo.del (t := 82) (e := 89) Tryz.underlying82 ha 0
    have hx2 : Fx (fun k => k = bo) w1 w2 := Fx.of_ext hE2 (by simp)
    obtain ⟨w3, hr3, hm3, hE3⟩ := (h1.ma.keep hx2 hbo).del (t := 83) (e := 3) Tryz.underlying83 hn 0
    have hx3 : Fx (fun k => k = ba) w2 w3 := Fx.of_ext hE3 (by simp)
    have hx23 : Fx (fun k => k = bo ∨ k = ba) w1 w3 := (hx2.mono (fun k hk => .inl hk)).trans hx3 (fun k hk => .inl (.inr hk))
    refine ⟨bo, ba, w2, w3, h1.flds.1, hr2, hx2.cell h1.flds.2.1 (fun e => by simp only at e; rw [e] at hp1; omega), hr3, rfl, ⟨X, cs, cl, bo, ba, _, h1.maps hx23 (fun k _ hk => hk) (freeM M n) rfl rfl rfl rfl (hm2.keep hx3 (Ne.symm hbo)) ?_ (fun a o hao => .inr ?_) (fun a hao => ?_), h2⟩, hx.trans hx23 (fun k hk => ?_)⟩
    · have e : (fun k => ((freeM M n).ad k).map (Value.int .i64)) = upd (fun k => (M.ad k).map (Value.int .i64)) n none := by
        funext k
        simp only [freeM, updO, upd]
        split <;> rfl
      rw [e]; exact hm3
    · simp only [freeM, updO, upd] at hao ⊢
      split at hao
      · cases hao
      · rename_i e
        exact ⟨hao, if_neg e⟩
    · simp only [freeM, updO, upd] at hao ⊢
      split
      · rfl
      · rename_i e
        rw [if_neg e] at hao
        exact h1.on a hao
    · have : cl k ≠ 0 := by rcases hk with rfl | rfl <;> omega
      exact h2 k this
  clear h
  generalize adrM M n = a at *
  go_enter Tryz.func53, Tryz.ntmps53
  go_wp2_with (first | (go_at_call 89; refine K.mono ?_; clear K; rintro e w1 ⟨rfl, hm, hx⟩; obtain ⟨bo, ba2, w2, w3, g10, hr2, g11, hr3, HF⟩ := HB.out w1 hm hx; clear HB hm hx) | (at_builtin; refine wpList_delete_run rfl _ _ 82 3 rfl _ _ _ rfl rfl hr2 ?_) | (at_builtin; refine wpList_delete_run rfl _ _ 83 3 rfl _ _ _ rfl rfl hr3 ?_) | fail "no arm")
  go_end0
  exact HF.out

end

end Go.Proofs.YtjbbomokgpoilaaGreatDoor

/-
  Cycles of a memory: hold, begin, Work, finish, cycle; no statement is proved here.
-/
namespace Go.Proofs.YtjbbomokgpoilaaGreatDoor
open Go.RowKit

section
variable {w : World} {p : Nat} {M : Ms} {Z : Nat → Prop}

theorem isF {B : Nat → Prop} {w w' : World} {a : Option Addr} {xs : List Int} (h : Co.Is w a xs) (e : Fx B w w') (hs : ∀ ad, a = some ad → ¬ B ad.block) : Co.Is w' a xs := Co.is_keepF h (co_fx e) hs

theorem iv_hold (l : List Int) : ∀ G : Co.Gs, Co.Iv G → Co.Iv (l.foldl (fun G n => (Co.shade G n).1) G) := by
  induction l with
  | nil => intro G h; exact h
  | cons x l ih => intro G h; exact ih _ (Co.iv_shade h x)
theorem holdM_take (M : Ms) (l : List Int) {k : Nat} (h : k < l.length) : holdM M (l.take (k + 1)) = { holdM M (l.take k) with G := (Co.shade (holdM M (l.take k)).G (l.getD k 0)).1 } := by
  unfold holdM
  rw [List.take_add_one, List.foldl_append]
  simp [List.getD, h]

theorem hold_any (h : Mw w p M Z) (hI : Co.Iv M.G) (va : Option Addr) (n c : Nat) (l : List Int) (hl : Co.Is w va l) (hn : l.length = n) (hb : n ≤ 17592186044416) (hd : ∀ ad, va = some ad → ¬ Z ad.block ∧ ad.block < w.heap.size) :
    Calls Tryz.prog 34 #[.pointer (some ⟨p, 0, none⟩), .slice va n c] w (MPost w p (holdM M l) Z (.tuple #[])) := by
  have HK : Hid (∀ u k, k < l.length → Mw u p (holdM M (l.take k)) (Co.Nw Z w) → Calls Tryz.prog 65 #[.pointer (some ⟨p, 0, none⟩), .int .i64 (l.getD k 0)] u (fun e w' => (∃ r, e = .returned (.int .i64 r)) ∧ MPost u p (holdM M (l.take (k + 1))) (Co.Nw Z w) (.tuple #[]) (.returned (.tuple #[])) w')) := fun u k hk hu => by
    refine (mshade hu (iv_hold _ _ hI) (l.getD k 0)).mono ?_
    rintro e w1 hp
    refine ⟨⟨_, hp.1⟩, ?_⟩
    rw [holdM_take M l hk]
    exact hp.say _
  have HL : Hid (∀ u, Fx Z w u → Co.Is u va l) := fun u hu => isF hl hu (fun ad e => (hd ad e).1)
  have HM : Hid (Mw w p M Z) := h
  have HN := hid hn
  clear h hl hI hd hn
  go_enter Tryz.func34, Tryz.ntmps34
  go_wp2_with fail
  go_loopw [8] (fun q wr => ∃ (k : Nat), q = .int .i64 k ∧ k ≤ n ∧ Mw wr p (holdM M (l.take k)) (Co.Nw Z w) ∧ Fx Z w wr) (fun q _ => (n - (intOf q)).toNat)
  case atStart => exact ⟨0, rfl, Nat.zero_le _, HM.out.mono (fun _ => nw_of), Fx.refl _ _⟩
  case round =>
    obtain ⟨k, rfl, hk, hm, hx⟩ := hrel
    have HX := hid hx
    by_cases hlt : k < n
    · have hkl : k < l.length := by have := HN.out; omega
      obtain ⟨b, o, rfl, hcell⟩ := Co.Is.cell (HL.out wr hx) hkl
      have K := HK.out wr k hkl hm
      clear hm hx hkl
      generalize l.getD k 0 = x at *
      go_wp2_with (first | (go_at_call 65; refine K.mono ?_; clear K; rintro e w1 ⟨⟨r, rfl⟩, hp⟩; have HP := hid hp; clear hp) | fail "no arm")
      go_roundw
      case rel => exact ⟨k + 1, by go_num, by omega, HP.out.2.1.mono (fun _ hk => nw_nw HX.out.size hk), HX.out.trans HP.out.2.2 (fun _ q => q)⟩
      case measure => simp [intOf]; omega
    · obtain rfl : k = n := by omega
      have HM2 := hid hm
      clear hm hx
      go_wp2_with fail
      go_end0
      have := HM2.out
      rw [List.take_of_length_le (by have := HN.out; omega)] at this
      exact ⟨rfl, this, HX.out⟩

theorem begin_any (h : Mw w p M Z) (hI : Co.Iv M.G) (va : Option Addr) (n c : Nat) (l : List Int) (hl : Co.Is w va l) (hn : l.length = n) (hb : n ≤ 17592186044416) (hd : ∀ ad, va = some ad → ¬ Z ad.block ∧ ad.block < w.heap.size) :
    Calls Tryz.prog 35 #[.pointer (some ⟨p, 0, none⟩), .slice va n c] w (MPost w p (beginM M l) Z (.int .i64 (beginE M l))) := by
  have K : Calls Tryz.prog 66 #[.pointer (some ⟨p, 0, none⟩), .slice va n c] w (MPost w p { M with G := (Co.start M.G l).1 } Z (.int .i64 (beginE M l))) := by
    refine mgraph h (fun X B hB hG => ?_)
    have K := Co.start_any p _ B va n c l w hG (hI.wx X) hl hn hb (fun ad e q => (hd ad e).1 (hB _ q))
    rw [Co.start_wx] at K
    exact K
  unfold beginM
  have HB : beginE M l = (Co.start M.G l).2 := rfl
  rw [← HB]
  clear h hl hd HB
  generalize beginE M l = er at *
  by_cases he : er = 0
  · subst he
    have HF : Hid (∀ w1, MPost w p { M with G := (Co.start M.G l).1 } Z (.int .i64 0) (.returned (.int .i64 0)) w1 → (∃ u, w1.cell? ⟨p, 13, none⟩ = some u) ∧ w1.frozen? ⟨p, 13, none⟩ = false ∧ MPost w p { M with G := (Co.start M.G l).1, sn := if (0 : Int) = 0 then 0 else M.sn } Z (.int .i64 0) (.returned (.int .i64 0)) (w1.setCell ⟨p, 13, none⟩ (.int .i64 0))) := fun w1 hp => by
      have hf : (∃ u, w1.cell? ⟨p, 13, none⟩ = some u) ∧ w1.frozen? ⟨p, 13, none⟩ = false := by
        obtain ⟨X, cs, cl, bo, ba, fo, h1, h2⟩ := hp.2.1
        exact ⟨⟨_, h1.flds.2.2.2.1⟩, h1.flds.2.2.2.2 13⟩
      have := hp.2.1.setSn 0
      refine ⟨hf.1, hf.2, rfl, by simpa using this.1, hp.2.2.trans this.2 (fun _ q => q)⟩
    go_enter Tryz.func35, Tryz.ntmps35
    go_wp2_with (first | (go_at_call 66; refine K.mono ?_; clear K; rintro e w1 ⟨rfl, hm, hx⟩; obtain ⟨⟨u, f13⟩, f13z, hF⟩ := HF.out w1 ⟨rfl, hm, hx⟩; have HF2 := hid hF; clear HF hF hm hx) | fail "no arm")
    go_ret
    exact HF2.out
  · have hb0 : (er == 0) = false := by simpa using he
    rw [if_neg he]
    go_enter Tryz.func35, Tryz.ntmps35
    go_wp2_with (first | (go_at_call 66; refine K.mono ?_; clear K; rintro e w1 ⟨rfl, hm, hx⟩; have HF2 := hid (And.intro hm hx); clear hm hx) | fail "no arm")
    go_ret
    exact ⟨rfl, HF2.out⟩

/-- Addresses are numbers of 64 bits. -/
def AdI (M : Ms) : Prop := ∀ n a, M.ad n = some a → I64 a
theorem AdI.adr {M : Ms} (h : AdI M) (n : Int) : I64 (adrM M n) := by
  unfold adrM
  cases e : M.ad n with
  | none => simp [I64]
  | some a => exact h n a e
theorem AdI.free {M : Ms} (h : AdI M) (n : Int) : AdI (freeM M n) := fun k a e => by
  simp only [freeM, updO] at e
  split at e
  · cases e
  · exact h k a e
theorem AdI.frees {l : List Int} : ∀ {M : Ms}, AdI M → AdI (l.foldl freeM M) := by
  induction l with
  | nil => intro M h; exact h
  | cons x l ih => intro M h; exact ih (h.free x)

def natI (l : List Nat) : List Int := l.map Int.ofNat
theorem ints_lI (l : List Nat) : Co.ints l = lI (natI l) := by simp [Co.ints, lI, natI]

/-- What the graph's Work leaves. -/
def GwPost (w : World) (p : Nat) (M : Ms) (Z : Nat → Prop) (u : Nat) (e : Ending) (w1 : World) : Prop :=
  ∃ v Y, e = .returned (.tuple #[.int .i64 (workL M u : Nat), v]) ∧ w1.ownsRow w.heap.size 3 1 v (natI (Co.work u M.G).2.1).length (lI (natI (Co.work u M.G).2.1)) ∧ Mw w1 p { M with G := (Co.work u M.G).2.2 } Y ∧ (∀ k, Y k → Co.Nw Z w k ∧ v.ownBlock ≠ some k) ∧ Fx Z w w1

theorem gwork_any (h : Mw w p M Z) (hI : Co.Iv M.G) (hcy : M.G.cy < 900000000000000000) (x : Int) (hx : x ≤ 9223372036854775807) : Calls Tryz.prog 52 #[.pointer (some ⟨p, 0, none⟩), .int .i64 x] w (GwPost w p M Z x.toNat) := by
  obtain ⟨X, cs, cl, bo, ba, fo, h1, h2⟩ := h
  refine (Co.work_any p _ _ x w h1.g (hI.wx X) hx hcy).mono ?_
  rintro e w1 ⟨v, C, rfl, ho, hG, hC, hv, hF⟩
  rw [Co.work_wx] at ho hG ⊢
  simp only at ho hG ⊢
  obtain ⟨cs', hm⟩ := h1.graph hG hC hF
  refine ⟨v, _, rfl, by rw [← ints_lI]; simpa [natI] using ho, ⟨X, cs', _, bo, ba, fo, hm, fun k hk => hk⟩, fun k hk => ?_, (fx_co hF).mono (fun k hk => h2 k (by rw [hk]; decide))⟩
  rcases clN_ne hk with q | q
  · refine ⟨.inl (h2 k q.1), fun e => ?_⟩
    have := (own_lt ho k e).1
    omega
  · exact ⟨.inr q.1, fun e => hv k e q.2.1⟩

theorem frees_take (M : Ms) (l : List Int) {k : Nat} (h : k < l.length) : (l.take (k + 1)).foldl freeM M = freeM ((l.take k).foldl freeM M) (l.getD k 0) := by
  rw [List.take_add_one, List.foldl_append]
  simp [List.getD, h]

theorem sweep_vals {G : Co.Gs} (h : Co.Iv G) (h2 : G.ph = 2) : (G.pl = G.en ∧ (Co.sweep G).1.ph = 0 ∧ (Co.sweep G).2 = []) ∨ (G.pl < G.en ∧ (Co.sweep G).1.ph = 2 ∧ (Co.sweep G).1.pl = G.pl + 1 ∧ (Co.sweep G).1.en = G.en ∧ ((Co.sweep G).2 = [] ∨ (Co.sweep G).2 = [G.pl])) := by
  have hp := h.pe h2
  unfold Co.sweep
  by_cases e : G.pl = G.en
  · rw [if_pos e]; exact .inl ⟨e, rfl, rfl⟩
  · rw [if_neg e]
    by_cases e2 : (Co.ndAt G.ns G.pl).c = 4
    · rw [if_pos e2]; exact .inr ⟨by omega, h2, rfl, rfl, .inr rfl⟩
    · rw [if_neg e2]; exact .inr ⟨by omega, h2, rfl, rfl, .inl rfl⟩
theorem work_len2 : ∀ (u : Nat) (G : Co.Gs), Co.Iv G → G.ph = 2 → (Co.work u G).2.1.length ≤ G.en - G.pl ∧ ∀ y ∈ (Co.work u G).2.1, y < 65536
  | 0, G, _, _ => by simp [Co.work]
  | u + 1, G, h, h2 => by
    have hI := Co.iv_unit h (by omega)
    have hu : Co.unit G = Co.sweep G := by unfold Co.unit; rw [if_neg (by omega)]
    have hp := h.pe h2
    have hl := h.len
    rw [hu] at hI
    simp only [Co.work, hu, if_neg (show ¬ G.ph = 0 by omega)]
    rcases sweep_vals h h2 with ⟨h3, h4, h5⟩ | ⟨h3, h4, h5, h6, h7⟩
    · simp [Co.work_idle h4, h5]
    · have ih := work_len2 u _ hI h4
      rw [h5, h6] at ih
      rcases h7 with h7 | h7
      · simp [h7]; exact ⟨by omega, ih.2⟩
      · simp [h7]; exact ⟨by omega, by omega, ih.2⟩
theorem mark_ph (G : Co.Gs) (h : Co.Iv G) (h1 : G.ph = 1) : (Co.mark G).ph = 1 ∨ (Co.mark G).ph = 2 ∧ (Co.mark G).en ≤ 65536 := by
  unfold Co.mark
  split
  · exact .inr ⟨rfl, h.len⟩
  · split
    · exact .inl h1
    · left
      unfold Co.sh Co.shN
      split
      · exact h1
      · split <;> exact h1
theorem work_len : ∀ (u : Nat) (G : Co.Gs), Co.Iv G → (Co.work u G).2.1.length ≤ 65536 ∧ ∀ y ∈ (Co.work u G).2.1, y < 65536
  | 0, G, _ => by simp [Co.work]
  | u + 1, G, h => by
    by_cases h0 : G.ph = 0
    · simp [Co.work_idle h0]
    · by_cases h2 : G.ph = 2
      · have := work_len2 (u + 1) G h h2
        have := h.pe h2
        have := h.len
        exact ⟨by omega, (work_len2 (u + 1) G h h2).2⟩
      · have h1 : G.ph = 1 := by have := h.ph; omega
        have hI := Co.iv_unit h h0
        have hu : Co.unit G = (Co.mark G, []) := by unfold Co.unit; rw [if_pos h1]
        rw [hu] at hI
        simp only [Co.work, hu, if_neg h0]
        simpa using work_len u _ hI

set_option maxHeartbeats 1000000 in
theorem mwork_any (h : Mw w p M Z) (hI : Co.Iv M.G) (hcy : M.G.cy < 900000000000000000) (hA : AdI M) (x : Int) (hx : x ≤ 9223372036854775807) : Calls Tryz.prog 18 #[.pointer (some ⟨p, 0, none⟩), .int .i64 x] w (MPost w p (workM M x.toNat) Z (.int .i64 (workL M x.toNat : Nat))) := by
  have K := gwork_any h hI hcy x hx
  have hl6 := work_len x.toNat M.G hI
  obtain ⟨l, hl⟩ : ∃ l, l = natI (Co.work x.toNat M.G).2.1 := ⟨_, rfl⟩
  have hlb : ∀ y ∈ l, I64 y := fun y hy => by
    rw [hl] at hy
    simp only [natI, List.mem_map] at hy
    obtain ⟨z, hz, rfl⟩ := hy
    have := hl6.2 z hz
    simp only [Int.ofNat_eq_natCast, I64]
    omega
  have hln : l.length ≤ 65536 := by rw [hl]; simpa [natI] using hl6.1
  have HW : Hid (workM M x.toNat = l.foldl freeM { M with G := (Co.work x.toNat M.G).2.2 }) := by rw [hl]; rfl
  have HA : AdI { M with G := (Co.work x.toNat M.G).2.2 } := hA
  unfold GwPost at K
  rw [← hl] at K
  clear hl hl6 h hI hA hcy
  generalize ({ M with G := (Co.work x.toNat M.G).2.2 } : Ms) = M1 at *
  generalize workM M x.toNat = M2 at *
  generalize workL M x.toNat = lf at *
  go_enter Tryz.func18, Tryz.ntmps18
  go_wp2_with fail
  refine K.mono ?_
  clear K
  rintro e w1 ⟨v, Y, rfl, ho, hm, hY, hF⟩
  obtain ⟨va, vc, rfl, hvc⟩ := own_slice ho
  have HK : Hid (∀ u k Yr, k < l.length → Mw u p ((l.take k).foldl freeM M1) Yr → Calls Tryz.prog 53 #[.pointer (some ⟨p, 0, none⟩), .int .i64 (l.getD k 0)] u (MPost u p ((l.take (k + 1)).foldl freeM M1) Yr (.tuple #[]))) := fun u k Yr hk hu => by
    rw [frees_take M1 l hk]
    exact mfree_any hu _ (hlb _ (by simp [List.getD, hk])) (HA.frees.adr _)
  have HL : Hid (∀ u, Fx Y w1 u → Co.Is u va l) := fun u hu => isF (by have := Co.own_vs ho; exact this) hu (fun ad e q => (hY _ q).2 (by rw [e]; rfl))
  have HM := hid hm
  have HY := hid hY
  have HF := hid hF
  clear ho hm hY hF HA hlb
  generalize hn : l.length = n at *
  have HN := hid hn
  clear hn
  go_wp2_with fail
  go_loopw [21] (fun q wr => ∃ (k : Nat) (Yr : Nat → Prop), q = .int .i64 k ∧ k ≤ n ∧ Mw wr p ((l.take k).foldl freeM M1) Yr ∧ (∀ j, Yr j → Co.Nw Y w1 j) ∧ Fx Y w1 wr) (fun q _ => (n - (intOf q)).toNat)
  case atStart => exact ⟨0, Y, rfl, Nat.zero_le _, HM.out, fun _ => nw_of, Fx.refl _ _⟩
  case round =>
    obtain ⟨k, Yr, rfl, hk, hm, hYr, hx1⟩ := hrel
    have HX := hid hx1
    have HYr := hid hYr
    by_cases hlt : k < n
    · have hkl : k < l.length := by have := HN.out; omega
      obtain ⟨b, o, rfl, hcell⟩ := Co.Is.cell (HL.out wr hx1) hkl
      have K := HK.out wr k Yr hlt hm
      clear hm hx1 hkl hYr
      generalize l.getD k 0 = y at *
      go_wp2_with (first | (go_at_call 53; refine K.mono ?_; clear K; rintro e w2 ⟨rfl, hp⟩; have HP := hid hp; clear hp) | fail "no arm")
      go_roundw
      case rel => exact ⟨k + 1, Co.Nw Yr wr, by go_num, by omega, HP.out.1, fun j hj => by
        rcases hj with q | q
        · exact HYr.out j q
        · exact .inr (Nat.le_trans HX.out.size q), HX.out.trans HP.out.2 (fun j hj => HYr.out j hj)⟩
      case measure => simp [intOf]; omega
    · obtain rfl : k = n := by omega
      have HM2 := hid hm
      clear hm hx1 hYr
      go_wp2_with fail
      go_ret
      have := HM2.out
      rw [List.take_of_length_le (by have := HN.out; omega), ← HW.out] at this
      refine ⟨rfl, this.mono (fun j hj => ?_), HF.out.trans HX.out (fun j hj => (HY.out j hj).1)⟩
      rcases HYr.out j hj with q | q
      · exact (HY.out j q).1
      · exact .inr (Nat.le_trans HF.out.size q)

end

end Go.Proofs.YtjbbomokgpoilaaGreatDoor

/-
  finish, cycle, Fits and room; no statement is proved here.
-/
namespace Go.Proofs.YtjbbomokgpoilaaGreatDoor
open Go.RowKit

theorem Gl.lt {w : World} (h : Gl w) : 0 < w.heap.size := block_lt_of_cell (h 0 (by omega))
theorem Gl.keepF {Z : Nat → Prop} {w w' : World} (h : Gl w) (x : Fx Z w w') (h0 : ¬ Z 0) : Gl w' := fun k hk => x.cell (h k hk) h0
theorem Gl.nw {Z : Nat → Prop} {w : World} (h : Gl w) (h0 : ¬ Z 0) : ¬ Co.Nw Z w 0 := by
  rintro (q | q)
  · exact h0 q
  · have := h.lt; omega

/-- Objects lie in the arena. -/
def ObI (M : Ms) : Prop := ∀ a o, M.ob a = some o → 0 ≤ a ∧ a ≤ 262400
theorem ObI.free {M : Ms} (h : ObI M) (n : Int) : ObI (freeM M n) := fun k a e => by
  simp only [freeM, updO] at e
  split at e
  · cases e
  · exact h k a e
theorem ObI.frees {l : List Int} : ∀ {M : Ms}, ObI M → ObI (l.foldl freeM M) := by
  induction l with
  | nil => intro M h; exact h
  | cons x l ih => intro M h; exact ih (h.free x)

/-- What the calls ask of a memory. -/
structure Mk (M : Ms) (b : Nat) : Prop where
  iv : Co.Iv M.G
  ad : AdI M
  cy : M.G.cy + b < 900000000000000000
  sn : 0 ≤ M.sn ∧ M.sn < 4000000000000000000
  ob : ObI M

theorem frees_G (l : List Int) : ∀ M : Ms, (l.foldl freeM M).G = M.G ∧ (l.foldl freeM M).sn = M.sn ∧ (l.foldl freeM M).pc = M.pc ∧ (l.foldl freeM M).cn = M.cn := by
  induction l with
  | nil => intro M; exact ⟨rfl, rfl, rfl, rfl⟩
  | cons x l ih => intro M; exact ih (freeM M x)
theorem workM_G (M : Ms) (u : Nat) : (workM M u).G = (Co.work u M.G).2.2 := (frees_G _ _).1
theorem workM_sn (M : Ms) (u : Nat) : (workM M u).sn = M.sn := (frees_G _ _).2.1
theorem workM_pc (M : Ms) (u : Nat) : (workM M u).pc = M.pc := (frees_G _ _).2.2.1
theorem workM_cn (M : Ms) (u : Nat) : (workM M u).cn = M.cn := (frees_G _ _).2.2.2
theorem Mk.work {M : Ms} {b : Nat} (h : Mk M (b + 1)) (u : Nat) : Mk (workM M u) b := by
  refine ⟨by rw [workM_G]; exact Co.iv_work u h.iv, AdI.frees (M := { M with G := (Co.work u M.G).2.2 }) h.ad, ?_, by rw [workM_sn]; exact h.sn, ObI.frees (M := { M with G := (Co.work u M.G).2.2 }) h.ob⟩
  rw [workM_G]
  have := Co.work_cy u M.G
  have := h.cy
  omega
theorem Mk.begin {M : Ms} {b : Nat} (h : Mk M b) (l : List Int) : Mk (beginM M l) b := by
  refine ⟨Co.iv_start h.iv l, h.ad, by have := Co.start_cy M.G l; have := h.cy; simp only [beginM]; omega, ?_, h.ob⟩
  simp only [beginM]
  split
  · omega
  · exact h.sn
theorem shs_cy (l : List Int) : ∀ G : Co.Gs, (l.foldl (fun G n => (Co.shade G n).1) G).cy = G.cy := by
  induction l with
  | nil => intro G; rfl
  | cons x l ih => intro G; rw [List.foldl_cons, ih, Co.shade_cy]
theorem Mk.hold {M : Ms} {b : Nat} (h : Mk M b) (l : List Int) : Mk (holdM M l) b :=
  ⟨iv_hold l _ h.iv, h.ad, by have := shs_cy l M.G; have := h.cy; simp only [holdM]; omega, h.sn, h.ob⟩
theorem Mk.le {M : Ms} {b c : Nat} (h : Mk M b) (hc : c ≤ b) : Mk M c := ⟨h.iv, h.ad, by have := h.cy; omega, h.sn, h.ob⟩

section
variable {w : World} {p : Nat} {M : Ms} {Z : Nat → Prop}

theorem finish_any (h : Mw w p M Z) {b : Nat} (hk : Mk M b) : Calls Tryz.prog 49 #[.pointer (some ⟨p, 0, none⟩)] w (MPost w p (finishM M) Z (.tuple #[])) := by
  have K := mwork_any h hk.iv (by have := hk.cy; omega) hk.ad 9223372036854775807 (by omega)
  rw [show (9223372036854775807 : Int).toNat = 9223372036854775807 from rfl] at K
  change Calls Tryz.prog 18 _ w (MPost w p (finishM M) Z _) at K
  clear h hk
  generalize finishM M = M2 at *
  generalize workL M 9223372036854775807 = lf at *
  go_enter Tryz.func49, Tryz.ntmps49
  go_wp2_with (first | (go_at_call 18; refine K.mono ?_; clear K; rintro e w1 hp; have he := hp.1; subst he; have HP := hid hp; clear hp) | fail "no arm")
  go_end0
  exact HP.out.say _

theorem cycle_any (h : Mw w p M Z) {b : Nat} (hk : Mk M b) (va : Option Addr) (n c : Nat) (l : List Int) (hl : Co.Is w va l) (hn : l.length = n) (hb : n ≤ 17592186044416) (hd : ∀ ad, va = some ad → ¬ Z ad.block ∧ ad.block < w.heap.size) :
    Calls Tryz.prog 50 #[.pointer (some ⟨p, 0, none⟩), .slice va n c] w (MPost w p (cycleM M l) Z (.int .i64 (beginE M l))) := by
  have K := begin_any h hk.iv va n c l hl hn hb hd
  have HK : Hid (∀ w1, Mw w1 p (beginM M l) (Co.Nw Z w) → Calls Tryz.prog 49 #[.pointer (some ⟨p, 0, none⟩)] w1 (MPost w1 p (finishM (beginM M l)) (Co.Nw Z w) (.tuple #[]))) := fun w1 hm => finish_any hm (hk.begin l)
  unfold cycleM
  clear h hk hl hd
  generalize beginM M l = M1 at *
  generalize beginE M l = er at *
  generalize finishM M1 = M2 at *
  go_enter Tryz.func50, Tryz.ntmps50
  go_wp2_with (first | (go_at_call 35; refine K.mono ?_; clear K; rintro e w1 hp; have he := hp.1; subst he; have K2 := HK.out w1 hp.2.1; have HP := hid hp; clear hp HK) | (go_at_call 49; refine K2.mono ?_; clear K2; rintro e w2 hp; have he := hp.1; subst he; have HF := hid (HP.out.then hp); clear hp HP) | fail "no arm")
  go_ret
  exact HF.out.say _

theorem fits_nil (n : Int) (w : World) : Calls Tryz.prog 21 #[.pointer none, .int .i64 n] w fun e w' => e = .returned (.bool false) ∧ w' = w := by
  go_enter Tryz.func21, Tryz.ntmps21
  go_wp2
  go_ret
  exact ⟨rfl, rfl⟩
theorem fits_any (h : Mw w p M Z) (hG : Gl w) (n : Int) : Calls Tryz.prog 21 #[.pointer (some ⟨p, 0, none⟩), .int .i64 n] w (SayPost w (.bool (fitsM M n))) := by
  have K := mhfits h hG (n * 8)
  unfold fitsM
  clear h hG
  by_cases h1 : n < 1
  · have d1 : decide (1 ≤ n) = false := by simp; omega
    rw [show decide (1 ≤ n ∧ n ≤ 8192) = false by simp; omega, Bool.false_and]
    clear K
    go_enter Tryz.func21, Tryz.ntmps21
    go_wp2_with fail
    go_ret
    exact ⟨rfl, Ext.refl _ _⟩
  · by_cases h2 : 8192 < n
    · have d1 : decide (1 ≤ n) = true := by simp; omega
      have d2 : decide (n ≤ 8192) = false := by simp; omega
      rw [show decide (1 ≤ n ∧ n ≤ 8192) = false by simp; omega, Bool.false_and]
      clear K
      go_enter Tryz.func21, Tryz.ntmps21
      go_wp2_with fail
      go_ret
      exact ⟨rfl, Ext.refl _ _⟩
    · have d1 : decide (1 ≤ n) = true := by simp; omega
      have d2 : decide (n ≤ 8192) = true := by simp; omega
      rw [show decide (1 ≤ n ∧ n ≤ 8192) = true by simp; omega, Bool.true_and]
      generalize fitsH M.H (n * 8) = bb at *
      go_enter Tryz.func21, Tryz.ntmps21
      go_wp2_with (first | (go_at_call 56; refine K.mono ?_; clear K; rintro e w1 ⟨rfl, hE⟩) | fail "no arm")
      go_ret
      exact ⟨rfl, hE⟩

theorem Mk.room1 {b : Nat} (hk : Mk M (b + 1)) (n : Int) : Mk (room1 M n) b := by
  unfold Go.Proofs.YtjbbomokgpoilaaGreatDoor.room1
  split
  · exact hk.le (by omega)
  · exact hk.work _

theorem mroom_any (h : Mw w p M Z) {b : Nat} (hk : Mk M (b + 1)) (hG : Gl w) (h0 : ¬ Z 0) (x : Int) (va : Option Addr) (n c : Nat) (l : List Int) (hl : Co.Is w va l) (hn : l.length = n) (hb : n ≤ 17592186044416) (hd : ∀ ad, va = some ad → ¬ Z ad.block ∧ ad.block < w.heap.size) :
    Calls Tryz.prog 36 #[.pointer (some ⟨p, 0, none⟩), .int .i64 x, .slice va n c] w (MPost w p (roomM M x l) Z (.bool (fitsM (roomM M x l) x))) := by
  have HFit : Hid (∀ u M', Mw u p M' (Co.Nw Z w) → Fx Z w u → Calls Tryz.prog 21 #[.pointer (some ⟨p, 0, none⟩), .int .i64 x] u (SayPost u (.bool (fitsM M' x)))) := fun u M' hu hx => fits_any hu (hG.keepF hx h0) x
  have HFin : Hid (∀ u, Mw u p M (Co.Nw Z w) → Calls Tryz.prog 49 #[.pointer (some ⟨p, 0, none⟩)] u (MPost u p (finishM M) (Co.Nw Z w) (.tuple #[]))) := fun u hu => finish_any hu hk
  have HCyc : Hid (∀ u, Mw u p (room1 M x) (Co.Nw Z w) → Fx Z w u → Calls Tryz.prog 50 #[.pointer (some ⟨p, 0, none⟩), .slice va n c] u (MPost u p (cycleM (room1 M x) l) (Co.Nw Z w) (.int .i64 (beginE (room1 M x) l)))) := fun u hu hx => by
    refine cycle_any hu (hk.room1 x) va n c l (isF hl hx (fun ad e => (hd ad e).1)) hn hb (fun ad e => ⟨?_, Nat.lt_of_lt_of_le (hd ad e).2 hx.size⟩)
    rintro (q | q)
    · exact (hd ad e).1 q
    · have := (hd ad e).2; omega
  have HM : Hid (MPost w p M Z (.tuple #[]) (.returned (.tuple #[])) w) := MPost.refl h (Ext.refl _ _) _
  clear h hk hG h0 hl hd
  unfold roomM
  generalize hR : room1 M x = M1 at *
  unfold room1 at hR
  generalize cycleM M1 l = M3 at *
  generalize beginE M1 l = er at *
  have K1 := HFit.out w M HM.out.2.1 HM.out.2.2
  have HN := hid hn
  clear hn
  cases hf : fitsM M x
  · rw [hf] at K1
    rw [hf] at hR
    simp only [Bool.false_eq_true, if_false] at hR
    cases hf1 : fitsM M1 x
    · simp only [Bool.false_eq_true, if_false]
      go_enter Tryz.func36, Tryz.ntmps36
      go_wp2_with fail
      refine K1.mono ?_
      clear K1
      rintro e w1 ⟨rfl, hE⟩
      have HP1 := hid (HM.out.more hE (.tuple #[]))
      clear hE HM
      have K2 := HFin.out w1 HP1.out.2.1
      rw [hR] at K2
      go_wp2_with fail
      refine K2.mono ?_
      clear K2
      rintro e w2 hp
      have he := hp.1
      subst he
      have HP2 := hid (HP1.out.then hp)
      clear hp HP1
      have K3 := HFit.out w2 M1 HP2.out.2.1 HP2.out.2.2
      rw [hf1] at K3
      go_wp2_with fail
      refine K3.mono ?_
      clear K3
      rintro e w3 ⟨rfl, hE⟩
      have HP3 := hid (HP2.out.more hE (.tuple #[]))
      clear hE HP2
      have K4 := HCyc.out w3 HP3.out.2.1 HP3.out.2.2
      go_wp2_with fail
      refine K4.mono ?_
      clear K4
      rintro e w4 hp
      have he := hp.1
      subst he
      have HP4 := hid (HP3.out.then hp)
      clear hp HP3
      have K5 := HFit.out w4 M3 HP4.out.2.1 HP4.out.2.2
      go_wp2_with fail
      refine K5.mono ?_
      clear K5
      rintro e w5 ⟨rfl, hE⟩
      have HP5 := hid (HP4.out.more hE (.bool (fitsM M3 x)))
      clear hE HP4
      go_wp2_with fail
      go_ret
      exact HP5.out
    · simp only [if_true]
      go_enter Tryz.func36, Tryz.ntmps36
      go_wp2_with fail
      refine K1.mono ?_
      clear K1
      rintro e w1 ⟨rfl, hE⟩
      have HP1 := hid (HM.out.more hE (.tuple #[]))
      clear hE HM
      have K2 := HFin.out w1 HP1.out.2.1
      rw [hR] at K2
      go_wp2_with fail
      refine K2.mono ?_
      clear K2
      rintro e w2 hp
      have he := hp.1
      subst he
      have HP2 := hid (HP1.out.then hp)
      clear hp HP1
      have K3 := HFit.out w2 M1 HP2.out.2.1 HP2.out.2.2
      rw [hf1] at K3
      go_wp2_with fail
      refine K3.mono ?_
      clear K3
      rintro e w3 ⟨rfl, hE⟩
      have HP3 := hid (HP2.out.more hE (.tuple #[]))
      clear hE HP2
      have K5 := HFit.out w3 M1 HP3.out.2.1 HP3.out.2.2
      rw [hf1] at K5
      go_wp2_with fail
      refine K5.mono ?_
      clear K5
      rintro e w5 ⟨rfl, hE⟩
      have HP5 := hid (HP3.out.more hE (.bool true))
      clear hE HP3
      go_wp2_with fail
      go_ret
      rw [hf1]
      exact HP5.out
  · rw [hf] at K1
    rw [hf] at hR
    simp only [if_true] at hR
    subst hR
    rw [hf]
    simp only [if_true]
    have HG : Hid (∀ u, Ext [] w u → Calls Tryz.prog 21 #[.pointer (some ⟨p, 0, none⟩), .int .i64 x] u (SayPost u (.bool true))) := fun u hu => by
      have hp := HM.out.more hu (.tuple #[])
      have := HFit.out u M hp.2.1 hp.2.2
      rw [hf] at this
      exact this
    clear HFit HFin HCyc
    go_enter Tryz.func36, Tryz.ntmps36
    go_wp2_with fail
    refine K1.mono ?_
    clear K1
    rintro e w1 ⟨rfl, hE⟩
    have HE1 := hid hE
    clear hE
    have K2 := HG.out w1 HE1.out
    go_wp2_with fail
    refine K2.mono ?_
    clear K2
    rintro e w2 ⟨rfl, hE⟩
    have HE2 := hid (HE1.out.trans hE)
    clear hE HE1
    have K3 := HG.out w2 HE2.out
    go_wp2_with fail
    refine K3.mono ?_
    clear K3
    rintro e w3 ⟨rfl, hE⟩
    have HE3 := hid (HE2.out.trans hE)
    clear hE HE2
    go_wp2_with fail
    go_ret
    rw [hf]
    exact HM.out.more HE3.out _

end

end Go.Proofs.YtjbbomokgpoilaaGreatDoor

/-
  Which slots an object's words are; no statement is proved here.
-/
namespace Go.Proofs.YtjbbomokgpoilaaGreatDoor
open Go.RowKit

theorem slotsF_append (a b : List Bool) : ∀ c, slotsF (a ++ b) c = slotsF a c ++ slotsF b (c + cntT a) := by
  induction a with
  | nil => intro c; simp [slotsF, cntT]
  | cons x a ih =>
    intro c
    cases x
    · simp [slotsF, ih, cntT]
    · simp [slotsF, ih, cntT]
      congr 1
      omega
theorem cntT_append (a b : List Bool) : cntT (a ++ b) = cntT a + cntT b := by simp [cntT]
theorem cntT_le (a : List Bool) : cntT a ≤ a.length := List.countP_le_length

/-- The row while it is filled. -/
def numR (ps : List Bool) (k : Nat) : List Value := lI (slotsF (ps.take k) 0) ++ List.replicate (ps.length - k) (.int .i64 0)
theorem numR_set (ps : List Bool) {k : Nat} (h : k < ps.length) (x : Int) (hx : x = if ps.getD k false then (cntT (ps.take k) : Int) else -1) : (numR ps k).set k (.int .i64 x) = numR ps (k + 1) := by
  have hl : (lI (slotsF (ps.take k) 0)).length = k := by simp [lI, slotsF_len]; omega
  obtain ⟨m, hm⟩ : ∃ m, ps.length - k = m + 1 := ⟨ps.length - k - 1, by omega⟩
  have hm2 : ps.length - (k + 1) = m := by omega
  unfold numR
  rw [hm, hm2, List.set_append_right _ _ (by omega), hl, Nat.sub_self, List.replicate_succ, List.set_cons_zero, List.take_add_one, slotsF_append, List.getElem?_eq_getElem h]
  have hg : ps.getD k false = ps[k] := by simp [List.getD, h]
  rw [hg] at hx
  cases hb : ps[k]
  · rw [hb] at hx; simp [slotsF, lI, hx]
  · rw [hb] at hx; simp [slotsF, lI, hx]
theorem numR_len (ps : List Bool) {k : Nat} (h : k ≤ ps.length) : (numR ps k).length = ps.length := by simp [numR, lI, slotsF_len]; omega
theorem numR_set0 (ps : List Bool) {k : Nat} (x y : Value) : ((numR ps k).set k x).set k y = (numR ps k).set k y := by simp
theorem cnt_succ (ps : List Bool) {k : Nat} (h : k < ps.length) : cntT (ps.take (k + 1)) = cntT (ps.take k) + if ps.getD k false then 1 else 0 := by
  rw [List.take_add_one, cntT_append, List.getElem?_eq_getElem h]
  have hg : ps.getD k false = ps[k] := by simp [List.getD, h]
  rw [hg]
  cases ps[k] <;> simp [cntT]

/-- What number answers. -/
def NumPost (w : World) (ps : List Bool) (e : Ending) (w' : World) : Prop :=
  ∃ g, e = .returned (.tuple #[.slice (some ⟨g, 0, none⟩) ps.length ps.length, .int .i64 (cntT ps : Nat)]) ∧ w'.heap[g]? = some (.cells (lI (slotsF ps 0)).toArray 3 (0, 0)) ∧ w.heap.size ≤ g ∧ Ext [] w w'

set_option maxHeartbeats 1000000 in
theorem number_any (w : World) (pa : Option Addr) (n pc : Nat) (ps : List Bool) (hP : Co.Os w pa ps) (hn : ps.length = n) (hb : n ≤ 8192) : Calls Tryz.prog 67 #[.slice pa n pc] w (NumPost w ps) := by
  obtain ⟨i, hi, hz0, hz1, hz2⟩ := Co.info_parts Co.info3
  have hr := run_make (P := Tryz.prog) w 32 3 i _ Tryz.underlying32 hi hz0 .i64 .i64 n n (by omega) (Int.le_refl _) (by rw [hz2]; omega) (by omega)
  rw [hz1] at hr
  simp only [Int.toNat_natCast] at hr
  have hm : madeCells (Value.int IntKind.i64 0).cells (n * 1) = (numR ps 0).toArray := by
    apply Array.toList_inj.1
    rw [show (Value.int IntKind.i64 0).cells = #[.int .i64 0] from rfl, toList_madeCells_one]
    simp [numR, lI, slotsF, hn]
  rw [hm] at hr
  have HR0 : Hid ((w.alloc (.cells (numR ps 0).toArray 3)).heap[w.heap.size]? = some (.cells (numR ps 0).toArray 3 (0, 0)) ∧ Ext [] w (w.alloc (.cells (numR ps 0).toArray 3))) := ⟨heap_alloc_new _ _, Ext.alloc _ _ _⟩
  have HP := hid hP
  have HN := hid hn
  clear hm hP hi hz0 hz1 hz2 i hn
  generalize hX : (numR ps 0).toArray = X0 at hr HR0
  have HX := hid hX
  clear hX
  go_enter Tryz.func67, Tryz.ntmps67
  go_wp2_with fail
  go_loopw [5, 13] (fun c q wr => ∃ (k : Nat), q = .int .i64 k ∧ k ≤ n ∧ c = .int .i64 (cntT (ps.take k) : Nat) ∧ wr.heap[w.heap.size]? = some (.cells (numR ps k).toArray 3 (0, 0)) ∧ Ext [] w wr) (fun _ q _ => (n - (intOf q)).toNat)
  case atStart => exact ⟨0, rfl, Nat.zero_le _, rfl, by rw [HX.out]; exact HR0.out.1, HR0.out.2⟩
  case round =>
    obtain ⟨k, rfl, hk, rfl, hrow, hE⟩ := hrel
    have HRow := hid hrow
    have HE := hid hE
    by_cases hlt : k < n
    · have hkl : k < ps.length := by have := HN.out; omega
      obtain ⟨b, o, rfl, hcell⟩ := Co.Os.cell (HP.out.keep0 (co_ext hE)) hkl
      have hrl := numR_len ps (Nat.le_of_lt hkl)
      have hck : ∃ v, wr.cell? ⟨w.heap.size, k, none⟩ = some v := by
        rw [cell_of_row _ _ _ _ _ _ hrow]
        exact ⟨(numR ps k)[k]'(by omega), by simp⟩
      obtain ⟨vk, hck⟩ := hck
      have hfz : wr.frozen? ⟨w.heap.size, k, none⟩ = false := frozen_of_row _ _ _ _ _ hrow
      have hbs : b < wr.heap.size ∧ b ≠ w.heap.size := by
        refine ⟨block_lt_of_cell hcell, fun e => ?_⟩
        obtain ⟨b', o', hb', hc'⟩ := Co.Os.cell HP.out hkl
        cases hb'
        have := block_lt_of_cell hc'
        simp only at this
        omega
      have hcl := cnt_succ ps hkl
      have hcle : cntT (ps.take k) ≤ 8192 := by have := cntT_le (ps.take k); simp at this; omega
      have HA : Hid (∀ x : Int, (x = if ps.getD k false then (cntT (ps.take k) : Int) else -1) → ∀ W, W = wr.setCell ⟨w.heap.size, k, none⟩ (.int .i64 x) ∨ (∃ y, W = (wr.setCell ⟨w.heap.size, k, none⟩ y).setCell ⟨w.heap.size, k, none⟩ (.int .i64 x)) → W.heap[w.heap.size]? = some (.cells (numR ps (k + 1)).toArray 3 (0, 0)) ∧ Ext [] w W) := fun x hx W hW => by
        have e1 := numR_set ps hkl x hx
        rcases hW with rfl | ⟨y, rfl⟩
        · refine ⟨?_, HE.out.on (Ext.setCell [w.heap.size] _ _ _ (by simp)) (by simp)⟩
          rw [heap_setCell_same _ _ _ _ _ _ HRow.out, ← e1]
          simp
        · refine ⟨?_, HE.out.on ((Ext.setCell [w.heap.size] _ _ _ (by simp)).trans (Ext.setCell [w.heap.size] _ _ _ (by simp))) (by simp)⟩
          rw [heap_setCell_same _ _ _ _ _ _ (heap_setCell_same _ _ _ _ _ _ HRow.out), ← e1]
          simp
      clear hrow hE hkl hrl HRow HE
      generalize ps.getD k false = pk at *
      cases pk
      · simp only [Bool.false_eq_true, if_false] at HA hcl
        have HA := hid (HA.out (-1) rfl _ (.inl rfl))
        have HC := hid hcl
        clear hcl
        go_wp2_with fail
        go_roundw
        case rel => exact ⟨k + 1, by go_num, by omega, by rw [HC.out]; rfl, HA.out.1, HA.out.2⟩
        case measure => simp [intOf]; omega
      · simp only [if_true] at HA hcl
        have HA := hid (HA.out _ rfl _ (.inr ⟨.int .i64 (-1), rfl⟩))
        have HC := hid hcl
        clear hcl
        generalize cntT (ps.take k) = ck at *
        go_wp2_with fail
        go_roundw
        case rel => exact ⟨k + 1, by go_num, by omega, by rw [HC.out]; go_num, HA.out.1, HA.out.2⟩
        case measure => simp [intOf]; omega
    · obtain rfl : k = n := by omega
      clear hrow hE
      have hQ : (numR ps k) = lI (slotsF ps 0) ∧ cntT (ps.take k) = cntT ps := by
        have := HN.out
        rw [List.take_of_length_le (by omega)]
        unfold numR
        rw [List.take_of_length_le (by omega), show ps.length - k = 0 by omega]
        simp
      rw [hQ.2]
      have HQ := hid hQ
      clear hQ
      go_wp2_with fail
      go_ret2
      refine ⟨w.heap.size, ?_, by rw [← HQ.out.1]; exact HRow.out, Nat.le_refl _, HE.out⟩
      rw [HN.out]; rfl

end Go.Proofs.YtjbbomokgpoilaaGreatDoor

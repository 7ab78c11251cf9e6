/-
  MPlace, MAlloc, MBeg: joined by program; no statement is proved here.
-/
import Derived.Test.YtjbbomokgpoilaaGreatDoorZMB
/-
  A new object's place; no statement is proved here.
-/
namespace Go.Proofs.YtjbbomokgpoilaaGreatDoor
open Go.RowKit

theorem alloc_gok {H : Hs} (h : Hv H) (size tag : Int) : 0 ≤ (allocH H size tag).1 ∧ (allocH H size tag).1 ≤ 262400 := by
  unfold allocH
  split
  · rename_i hc
    split
    · rename_i k hk
      obtain ⟨x, hx, _, hfit⟩ := findIdx_find hk
      have e := spAt_eq hx
      have hlk := (List.getElem?_eq_some_iff.1 hx).1
      unfold fitS at hfit
      simp only [Bool.and_eq_true, decide_eq_true_eq] at hfit
      obtain ⟨z1, _, _⟩ := fz_spec hfit.2 (fun y hy => ((h.ok x (List.mem_of_getElem? hx)).sz y hy).1)
      have hs := h.slt hlk (j := fz (spAt H k).S) (by rw [e]; exact z1)
      have := hs.hi
      have := hs.P1
      simp only
      omega
    · split
      · simp
      · rename_i i hi
        obtain ⟨h1, _⟩ := hole_some hi
        have := h.inv.mem _ (rnAt_mem h1)
        have := h.P1
        simp only
        omega
  · simp

theorem MPost.mono {w : World} {p : Nat} {M : Ms} {Y Z : Nat → Prop} {r : Value} {e : Ending} {w' : World} (h : MPost w p M Y r e w') (hm : ∀ k, Y k → Z k) : MPost w p M Z r e w' :=
  ⟨h.1, h.2.1.mono (fun k hk => by rcases hk with q | q; exact .inl (hm k q); exact .inr q), h.2.2.mono hm⟩

section
variable {w : World} {p : Nat} {M : Ms} {X : Co.Fo} {cs : Array Value} {cl : Nat → Nat} {bo ba : Nat} {fo : Int → Option Value} {Z : Nat → Prop}

/-- A block more. -/
theorem Mm.recl (h : Mm w p M X cs cl bo ba fo) (g : Nat) (hg : cl g = 0) (hgl : g < w.heap.size) : Mm w p M X cs (fun k => if k = g then 3 else cl k) bo ba fo := by
  have hne : ∀ k, cl k ≠ 0 → (if k = g then 3 else cl k) = cl k := fun k hk => if_neg (fun (e : k = g) => hk (by rw [e]; exact hg))
  refine ⟨h.g.mono (fun k hk => by rw [hne k (by rw [hk]; decide)]; exact hk), ?_, h.xd, h.xe, h.xf, h.xg, h.mo, h.ma, ?_, ?_, fun k hk => ?_, fun a o ho => ?_, h.on⟩
  · obtain ⟨ag, og, V, sb, O, h2⟩ := h.h
    refine ⟨ag, og, V, sb, O, h2.foot (fun k hk => ?_) ?_⟩
    · rw [hne k (by rw [hk]; decide)]; exact hk
    · rw [hne p (by rw [h.p1]; decide), h.p1]; decide
  · rw [hne _ (by rw [h.co]; decide)]; exact h.co
  · rw [hne _ (by rw [h.ca]; decide)]; exact h.ca
  · by_cases e : k = g
    · rw [e]; exact hgl
    · simp only [if_neg e] at hk; exact h.th k hk
  · obtain ⟨g', h1, h2, h3, h4⟩ := h.os a o ho
    exact ⟨g', h1, h2, by rw [hne g' (by rw [h3]; decide)]; exact h3, h4⟩

/-- An object more. -/
theorem Mm.put (h : Mm w p M X cs cl bo ba fo) (g : Nat) (hg : cl g = 0) (a n : Int) (sl : List Int) (hrow : w.heap[g]? = some (.cells (lI sl).toArray 3 (0, 0))) (ha : I64 a) (hn : I64 n) (hcn : M.cn < 1000000000000000000) (hsl : sl.length ≤ 8192) :
    ∃ w2 w3, (Instr.mapUpdate 82 (.map (some bo)) (.int .i64 a) (.agg #[.int .i64 n, .slice (some ⟨g, 0, none⟩) sl.length sl.length])).run Tryz.prog w = .ok () w2 ∧ w2.cell? ⟨p, 11, none⟩ = some (.map (some ba)) ∧ (Instr.mapUpdate 83 (.map (some ba)) (.int .i64 n) (.int .i64 a)).run Tryz.prog w2 = .ok () w3 ∧
      Mm w3 p { M with ob := updO M.ob a (some ⟨n, sl⟩), ad := updO M.ad n (some a), cn := M.cn + 1 } X cs (fun k => if k = g then 3 else cl k) bo ba (upd fo a (some (moV ⟨n, sl⟩ g))) ∧ Fx (fun k => k = bo ∨ k = ba) w w3 := by
  have hp1 := h.p1
  have hco := h.co
  have hca := h.ca
  have hbo : ba ≠ bo := fun e => by rw [e] at hca; omega
  have hgl := lt_of_heap hrow
  have hmx : M.cn < maxLen := by unfold maxLen; omega
  obtain ⟨w2, hr2, hm2, hE2⟩ := h.mo.put (t := 82) (e := 89) Tryz.underlying82 hmx ha (moV ⟨n, sl⟩ g)
  have hx2 : Fx (fun k => k = bo) w w2 := Fx.of_ext hE2 (by simp)
  obtain ⟨w3, hr3, hm3, hE3⟩ := (h.ma.keep hx2 hbo).put (t := 83) (e := 3) Tryz.underlying83 hmx hn (.int .i64 a)
  have hx3 : Fx (fun k => k = ba) w2 w3 := Fx.of_ext hE3 (by simp)
  have hx23 : Fx (fun k => k = bo ∨ k = ba) w w3 := (hx2.mono (fun k hk => .inl hk)).trans hx3 (fun k hk => .inl (.inr hk))
  refine ⟨w2, w3, hr2, hx2.cell h.flds.2.1 (fun e => by simp only at e; rw [e] at hp1; omega), hr3, (h.recl g hg hgl).maps hx23 (fun k _ hk => hk) { M with ob := updO M.ob a (some ⟨n, sl⟩), ad := updO M.ad n (some a), cn := M.cn + 1 } rfl rfl rfl rfl (hm2.keep hx3 (Ne.symm hbo)) ?_ (fun a' o hao => ?_) (fun a' hao => ?_), hx23⟩
  · have e : (fun k => ((updO M.ad n (some a)) k).map (Value.int .i64)) = upd (fun k => (M.ad k).map (Value.int .i64)) n (some (.int .i64 a)) := by
      funext k
      simp only [updO, upd]
      split <;> rfl
    simp only
    rw [e]; exact hm3
  · simp only [updO, upd] at hao ⊢
    split at hao
    · rename_i e
      cases hao
      left
      refine ⟨g, if_pos e, hx23.keep hrow ?_, if_pos rfl, hsl⟩
      rintro (q | q)
      · rw [q] at hg; omega
      · rw [q] at hg; omega
    · rename_i e
      exact .inr ⟨hao, if_neg e⟩
  · simp only [updO, upd] at hao ⊢
    split
    · rename_i e; rw [if_pos e] at hao; cases hao
    · rename_i e
      rw [if_neg e] at hao
      exact h.on a' hao

set_option maxHeartbeats 2000000 in
theorem place_any (h : Mw w p M Z) {b : Nat} (hk : Mk M b) (hv : Hv M.H) (hG : Gl w) (h0 : ¬ Z 0) (pa : Option Addr) (n pc : Nat) (ps : List Bool) (hP : Co.Os w pa ps) (hn : ps.length = n) (hb : n ≤ 8192) (tag : Int) (hcn : M.cn < 1000000000000000000) :
    Calls Tryz.prog 37 #[.pointer (some ⟨p, 0, none⟩), .slice pa n pc, .int .i64 tag] w (MPost w p (placeM M ps tag).1 Z (.tuple #[.int .i64 (placeM M ps tag).2.1, .int .i64 (placeM M ps tag).2.2])) := by
  have KN := number_any w pa n pc ps hP hn hb
  have h' := h.there
  generalize hZ : (fun k => Z k ∧ k < w.heap.size) = Y at h'
  have hYZ : ∀ k, Y k → Z k ∧ k < w.heap.size := fun k hk => by rw [← hZ] at hk; exact hk
  have hGl := hG
  obtain ⟨r, hr⟩ : ∃ r, r = Co.node M.G (cntT ps : Int) := ⟨_, rfl⟩
  obtain ⟨q, hq⟩ : ∃ q, q = allocH M.H (ps.length * 8) tag := ⟨_, rfl⟩
  have hqb := alloc_gok hv (ps.length * 8) tag
  have hrb : I64 r.2.1 := by
    rw [hr]
    unfold Co.node
    split
    · simp [I64]
    · split
      · simp [I64]
      · rename_i h3 h4
        have : Co.fr M.G ≤ 65536 := by
          have h5 := hk.iv.len
          have h6 := hk.iv.le
          have h7 : ((M.G.ns.drop M.G.le).findIdx fun x => x.c == 0) ≤ (M.G.ns.drop M.G.le).length := List.findIdx_le_length
          rw [List.length_drop] at h7
          unfold Co.fr
          omega
        simp only [I64]; omega
  have HK2 : Hid (∀ u, Mw u p M Y → Calls Tryz.prog 68 #[.pointer (some ⟨p, 0, none⟩), .int .i64 (cntT ps : Nat)] u (MPost u p { M with G := r.1 } Y (.tuple #[.int .i64 r.2.1, .int .i64 r.2.2]))) := fun u hu => by rw [hr]; exact mnode hu hk.iv _
  have HK3 : Hid (∀ u V, Mw u p { M with G := r.1 } V → Gl u → Calls Tryz.prog 69 #[.pointer (some ⟨p, 7, none⟩), .int .i64 ((n : Int) * 8), .int .i64 tag] u (MPost u p { M with G := r.1, H := q.2.2 } V (.tuple #[.int .i64 q.1, .int .i64 q.2.1]))) := fun u V hu hg => by rw [hq, hn]; exact mhalloc hu hg _ _
  have hsn := hk.sn
  have hpt := h.pt
  rw [← hq] at hqb
  -- the new object's entries, and how many words were allocated since
  have HP : Hid (∀ w1 g w2 w3, Ext [] w w1 → w.heap.size ≤ g → w1.heap[g]? = some (.cells (lI (slotsF ps 0)).toArray 3 (0, 0)) → MPost w1 p { M with G := r.1 } Y (.tuple #[.int .i64 r.2.1, .int .i64 r.2.2]) (.returned (.tuple #[.int .i64 r.2.1, .int .i64 r.2.2])) w2 → MPost w2 p { M with G := r.1, H := q.2.2 } (Co.Nw Y w1) (.tuple #[.int .i64 q.1, .int .i64 q.2.1]) (.returned (.tuple #[.int .i64 q.1, .int .i64 q.2.1])) w3 →
      ∃ bo ba w4 w5, w3.cell? ⟨p, 10, none⟩ = some (.map (some bo)) ∧ (Instr.mapUpdate 82 (.map (some bo)) (.int .i64 q.1) (.agg #[.int .i64 r.2.1, .slice (some ⟨g, 0, none⟩) n n])).run Tryz.prog w3 = .ok () w4 ∧ w4.cell? ⟨p, 11, none⟩ = some (.map (some ba)) ∧ (Instr.mapUpdate 83 (.map (some ba)) (.int .i64 r.2.1) (.int .i64 q.1)).run Tryz.prog w4 = .ok () w5 ∧
        w5.cell? ⟨p, 13, none⟩ = some (.int .i64 M.sn) ∧ w5.frozen? ⟨p, 13, none⟩ = false ∧
        Hid (∀ v, MPost w p { M with G := r.1, H := q.2.2, ob := updO M.ob q.1 (some ⟨r.2.1, slotsF ps 0⟩), ad := updO M.ad r.2.1 (some q.1), sn := M.sn + n, cn := M.cn + 1 } Z v (.returned v) (w5.setCell ⟨p, 13, none⟩ (.int .i64 (M.sn + n))))) := fun w1 g w2 w3 hE hg hrow hp2 hp3 => by
    have hgw := lt_of_heap hrow
    have hgY : ¬ Co.Nw Y w1 g := by
      rintro (e | e)
      · have := (hYZ g e).2; omega
      · omega
    have h12 := hp2.then hp3
    have hrow3 := hp3.2.2.keep (hp2.2.2.keep hrow (fun e => hgY (.inl e))) hgY
    obtain ⟨X, cs, cl, bo, ba, fo, h1, h2⟩ := h12.2.1
    have hcg : cl g = 0 := by
      by_cases e : cl g = 0
      · exact e
      · exact absurd (h2 g e) hgY
    have hsl : (slotsF ps 0).length = n := by rw [slotsF_len, hn]
    obtain ⟨w4, w5, e1, e2, e3, hm, hx⟩ := h1.put g hcg q.1 r.2.1 (slotsF ps 0) hrow3 (by unfold I64; omega) hrb hcn (by omega)
    rw [hsl] at e1
    obtain ⟨X', cs', hm2⟩ := hm.setSn (M.sn + n)
    refine ⟨bo, ba, w4, w5, h1.flds.1, e1, e2, e3, hm.flds.2.2.2.1, hm.flds.2.2.2.2 13, fun v => ?_⟩
    have hxx : Fx (fun k => k = p ∨ k = bo ∨ k = ba) w3 (w5.setCell ⟨p, 13, none⟩ (.int .i64 (M.sn + n))) := (hx.mono (fun k hk => .inr hk)).trans (C := fun k => k = p) (Fx.of_ext (Ext.setCell [p] w5 _ _ (by simp)) (by simp)) (fun k hk => .inl (.inl hk))
    have hw1 : w.heap.size ≤ w1.heap.size := hE.size
    refine ⟨rfl, ⟨X', cs', _, bo, ba, _, hm2, fun k hk => ?_⟩, ?_⟩
    · by_cases e : k = g
      · rw [e]; exact .inr hg
      · simp only [if_neg e] at hk
        rcases h2 k hk with e | e
        · exact .inl (hYZ k e).1
        · exact .inr (by omega)
    · refine (Fx.of_ext0 hE).trans ((h12.2.2.trans hxx (fun k hk => ?_))) (fun k hk => .inl (hYZ k hk).1)
      have : cl k ≠ 0 := by
        rcases hk with e | e | e
        · rw [e, h1.p1]; decide
        · rw [e, h1.co]; decide
        · rw [e, h1.ca]; decide
      exact h2 k this
  have HG : Hid (∀ w1 w2, Ext [] w w1 → Fx Y w1 w2 → Gl w2) := fun w1 w2 hE hx => (hG.keep0 hE).keepF hx (fun e => h0 (hYZ 0 e).1)
  have HM := hid h'
  have HYZ := hid hYZ
  unfold placeM
  rw [← hr, ← hq]
  clear hr hq hG h hk hv hP hGl h' hZ hYZ h0 hrb hqb hcn
  have HNs := hid hn
  rw [hn]
  clear hn
  obtain ⟨G1, nd, er⟩ := r
  obtain ⟨ad, ea, H1⟩ := q
  simp only at *
  have hcb : cntT ps ≤ 8192 := by have := cntT_le ps; have := HNs.out; omega
  by_cases he : er = 0
  · subst he
    rw [if_neg (by simp)]
    by_cases hea : ea = 0
    · subst hea
      rw [if_neg (by simp)]
      go_enter Tryz.func37, Tryz.ntmps37
      go_wp2_with fail
      refine KN.mono ?_
      clear KN
      rintro e w1 ⟨g, rfl, hrow, hg, hE⟩
      have K2 := HK2.out w1 (HM.out.keep0 hE)
      have HE1 := hid hE
      have HR := hid (And.intro hg hrow)
      clear hE hg hrow HM HK2
      rw [HNs.out]
      go_wp2_with fail
      refine K2.mono ?_
      clear K2
      rintro e w2 hp
      have he := hp.1
      subst he
      have K3 := HK3.out w2 _ hp.2.1 (HG.out w1 w2 HE1.out hp.2.2)
      have HP2 := hid hp
      clear hp HK3 HG
      go_wp2_with fail
      refine K3.mono ?_
      clear K3
      rintro e w3 hp
      have he := hp.1
      subst he
      obtain ⟨bo, ba, w4, w5, f10, e1, f11, e2, f13, fz, HF⟩ := HP.out w1 g w2 w3 HE1.out HR.out.1 HR.out.2 HP2.out hp
      clear hp HP HP2 HE1 HR
      go_wp2_with fail
      go_ret2
      exact HF.out _
    · rw [if_pos (by simpa using hea)]
      have hb1 : (ea != 0) = true := by simpa using hea
      go_enter Tryz.func37, Tryz.ntmps37
      go_wp2_with fail
      refine KN.mono ?_
      clear KN
      rintro e w1 ⟨g, rfl, hrow, hg, hE⟩
      have K2 := HK2.out w1 (HM.out.keep0 hE)
      have HE1 := hid hE
      clear hE hg hrow HM HK2
      rw [HNs.out]
      go_wp2_with fail
      refine K2.mono ?_
      clear K2
      rintro e w2 hp
      have he := hp.1
      subst he
      have K3 := HK3.out w2 _ hp.2.1 (HG.out w1 w2 HE1.out hp.2.2)
      have HP2 := hid hp
      clear hp HK3 HG
      go_wp2_with fail
      refine K3.mono ?_
      clear K3
      rintro e w3 hp
      have he := hp.1
      subst he
      have HP3 := hid (HP2.out.then hp)
      clear hp HP HP2
      go_wp2_with fail
      go_ret2
      refine ⟨rfl, HP3.out.2.1.mono (fun k hk => ?_), (Fx.of_ext0 HE1.out).trans HP3.out.2.2 (fun k hk => .inl (HYZ.out k hk).1)⟩
      rcases hk with e | e
      · exact .inl (HYZ.out k e).1
      · exact .inr (Nat.le_trans HE1.out.size e)
  · rw [if_pos (by simpa using he)]
    have hb1 : (er != 0) = true := by simpa using he
    go_enter Tryz.func37, Tryz.ntmps37
    go_wp2_with fail
    refine KN.mono ?_
    clear KN
    rintro e w1 ⟨g, rfl, hrow, hg, hE⟩
    have K2 := HK2.out w1 (HM.out.keep0 hE)
    have HE1 := hid hE
    clear hE hg hrow HM HK2
    rw [HNs.out]
    go_wp2_with fail
    refine K2.mono ?_
    clear K2
    rintro e w2 hp
    have he := hp.1
    subst he
    have HP3 := hid hp
    clear hp HP
    go_wp2_with fail
    go_ret2
    refine ⟨rfl, HP3.out.2.1.mono (fun k hk => ?_), (Fx.of_ext0 HE1.out).trans HP3.out.2.2 (fun k hk => .inl (HYZ.out k hk).1)⟩
    rcases hk with e | e
    · exact .inl (HYZ.out k e).1
    · exact .inr (Nat.le_trans HE1.out.size e)

end

end Go.Proofs.YtjbbomokgpoilaaGreatDoor

/-
  Phase, Cycles, Alloc, Begin and Collect of a memory; no statement is proved here.
-/
namespace Go.Proofs.YtjbbomokgpoilaaGreatDoor
open Go.RowKit

def begM (M : Ms) (l : List Int) : Ms := if M.G.ph = 0 ∧ max M.pc 1 ≤ M.sn then beginM M l else M
def allocM (M : Ms) (ps : List Bool) (tag : Int) (R : List Int) : Ms × Int × Int :=
  if ps.length < 1 ∨ 8192 < ps.length ∨ tag < 0 ∨ 2147483647 < tag then (M, 0, 2) else match nodesM M R with
  | none => (M, 0, 4)
  | some l => if fitsM (roomM (begM (holdM M l) l) ps.length l) ps.length then placeM (roomM (begM (holdM M l) l) ps.length l) ps tag else (roomM (begM (holdM M l) l) ps.length l, 0, 7)
def begin9 (M : Ms) (R : List Int) : Ms × Int := if M.G.ph ≠ 0 then (M, 14) else match nodesM M R with
  | none => (M, 4)
  | some l => (beginM M l, beginE M l)
def collectM (M : Ms) (R : List Int) : Ms × Int := match nodesM M R with
  | none => (M, 4)
  | some l => (cycleM (finishM (holdM M l)) l, beginE (finishM (holdM M l)) l)

section
variable {w : World} {p : Nat} {M : Ms} {Z : Nat → Prop}

theorem Mw.hv (h : Mw w p M Z) : Hv M.H := by
  obtain ⟨X, cs, cl, bo, ba, fo, h1, h2⟩ := h
  exact h1.h.ok
theorem Mk.begM {b : Nat} (hk : Mk M b) (l : List Int) : Mk (begM M l) b := by
  unfold Go.Proofs.YtjbbomokgpoilaaGreatDoor.begM
  split
  · exact hk.begin l
  · exact hk
theorem Mk.room {b : Nat} (hk : Mk M (b + 2)) (n : Int) (l : List Int) : Mk (roomM M n l) b := by
  unfold roomM
  split
  · exact (hk.room1 n).le (by omega)
  · exact ((hk.room1 n).begin l).work _

theorem room1_cn (M : Ms) (n : Int) : (room1 M n).cn = M.cn := by
  unfold room1
  split
  · rfl
  · exact workM_cn _ _
theorem roomM_cn (M : Ms) (n : Int) (l : List Int) : (roomM M n l).cn = M.cn := by
  unfold roomM
  split
  · exact room1_cn M n
  · exact (workM_cn _ _).trans (room1_cn M n)
theorem begM_cn (M : Ms) (l : List Int) : (Go.Proofs.YtjbbomokgpoilaaGreatDoor.begM M l).cn = M.cn := by
  unfold Go.Proofs.YtjbbomokgpoilaaGreatDoor.begM
  split <;> rfl

theorem phase_nil (w : World) : Calls Tryz.prog 19 #[.pointer none] w fun e w' => e = .returned (.int .i64 0) ∧ w' = w := by
  go_enter Tryz.func19, Tryz.ntmps19
  go_wp2
  go_ret
  exact ⟨rfl, rfl⟩
theorem cycles_nil (w : World) : Calls Tryz.prog 20 #[.pointer none] w fun e w' => e = .returned (.int .i64 0) ∧ w' = w := by
  go_enter Tryz.func20, Tryz.ntmps20
  go_wp2
  go_ret
  exact ⟨rfl, rfl⟩
theorem phase_any (h : Mw w p M Z) : Calls Tryz.prog 19 #[.pointer (some ⟨p, 0, none⟩)] w fun e w' => e = .returned (.int .i64 M.G.ph) ∧ w' = w := by
  have K : Calls Tryz.prog 54 #[.pointer (some ⟨p, 0, none⟩)] w fun e w' => e = .returned (.int .i64 M.G.ph) ∧ w' = w := by
    obtain ⟨X, cs, cl, bo, ba, fo, h1, h2⟩ := h
    exact Co.phase_any p (M.G.wx X) _ w h1.g
  clear h
  generalize (M.G.ph : Int) = ph at *
  go_enter Tryz.func19, Tryz.ntmps19
  go_wp2_with (first | (go_at_call 54; refine met K ?_) | fail "no arm")
  go_ret
  exact ⟨rfl, rfl⟩
theorem cycles_any (h : Mw w p M Z) : Calls Tryz.prog 20 #[.pointer (some ⟨p, 0, none⟩)] w fun e w' => e = .returned (.int .i64 M.G.cy) ∧ w' = w := by
  have K : Calls Tryz.prog 55 #[.pointer (some ⟨p, 0, none⟩)] w fun e w' => e = .returned (.int .i64 M.G.cy) ∧ w' = w := by
    obtain ⟨X, cs, cl, bo, ba, fo, h1, h2⟩ := h
    exact Co.cycles_any p (M.G.wx X) _ w h1.g
  clear h
  generalize (M.G.cy : Int) = cy at *
  go_enter Tryz.func20, Tryz.ntmps20
  go_wp2_with (first | (go_at_call 55; refine met K ?_) | fail "no arm")
  go_ret
  exact ⟨rfl, rfl⟩

theorem mnodes_w (h : Mw w p M Z) {b : Nat} (hk : Mk M b) (ra : Option Addr) (n rc : Nat) (R : List Int) (hR : Co.Is w ra R) (hn : R.length = n) (hb : n ≤ 17592186044415) (hi : ∀ x ∈ R, I64 x) :
    Calls Tryz.prog 33 #[.pointer (some ⟨p, 0, none⟩), .slice ra n rc] w (NdPost w (nodesM M R)) := by
  obtain ⟨X, cs, cl, bo, ba, fo, h1, h2⟩ := h
  exact mnodes_any h1 hk.iv.len ra n rc R hR hn hb hi

theorem alloc_nil (a b c : Value) (ha : ∃ x n y, a = .slice x n y) (hb : ∃ t, b = .int .i64 t) (w : World) : Calls Tryz.prog 9 #[.pointer none, a, b, c] w fun e w' => e = .returned (.tuple #[.int .i64 0, .int .i64 2]) ∧ w' = w := by
  obtain ⟨x, n, y, rfl⟩ := ha
  obtain ⟨t, rfl⟩ := hb
  go_enter Tryz.func9, Tryz.ntmps9
  go_wp2
  go_ret2
  exact ⟨rfl, rfl⟩

/-- A list of one's own is where nothing turns that was there. -/
theorem own_is {w w1 : World} {v : Value} {l : List Int} (h : w1.ownsRow w.heap.size 3 1 v l.length (lI l)) : ∃ va c, v = .slice va l.length c ∧ Co.Is w1 va l ∧ ∀ ad, va = some ad → w.heap.size ≤ ad.block ∧ ad.block < w1.heap.size := by
  obtain ⟨va, c, rfl, _⟩ := own_slice h
  exact ⟨va, c, rfl, Co.own_vs h, fun ad e => own_lt h ad.block (by rw [e]; rfl)⟩

set_option maxHeartbeats 4000000 in
theorem malloc_any (h : Mw w p M Z) {b : Nat} (hk : Mk M (b + 2)) (hG : Gl w) (h0 : ¬ Z 0) (pa : Option Addr) (n pc : Nat) (ps : List Bool) (hP : Co.Os w pa ps) (hn : ps.length = n) (hnb : n ≤ 1000000000000000000) (hPd : ∀ ad, pa = some ad → ¬ Z ad.block ∧ ad.block < w.heap.size) (tag : Int) (ra : Option Addr) (rn rc : Nat) (R : List Int) (hR : Co.Is w ra R) (hrn : R.length = rn) (hrb : rn ≤ 17592186044415) (hi : ∀ x ∈ R, I64 x) (hcn : M.cn < 1000000000000000000) :
    Calls Tryz.prog 9 #[.pointer (some ⟨p, 0, none⟩), .slice pa n pc, .int .i64 tag, .slice ra rn rc] w (MPost w p (allocM M ps tag R).1 Z (.tuple #[.int .i64 (allocM M ps tag R).2.1, .int .i64 (allocM M ps tag R).2.2])) := by
  by_cases hc : ps.length < 1 ∨ 8192 < ps.length ∨ tag < 0 ∨ 2147483647 < tag
  · have e : allocM M ps tag R = (M, 0, 2) := by unfold allocM; rw [if_pos hc]
    rw [e]
    have HF := hid (MPost.refl h (Ext.refl [] w) (.tuple #[.int .i64 0, .int .i64 2]))
    rw [hn] at hc
    clear h hk hG h0 hP hPd hR hi hcn
    by_cases h1 : n < 1
    · have d1 : decide ((n : Int) < 1) = true := by simp; omega
      go_enter Tryz.func9, Tryz.ntmps9
      go_wp2_with fail
      go_ret2
      exact HF.out
    · have d1 : decide ((n : Int) < 1) = false := by simp; omega
      by_cases h2 : 8192 < n
      · have d2 : decide ((n : Int) > 8192) = true := by simp; omega
        go_enter Tryz.func9, Tryz.ntmps9
        go_wp2_with fail
        go_ret2
        exact HF.out
      · have d2 : decide ((n : Int) > 8192) = false := by simp; omega
        by_cases h3 : tag < 0
        · have d3 : decide (tag < 0) = true := by simp; omega
          go_enter Tryz.func9, Tryz.ntmps9
          go_wp2_with fail
          go_ret2
          exact HF.out
        · have d3 : decide (tag < 0) = false := by simp; omega
          have h4 : 2147483647 < tag := by omega
          have d4 : decide (tag > 2147483647) = true := by simp; omega
          go_enter Tryz.func9, Tryz.ntmps9
          go_wp2_with fail
          go_ret2
          exact HF.out
  · have KN := mnodes_w h hk ra rn rc R hR hrn hrb hi
    have h' := h.there
    generalize hZ : (fun k => Z k ∧ k < w.heap.size) = Y at h'
    have hYZ : ∀ k, Y k → Z k ∧ k < w.heap.size := fun k hk => by rw [← hZ] at hk; exact hk
    have hYZ1 : ∀ k, Y k → Z k := fun k hk => (hYZ k hk).1
    have h1 : ¬ ps.length < 1 := fun q => hc (.inl q)
    have h2 : ¬ 8192 < ps.length := fun q => hc (.inr (.inl q))
    have h3 : ¬ tag < 0 := fun q => hc (.inr (.inr (.inl q)))
    have h4 : ¬ 2147483647 < tag := fun q => hc (.inr (.inr (.inr q)))
    have d1 : decide ((n : Int) < 1) = false := by simp; omega
    have d2 : decide ((n : Int) > 8192) = false := by simp; omega
    have d3 : decide (tag < 0) = false := by simp; omega
    have d4 : decide (tag > 2147483647) = false := by simp; omega
    have hn8 : n ≤ 8192 := by omega
    cases hN : nodesM M R with
    | none =>
      have e : allocM M ps tag R = (M, 0, 4) := by unfold allocM; rw [if_neg hc, hN]
      rw [e]
      rw [hN] at KN
      have HF : Hid (∀ w1, Ext [] w w1 → MPost w p M Z (.tuple #[.int .i64 0, .int .i64 4]) (.returned (.tuple #[.int .i64 0, .int .i64 4])) w1) := fun w1 hE => MPost.refl h hE _
      clear h hk hG h0 hP hPd hR hi hcn h' hZ hYZ hYZ1 hN hc e h1 h2 h3 h4
      go_enter Tryz.func9, Tryz.ntmps9
      go_wp2_with fail
      refine KN.mono ?_
      clear KN
      rintro e w1 ⟨hE, rfl⟩
      have HF1 := hid (HF.out w1 hE)
      clear hE HF
      go_wp2_with fail
      go_ret2
      exact HF1.out
    | some l =>
      have hll : l.length ≤ 17592186044415 := by have := nodesM_len M R l hN; omega
      have e : allocM M ps tag R = if fitsM (roomM (begM (holdM M l) l) n l) n then placeM (roomM (begM (holdM M l) l) n l) ps tag else (roomM (begM (holdM M l) l) n l, 0, 7) := by unfold allocM; rw [if_neg hc, hN, hn]
      rw [e]
      rw [hN] at KN
      -- what stays, whatever the memory turns
      have HD : Hid (∀ w1, Ext [] w w1 → ∀ va, Co.Is w1 va l → (∀ ad, va = some ad → w.heap.size ≤ ad.block ∧ ad.block < w1.heap.size) → ∀ wk, Fx Y w1 wk → Co.Is wk va l ∧ (∀ ad, va = some ad → ¬ Co.Nw Y w1 ad.block ∧ ad.block < wk.heap.size) ∧ Gl wk ∧ ¬ Co.Nw Y w1 0 ∧ Co.Os wk pa ps) := fun w1 hE va hI hva wk hx => by
        have hva' : ∀ ad, va = some ad → ¬ Y ad.block := fun ad e q => by have := (hYZ _ q).2; have := (hva ad e).1; omega
        refine ⟨isF hI hx hva', fun ad e => ⟨?_, Nat.lt_of_lt_of_le (hva ad e).2 hx.size⟩, (hG.keep0 hE).keepF hx (fun q => h0 (hYZ1 _ q)), (hG.keep0 hE).nw (fun q => h0 (hYZ1 _ q)), ?_⟩
        · rintro (q | q)
          · exact hva' ad e q
          · have := (hva ad e).2; omega
        · have hO := hP.keep0 (co_ext hE)
          rcases hO with q | ⟨b', o', rfl, q⟩
          · exact .inl q
          · refine .inr ⟨b', o', rfl, fun j hj => ?_⟩
            have := q j hj
            have hb' := hPd ⟨b', o', none⟩ rfl
            rw [List.getElem?_eq_getElem hj] at this ⊢
            exact hx.cell this (fun r => hb'.1 (hYZ1 _ r))
      have HH : Hid (∀ w1, Ext [] w w1 → ∀ va c, Co.Is w1 va l → (∀ ad, va = some ad → w.heap.size ≤ ad.block ∧ ad.block < w1.heap.size) → Calls Tryz.prog 34 #[.pointer (some ⟨p, 0, none⟩), .slice va l.length c] w1 (MPost w1 p (holdM M l) Y (.tuple #[]))) := fun w1 hE va c hI hva =>
        hold_any (h'.keep0 hE) hk.iv va _ c l hI rfl (by omega) (fun ad e => ⟨fun q => by have := (hYZ _ q).2; have := (hva ad e).1; omega, (hva ad e).2⟩)
      have HB : Hid (∀ w1, Ext [] w w1 → ∀ va c, Co.Is w1 va l → (∀ ad, va = some ad → w.heap.size ≤ ad.block ∧ ad.block < w1.heap.size) → ∀ wk, Mw wk p (holdM M l) (Co.Nw Y w1) → Fx Y w1 wk → Calls Tryz.prog 35 #[.pointer (some ⟨p, 0, none⟩), .slice va l.length c] wk (MPost wk p (beginM (holdM M l) l) (Co.Nw Y w1) (.int .i64 (beginE (holdM M l) l)))) := fun w1 hE va c hI hva wk hm hx => by
        obtain ⟨q1, q2, _⟩ := HD.out w1 hE va hI hva wk hx
        exact begin_any hm (hk.hold l).iv va _ c l q1 rfl (by omega) q2
      have HR : Hid (∀ w1, Ext [] w w1 → ∀ va c, Co.Is w1 va l → (∀ ad, va = some ad → w.heap.size ≤ ad.block ∧ ad.block < w1.heap.size) → ∀ wk, Mw wk p (begM (holdM M l) l) (Co.Nw Y w1) → Fx Y w1 wk → Calls Tryz.prog 36 #[.pointer (some ⟨p, 0, none⟩), .int .i64 (n : Int), .slice va l.length c] wk (MPost wk p (roomM (begM (holdM M l) l) n l) (Co.Nw Y w1) (.bool (fitsM (roomM (begM (holdM M l) l) n l) n)))) := fun w1 hE va c hI hva wk hm hx => by
        obtain ⟨q1, q2, q3, q4, _⟩ := HD.out w1 hE va hI hva wk hx
        exact mroom_any hm (b := b + 1) ((hk.hold l).begM l) q3 q4 n va _ c l q1 rfl (by omega) q2
      have HPl : Hid (∀ w1, Ext [] w w1 → ∀ va, Co.Is w1 va l → (∀ ad, va = some ad → w.heap.size ≤ ad.block ∧ ad.block < w1.heap.size) → ∀ wk, Mw wk p (roomM (begM (holdM M l) l) n l) (Co.Nw Y w1) → Fx Y w1 wk → Calls Tryz.prog 37 #[.pointer (some ⟨p, 0, none⟩), .slice pa n pc, .int .i64 tag] wk (MPost wk p (placeM (roomM (begM (holdM M l) l) n l) ps tag).1 (Co.Nw Y w1) (.tuple #[.int .i64 (placeM (roomM (begM (holdM M l) l) n l) ps tag).2.1, .int .i64 (placeM (roomM (begM (holdM M l) l) n l) ps tag).2.2]))) := fun w1 hE va hI hva wk hm hx => by
        obtain ⟨_, _, q3, q4, q5⟩ := HD.out w1 hE va hI hva wk hx
        refine place_any hm (((hk.hold l).begM l).room n l) hm.hv q3 q4 pa n pc ps q5 hn hn8 tag ?_
        rw [roomM_cn, begM_cn]; exact hcn
      have HFld : Hid (∀ wk V, Mw wk p (holdM M l) V → wk.cell? ⟨p, 12, none⟩ = some (.int .i64 M.pc) ∧ wk.cell? ⟨p, 13, none⟩ = some (.int .i64 M.sn) ∧ ∀ m, Calls Tryz.prog 19 #[.pointer (some ⟨p, 0, none⟩)] (wk.drewN m) (Qt (wk.drewN m) (.int .i64 (holdM M l).G.ph))) := fun wk V hm => by
        have hm0 := hm
        obtain ⟨X, cs, cl, bo, ba, fo, g1, g2⟩ := hm
        refine ⟨g1.flds.2.2.1, g1.flds.2.2.2.1, fun m => (phase_any (hm0.keep0 (Ext.drewN _ _ m))).mono ?_⟩
        rintro e w1 ⟨rfl, rfl⟩
        exact ⟨rfl, 0, rfl⟩
      have HFin : Hid (∀ w1 wk M' r, Ext [] w w1 → MPost w1 p M' Y r (.returned r) wk → MPost w p M' Z r (.returned r) wk) := fun w1 wk M' r hE hp => by
        refine ⟨rfl, hp.2.1.mono (fun k hk => ?_), (Fx.of_ext0 hE).trans hp.2.2 (fun k hk => .inl (hYZ1 k hk))⟩
        rcases hk with q | q
        · exact .inl (hYZ1 k q)
        · exact .inr (Nat.le_trans hE.size q)
      have hbm : begM (holdM M l) l = if (holdM M l).G.ph = 0 ∧ max M.pc 1 ≤ M.sn then beginM (holdM M l) l else holdM M l := rfl
      clear h hk hG h0 hP hPd hR hi hcn h' hZ hYZ hYZ1 hN hc e h1 h2 h3 h4 HD hn hrn
      generalize roomM (begM (holdM M l) l) n l = M3 at *
      generalize beginM (holdM M l) l = M2b at *
      generalize beginE (holdM M l) l = eb at *
      generalize begM (holdM M l) l = M2 at *
      generalize hM1 : holdM M l = M1 at *
      generalize hT : (if fitsM M3 ↑n = true then placeM M3 ps tag else (M3, 0, 7)) = T
      have HT := hid hT.symm
      clear hT
      go_enter Tryz.func9, Tryz.ntmps9
      go_wp2_with fail
      refine KN.mono ?_
      clear KN
      rintro e w1 ⟨hE, v, rfl, ho⟩
      obtain ⟨va, vc, rfl, hI, hva⟩ := own_is ho
      have K2 := HH.out w1 hE va vc hI hva
      have HB := hid (HB.out w1 hE va vc hI hva)
      have HR := hid (HR.out w1 hE va vc hI hva)
      have HPl := hid (HPl.out w1 hE va hI hva)
      have HE1 := hid hE
      clear hE ho hI hva HH
      go_wp2_with fail
      refine K2.mono ?_
      clear K2
      rintro e w2 hp
      have he := hp.1
      subst he
      obtain ⟨f12, f13, KP⟩ := HFld.out w2 _ hp.2.1
      have HP2 := hid hp
      clear hp HFld
      go_wp2_with fail
      generalize hph : (M1.G.ph : Int) = ph at *
      by_cases hp0 : ph = 0
      · have b0 : (ph == 0) = true := by simpa using hp0
        by_cases hpc : M.pc < 1
        · have dp : decide (M.pc < 1) = true := by simpa using hpc
          by_cases hm : 1 ≤ M.sn
          · have dm : decide (M.sn ≥ 1) = true := by simpa using hm
            rw [if_pos ⟨by omega, by omega⟩] at hbm
            subst hbm
            go_quiet ((go_at_call 19; exact Calls.quiet_of (KP _)))
            go_wp2_with fail
            have K3 := HB.out (w2.drewN nq) (HP2.out.more (Ext.drewN [] w2 nq) (.tuple #[])).2.1 (HP2.out.more (Ext.drewN [] w2 nq) (.tuple #[])).2.2
            clear HB
            refine K3.mono ?_
            clear K3
            rintro e w4 hp
            have he := hp.1
            subst he
            have HP4 := hid ((HP2.out.more (Ext.drewN [] w2 nq) (.tuple #[])).then hp)
            clear hp HP2
            go_wp2_with fail
            have K4 := HR.out w4 HP4.out.2.1 HP4.out.2.2
            clear HR
            go_wp2_with fail
            refine K4.mono ?_
            clear K4
            rintro e w5 hp
            have he := hp.1
            subst he
            have HP5 := hid (HP4.out.then hp)
            clear hp HP4
            have HT2 := HT.out
            cases hft : fitsM M3 n
            · rw [hft, if_neg (by simp)] at HT2
              subst HT2
              clear HT
              go_wp2_with fail
              go_ret2
              exact HFin.out w1 w5 _ _ HE1.out (HP5.out.say _)
            · rw [hft, if_pos rfl] at HT2
              subst HT2
              have K5 := HPl.out w5 HP5.out.2.1 HP5.out.2.2
              clear HPl HT
              generalize placeM M3 ps tag = T at *
              go_wp2_with fail
              refine K5.mono ?_
              clear K5
              rintro e w6 hp
              have he := hp.1
              subst he
              have HP6 := hid (HP5.out.then hp)
              clear hp HP5
              go_wp2_with fail
              go_ret2
              exact HFin.out w1 w6 _ _ HE1.out (HP6.out.say _)

          · have dm : decide (M.sn ≥ 1) = false := by simpa using hm
            rw [if_neg (fun q => hm (by omega))] at hbm
            subst hbm
            go_quiet ((go_at_call 19; exact Calls.quiet_of (KP _)))
            go_wp2_with fail
            have HP4 := hid (HP2.out.more (Ext.drewN [] w2 nq) (.tuple #[]))
            clear HP2
            have K4 := HR.out (w2.drewN nq) HP4.out.2.1 HP4.out.2.2
            clear HR
            go_wp2_with fail
            refine K4.mono ?_
            clear K4
            rintro e w5 hp
            have he := hp.1
            subst he
            have HP5 := hid (HP4.out.then hp)
            clear hp HP4
            have HT2 := HT.out
            cases hft : fitsM M3 n
            · rw [hft, if_neg (by simp)] at HT2
              subst HT2
              clear HT
              go_wp2_with fail
              go_ret2
              exact HFin.out w1 w5 _ _ HE1.out (HP5.out.say _)
            · rw [hft, if_pos rfl] at HT2
              subst HT2
              have K5 := HPl.out w5 HP5.out.2.1 HP5.out.2.2
              clear HPl HT
              generalize placeM M3 ps tag = T at *
              go_wp2_with fail
              refine K5.mono ?_
              clear K5
              rintro e w6 hp
              have he := hp.1
              subst he
              have HP6 := hid (HP5.out.then hp)
              clear hp HP5
              go_wp2_with fail
              go_ret2
              exact HFin.out w1 w6 _ _ HE1.out (HP6.out.say _)

        · have dp : decide (M.pc < 1) = false := by simpa using hpc
          by_cases hm : M.pc ≤ M.sn
          · have dm : decide (M.sn ≥ M.pc) = true := by simpa using hm
            rw [if_pos ⟨by omega, by omega⟩] at hbm
            subst hbm
            go_quiet ((go_at_call 19; exact Calls.quiet_of (KP _)))
            go_wp2_with fail
            have K3 := HB.out (w2.drewN nq) (HP2.out.more (Ext.drewN [] w2 nq) (.tuple #[])).2.1 (HP2.out.more (Ext.drewN [] w2 nq) (.tuple #[])).2.2
            clear HB
            refine K3.mono ?_
            clear K3
            rintro e w4 hp
            have he := hp.1
            subst he
            have HP4 := hid ((HP2.out.more (Ext.drewN [] w2 nq) (.tuple #[])).then hp)
            clear hp HP2
            go_wp2_with fail
            have K4 := HR.out w4 HP4.out.2.1 HP4.out.2.2
            clear HR
            go_wp2_with fail
            refine K4.mono ?_
            clear K4
            rintro e w5 hp
            have he := hp.1
            subst he
            have HP5 := hid (HP4.out.then hp)
            clear hp HP4
            have HT2 := HT.out
            cases hft : fitsM M3 n
            · rw [hft, if_neg (by simp)] at HT2
              subst HT2
              clear HT
              go_wp2_with fail
              go_ret2
              exact HFin.out w1 w5 _ _ HE1.out (HP5.out.say _)
            · rw [hft, if_pos rfl] at HT2
              subst HT2
              have K5 := HPl.out w5 HP5.out.2.1 HP5.out.2.2
              clear HPl HT
              generalize placeM M3 ps tag = T at *
              go_wp2_with fail
              refine K5.mono ?_
              clear K5
              rintro e w6 hp
              have he := hp.1
              subst he
              have HP6 := hid (HP5.out.then hp)
              clear hp HP5
              go_wp2_with fail
              go_ret2
              exact HFin.out w1 w6 _ _ HE1.out (HP6.out.say _)

          · have dm : decide (M.sn ≥ M.pc) = false := by simpa using hm
            rw [if_neg (fun q => hm (by omega))] at hbm
            subst hbm
            go_quiet ((go_at_call 19; exact Calls.quiet_of (KP _)))
            go_wp2_with fail
            have HP4 := hid (HP2.out.more (Ext.drewN [] w2 nq) (.tuple #[]))
            clear HP2
            have K4 := HR.out (w2.drewN nq) HP4.out.2.1 HP4.out.2.2
            clear HR
            go_wp2_with fail
            refine K4.mono ?_
            clear K4
            rintro e w5 hp
            have he := hp.1
            subst he
            have HP5 := hid (HP4.out.then hp)
            clear hp HP4
            have HT2 := HT.out
            cases hft : fitsM M3 n
            · rw [hft, if_neg (by simp)] at HT2
              subst HT2
              clear HT
              go_wp2_with fail
              go_ret2
              exact HFin.out w1 w5 _ _ HE1.out (HP5.out.say _)
            · rw [hft, if_pos rfl] at HT2
              subst HT2
              have K5 := HPl.out w5 HP5.out.2.1 HP5.out.2.2
              clear HPl HT
              generalize placeM M3 ps tag = T at *
              go_wp2_with fail
              refine K5.mono ?_
              clear K5
              rintro e w6 hp
              have he := hp.1
              subst he
              have HP6 := hid (HP5.out.then hp)
              clear hp HP5
              go_wp2_with fail
              go_ret2
              exact HFin.out w1 w6 _ _ HE1.out (HP6.out.say _)

      · have b0 : (ph == 0) = false := by simpa using hp0
        rw [if_neg (fun q => hp0 (by omega))] at hbm
        subst hbm
        go_quiet ((go_at_call 19; exact Calls.quiet_of (KP _)))
        go_wp2_with fail
        have HP4 := hid (HP2.out.more (Ext.drewN [] w2 nq) (.tuple #[]))
        clear HP2
        have K4 := HR.out (w2.drewN nq) HP4.out.2.1 HP4.out.2.2
        clear HR
        go_wp2_with fail
        refine K4.mono ?_
        clear K4
        rintro e w5 hp
        have he := hp.1
        subst he
        have HP5 := hid (HP4.out.then hp)
        clear hp HP4
        have HT2 := HT.out
        cases hft : fitsM M3 n
        · rw [hft, if_neg (by simp)] at HT2
          subst HT2
          clear HT
          go_wp2_with fail
          go_ret2
          exact HFin.out w1 w5 _ _ HE1.out (HP5.out.say _)
        · rw [hft, if_pos rfl] at HT2
          subst HT2
          have K5 := HPl.out w5 HP5.out.2.1 HP5.out.2.2
          clear HPl HT
          generalize placeM M3 ps tag = T at *
          go_wp2_with fail
          refine K5.mono ?_
          clear K5
          rintro e w6 hp
          have he := hp.1
          subst he
          have HP6 := hid (HP5.out.then hp)
          clear hp HP5
          go_wp2_with fail
          go_ret2
          exact HFin.out w1 w6 _ _ HE1.out (HP6.out.say _)

end

end Go.Proofs.YtjbbomokgpoilaaGreatDoor

/-
  Begin and Collect of a memory; no statement is proved here.
-/
namespace Go.Proofs.YtjbbomokgpoilaaGreatDoor
open Go.RowKit

theorem begin_nil (r : Value) (w : World) : Calls Tryz.prog 15 #[.pointer none, r] w fun e w' => e = .returned (.int .i64 2) ∧ w' = w := by
  have K := mnodes_nil r w
  go_enter Tryz.func15, Tryz.ntmps15
  go_wp2_with (first | (go_at_call 33; refine met K ?_) | fail "no arm")
  go_ret
  exact ⟨rfl, rfl⟩
theorem collect_nil (r : Value) (w : World) : Calls Tryz.prog 16 #[.pointer none, r] w fun e w' => e = .returned (.int .i64 2) ∧ w' = w := by
  have K := mnodes_nil r w
  go_enter Tryz.func16, Tryz.ntmps16
  go_wp2_with (first | (go_at_call 33; refine met K ?_) | fail "no arm")
  go_ret
  exact ⟨rfl, rfl⟩
theorem work_nil (x : Int) (w : World) : Calls Tryz.prog 18 #[.pointer none, .int .i64 x] w fun e w' => e = .returned (.int .i64 0) ∧ w' = w := by
  go_enter Tryz.func18, Tryz.ntmps18
  go_wp2
  go_ret
  exact ⟨rfl, rfl⟩

section
variable {w : World} {p : Nat} {M : Ms} {Z : Nat → Prop}

/-- What was made besides is nowhere in the memory. -/
theorem apart_is {w w1 : World} {Y : Nat → Prop} {va : Option Addr} {l : List Int} (hI : Co.Is w1 va l) (hva : ∀ ad, va = some ad → w.heap.size ≤ ad.block ∧ ad.block < w1.heap.size) (hY : ∀ k, Y k → k < w.heap.size) {wk : World} (hx : Fx Y w1 wk) : Co.Is wk va l ∧ ∀ ad, va = some ad → ¬ Co.Nw Y w1 ad.block ∧ ad.block < wk.heap.size := by
  have hva' : ∀ ad, va = some ad → ¬ Y ad.block := fun ad e q => by have := hY _ q; have := (hva ad e).1; omega
  refine ⟨isF hI hx hva', fun ad e => ⟨?_, Nat.lt_of_lt_of_le (hva ad e).2 hx.size⟩⟩
  rintro (q | q)
  · exact hva' ad e q
  · have := (hva ad e).2; omega
theorem MPost.back {w w1 wk : World} {Y : Nat → Prop} {M' : Ms} {r : Value} (hE : Ext [] w w1) (hYZ : ∀ k, Y k → Z k) (hp : MPost w1 p M' Y r (.returned r) wk) : MPost w p M' Z r (.returned r) wk := by
  refine ⟨rfl, hp.2.1.mono (fun k hk => ?_), (Fx.of_ext0 hE).trans hp.2.2 (fun k hk => .inl (hYZ k hk))⟩
  rcases hk with q | q
  · exact .inl (hYZ k q)
  · exact .inr (Nat.le_trans hE.size q)

theorem mbegin_any (h : Mw w p M Z) {b : Nat} (hk : Mk M b) (ra : Option Addr) (rn rc : Nat) (R : List Int) (hR : Co.Is w ra R) (hrn : R.length = rn) (hrb : rn ≤ 17592186044415) (hi : ∀ x ∈ R, I64 x) :
    Calls Tryz.prog 15 #[.pointer (some ⟨p, 0, none⟩), .slice ra rn rc] w (MPost w p (begin9 M R).1 Z (.int .i64 (begin9 M R).2)) := by
  have KP := phase_any h
  have KN := mnodes_w h hk ra rn rc R hR hrn hrb hi
  have h' := h.there
  generalize hZ : (fun k => Z k ∧ k < w.heap.size) = Y at h'
  have hYZ : ∀ k, Y k → Z k ∧ k < w.heap.size := fun k hk => by rw [← hZ] at hk; exact hk
  unfold begin9
  by_cases hp0 : M.G.ph = 0
  · rw [if_neg (by simpa using hp0)]
    have b0 : ((M.G.ph : Int) != 0) = false := by simp [hp0]
    cases hN : nodesM M R with
    | none =>
      rw [hN] at KN
      have HF : Hid (∀ w1, Ext [] w w1 → MPost w p M Z (.int .i64 4) (.returned (.int .i64 4)) w1) := fun w1 hE => MPost.refl h hE _
      clear h hk hR hi h' hZ hYZ hN hp0
      generalize (M.G.ph : Int) = ph at *
      go_enter Tryz.func15, Tryz.ntmps15
      go_wp2_with (first | (go_at_call 19; refine met KP ?_) | (go_at_call 33; refine KN.mono ?_; clear KN; rintro e w1 ⟨hE, rfl⟩; have HF1 := hid (HF.out w1 hE); clear hE HF) | fail "no arm")
      go_ret
      exact HF1.out
    | some l =>
      rw [hN] at KN
      have hll : l.length ≤ 17592186044415 := by have := nodesM_len M R l hN; omega
      have HB : Hid (∀ w1, Ext [] w w1 → ∀ va c, Co.Is w1 va l → (∀ ad, va = some ad → w.heap.size ≤ ad.block ∧ ad.block < w1.heap.size) → Calls Tryz.prog 35 #[.pointer (some ⟨p, 0, none⟩), .slice va l.length c] w1 (MPost w1 p (beginM M l) Y (.int .i64 (beginE M l)))) := fun w1 hE va c hI hva =>
        begin_any (h'.keep0 hE) hk.iv va _ c l hI rfl (by omega) (fun ad e => ⟨fun q => by have := (hYZ _ q).2; have := (hva ad e).1; omega, (hva ad e).2⟩)
      have HFin : Hid (∀ w1 wk r, Ext [] w w1 → MPost w1 p (beginM M l) Y r (.returned r) wk → MPost w p (beginM M l) Z r (.returned r) wk) := fun w1 wk r hE hp => hp.back hE (fun k hk => (hYZ k hk).1)
      clear h hk hR hi h' hZ hYZ hN hp0
      simp only
      generalize beginM M l = M1 at *
      generalize beginE M l = er at *
      generalize (M.G.ph : Int) = ph at *
      go_enter Tryz.func15, Tryz.ntmps15
      go_wp2_with (first | (go_at_call 19; refine met KP ?_) | (go_at_call 33; refine KN.mono ?_; clear KN; rintro e w1 ⟨hE, v, rfl, ho⟩; obtain ⟨va, vc, rfl, hI, hva⟩ := own_is ho; have K2 := HB.out w1 hE va vc hI hva; have HE1 := hid hE; clear hE ho hI hva HB) | (go_at_call 35; refine K2.mono ?_; clear K2; rintro e w2 hp; have he := hp.1; subst he; have HP := hid hp; clear hp) | fail "no arm")
      go_ret
      exact HFin.out w1 w2 _ HE1.out HP.out
  · rw [if_pos hp0]
    have b0 : ((M.G.ph : Int) != 0) = true := by simp; omega
    have HF := hid (MPost.refl h (Ext.refl [] w) (.int .i64 14))
    clear h hk hR hi h' hZ hYZ hp0 KN
    generalize (M.G.ph : Int) = ph at *
    go_enter Tryz.func15, Tryz.ntmps15
    go_wp2_with (first | (go_at_call 19; refine met KP ?_) | fail "no arm")
    go_ret
    exact HF.out

theorem mcollect_any (h : Mw w p M Z) {b : Nat} (hk : Mk M (b + 1)) (ra : Option Addr) (rn rc : Nat) (R : List Int) (hR : Co.Is w ra R) (hrn : R.length = rn) (hrb : rn ≤ 17592186044415) (hi : ∀ x ∈ R, I64 x) :
    Calls Tryz.prog 16 #[.pointer (some ⟨p, 0, none⟩), .slice ra rn rc] w (MPost w p (collectM M R).1 Z (.int .i64 (collectM M R).2)) := by
  have KN := mnodes_w h hk ra rn rc R hR hrn hrb hi
  have h' := h.there
  generalize hZ : (fun k => Z k ∧ k < w.heap.size) = Y at h'
  have hYZ : ∀ k, Y k → Z k ∧ k < w.heap.size := fun k hk => by rw [← hZ] at hk; exact hk
  unfold collectM
  cases hN : nodesM M R with
  | none =>
    rw [hN] at KN
    have HF : Hid (∀ w1, Ext [] w w1 → MPost w p M Z (.int .i64 4) (.returned (.int .i64 4)) w1) := fun w1 hE => MPost.refl h hE _
    clear h hk hR hi h' hZ hYZ hN
    go_enter Tryz.func16, Tryz.ntmps16
    go_wp2_with (first | (go_at_call 33; refine KN.mono ?_; clear KN; rintro e w1 ⟨hE, rfl⟩; have HF1 := hid (HF.out w1 hE); clear hE HF) | fail "no arm")
    go_ret
    exact HF1.out
  | some l =>
    rw [hN] at KN
    have hll : l.length ≤ 17592186044415 := by have := nodesM_len M R l hN; omega
    have HH : Hid (∀ w1, Ext [] w w1 → ∀ va c, Co.Is w1 va l → (∀ ad, va = some ad → w.heap.size ≤ ad.block ∧ ad.block < w1.heap.size) → Calls Tryz.prog 34 #[.pointer (some ⟨p, 0, none⟩), .slice va l.length c] w1 (MPost w1 p (holdM M l) Y (.tuple #[]))) := fun w1 hE va c hI hva =>
      hold_any (h'.keep0 hE) hk.iv va _ c l hI rfl (by omega) (fun ad e => ⟨fun q => by have := (hYZ _ q).2; have := (hva ad e).1; omega, (hva ad e).2⟩)
    have HFn : Hid (∀ w1 wk, Mw wk p (holdM M l) (Co.Nw Y w1) → Calls Tryz.prog 49 #[.pointer (some ⟨p, 0, none⟩)] wk (MPost wk p (finishM (holdM M l)) (Co.Nw Y w1) (.tuple #[]))) := fun w1 wk hm => finish_any hm (hk.hold l)
    have HC : Hid (∀ w1, Ext [] w w1 → ∀ va c, Co.Is w1 va l → (∀ ad, va = some ad → w.heap.size ≤ ad.block ∧ ad.block < w1.heap.size) → ∀ wk, Mw wk p (finishM (holdM M l)) (Co.Nw Y w1) → Fx Y w1 wk → Calls Tryz.prog 50 #[.pointer (some ⟨p, 0, none⟩), .slice va l.length c] wk (MPost wk p (cycleM (finishM (holdM M l)) l) (Co.Nw Y w1) (.int .i64 (beginE (finishM (holdM M l)) l)))) := fun w1 hE va c hI hva wk hm hx => by
      obtain ⟨q1, q2⟩ := apart_is hI hva (fun k hk => (hYZ k hk).2) hx
      exact cycle_any hm ((hk.hold l).work _) va _ c l q1 rfl (by omega) q2
    have HFin : Hid (∀ w1 wk M' r, Ext [] w w1 → MPost w1 p M' Y r (.returned r) wk → MPost w p M' Z r (.returned r) wk) := fun w1 wk M' r hE hp => hp.back hE (fun k hk => (hYZ k hk).1)
    clear h hk hR hi h' hZ hYZ hN
    simp only
    generalize cycleM (finishM (holdM M l)) l = M3 at *
    generalize beginE (finishM (holdM M l)) l = er at *
    generalize finishM (holdM M l) = M2 at *
    generalize holdM M l = M1 at *
    go_enter Tryz.func16, Tryz.ntmps16
    go_wp2_with fail
    refine KN.mono ?_
    clear KN
    rintro e w1 ⟨hE, v, rfl, ho⟩
    obtain ⟨va, vc, rfl, hI, hva⟩ := own_is ho
    have K2 := HH.out w1 hE va vc hI hva
    have HC := hid (HC.out w1 hE va vc hI hva)
    have HE1 := hid hE
    clear hE ho hI hva HH
    go_wp2_with fail
    refine K2.mono ?_
    clear K2
    rintro e w2 hp
    have he := hp.1
    subst he
    have K3 := HFn.out w1 w2 hp.2.1
    have HP2 := hid hp
    clear hp HFn
    go_wp2_with fail
    refine K3.mono ?_
    clear K3
    rintro e w3 hp
    have he := hp.1
    subst he
    have HP3 := hid (HP2.out.then hp)
    clear hp HP2
    have K4 := HC.out w3 HP3.out.2.1 HP3.out.2.2
    clear HC
    go_wp2_with fail
    refine K4.mono ?_
    clear K4
    rintro e w4 hp
    have he := hp.1
    subst he
    have HP4 := hid (HP3.out.then hp)
    clear hp HP3
    go_wp2_with fail
    go_ret
    exact HFin.out w1 w4 _ _ HE1.out HP4.out

end

end Go.Proofs.YtjbbomokgpoilaaGreatDoor

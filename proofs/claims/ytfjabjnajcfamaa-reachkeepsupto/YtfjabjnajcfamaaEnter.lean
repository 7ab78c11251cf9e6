/-
  What a search depth first has in memory, and its closure 'enter'; no statement is proved here.
-/
import Derived.Test.YtfjabjnajcfamaaSmall
import Derived.Deep.AppendLies
import Derived.Deep.Cut
namespace Go.Proofs.Ytfjabjnajcfamaa
open Go.RowKit

/-- Naturals as ints. -/
def ci (l : List Nat) : List Int := l.map fun (x : Nat) => (x : Int)
def cn (N : List (List Nat)) : List (List Int) := N.map ci
theorem ci_len (l : List Nat) : (ci l).length = l.length := by simp [ci]
theorem cn_len (N : List (List Nat)) : (cn N).length = N.length := by simp [cn]
theorem ci_get (l : List Nat) (i : Nat) (h : i < l.length) : (ci l).getD i 0 = ((l.getD i 0 : Nat) : Int) := by simp [ci, h]
theorem cn_get (N : List (List Nat)) (i : Nat) : lsAt (cn N) i = ci (nxt N i) := by
  by_cases h : i < N.length
  · simp [lsAt, cn, nxt, List.getD, h]
  · simp [lsAt, cn, nxt, List.getD, h, ci]
theorem ci_app (l m : List Nat) : ci (l ++ m) = ci l ++ ci m := by simp [ci]

/-- Lists that are open, as slices within what was there ahead of the call. -/
def St (w0 : World) (vs : List Value) (P : List (List Nat)) : Prop := vs.length = P.length ∧ ∀ i, i < P.length → ∃ fa fc, vs[i]? = some (.slice fa (P.getD i []).length fc) ∧ Is w0 fa (ci (P.getD i [])) ∧ (P.getD i []).length ≤ fc

/-- The memory of a search. -/
structure Sm (w0 : World) (a : Option Addr) (n c : Nat) (W : World) (C : List Bool) (O : List Nat) (P : List (List Nat)) : Prop where
  ext : Ext [] w0 W
  size : w0.heap.size + 5 ≤ W.heap.size
  net : Boxed W w0.heap.size 22 (.slice a n c)
  cb : Boxed W (w0.heap.size + 2) 25 (.slice (some ⟨w0.heap.size + 1, 0, none⟩) n n)
  cr : W.heap[w0.heap.size + 1]? = some (.cells (C.map Value.bool).toArray 4 (0, 0))
  cl : C.length = n
  ob : ∃ v, Boxed W (w0.heap.size + 3) 23 v ∧ W.ownsRow (w0.heap.size + 5) 3 1 v O.length ((ci O).map (Value.int .i64))
  pb : ∃ v vs, Boxed W (w0.heap.size + 4) 22 v ∧ W.ownsRow (w0.heap.size + 5) 23 1 v P.length vs ∧ St w0 vs P

theorem Sm.ccell {w0 : World} {a : Option Addr} {n c : Nat} {W : World} {C : List Bool} {O : List Nat} {P : List (List Nat)} (h : Sm w0 a n c W C O P) {x : Nat} (hx : x < n) : W.cell? ⟨w0.heap.size + 1, x, none⟩ = some (.bool (C.getD x false)) := by
  have hl := h.cl
  rw [cell_of_row _ _ _ _ _ _ h.cr]
  simp [show x < C.length by omega]
theorem Sm.cfroz {w0 : World} {a : Option Addr} {n c : Nat} {W : World} {C : List Bool} {O : List Nat} {P : List (List Nat)} (h : Sm w0 a n c W C O P) (x : Nat) : W.frozen? ⟨w0.heap.size + 1, x, none⟩ = false := frozen_of_row _ _ _ _ _ h.cr

theorem set_row {W : World} {g x : Nat} {cs : Array Value} {t : TypeId} {v : Value} (h : W.heap[g]? = some (.cells cs t (0, 0))) : (W.setCell ⟨g, x, none⟩ v).heap[g]? = some (.cells (cs.setIfInBounds x v) t (0, 0)) := heap_setCell_same W g x _ _ _ h

/-- A node has come. -/
theorem Sm.come {w0 : World} {a : Option Addr} {n c : Nat} {W : World} {C : List Bool} {O : List Nat} {P : List (List Nat)} (h : Sm w0 a n c W C O P) (x : Nat) : Sm w0 a n c (W.setCell ⟨w0.heap.size + 1, x, none⟩ (.bool true)) (C.set x true) O P := by
  have hE := Ext.setCell [w0.heap.size + 1] W ⟨w0.heap.size + 1, x, none⟩ (.bool true) (by simp)
  refine ⟨h.ext.on hE (by simp), by simpa using h.size, hE.keep h.net (by simp), hE.keep h.cb (by simp), ?_, by simp [h.cl], ?_, ?_⟩
  · rw [set_row h.cr, List.map_set, List.setIfInBounds_toArray]
  · obtain ⟨v, h1, h2⟩ := h.ob
    exact ⟨v, hE.keep h1 (by simp), own_keep h2 hE (by simp; intro q; have := own_lt h2 _ q; omega)⟩
  · obtain ⟨v, vs, h1, h2, h3⟩ := h.pb
    exact ⟨v, vs, hE.keep h1 (by simp), own_keep h2 hE (by simp; intro q; have := own_lt h2 _ q; omega), h3⟩

/-- What a search keeps where only new blocks, and rows of ints, turn. -/
theorem Sm.app {w0 : World} {a : Option Addr} {n c : Nat} {W : World} {C : List Bool} {O : List Nat} {P : List (List Nat)} (h : Sm w0 a n c W C O P) {W1 W2 : World} {v v' : Value} {x : Nat}
    (hb : Boxed W (w0.heap.size + 3) 23 v) (ho : W.ownsRow (w0.heap.size + 5) 3 1 v O.length ((ci O).map (Value.int .i64))) (h1 : Ext [] W W1) (h2 : Ext v.ownBlock.toList W1 W2) (ho2 : W2.ownsRow (w0.heap.size + 5) 3 1 v' (O.length + 1) ((ci O).map (Value.int .i64) ++ [.int .i64 x])) :
    Sm w0 a n c (W2.setCell ⟨w0.heap.size + 3, 0, none⟩ v') C (O ++ [x]) P := by
  have hlt := own_lt ho
  have hE2 := Ext.setCell [w0.heap.size + 3] W2 ⟨w0.heap.size + 3, 0, none⟩ v' (by simp)
  have hno : ∀ k, k < w0.heap.size + 5 → k ∉ v.ownBlock.toList := fun k hk q => by have := hlt k (by simpa using q); omega
  have ho1 := own_keep0 ho h1
  have keep : ∀ k o, k < w0.heap.size + 5 → k ≠ w0.heap.size + 3 → W.heap[k]? = some o → (W2.setCell ⟨w0.heap.size + 3, 0, none⟩ v').heap[k]? = some o := fun k o hk hk3 hko => hE2.keep (h2.keep (h1.keep hko (by simp)) (hno k hk)) (by simpa using hk3)
  have hs1 := h1.size
  have hs2 := h2.size
  have hb2 : Boxed W2 (w0.heap.size + 3) 23 v := h2.keep (h1.keep hb (by simp)) (hno _ (by omega))
  have hEE : Ext [] w0 W2 := (h.ext.trans h1).on h2 (fun k hk => by have := hlt k (by simpa using hk); omega)
  refine ⟨hEE.on hE2 (by simp), by have := h.size; simp; omega, keep _ _ (by omega) (by omega) h.net, keep _ _ (by omega) (by omega) h.cb, keep _ _ (by omega) (by omega) h.cr, h.cl, ?_, ?_⟩
  · refine ⟨v', hb2.set v', ?_⟩
    have := own_keep ho2 hE2 (by simp; intro q; have := own_lt ho2 _ q; omega)
    simpa [ci] using this
  · obtain ⟨u, us, p1, p2, p3⟩ := h.pb
    have q1 := own_keep0 p2 h1
    have q2 := own_keep q1 h2 (own_apart q1 ho1 (by decide))
    exact ⟨u, us, keep _ _ (by omega) (by omega) p1, own_keep q2 hE2 (by simp; intro q; have := own_lt q2 _ q; omega), p3⟩

theorem St.push {w0 : World} {vs : List Value} {P : List (List Nat)} (h : St w0 vs P) {fa : Option Addr} {fc : Nat} {l : List Nat} (h1 : Is w0 fa (ci l)) (h2 : l.length ≤ fc) : St w0 (vs ++ [.slice fa l.length fc]) (P ++ [l]) := by
  refine ⟨by simp [h.1], fun i hi => ?_⟩
  simp only [List.length_append, List.length_singleton] at hi
  by_cases hil : i < P.length
  · obtain ⟨ga, gc, q1, q2⟩ := h.2 i hil
    refine ⟨ga, gc, ?_⟩
    rw [List.getElem?_append_left (by rw [h.1]; exact hil), show (P ++ [l]).getD i [] = P.getD i [] by simp [List.getD, List.getElem?_append_left hil]]
    exact ⟨q1, q2⟩
  · obtain rfl : i = P.length := by omega
    refine ⟨fa, fc, ?_⟩
    rw [List.getElem?_append_right (by rw [h.1]; exact Nat.le_refl _), show (P ++ [l]).getD P.length [] = l by simp [List.getD]]
    exact ⟨by simp [h.1], h1, h2⟩

/-- The like where a list is opened. -/
theorem Sm.push {w0 : World} {a : Option Addr} {n c : Nat} {W : World} {C : List Bool} {O : List Nat} {P : List (List Nat)} (h : Sm w0 a n c W C O P) {W1 W2 : World} {v v' : Value} {vs : List Value} {fa : Option Addr} {fc : Nat} {l : List Nat}
    (hb : Boxed W (w0.heap.size + 4) 22 v) (ho : W.ownsRow (w0.heap.size + 5) 23 1 v P.length vs) (hst : St w0 vs P) (h1 : Ext [] W W1) (h2 : Ext v.ownBlock.toList W1 W2) (ho2 : W2.ownsRow (w0.heap.size + 5) 23 1 v' (P.length + 1) (vs ++ [.slice fa l.length fc])) (hl1 : Is w0 fa (ci l)) (hl2 : l.length ≤ fc) :
    Sm w0 a n c (W2.setCell ⟨w0.heap.size + 4, 0, none⟩ v') C O (P ++ [l]) := by
  have hlt := own_lt ho
  have hE2 := Ext.setCell [w0.heap.size + 4] W2 ⟨w0.heap.size + 4, 0, none⟩ v' (by simp)
  have hno : ∀ k, k < w0.heap.size + 5 → k ∉ v.ownBlock.toList := fun k hk q => by have := hlt k (by simpa using q); omega
  have ho1 := own_keep0 ho h1
  have keep : ∀ k o, k < w0.heap.size + 5 → k ≠ w0.heap.size + 4 → W.heap[k]? = some o → (W2.setCell ⟨w0.heap.size + 4, 0, none⟩ v').heap[k]? = some o := fun k o hk hk3 hko => hE2.keep (h2.keep (h1.keep hko (by simp)) (hno k hk)) (by simpa using hk3)
  have hs1 := h1.size
  have hs2 := h2.size
  have hb2 : Boxed W2 (w0.heap.size + 4) 22 v := h2.keep (h1.keep hb (by simp)) (hno _ (by omega))
  have hEE : Ext [] w0 W2 := (h.ext.trans h1).on h2 (fun k hk => by have := hlt k (by simpa using hk); omega)
  refine ⟨hEE.on hE2 (by simp), by have := h.size; simp; omega, keep _ _ (by omega) (by omega) h.net, keep _ _ (by omega) (by omega) h.cb, keep _ _ (by omega) (by omega) h.cr, h.cl, ?_, ?_⟩
  · obtain ⟨u, p1, p2⟩ := h.ob
    have q1 := own_keep0 p2 h1
    have q2 := own_keep q1 h2 (own_apart q1 ho1 (by decide))
    exact ⟨u, keep _ _ (by omega) (by omega) p1, own_keep q2 hE2 (by simp; intro q; have := own_lt q2 _ q; omega)⟩
  · refine ⟨v', _, hb2.set v', ?_, hst.push hl1 hl2⟩
    have := own_keep ho2 hE2 (by simp; intro q; have := own_lt ho2 _ q; omega)
    simpa using this

def EnPost (w0 : World) (a : Option Addr) (n c : Nat) (C : List Bool) (O : List Nat) (P : List (List Nat)) (e : Ending) (W' : World) : Prop :=
  (∃ v, e = .returned v) ∧ Sm w0 a n c W' C O P

set_option maxHeartbeats 2000000 in
theorem enter_any (N : List (List Nat)) (w0 : World) (a : Option Addr) (n c : Nat) (W : World) (C : List Bool) (O : List Nat) (P : List (List Nat)) (x : Nat) (hN : Nt w0 a (cn N)) (hn : N.length = n) (hx : x < n) (hO : O.length ≤ 65536) (hP : P.length ≤ 65536) (h : Sm w0 a n c W C O P) :
    Calls Try.prog 46 #[.int .i64 x, .pointer (some ⟨w0.heap.size + 2, 0, none⟩), .pointer (some ⟨w0.heap.size + 3, 0, none⟩), .pointer (some ⟨w0.heap.size + 4, 0, none⟩), .pointer (some ⟨w0.heap.size, 0, none⟩)] W (EnPost w0 a n c (C.set x true) (O ++ [x]) (P ++ [nxt N x])) := by
  have k0 := h.cb.cell
  have k1 := h.ccell hx
  have k2 := h.cfroz x
  have HS1 := hid (h.come x)
  have HN := hid hN
  have HNn := hid hn
  have HCl := hid h.cl
  clear h hN hn
  go_enter Try.func46, Try.ntmps46
  go_upto_region 1 with fail
  generalize hW1 : W.setCell ⟨w0.heap.size + 1, x, none⟩ (.bool true) = W1 at *
  clear hW1 k0 k1 k2
  obtain ⟨vO, hbO, hoO⟩ := HS1.out.ob
  obtain ⟨i3, hi3, hz3, hs3, hy3⟩ := info_parts info3
  have hEa := Ext.alloc [] W1 (.cells #[.int .i64 x] 3)
  have hna : ∀ (j : Nat) (u : Value), [Value.int .i64 x][j]? = some u → (W1.alloc (.cells #[.int .i64 x] 3)).cell? (Addr.add ⟨W1.heap.size, 0, none⟩ j) = some u := fun j u hu => by
    rw [Addr.add_lit, cell_of_row _ _ _ _ _ _ (heap_alloc_new W1 _), Nat.zero_add, ← hu]; simp
  have hsz := HS1.out.size
  obtain ⟨v', W2, hr, ho2, hg2, _⟩ := run_append_own (P := Try.prog) (W1.alloc (.cells #[.int .i64 x] 3)) (w0.heap.size + 5) 23 23 3 i3 _ 1 8 Try.underlying23 hi3 hz3 hs3 hy3 rfl (by decide) vO O.length _ (own_keep0 hoO hEa) ⟨W1.heap.size, 0, none⟩ 1 1 [.int .i64 x] rfl hna (by simp [Value.oneCell']) (by unfold maxLen; omega) (by omega) (by simp; omega)
  have hX2 := ext_grown hg2
  have HS2 := hid (HS1.out.app hbO hoO hEa hX2 ho2)
  have hlO := own_lt hoO
  have hb2 : Boxed W2 (w0.heap.size + 3) 23 vO := hX2.keep (hEa.keep hbO (by simp)) (by simp; intro q; have := hlO _ q; omega)
  have k1 := hbO.cell
  have k2 := hb2.cell
  have k3 := hb2.frozen
  obtain ⟨aO, cO, rfl, _⟩ := own_slice hoO
  obtain ⟨a2, c2, rfl, _⟩ := own_slice ho2
  clear hbO hoO hEa hna hg2 hX2 hlO hb2 ho2 hi3 hz3 hs3 hy3 HS1 hsz
  go_upto_region 2 with (at_builtin; refine wpList_append_run rfl _ _ 23 rfl _ _ _ rfl rfl hr ?_)
  generalize hW3 : W2.setCell ⟨w0.heap.size + 3, 0, none⟩ _ = W3 at *
  clear hW3 k1 k2 k3 hr
  obtain ⟨b, o, rfl, hcs⟩ := HN.out.addr (by rw [cn_len, HNn.out]; omega)
  obtain ⟨fa, fc, hc, hI, hfc, hfl⟩ := hcs x (by rw [cn_len, HNn.out]; omega)
  rw [cn_get] at hc hI hfc hfl
  rw [ci_len] at hc hfc hfl
  have k1 := HS2.out.ext.cell hc (by simp)
  obtain ⟨vP, vs, hbP, hoP, hst⟩ := HS2.out.pb
  have k2 := HS2.out.net.cell
  have k3 := hbP.cell
  have hb0 : b < w0.heap.size := block_lt_of_cell hc
  have hxi : (x : Int) < n := by omega
  have hz4 : w0.heap.size + 4 < W3.heap.size := by have := HS2.out.size; omega
  have hz0 : w0.heap.size < W3.heap.size := by omega
  have hzb : b < W3.heap.size := by omega
  have HI := hid hI
  have HFC := hid hfc
  have HST := hid hst
  have HBP := hid hbP
  have HOP := hid hoP
  obtain ⟨i23, hi23, hz23, hs23, hy23⟩ := info_parts info23
  have HI23 := hid hi23
  have HZ23 := hid hz23
  generalize hlen : (nxt N x).length = lx at *
  have HLEN := hid hlen
  have hEW : Ext [] W3 (W3.drew.alloc (.cells #[.slice fa lx fc] 23)) := (Ext.drew [] _).trans (Ext.alloc [] _ _)
  have HEW := hid hEW
  have HOa := hid (own_keep0 hoP hEW)
  have hna : ∀ (j : Nat) (u : Value), [Value.slice fa lx fc][j]? = some u → (W3.drew.alloc (.cells #[.slice fa lx fc] 23)).cell? (Addr.add ⟨W3.heap.size, 0, none⟩ j) = some u := fun j u hu => by
    rw [Addr.add_lit, cell_of_row _ _ _ _ _ _ (show (W3.drew.alloc (.cells #[.slice fa lx fc] 23)).heap[W3.heap.size]? = _ from heap_alloc_new W3.drew _), Nat.zero_add, ← hu]; simp
  have HNA := hid hna
  have HWb : Hid (w0.heap.size + 5 ≤ (W3.drew.alloc (.cells #[.slice fa lx fc] 23)).heap.size) := by
    have h1 := HEW.out.size
    have h2 := HS2.out.size
    show _ ≤ _
    omega
  have H1c : Hid (∀ u ∈ [Value.slice fa lx fc], u.oneCell' = true) := by
    show ∀ u ∈ _, _
    simp [Value.oneCell']
  have HML : Hid (P.length + 1 ≤ maxLen) := by show _ ≤ _; unfold maxLen; omega
  have HBy : Hid ((P.length + 1) * 24 ≤ 140737488355328) := by show _ ≤ _; omega
  obtain ⟨aP, cP, rfl, _⟩ := own_slice hoP
  clear hcs hI hc hfl hoP hst hbP hEW hna hlen hfc hi23 hz23
  go_region_law (refine step_append_lies _ (by rfl) _ _ _ (by rfl) (w0.heap.size + 5) 23 i23 _ 1 24 Try.underlying22 HI23.out HZ23.out hs23 hy23 rfl (by decide) (.slice aP P.length cP) P.length vs (by rfl) HOa.out ⟨W3.heap.size, 0, none⟩ 1 1 [.slice fa lx fc] (by rfl) (by rfl) HNA.out H1c.out Nat.zero_lt_one HML.out HBy.out HWb.out _ rfl ?_; intro ga gcap wz hO8 hgrow hat hlt8; have hX8 := ext_grown hgrow; have hb8 : Boxed wz (w0.heap.size + 4) 22 (.slice aP P.length cP) := hX8.keep (HEW.out.keep HBP.out (by simp)) (fun q => by have := own_lt HOa.out _ (by simpa using q); omega); have k4 := hb8.cell; have k5 := hb8.frozen; clear hgrow hat hlt8)
  all_goals
    have HF := hid (HS2.out.push HBP.out HOP.out HST.out HEW.out hX8 (by rw [HLEN.out]; exact hO8) HI.out (by rw [HLEN.out]; exact HFC.out))
    clear hX8 hb8 hO8
    go_wp2_with fail
    go_end0
    exact ⟨⟨_, rfl⟩, HF.out⟩

end Go.Proofs.Ytfjabjnajcfamaa

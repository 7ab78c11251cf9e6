/-
  DCar: joined by program; no statement is proved here.
-/
import Derived.Test.YtkfagfdefkaenaaDoorZP
/-
  A script is carried out on a directory; no statement is proved here.
-/
namespace Go.Proofs.YtkfagfdefkaenaaDoor
open Go.RowKit Go.Shelf
open Pr (Gp GpI sq pl)
attribute [local go_sem] Oper.semAt_some run_store_func

/-- A script in memory. -/
def Scq (w : World) (a : Option Addr) (S : List Opq) : Prop := (∀ x ∈ S, x.h < 18446744073709551616 ∧ x.d < 18446744073709551616) ∧ (S = [] ∨ ∃ b o, a = some ⟨b, o, none⟩ ∧ ∀ j x, S[j]? = some x →
  w.cell? ⟨b, o + j * 3, none⟩ = some (.bool x.del) ∧ w.cell? ⟨b, o + j * 3 + 1, none⟩ = some (.int .u64 (x.h : Nat)) ∧ w.cell? ⟨b, o + j * 3 + 2, none⟩ = some (.int .u64 (x.d : Nat)))
theorem Scq.keep0 {w w' : World} {a : Option Addr} {S : List Opq} (h : Scq w a S) (e : Ext [] w w') : Scq w' a S := by
  refine ⟨h.1, h.2.imp id ?_⟩
  rintro ⟨b, o, rfl, hc⟩
  exact ⟨b, o, rfl, fun j x hj => ⟨e.cell (hc j x hj).1 (by simp), e.cell (hc j x hj).2.1 (by simp), e.cell (hc j x hj).2.2 (by simp)⟩⟩
def bv (B : List Bool) : List Value := B.map Value.bool
theorem info4' : (Tryd.prog.info? 4).map (fun i => (i.zero, i.size, i.bytes)) = some (some (.bool false), 1, 1) := by kernel_rfl
/-- What has been done so far. -/
def CaPost (w : World) (S : List Opq) (e : Ending) (w' : World) : Prop := ∃ v L B bvv, e = .returned (.tuple #[v, bvv]) ∧ Dans w w' v L ∧ Run S.reverse B.reverse (En L) ∧ w'.ownsRow w.heap.size 4 1 bvv B.length (bv B) ∧ Ext [] w w'
/-- One operation on a directory, in one form. -/
def OuPost (x : Opq) (L : List Tq) (w : World) (e : Ending) (w' : World) : Prop := ∃ (P : Int) (qa : Option Addr) (qn qc : Nat) (ra : Option Addr) (rn rc : Nat) (er : Int), e = .returned (.tuple #[.agg #[.int .i64 P, .slice qa qn qc, .slice ra rn rc], .int .i64 er]) ∧ Ext [] w w' ∧ ((er = 0 ∧ ∃ L', Dans w w' (.agg #[.int .i64 P, .slice qa qn qc, .slice ra rn rc]) L' ∧ Stq x true (En L) (En L')) ∨ (er ≠ 0 ∧ Stq x false (En L) (En L)))
theorem del_u (dp bt ct bs os cs n h d : Nat) (L : List Tq) (hD : Dq dp L) (hcs : 2 ^ dp ≤ cs) (hn : L.length = n) (hh : h < 18446744073709551616) (hd : d < 18446744073709551616) (w : World) (hR : Dr w bt bs os dp L) (hTb : Tb w) :
    Calls Tryd.prog 14 #[dv dp bt n ct bs os (2 ^ dp) cs, .int .u64 (h : Nat), .int .u64 (d : Nat)] w (OuPost ⟨true, h, d⟩ L w) := by
  refine (ddelete_any dp bt ct bs os cs n h d L hD hcs hn hh hd w hR hTb).mono ?_
  rintro _ w' ⟨hE, (⟨v, L', rfl, hDa, hp⟩ | ⟨rfl, h0⟩)⟩
  · obtain ⟨dp', n', bt', ct', bs', cs', rfl, hrest⟩ := id hDa
    exact ⟨_, _, _, _, _, _, _, 0, rfl, hE, .inl ⟨rfl, L', hDa, hp⟩⟩
  · exact ⟨_, _, _, _, _, _, _, 4, rfl, hE, .inr ⟨by decide, rfl, h0⟩⟩
theorem ins_u (dp bt ct bs os cs n h d : Nat) (L : List Tq) (hD : Dq dp L) (hcs : 2 ^ dp ≤ cs) (hn : L.length = n) (hh : h < 18446744073709551616) (hd : d < 18446744073709551616) (w : World) (hR : Dr w bt bs os dp L) (hTb : Tb w) :
    Calls Tryd.prog 17 #[dv dp bt n ct bs os (2 ^ dp) cs, .int .u64 (h : Nat), .int .u64 (d : Nat)] w (OuPost ⟨false, h, d⟩ L w) := by
  refine (dinsert_any dp bt ct bs os cs n h d L hD hcs hn hh hd w hR hTb).mono ?_
  rintro _ w' ⟨hE, (⟨v, L', rfl, hDa, hp⟩ | ⟨rfl, h0⟩)⟩
  · obtain ⟨dp', n', bt', ct', bs', cs', rfl, hrest⟩ := id hDa
    exact ⟨_, _, _, _, _, _, _, 0, rfl, hE, .inl ⟨rfl, L', hDa, hp⟩⟩
  · exact ⟨_, _, _, _, _, _, _, 7, rfl, hE, .inr ⟨by decide, rfl, h0⟩⟩
/-- What holds between two operations. -/
structure CaI (w : World) (z zd k : Nat) (S : List Opq) (p : Value) (wr : World) : Prop where
  ex : ∃ dp n bt ct bs cs L B, wr.heap[zd]? = some (.cells #[.int .i64 (dp : Nat), .slice (some ⟨bt, 0, none⟩) n ct, .slice (some ⟨bs, 0, none⟩) (2 ^ dp) cs] 27) ∧ Dq dp L ∧ L.length = n ∧ 2 ^ dp ≤ cs ∧ Dr wr bt bs 0 dp L ∧ z < bt ∧ z < bs ∧ Run (S.take k).reverse B.reverse (En L) ∧ wr.ownsRow w.heap.size 4 1 p B.length (bv B) ∧ (B = [] → p = .slice none 0 0)
  res : wr.heap[z]? = some (.cells #[.int .i64 0, .slice none 0 0, .slice none 0 0] 27)
  ext : Ext [] w wr
theorem bv_append (A B : List Bool) : bv (A ++ B) = bv A ++ bv B := by simp [bv]
theorem ca_push {w wv : World} {z zd k : Nat} {S : List Opq} {v : Value} {x : Opq} {b : Bool} {dp n bt ct bs cs : Nat} {L : List Tq} {B : List Bool} (hrow : wv.heap[zd]? = some (.cells #[.int .i64 (dp : Nat), .slice (some ⟨bt, 0, none⟩) n ct, .slice (some ⟨bs, 0, none⟩) (2 ^ dp) cs] 27)) (hD : Dq dp L) (hln : L.length = n) (hcs : 2 ^ dp ≤ cs) (hR : Dr wv bt bs 0 dp L) (hlb : z < bt) (hls : z < bs)
    (hRun : Run (x :: (S.take k).reverse) (b :: B.reverse) (En L)) (hx : S[k]? = some x) (hown : wv.ownsRow w.heap.size 4 1 v B.length (bv B)) (hres : wv.heap[z]? = some (.cells #[.int .i64 0, .slice none 0 0, .slice none 0 0] 27)) (hext : Ext [] w wv) (hk : B.length ≤ 17592186044416) (hnil : B = [] → v = .slice none 0 0) :
    ∃ v' w', (Builtin.append_ #[44, 44] 44 #[v, .slice (some ⟨wv.heap.size, 0, none⟩) 1 1]).run Tryd.prog (wv.alloc (.cells #[.bool b] 4)) = .ok v' w' ∧ CaI w z zd (k + 1) S v' w' := by
  have hE := Ext.alloc [] wv (.cells #[.bool b] 4)
  have ho1 := own_keep0 hown hE
  obtain ⟨v', w', hr, ho, hX, hXo⟩ := app_own w _ (hext.trans hE) 44 44 4 _ 1 Tryd.underlying44 info4' rfl (by omega) v B.length (bv B) ho1 (some ⟨wv.heap.size, 0, none⟩) 1 1 [.bool b] rfl (vs_new wv 4 [.bool b]) (by simp [Value.oneCell']) (by omega)
  have hno : ∀ (q : Nat) (cs' : Array Value) (ty : TypeId), wv.heap[q]? = some (.cells cs' ty (0, 0)) → ty ≠ 4 → q ∉ v.ownBlock.toList := fun q cs' ty hq hty => by
    rw [Option.mem_toList]; exact own_ne hown hq hty
  have hTs : Ts w' bt L := by
    refine (hR.ts.keep0 hE).keep hXo ?_ ?_
    · obtain ⟨cs', e, _⟩ := hR.ts
      exact hno _ _ _ e (by decide)
    · intro q hq T hT
      obtain ⟨cs', e, _⟩ := hT
      rw [Option.mem_toList] at hq
      exact own_ne ho1 e (by decide) hq
  have hNs : Ns w' bs 0 (slo dp L 0) := by
    refine (hR.ns.keep hE (by simp)).keep hXo ?_
    intro hq
    rw [Option.mem_toList] at hq
    obtain ⟨t0, p0, hN0⟩ := hD.nth (n := 0) (by
      rcases Nat.eq_zero_or_pos L.length with e | e
      · obtain rfl : L = [] := List.length_eq_zero_iff.1 e
        have h1 := hD.all
        have h2 := Nat.pow_pos (n := dp) (show 0 < 2 by omega)
        simp only [pre] at h1
        omega
      · exact e)
    have hc0 := hR.ns _ _ (hN0.slots 0 (wdt_pos _ _))
    have hp0 : p0 = 0 := by rw [hN0.pre]; simp [pre]
    subst hp0
    rcases id hown.2 with ⟨h1, _⟩ | ⟨g, cap, cur, h1, _, h3, h4, _, h5, h6⟩
    · rw [h1] at hq; simp [Value.ownBlock] at hq
    · have hgb : g = bs := by rw [h1] at hq; simpa [Value.ownBlock] using hq
      subst hgb
      cases B with
      | nil => rw [hnil rfl] at h1; cases h1
      | cons b0 B =>
        have hcc := World.ownsRow.cells hown (g := g) (by rw [h1]; rfl) 0 (.bool b0) rfl
        rw [Addr.add_lit] at hcc
        simp at hc0 hcc
        rw [hc0] at hcc
        cases hcc
  refine ⟨v', w', hr, ⟨dp, n, bt, ct, bs, cs, L, B ++ [b], hXo.keep (hE.keep hrow (by simp)) (hno _ _ _ hrow (by decide)), hD, hln, hcs, ⟨hTs, hNs⟩, hlb, hls, ?_, by rw [bv_append, List.length_append]; exact ho, by simp⟩, hXo.keep (hE.keep hres (by simp)) (hno _ _ _ hres (by decide)), hX⟩
  rw [List.take_add_one, hx, Option.toList, List.reverse_append, List.reverse_append]
  exact hRun
set_option maxRecDepth 100000 in
set_option maxHeartbeats 4000000 in
theorem carried_any (a : Option Addr) (n c : Nat) (S : List Opq) (w : World) (hS : Scq w a S) (hn : S.length = n) (hnb : n ≤ 17592186044416) (hTb : Tb w) : Calls Tryd.prog 20 #[.slice a n c] w (CaPost w S) := by
  have hE0 := Ext.alloc [] w (.cells #[.int .i64 0, .slice none 0 0, .slice none 0 0] 27)
  have hb0 := heap_alloc_new w (.cells #[.int .i64 0, .slice none 0 0, .slice none 0 0] 27)
  obtain ⟨W0, hW0⟩ : ∃ W0, w.alloc (.cells #[.int .i64 0, .slice none 0 0, .slice none 0 0] 27) = W0 := ⟨_, rfl⟩
  obtain ⟨z, hz⟩ : ∃ z, w.heap.size = z := ⟨_, rfl⟩
  rw [hW0] at hE0 hb0
  rw [hz] at hb0
  have K := dnew_any W0
  have HS := hid hS
  have HN := hid hn
  have HTb := hid hTb
  have HE0 := hid hE0
  have B0 := hid hb0
  clear hS hn hTb hE0 hb0
  go_enter Tryd.func20, Tryd.ntmps20
  go_wp2_with fail
  try rw [hW0]
  try simp only [hz]
  clear hW0
  refine K.mono ?_
  clear K
  rintro _ w1 ⟨v0, L0, rfl, hDa, hEn, hl1, ⟨bt0, ct0, bs0, cs0, rfl⟩, hE1⟩
  have HDa := hid hDa
  have HEn := hid hEn
  have HE1 := hid hE1
  clear hDa hEn hE1 hl1
  obtain ⟨zd, hzd⟩ : ∃ zd, w1.heap.size = zd := ⟨_, rfl⟩
  have hEa := Ext.alloc [] w1 (.cells #[.int .i64 0, .slice (some ⟨bt0, 0, none⟩) 1 ct0, .slice (some ⟨bs0, 0, none⟩) 1 cs0] 27)
  have hbd := heap_alloc_new w1 (.cells #[.int .i64 0, .slice (some ⟨bt0, 0, none⟩) 1 ct0, .slice (some ⟨bs0, 0, none⟩) 1 cs0] 27)
  obtain ⟨W2, hW2⟩ : ∃ W2, w1.alloc (.cells #[.int .i64 0, .slice (some ⟨bt0, 0, none⟩) 1 ct0, .slice (some ⟨bs0, 0, none⟩) 1 cs0] 27) = W2 := ⟨_, rfl⟩
  rw [hW2] at hEa hbd
  rw [hzd] at hbd
  have hzzd : z < zd := by rw [← hzd]; exact lt_of_heap (HE1.out.keep B0.out (by simp))
  have hI0 : CaI w z zd 0 S (.slice none 0 0) W2 := by
    obtain ⟨dp', n', bt', ct', bs', cs', hv, hD', hl', hc', hR', hb1, hb2⟩ := HDa.out
    unfold dv at hv
    simp only [Value.agg.injEq, Array.mk.injEq, List.cons.injEq, Value.int.injEq, true_and, Value.slice.injEq, Option.some.injEq, Addr.mk.injEq, and_true] at hv
    obtain ⟨e1, ⟨e2, e3, e4⟩, e5, e6, e7⟩ := hv
    have hs0 := HE0.out.size
    have hs00 := lt_of_heap B0.out
    obtain rfl : dp' = 0 := by omega
    subst e2 e3 e4 e5 e7
    refine ⟨⟨0, 1, bt0, ct0, bs0, cs0, L0, [], hbd, hD', hl', hc', hR'.keep0 hEa, by omega, by omega, by rw [HEn.out]; simp [Run], own_nil _ _ _ _, fun _ => rfl⟩, hEa.keep (HE1.out.keep B0.out (by simp)) (by simp), (HE0.out.trans HE1.out).trans hEa⟩
  have HI0 := hid hI0
  clear hI0 hEa hbd
  go_wp2_with fail
  try rw [hW2]
  try simp only [hzd]
  clear hW2 hzd
  go_loopw [5, 6] (fun p q wr => ∃ k : Nat, q = .int .i64 k ∧ k ≤ n ∧ CaI w z zd k S p wr) (fun _ q _ => (n - (intOf q)).toNat)
  case atStart => exact ⟨0, rfl, Nat.zero_le _, HI0.out⟩
  case round =>
    obtain ⟨k, rfl, hk, hI⟩ := hrel
    obtain ⟨⟨dp, n', bt, ct, bs, cs, L, B, hrow, hD, hln, hcs, hR, hlb, hls, hRun, hown, hnil⟩, hres, hext⟩ := hI
    obtain ⟨pa, pc, rfl, _⟩ := own_slice hown
    obtain ⟨d0, d1, d2⟩ := cells3 hrow
    by_cases hkn : k < n
    · have hki : (k : Int) < n := by omega
      obtain ⟨x, hx⟩ : ∃ x, S[k]? = some x := ⟨_, List.getElem?_eq_getElem (by rw [HN.out]; exact hkn)⟩
      obtain ⟨hxh, hxd⟩ := HS.out.1 x (List.mem_of_getElem? hx)
      obtain ⟨sb, so, rfl, hsc⟩ : ∃ b o, a = some ⟨b, o, none⟩ ∧ ∀ j x, S[j]? = some x → wr.cell? ⟨b, o + j * 3, none⟩ = some (.bool x.del) ∧ wr.cell? ⟨b, o + j * 3 + 1, none⟩ = some (.int .u64 (x.h : Nat)) ∧ wr.cell? ⟨b, o + j * 3 + 2, none⟩ = some (.int .u64 (x.d : Nat)) := by
        rcases (HS.out.keep0 hext).2 with e | e
        · rw [e] at hx; simp at hx
        · exact e
      obtain ⟨t0, t1, t2⟩ := hsc k x hx
      obtain ⟨xdel, xh, xd⟩ := x
      simp only at hxh hxd t0 t1 t2
      have h0n' : 0 < n' := by
        rcases Nat.eq_zero_or_pos n' with e | e
        · obtain rfl : L = [] := List.length_eq_zero_iff.1 (by omega)
          have h1 := hD.all
          have h2 := Nat.pow_pos (n := dp) (show 0 < 2 by omega)
          simp only [pre] at h1
          omega
        · exact e
      obtain ⟨m', hm'⟩ : ∃ m', 2 ^ dp = m' := ⟨_, rfl⟩
      rw [hm'] at d2 hrow
      obtain ⟨zx, hzx⟩ : ∃ zx, wr.heap.size = zx := ⟨_, rfl⟩
      have hEA := Ext.alloc [] wr (.cells #[.int .i64 (dp : Nat), .slice (some ⟨bt, 0, none⟩) n' ct, .slice (some ⟨bs, 0, none⟩) m' cs] 27)
      have hxb := heap_alloc_new wr (.cells #[.int .i64 (dp : Nat), .slice (some ⟨bt, 0, none⟩) n' ct, .slice (some ⟨bs, 0, none⟩) m' cs] 27)
      have u0 := hEA.cell t0 (by simp)
      obtain ⟨U0, hU0⟩ : ∃ U0, wr.alloc (.cells #[.int .i64 (dp : Nat), .slice (some ⟨bt, 0, none⟩) n' ct, .slice (some ⟨bs, 0, none⟩) m' cs] 27) = U0 := ⟨_, rfl⟩
      rw [hU0] at hEA hxb u0
      rw [hzx] at hxb
      have hEd := Ext.drew [] U0
      have f0 := hEd.cell (hEA.cell d0 (by simp)) (by simp)
      have f1 := hEd.cell (hEA.cell d1 (by simp)) (by simp)
      have f2 := hEd.cell (hEA.cell d2 (by simp)) (by simp)
      have g1 := hEd.cell (hEA.cell t1 (by simp)) (by simp)
      have g2 := hEd.cell (hEA.cell t2 (by simp)) (by simp)
      have hxd0 := hEd.keep hxb (by simp)
      have hzdx : zd ≠ zx := by have := lt_of_heap hrow; omega
      have hzdx' : zx ≠ zd := Ne.symm hzdx
      have hsbx : sb ≠ zx := by have := World.block_lt_of_cell? wr _ t0; simp at this; omega
      have hsbx' : zx ≠ sb := Ne.symm hsbx
      have KC1 := copyDir_any dp bt ct bs 0 cs n' L hD hln h0n' U0.drew ((hR.keep0 hEA).keep0 hEd)
      unfold dv at KC1
      rw [hm'] at KC1
      have HD := hid hD
      have HLn := hid hln
      have HRun := hid hRun
      have HOwn := hid (own_keep0 hown hEA)
      have HRow := hid (hEA.keep hrow (by simp))
      have HRes := hid (hEA.keep hres (by simp))
      have HextU := hid (hext.trans hEA)
      have HTb0 := hid HTb.out
      have Hx := hid hx
      have HR0 := hid (hR.keep0 hEA)
      have hres0 := hres
      have hzdlt : zd < zx := by have := lt_of_heap hrow; omega
      have hzzd2 : z ≠ zd := by omega
      have hbsx : bs ≠ zx := by
        rintro rfl
        obtain ⟨tq, pq, hNq⟩ := hD.nth (n := 0) (by omega)
        have := World.block_lt_of_cell? wr _ (hR.ns _ _ (hNq.slots 0 (wdt_pos _ _)))
        simp at this; omega
      have hextS := hext.size
      have hRB : B.length ≤ 17592186044416 := by
        have := hRun.len.1
        rw [List.length_reverse, List.length_reverse, List.length_take] at this
        omega
      clear hD hln hRun hown hrow hres hext hEA hx hsc hR t1 t2
      have hsU : U0.heap.size = zx + 1 := by rw [← hU0, ← hzx]; simp
      have hzx2 : z ≠ zx := by have := lt_of_heap hres0; omega
      cases xdel
      · have KO := fun u v (hv : Ext [] U0 v) btc ctc bsc csc (hc : 2 ^ dp ≤ csc) (hRc : Dr v btc bsc 0 dp L) (_ : u = v) => ins_u dp btc ctc bsc 0 csc n' xh xd L HD.out hc HLn.out hxh hxd v hRc ((HTb0.out.keep0 HextU.out).keep0 hv)
        unfold dv at KO
        rw [hm'] at KO
        go_wp2_with fail
        go_region_held3 (fun w' => w'.cell? ⟨zd, 0, none⟩ = some (.int .i64 (dp : Nat)) ∧ w'.cell? ⟨zd, 1, none⟩ = some (.slice (some ⟨bt, 0, none⟩) n' ct) ∧ w'.cell? ⟨zd, 2, none⟩ = some (.slice (some ⟨bs, 0, none⟩) m' cs) ∧ w'.cell? ⟨sb, so + k * 3 + 1, none⟩ = some (.int .u64 (xh : Nat)) ∧ w'.cell? ⟨sb, so + k * 3 + 2, none⟩ = some (.int .u64 (xd : Nat)))
          (first | go_keep | exact ⟨hC6.cell f0 (by simp), hC6.cell f1 (by simp), hC6.cell f2 (by simp), hC6.cell g1 (by simp), hC6.cell g2 (by simp)⟩ | exact ⟨hE5.cell f0 (by simp), hE5.cell f1 (by simp), hE5.cell f2 (by simp), hE5.cell g1 (by simp), hE5.cell g2 (by simp)⟩)
          (first
            | (go_at_call 15; refine KC1.mono ?_; rintro _ w5 ⟨btc, ctc, bsc, csc, hvc, hR5, hc5, _, _, hE5⟩; unfold dv at hvc; rw [hm'] at hvc; subst hvc)
            | (go_at_call 17; refine (KO _ w5 (hEd.trans hE5) btc ctc bsc csc (by rw [← hm']; exact hc5) hR5 rfl).mono ?_; rintro _ w6 ⟨P, qa, qn, qc, ra, rn, rc, er, rfl, hE6, hout⟩; have hC6 := hE5.trans hE6; have hx6 := hC6.keep hxd0 (by simp); obtain ⟨y0, y1, y2⟩ := cells3 hx6; obtain ⟨h3, x0, x1, x2⟩ := s3_of hx6 (.int .i64 P) (.slice qa qn qc) (.slice ra rn rc))
            | fail "no arm")
        obtain ⟨w7, hw7⟩ : ∃ w7, ((w6.setCell ⟨zx, 0, none⟩ (.int .i64 P)).setCell ⟨zx, 1, none⟩ (.slice qa qn qc)).setCell ⟨zx, 2, none⟩ (.slice ra rn rc) = w7 := ⟨_, rfl⟩
        rw [hw7] at h3 ⊢
        clear hw7
        have hC6' := hEd.trans hC6
        have hExt6 := HextU.out.trans hC6'
        have hsw := HextU.out.size
        have hsz : U0.heap.size = zx + 1 := hsU
        have hws := hextS
        have hExt7 : Ext [] w w7 := hExt6.on h3.ext (by simp; omega)
        have hown7 := own_keep (own_keep0 HOwn.out hC6') h3.ext (by
          intro b hb; rw [List.mem_singleton] at hb; subst hb
          exact own_ne (own_keep0 HOwn.out hC6') hx6 (by decide))
        have hres7 := h3.ext.keep (hC6'.keep HRes.out (by simp)) (by simpa using hzx2)
        have hrow7 := h3.ext.keep (hC6'.keep HRow.out (by simp)) (by simpa using hzdx)
        have hlenB := hRB
        rcases hout with ⟨rfl, L', hDa', hSt⟩ | ⟨hne0, hSt⟩
        · obtain ⟨dq, nq', bq, cq, bsq, csq, hv, hDq, hlq, hcq, hRq, hbq1, hbq2⟩ := hDa'
          unfold dv at hv
          simp only [Value.agg.injEq, Array.mk.injEq, List.cons.injEq, Value.int.injEq, true_and, Value.slice.injEq, and_true] at hv
          obtain ⟨e1, ⟨e2, e3, e4⟩, e5, e6, e7⟩ := hv
          subst e1 e2 e3 e4 e5 e6 e7
          generalize hmq : 2 ^ dq = mq at *
          have hs5 : U0.heap.size ≤ w5.heap.size := (hEd.trans hE5).size
          obtain ⟨v0, v1, v2⟩ := cells3 h3.row
          obtain ⟨r0, r1, r2⟩ := cells3 hrow7
          obtain ⟨h8, q0, q1, q2⟩ := s3_of hrow7 (.int .i64 (dq : Nat)) (.slice (some ⟨bq, 0, none⟩) qn qc) (.slice (some ⟨bsq, 0, none⟩) mq rc)
          obtain ⟨w8, hw8⟩ : ∃ w8, ((w7.setCell ⟨zd, 0, none⟩ (.int .i64 (dq : Nat))).setCell ⟨zd, 1, none⟩ (.slice (some ⟨bq, 0, none⟩) qn qc)).setCell ⟨zd, 2, none⟩ (.slice (some ⟨bsq, 0, none⟩) mq rc) = w8 := ⟨_, rfl⟩
          rw [hw8] at h8
          have hzdl : zd < zx := hzdlt
          have hR7 : Dr w7 bq bsq 0 dq L' := ⟨hRq.ts.keep h3.ext (by simp; omega) (by simpa using fun T => not_tw_of hx6 (by decide) T), hRq.ns.keep h3.ext (by simp; omega)⟩
          have hR8 : Dr w8 bq bsq 0 dq L' := ⟨hR7.ts.keep h8.ext (by simp; omega) (by simpa using fun T => not_tw_of hrow7 (by decide) T), hR7.ns.keep h8.ext (by simp; omega)⟩
          have hown8 := own_keep hown7 h8.ext (by
            intro b hb; rw [List.mem_singleton] at hb; subst hb
            exact own_ne hown7 hrow7 (by decide))
          obtain ⟨v9, w9, hr9, hI9⟩ := ca_push (b := true) (x := ⟨false, xh, xd⟩) (by rw [hmq]; exact h8.row) hDq hlq (by rw [hmq]; exact hcq) hR8 (by omega) (by omega) ⟨_, HRun.out, hSt⟩ Hx.out hown8 (h8.ext.keep hres7 (by simpa using hzzd2)) (hExt7.on h8.ext (by simp; omega)) hRB hnil
          obtain ⟨xs9, ho9⟩ := (show ∃ B', w9.ownsRow w.heap.size 4 1 v9 B'.length (bv B') from by obtain ⟨_, _, _, _, _, _, _, B', _, _, _, _, _, _, _, _, h, _⟩ := hI9.ex; exact ⟨B', h⟩)
          obtain ⟨pa9, pc9, rfl, _⟩ := own_slice ho9
          have HI9 := hid hI9
          clear hmq hI9 ho9 h8 h3 hR7 hR8 hown8 hown7 hres7 hrow7 hExt7 hExt6 hC6' hRq hDq hSt hx6 hC6 hE6 hE5 KO KC1 hR5 f0 f1 f2 g1 g2 y0 y1 y2 x0 x1 x2 d0 d1 d2 u0 t0 hxd0 hxb hEd
          go_wp2_with (at_builtin; refine wpList_append_run rfl _ _ 44 rfl _ _ _ rfl rfl hr9 ?_)
          go_roundw
          case rel => exact ⟨k + 1, by go_num, by omega, HI9.out⟩
          case measure => simp [intOf]; omega
        · have he0 : (er == 0) = false := by simpa using hne0
          have hR7 : Dr w7 bt bs 0 dp L := by
            have hR6 := HR0.out.keep0 hC6'
            obtain ⟨_, e, _⟩ := HR0.out.ts
            have hbl := lt_of_heap e
            exact ⟨hR6.ts.keep h3.ext (by rw [List.mem_singleton]; rintro rfl; obtain ⟨_, e', _⟩ := hR6.ts; rw [hx6] at e'; cases e') (by simpa using fun T => not_tw_of hx6 (by decide) T), hR6.ns.keep h3.ext (by simpa using hbsx)⟩
          obtain ⟨v9, w9, hr9, hI9⟩ := ca_push (b := false) (x := ⟨false, xh, xd⟩) (hm'.symm ▸ hrow7) HD.out HLn.out hcs hR7 hlb hls ⟨_, HRun.out, hSt⟩ Hx.out hown7 hres7 hExt7 hRB hnil
          obtain ⟨xs9, ho9⟩ := (show ∃ B', w9.ownsRow w.heap.size 4 1 v9 B'.length (bv B') from by obtain ⟨_, _, _, _, _, _, _, B', _, _, _, _, _, _, _, _, h, _⟩ := hI9.ex; exact ⟨B', h⟩)
          obtain ⟨pa9, pc9, rfl, _⟩ := own_slice ho9
          have HI9 := hid hI9
          clear hI9 ho9 h3 hR7 hown7 hres7 hrow7 hExt7 hExt6 hC6' hSt hx6 hC6 hE6 hE5 KO KC1 hR5 f0 f1 f2 g1 g2 y0 y1 y2 x0 x1 x2 d0 d1 d2 u0 t0 hxd0 hxb hEd
          go_wp2_with (at_builtin; refine wpList_append_run rfl _ _ 44 rfl _ _ _ rfl rfl hr9 ?_)
          go_roundw
          case rel => exact ⟨k + 1, by go_num, by omega, HI9.out⟩
          case measure => simp [intOf]; omega
      · have KO := fun u v (hv : Ext [] U0 v) btc ctc bsc csc (hc : 2 ^ dp ≤ csc) (hRc : Dr v btc bsc 0 dp L) (_ : u = v) => del_u dp btc ctc bsc 0 csc n' xh xd L HD.out hc HLn.out hxh hxd v hRc ((HTb0.out.keep0 HextU.out).keep0 hv)
        unfold dv at KO
        rw [hm'] at KO
        go_wp2_with fail
        go_region_held3 (fun w' => w'.cell? ⟨zd, 0, none⟩ = some (.int .i64 (dp : Nat)) ∧ w'.cell? ⟨zd, 1, none⟩ = some (.slice (some ⟨bt, 0, none⟩) n' ct) ∧ w'.cell? ⟨zd, 2, none⟩ = some (.slice (some ⟨bs, 0, none⟩) m' cs) ∧ w'.cell? ⟨sb, so + k * 3 + 1, none⟩ = some (.int .u64 (xh : Nat)) ∧ w'.cell? ⟨sb, so + k * 3 + 2, none⟩ = some (.int .u64 (xd : Nat)))
          (first | go_keep | exact ⟨hC6.cell f0 (by simp), hC6.cell f1 (by simp), hC6.cell f2 (by simp), hC6.cell g1 (by simp), hC6.cell g2 (by simp)⟩ | exact ⟨hE5.cell f0 (by simp), hE5.cell f1 (by simp), hE5.cell f2 (by simp), hE5.cell g1 (by simp), hE5.cell g2 (by simp)⟩)
          (first
            | (go_at_call 15; refine KC1.mono ?_; rintro _ w5 ⟨btc, ctc, bsc, csc, hvc, hR5, hc5, _, _, hE5⟩; unfold dv at hvc; rw [hm'] at hvc; subst hvc)
            | (go_at_call 14; refine (KO _ w5 (hEd.trans hE5) btc ctc bsc csc (by rw [← hm']; exact hc5) hR5 rfl).mono ?_; rintro _ w6 ⟨P, qa, qn, qc, ra, rn, rc, er, rfl, hE6, hout⟩; have hC6 := hE5.trans hE6; have hx6 := hC6.keep hxd0 (by simp); obtain ⟨y0, y1, y2⟩ := cells3 hx6; obtain ⟨h3, x0, x1, x2⟩ := s3_of hx6 (.int .i64 P) (.slice qa qn qc) (.slice ra rn rc))
            | fail "no arm")
        obtain ⟨w7, hw7⟩ : ∃ w7, ((w6.setCell ⟨zx, 0, none⟩ (.int .i64 P)).setCell ⟨zx, 1, none⟩ (.slice qa qn qc)).setCell ⟨zx, 2, none⟩ (.slice ra rn rc) = w7 := ⟨_, rfl⟩
        rw [hw7] at h3 ⊢
        clear hw7
        have hC6' := hEd.trans hC6
        have hExt6 := HextU.out.trans hC6'
        have hsw := HextU.out.size
        have hsz : U0.heap.size = zx + 1 := hsU
        have hws := hextS
        have hExt7 : Ext [] w w7 := hExt6.on h3.ext (by simp; omega)
        have hown7 := own_keep (own_keep0 HOwn.out hC6') h3.ext (by
          intro b hb; rw [List.mem_singleton] at hb; subst hb
          exact own_ne (own_keep0 HOwn.out hC6') hx6 (by decide))
        have hres7 := h3.ext.keep (hC6'.keep HRes.out (by simp)) (by simpa using hzx2)
        have hrow7 := h3.ext.keep (hC6'.keep HRow.out (by simp)) (by simpa using hzdx)
        have hlenB := hRB
        rcases hout with ⟨rfl, L', hDa', hSt⟩ | ⟨hne0, hSt⟩
        · obtain ⟨dq, nq', bq, cq, bsq, csq, hv, hDq, hlq, hcq, hRq, hbq1, hbq2⟩ := hDa'
          unfold dv at hv
          simp only [Value.agg.injEq, Array.mk.injEq, List.cons.injEq, Value.int.injEq, true_and, Value.slice.injEq, and_true] at hv
          obtain ⟨e1, ⟨e2, e3, e4⟩, e5, e6, e7⟩ := hv
          subst e1 e2 e3 e4 e5 e6 e7
          generalize hmq : 2 ^ dq = mq at *
          have hs5 : U0.heap.size ≤ w5.heap.size := (hEd.trans hE5).size
          obtain ⟨v0, v1, v2⟩ := cells3 h3.row
          obtain ⟨r0, r1, r2⟩ := cells3 hrow7
          obtain ⟨h8, q0, q1, q2⟩ := s3_of hrow7 (.int .i64 (dq : Nat)) (.slice (some ⟨bq, 0, none⟩) qn qc) (.slice (some ⟨bsq, 0, none⟩) mq rc)
          obtain ⟨w8, hw8⟩ : ∃ w8, ((w7.setCell ⟨zd, 0, none⟩ (.int .i64 (dq : Nat))).setCell ⟨zd, 1, none⟩ (.slice (some ⟨bq, 0, none⟩) qn qc)).setCell ⟨zd, 2, none⟩ (.slice (some ⟨bsq, 0, none⟩) mq rc) = w8 := ⟨_, rfl⟩
          rw [hw8] at h8
          have hzdl : zd < zx := hzdlt
          have hR7 : Dr w7 bq bsq 0 dq L' := ⟨hRq.ts.keep h3.ext (by simp; omega) (by simpa using fun T => not_tw_of hx6 (by decide) T), hRq.ns.keep h3.ext (by simp; omega)⟩
          have hR8 : Dr w8 bq bsq 0 dq L' := ⟨hR7.ts.keep h8.ext (by simp; omega) (by simpa using fun T => not_tw_of hrow7 (by decide) T), hR7.ns.keep h8.ext (by simp; omega)⟩
          have hown8 := own_keep hown7 h8.ext (by
            intro b hb; rw [List.mem_singleton] at hb; subst hb
            exact own_ne hown7 hrow7 (by decide))
          obtain ⟨v9, w9, hr9, hI9⟩ := ca_push (b := true) (x := ⟨true, xh, xd⟩) (by rw [hmq]; exact h8.row) hDq hlq (by rw [hmq]; exact hcq) hR8 (by omega) (by omega) ⟨_, HRun.out, hSt⟩ Hx.out hown8 (h8.ext.keep hres7 (by simpa using hzzd2)) (hExt7.on h8.ext (by simp; omega)) hRB hnil
          obtain ⟨xs9, ho9⟩ := (show ∃ B', w9.ownsRow w.heap.size 4 1 v9 B'.length (bv B') from by obtain ⟨_, _, _, _, _, _, _, B', _, _, _, _, _, _, _, _, h, _⟩ := hI9.ex; exact ⟨B', h⟩)
          obtain ⟨pa9, pc9, rfl, _⟩ := own_slice ho9
          have HI9 := hid hI9
          clear hmq hI9 ho9 h8 h3 hR7 hR8 hown8 hown7 hres7 hrow7 hExt7 hExt6 hC6' hRq hDq hSt hx6 hC6 hE6 hE5 KO KC1 hR5 f0 f1 f2 g1 g2 y0 y1 y2 x0 x1 x2 d0 d1 d2 u0 t0 hxd0 hxb hEd
          go_wp2_with (at_builtin; refine wpList_append_run rfl _ _ 44 rfl _ _ _ rfl rfl hr9 ?_)
          go_roundw
          case rel => exact ⟨k + 1, by go_num, by omega, HI9.out⟩
          case measure => simp [intOf]; omega
        · have he0 : (er == 0) = false := by simpa using hne0
          have hR7 : Dr w7 bt bs 0 dp L := by
            have hR6 := HR0.out.keep0 hC6'
            obtain ⟨_, e, _⟩ := HR0.out.ts
            have hbl := lt_of_heap e
            exact ⟨hR6.ts.keep h3.ext (by rw [List.mem_singleton]; rintro rfl; obtain ⟨_, e', _⟩ := hR6.ts; rw [hx6] at e'; cases e') (by simpa using fun T => not_tw_of hx6 (by decide) T), hR6.ns.keep h3.ext (by simpa using hbsx)⟩
          obtain ⟨v9, w9, hr9, hI9⟩ := ca_push (b := false) (x := ⟨true, xh, xd⟩) (hm'.symm ▸ hrow7) HD.out HLn.out hcs hR7 hlb hls ⟨_, HRun.out, hSt⟩ Hx.out hown7 hres7 hExt7 hRB hnil
          obtain ⟨xs9, ho9⟩ := (show ∃ B', w9.ownsRow w.heap.size 4 1 v9 B'.length (bv B') from by obtain ⟨_, _, _, _, _, _, _, B', _, _, _, _, _, _, _, _, h, _⟩ := hI9.ex; exact ⟨B', h⟩)
          obtain ⟨pa9, pc9, rfl, _⟩ := own_slice ho9
          have HI9 := hid hI9
          clear hI9 ho9 h3 hR7 hown7 hres7 hrow7 hExt7 hExt6 hC6' hSt hx6 hC6 hE6 hE5 KO KC1 hR5 f0 f1 f2 g1 g2 y0 y1 y2 x0 x1 x2 d0 d1 d2 u0 t0 hxd0 hxb hEd
          go_wp2_with (at_builtin; refine wpList_append_run rfl _ _ 44 rfl _ _ _ rfl rfl hr9 ?_)
          go_roundw
          case rel => exact ⟨k + 1, by go_num, by omega, HI9.out⟩
          case measure => simp [intOf]; omega
    · obtain rfl : k = n := by omega
      have htk : S.take k = S := by rw [← HN.out]; exact List.take_length
      rw [htk] at hRun
      obtain ⟨y0, y1, y2⟩ := cells3 hres
      obtain ⟨m', hm'⟩ : ∃ m', 2 ^ dp = m' := ⟨_, rfl⟩
      rw [hm'] at d2
      obtain ⟨h3, x0, x1, x2⟩ := s3_of hres (.int .i64 (dp : Nat)) (.slice (some ⟨bt, 0, none⟩) n' ct) (.slice (some ⟨bs, 0, none⟩) m' cs)
      have hnt : ∀ T, ¬ Tw wr z T := fun T => not_tw_of hres (by decide) T
      have HF : Hid (CaPost w S (.returned (.tuple #[.agg #[.int .i64 (dp : Nat), .slice (some ⟨bt, 0, none⟩) n' ct, .slice (some ⟨bs, 0, none⟩) m' cs], .slice pa B.length pc])) (((wr.setCell ⟨z, 0, none⟩ (.int .i64 (dp : Nat))).setCell ⟨z, 1, none⟩ (.slice (some ⟨bt, 0, none⟩) n' ct)).setCell ⟨z, 2, none⟩ (.slice (some ⟨bs, 0, none⟩) m' cs))) := by
        refine ⟨_, L, B, _, rfl, ⟨dp, n', bt, ct, bs, cs, by unfold dv; rw [hm'], hD, hln, hcs, ⟨hR.ts.keep h3.ext (by simp; omega) (by simpa using hnt), hR.ns.keep h3.ext (by simp; omega)⟩, by omega, by omega⟩, hRun, own_keep hown h3.ext (by
          intro b hb; rw [List.mem_singleton] at hb; subst hb
          exact own_ne hown hres (by decide)), hext.on h3.ext (by simp; omega)⟩
      have HS3 := hid h3.row
      clear h3 hres hR hown hext hRun hrow hD hnt
      go_wp2_with fail
      refine bodyPost_ret (results_row_tmp rfl _ _ z 27 _ (0, 0) _ (.slice pa B.length pc) rfl rfl HS3.out Tryd.underlying27 rfl size27) rfl HF.out
end Go.Proofs.YtkfagfdefkaenaaDoor

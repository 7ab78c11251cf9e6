/-
  The reference's search depth first, and its Order; no statement is proved here.
-/
import Derived.Test.YtfjabjnajcfamaaRfD
namespace Go.Proofs.Ytfjabjnajcfamaa
open Go.RowKit

/-- The walk between two roots. -/
def Wk (w : World) (a : Option Addr) (n c : Nat) (W : World) (C : List Bool) (O : List Nat) : Prop := ∃ vO, Fm w a n c W C O vO (.slice none 0 0) (.slice none 0 0) [] []

theorem ap_nil (v : Value) : Ap v (.slice none 0 0) := fun g _ => by simp [Value.ownBlock]
theorem nil_ap (v : Value) : Ap (.slice none 0 0) v := fun g h => by simp [Value.ownBlock] at h

theorem Fm.keep0 {w : World} {a : Option Addr} {n c : Nat} {W W' : World} {C : List Bool} {O : List Nat} {vO vN vX : Value} {ND NX : List Nat} (h : Fm w a n c W C O vO vN vX ND NX) (e : Ext [] W W') : Fm w a n c W' C O vO vN vX ND NX :=
  ⟨h.ext.trans e, Nat.le_trans h.size e.size, h.cl, e.keep h.cr (by simp), e.keep h.box (by simp), own_keep0 h.lo e, own_keep0 h.nd e, own_keep0 h.nx e, h.a1, h.a2, h.a3⟩
theorem Fm.wk {w : World} {a : Option Addr} {n c : Nat} {W : World} {C : List Bool} {O : List Nat} {vO vN vX : Value} (h : Fm w a n c W C O vO vN vX [] []) : Wk w a n c W C O := ⟨vO, h.ext, h.size, h.cl, h.cr, h.box, h.lo, own_nil _ _ _ _, own_nil _ _ _ _, ap_nil _, ap_nil _, ap_nil _⟩

theorem Fm.bumpM {w : World} {a : Option Addr} {n c : Nat} {W : World} {C : List Bool} {O : List Nat} {vO vN : Value} {ND NX : List Nat} {gx cx k m : Nat} (hm : NX.length = m) (h : Fm w a n c W C O vO vN (.slice (some ⟨gx, 0, none⟩) (m + 1) cx) ND (NX ++ [k])) (j : Nat) :
    Fm w a n c (W.setCell ⟨gx, m, none⟩ (.int .i64 j)) C O vO vN (.slice (some ⟨gx, 0, none⟩) (m + 1) cx) ND (NX ++ [j]) := by
  subst hm
  exact h.bump j
theorem Fm.popM {w : World} {a : Option Addr} {n c : Nat} {W : World} {C : List Bool} {O : List Nat} {vO : Value} {ND NX : List Nat} {gn cn' gx cx x k m : Nat} (h1 : ND.length = m) (h2 : NX.length = m) (h : Fm w a n c W C O vO (.slice (some ⟨gn, 0, none⟩) (m + 1) cn') (.slice (some ⟨gx, 0, none⟩) (m + 1) cx) (ND ++ [x]) (NX ++ [k])) :
    Fm w a n c W C O vO (.slice (some ⟨gn, 0, none⟩) m cn') (.slice (some ⟨gx, 0, none⟩) m cx) ND NX := by
  subst h1
  have h' := h
  rw [show ND.length = NX.length from h2.symm] at h'
  have := Fm.pop (gn := gn) (cn' := cn') (gx := gx) (cx := cx) (ND := ND) (NX := NX) (x := x) (k := k) (w := w) (a := a) (n := n) (c := c) (W := W) (C := C) (O := O) (vO := vO) (by rw [h2]; exact h)
  rw [h2] at this
  exact this

def FrPost (w : World) (a : Option Addr) (n c : Nat) (N : List (List Nat)) (R rest : List Nat) (e : Ending) (W' : World) : Prop :=
  (∃ v, e = .returned v) ∧ ∃ C O, Wk w a n c W' C O ∧ Pu N R (-1) rest C O []

set_option maxRecDepth 100000 in
set_option maxHeartbeats 8000000 in
theorem from_any (N : List (List Nat)) (R rest : List Nat) (x : Nat) (w : World) (a : Option Addr) (n c : Nat) (W : World) (C : List Bool) (O : List Nat) (hN : Nt w a (cn N)) (hn : N.length = n) (hG : Good N R) (hx : x < n) (h : Wk w a n c W C O) (hP : Pu N R (-1) (x :: rest) C O []) :
    Calls Try.prog 36 #[.pointer (some ⟨w.heap.size + 1, 0, none⟩), .int .i64 x] W (FrPost w a n c N R rest) := by
  obtain ⟨vO, h⟩ := h
  obtain ⟨c0, c1, c2, cf⟩ := h.b0
  have k0 := h.cell hx
  have hcl := h.cl
  have hgx : C[x]? = some (C.getD x false) := by simp [show x < C.length by omega]
  have hOl : O.length ≤ 65536 := by have := hP.cnt; have := hG.len; omega
  have HN := hid hN
  have HNn := hid hn
  have HG := hid hG
  have HF := hid h
  have HP := hid hP
  clear h hP hN hn hG
  cases hcx : C.getD x false
  · rw [hcx] at k0 hgx
    have HP1 := hid (HP.out.root HG.out.net HG.out.slim hgx)
    have HF1 := hid (HF.out.come x)
    have kf : W.frozen? ⟨w.heap.size, x, none⟩ = false := frozen_of_row _ _ _ _ _ HF.out.cr
    have HCc := hid (count_came hgx)
    clear hcx hgx HF HP hcl
    go_enter Try.func36, Try.ntmps36
    go_upto_region 2 with fail
    generalize W.setCell ⟨w.heap.size, x, none⟩ (.bool true) = W1 at *
    clear k0 kf c0 c1 c2 cf
    obtain ⟨c0, c1, c2, cf⟩ := HF1.out.b0
    obtain ⟨g, cap, W2, hr, kf2, kc2, hF2⟩ := HF1.out.list x (by omega)
    obtain ⟨la, lc, hlv, _⟩ := own_slice HF1.out.lo
    subst hlv
    have HF2 := hid hF2
    have hsz1 : w.heap.size + 1 < W1.heap.size := by have := HF1.out.size; omega
    clear hF2
    go_upto_region 3 with (at_builtin; refine wpList_append_run rfl _ _ 23 rfl _ _ _ rfl rfl hr ?_)
    generalize W2.setCell ⟨w.heap.size + 1, 2, none⟩ (.slice (some ⟨g, 0, none⟩) (O.length + 1) cap) = W3 at *
    clear c0 c1 c2 cf hr kf2 kc2 HF1 hsz1
    have HF3 : Hid (Fm w a n c ((W3.alloc (.cells #[.int .i64 (x : Nat)] 3)).alloc (.cells #[.int .i64 0] 3)) (C.set x true) (O ++ [x]) (.slice (some ⟨g, 0, none⟩) (O.length + 1) cap) (.slice (some ⟨W3.heap.size, 0, none⟩) 1 1) (.slice (some ⟨W3.heap.size + 1, 0, none⟩) 1 1) [x] [0]) := by
      have h := HF2.out
      have hE : Ext [] W3 ((W3.alloc (.cells #[.int .i64 (x : Nat)] 3)).alloc (.cells #[.int .i64 0] 3)) := (Ext.alloc [] _ _).trans (Ext.alloc [] _ _)
      have o1 : (W3.alloc (.cells #[.int .i64 (x : Nat)] 3)).ownsRow (w.heap.size + 2) 3 1 (.slice (some ⟨W3.heap.size, 0, none⟩) 1 1) 1 [.int .i64 (x : Nat)] := World.ownsRow_lit W3 #[.int .i64 (x : Nat)] 1 h.size (by decide) rfl
      have o2 : ((W3.alloc (.cells #[.int .i64 (x : Nat)] 3)).alloc (.cells #[.int .i64 0] 3)).ownsRow (w.heap.size + 2) 3 1 (.slice (some ⟨W3.heap.size + 1, 0, none⟩) 1 1) 1 [.int .i64 0] := by
        have := World.ownsRow_lit (base := w.heap.size + 2) (e := 3) (size := 1) (W3.alloc (.cells #[.int .i64 (x : Nat)] 3)) #[.int .i64 0] 1 (by have := h.size; simp; omega) (by decide) rfl
        simpa using this
      have hgl := (own_lt h.lo g rfl).2
      exact ⟨h.ext.trans hE, by have := h.size; simp; omega, h.cl, hE.keep h.cr (by simp), hE.keep h.box (by simp), own_keep0 h.lo hE, own_keep0 o1 (Ext.alloc [] _ _), o2, fun b hb e => by simp [Value.ownBlock] at hb e; omega, fun b hb e => by simp [Value.ownBlock] at hb e; omega, fun b hb e => by simp [Value.ownBlock] at hb e; omega⟩
    have HP3 : Hid (Pu N R (-1) rest (C.set x true) (O ++ [x]) (opn N [x] [0])) := by
      show Pu _ _ _ _ _ _ _
      simpa [opn] using HP1.out
    have HSz : Hid (szP (opn N [x] [0]) ≤ 8193) := by
      have := HG.out.slim x
      show _ ≤ _
      simp [opn, szP]
      omega
    go_upto_region 5 with fail
    generalize (W3.alloc (.cells #[.int .i64 (x : Nat)] 3)).alloc (.cells #[.int .i64 0] 3) = W4 at *
    generalize C.set x true = C1 at *
    clear HF2 HP1
    go_loopg [4, 5] (8194 * C1.count false + 8193) (fun q vN vX wr => ∃ C2 O2 vO2 ND NX, ND.length = NX.length ∧ 8194 * C2.count false + szP (opn N ND NX) ≤ q ∧ Fm w a n c wr C2 O2 vO2 vN vX ND NX ∧ Pu N R (-1) rest C2 O2 (opn N ND NX) ∧ ∀ y ∈ ND, y < n)
    case atStart => exact ⟨C1, _, _, [x], [0], rfl, by have := HSz.out; omega, HF3.out, HP3.out, by simpa using hx⟩
    case round =>
      clear HF3 HP3 HSz HCc
      obtain ⟨C2, O2, vO2, ND, NX, hlen, hq, hF, hP, hND⟩ := hrel
      obtain ⟨G2, hG2⟩ : ∃ G2, G2 = gk := ⟨_, rfl⟩
      subst hG2
      have HQ := hid hq
      have HL := hid hlen
      have HF := hid hF
      have HP := hid hP
      have HND := hid hND
      have hO2l : O2.length ≤ 65536 := by have := hP.cnt; have := HG.out.len; omega
      have hPl : ND.length ≤ 65536 := by have := hP.pl; rw [opn_len N ND NX hlen] at this; omega
      clear hq hP hND
      rcases List.eq_nil_or_concat ND with rfl | ⟨ND1, y, hN1⟩
      · obtain rfl : NX = [] := List.length_eq_zero_iff.1 (by simpa using hlen.symm)
        obtain ⟨na, nc, hnv, _⟩ := own_slice hF.nd
        subst hnv
        clear hF hlen
        simp only [List.length_nil]
        go_wp2_with fail
        go_end0
        exact ⟨⟨_, rfl⟩, C2, O2, HF.out.wk, HP.out⟩
      · rw [List.concat_eq_append] at hN1
        subst hN1
        rcases List.eq_nil_or_concat NX with rfl | ⟨NX1, k, hX1⟩
        · simp at hlen
        · rw [List.concat_eq_append] at hX1
          subst hX1
          have hl1 : ND1.length = NX1.length := by simpa using hlen
          obtain ⟨gn, cn', hnv, _⟩ := hF.nd.form (by simp)
          obtain ⟨gx, cx, hxv, _⟩ := hF.nx.form (by simp)
          rw [List.length_append, List.length_singleton] at hnv hxv
          subst hnv
          subst hxv
          have ho1 := hF.nd
          have ho2 := hF.nx
          rw [List.length_append, List.length_singleton] at ho1 ho2
          have hcn : ND1.length + 1 ≤ cn' := by
            obtain ⟨a', c', e', h⟩ := own_slice ho1
            simp only [Value.slice.injEq] at e'
            obtain ⟨_, _, rfl⟩ := e'
            exact h
          have hcx : NX1.length + 1 ≤ cx := by
            obtain ⟨a', c', e', h⟩ := own_slice ho2
            simp only [Value.slice.injEq] at e'
            obtain ⟨_, _, rfl⟩ := e'
            exact h
          have kn : wr.cell? ⟨gn, ND1.length, none⟩ = some (.int .i64 (y : Nat)) := by
            rw [ho1.cellAt ND1.length (by omega)]
            simp [ci]
          have kx : wr.cell? ⟨gx, NX1.length, none⟩ = some (.int .i64 (k : Nat)) := by
            rw [ho2.cellAt NX1.length (by omega)]
            simp [ci]
          have kxf : wr.frozen? ⟨gx, NX1.length, none⟩ = false := ho2.frozenAt _
          obtain ⟨c0, c1, c2, cf⟩ := HF.out.b0
          have hyn := HND.out y (by simp)
          obtain ⟨nb, no, rfl, hcs⟩ := HN.out.addr (by rw [cn_len, HNn.out]; omega)
          obtain ⟨fa, fc, hcn2, hI, _, _⟩ := hcs y (by rw [cn_len, HNn.out]; exact hyn)
          rw [cn_get] at hcn2 hI
          rw [ci_len] at hcn2
          have km := HF.out.ext.cell hcn2 (by simp)
          have HI := hid hI
          have hw8 := HG.out.slim y
          have HOp := hid (opn_snoc N ND1 NX1 y k hl1)
          have HSz := hid (szP_snoc (opn N ND1 NX1) ((nxt N y).drop k))
          have HNx := hid (HG.out.net.nxt y)
          obtain ⟨lst, hlst⟩ : ∃ lst, lst = nxt N y := ⟨_, rfl⟩
          have HLst := hid hlst
          rw [← hlst] at km HI hw8 HOp HSz HNx
          rw [HOp.out] at HQ HP
          rw [HSz.out] at HQ
          simp only [List.length_append, List.length_singleton] at hPl
          have hb1 : ((ND1.length : Int) + 1 - 1) = ND1.length := by omega
          have HL1 : Hid (NX1.length = ND1.length) := hl1.symm
          rw [HL1.out] at kx kxf hcx HF ⊢
          obtain ⟨t, ht⟩ : ∃ t, t = ND1.length := ⟨_, rfl⟩
          have HT : Hid (ND1.length = t) := ht.symm
          rw [← ht] at kn kx kxf hcx hcn hPl hb1 HF HL1 ⊢
          clear hF hlen hcs hcn2 hI hlst ho1 ho2 HL hl1 ht
          have HF0 := HF
          go_upto_region 7 with fail
          go_quiet (fail)
          have hEd := Ext.drewN [] wr nq
          have HFd := hid (HF.out.keep0 hEd)
          have kx := hEd.cell kx (by simp)
          have kxf : (wr.drewN nq).frozen? ⟨gx, t, none⟩ = false := kxf
          have HIw := hid (HI.out.keep0 (HF.out.ext.trans hEd))
          generalize wr.drewN nq = w5 at *
          clear hEd HF HF0 kn km c0 c1 c2 cf
          by_cases hk : lst.length ≤ k
          · have hki : (lst.length : Int) ≤ k := by omega
            have HP2 : Hid (Pu N R (-1) rest C2 O2 (opn N ND1 NX1)) := by
              have h1 := HP.out
              rw [List.drop_eq_nil_of_le hk] at h1
              exact h1.pop (by simp)
            have HF2 := hid (HFd.out.popM HT.out HL1.out)
            have HQ2 : Hid (8194 * C2.count false + szP (opn N ND1 NX1) ≤ G2 - 1 ∧ 0 < G2) := by
              have := HQ.out
              show _ ∧ _
              omega
            go_wp2_with fail
            go_roundg (G2 - 1)
            case measure => have := HQ2.out; omega
            case rel => exact ⟨C2, O2, vO2, ND1, NX1, by rw [HL1.out, HT.out], HQ2.out.1, HF2.out, HP2.out, fun y hy => HND.out y (by simp [hy])⟩
          · have hki : ¬ (lst.length : Int) ≤ k := by omega
            have hkl : k < lst.length := by omega
            obtain ⟨fb, fo, rfl, kz⟩ := HIw.out.cell (j := k) (by rw [ci_len]; exact hkl)
            rw [ci_get _ _ hkl] at kz
            have hzm : lst.getD k 0 ∈ lst := by simp [hkl]
            have hzn := HNx.out _ hzm
            rw [HNn.out] at hzn
            have HDr : Hid (lst.drop k = lst.getD k 0 :: lst.drop (k + 1)) := by
              show _ = _
              rw [List.drop_eq_getElem_cons hkl]
              simp [hkl]
            have HPz : Hid (Pu N R (-1) rest C2 O2 (opn N ND1 NX1 ++ [lst.getD k 0 :: lst.drop (k + 1)])) := by rw [← HDr.out]; exact HP.out
            have HOp2 : Hid (opn N (ND1 ++ [y]) (NX1 ++ [k + 1]) = opn N ND1 NX1 ++ [lst.drop (k + 1)]) := by
              show _ = _
              rw [opn_snoc N ND1 NX1 y (k + 1) (by rw [HL1.out, HT.out]), ← HLst.out]
            have HSz2 := hid (szP_snoc (opn N ND1 NX1) (lst.drop (k + 1)))
            have HDl : Hid ((lst.drop k).length = (lst.drop (k + 1)).length + 1) := by show _ = _; rw [HDr.out]; simp
            generalize lst.getD k 0 = z at *
            have HF6 := hid (HFd.out.bumpM HL1.out (k + 1))
            have hgx5 := own_lt HFd.out.nx gx rfl
            clear hzm HP HDr
            go_upto_region 13 with fail
            have hgen : (w5.setCell ⟨gx, t, none⟩ (.int .i64 ((k + 1 : Nat) : Int))) = (w5.setCell ⟨gx, t, none⟩ (.int .i64 ((k : Int) + 1))) := by rw [Int.natCast_add]; rfl
            rw [hgen] at HF6
            generalize w5.setCell ⟨gx, t, none⟩ (.int .i64 ((k : Int) + 1)) = w6 at *
            obtain ⟨c0, c1, c2, cf⟩ := HF6.out.b0
            have ks := HF6.out.cell hzn
            have hcl2 := HF6.out.cl
            have hgz : C2[z]? = some (C2.getD z false) := by simp [show z < C2.length by omega]
            clear kx kxf kz HFd hgen HIw
            cases hcz : C2.getD z false
            · rw [hcz] at ks hgz
              have HP2 : Hid (Pu N R (-1) rest (C2.set z true) (O2 ++ [z]) (opn N ND1 NX1 ++ [lst.drop (k + 1)] ++ [nxt N z])) := Pu.go (pre := []) HG.out.net HG.out.slim HPz.out (by simp) hgz
              have HCz := hid (count_came hgz)
              have HW8 := hid (HG.out.slim z)
              have HSz3 := hid (szP_snoc (opn N ND1 NX1 ++ [lst.drop (k + 1)]) (nxt N z))
              have HOp3 : Hid (opn N (ND1 ++ [y] ++ [z]) (NX1 ++ [k + 1] ++ [0]) = opn N ND1 NX1 ++ [lst.drop (k + 1)] ++ [nxt N z]) := by
                show _ = _
                rw [opn_snoc N (ND1 ++ [y]) (NX1 ++ [k + 1]) z 0 (by simp [HL1.out, HT.out]), HOp2.out, List.drop_zero]
              have HQ3 : Hid (8194 * (C2.set z true).count false + szP (opn N ND1 NX1 ++ [lst.drop (k + 1)] ++ [nxt N z]) ≤ G2 - 1 ∧ 0 < G2) := by
                have h1 := HQ.out
                have h2 := HSz2.out
                have h3 := HDl.out
                have h4 := HSz3.out
                have h5 := HCz.out
                have h6 := HW8.out
                show _ ∧ _
                omega
              have HF7 := hid (HF6.out.come z)
              have ksf : w6.frozen? ⟨w.heap.size, z, none⟩ = false := frozen_of_row _ _ _ _ _ HF6.out.cr
              clear hcz hgz HF6 HQ HSz2 HSz3 HPz HOp2 hcl2
              go_upto_region 15 with fail
              generalize w6.setCell ⟨w.heap.size, z, none⟩ (.bool true) = w7 at *
              clear ks ksf c0 c1 c2 cf
              obtain ⟨c0, c1, c2, cf⟩ := HF7.out.b0
              obtain ⟨g3, cap3, w8, hr3, kf8, kc8, hF8⟩ := HF7.out.list z (by omega)
              obtain ⟨la2, lc2, hlv2, _⟩ := own_slice HF7.out.lo
              subst hlv2
              have HF8 := hid hF8
              have hsz7 : w.heap.size + 1 < w7.heap.size := by have := HF7.out.size; omega
              clear hF8
              go_upto_region 16 with (at_builtin; refine wpList_append_run rfl _ _ 23 rfl _ _ _ rfl rfl hr3 ?_)
              generalize w8.setCell ⟨w.heap.size + 1, 2, none⟩ (.slice (some ⟨g3, 0, none⟩) (O2.length + 1) cap3) = w9 at *
              clear c0 c1 c2 cf hr3 kf8 kc8 HF7 hsz7
              obtain ⟨g4, cap4, w10, hr4, hF10⟩ := HF8.out.pushN z (by simp [HT.out]; omega)
              obtain ⟨g5, cap5, w11, hr5, hF11⟩ := hF10.pushX 0 (by simp [HL1.out]; omega)
              have HF11 := hid hF11
              have e1 : (ND1 ++ [y]).length + 1 = t + 1 + 1 := by simp [HT.out]
              have e2 : (NX1 ++ [k + 1]).length + 1 = t + 1 + 1 := by simp [HL1.out]
              rw [e1] at hr4 HF11
              rw [e2] at hr5 HF11
              clear hF10 hF11 HF8 e1 e2
              go_wp2_with (first | (at_builtin; refine wpList_append_run rfl _ _ 23 rfl (.slice (some ⟨gn, 0, none⟩) (t + 1) cn') (.slice (some ⟨w9.heap.size, 0, none⟩) 1 1) _ rfl rfl hr4 ?_) | (at_builtin; refine wpList_append_run rfl _ _ 23 rfl (.slice (some ⟨gx, 0, none⟩) (t + 1) cx) (.slice (some ⟨w10.heap.size, 0, none⟩) 1 1) _ rfl rfl hr5 ?_))
              go_roundg (G2 - 1)
              case measure => have := HQ3.out; omega
              case rel =>
                refine ⟨_, _, _, ND1 ++ [y] ++ [z], NX1 ++ [k + 1] ++ [0], by simp [HL1.out, HT.out], by rw [HOp3.out]; exact HQ3.out.1, HF11.out, by rw [HOp3.out]; exact HP2.out, fun u hu => ?_⟩
                rw [List.mem_append, List.mem_singleton] at hu
                rcases hu with hu | rfl
                · exact HND.out u hu
                · exact hzn
            · rw [hcz] at ks hgz
              have HP2 := hid (HPz.out.skip1 hgz)
              have HQ2 : Hid (8194 * C2.count false + szP (opn N ND1 NX1 ++ [lst.drop (k + 1)]) ≤ G2 - 1 ∧ 0 < G2) := by
                have h1 := HQ.out
                have h2 := HSz2.out
                have h3 := HDl.out
                show _ ∧ _
                omega
              clear hcz hgz
              go_wp2_with fail
              go_roundg (G2 - 1)
              case measure => have := HQ2.out; omega
              case rel => exact ⟨C2, O2, vO2, ND1 ++ [y], NX1 ++ [k + 1], by simp [HL1.out, HT.out], by rw [HOp2.out]; exact HQ2.out.1, HF6.out, by rw [HOp2.out]; exact HP2.out, HND.out⟩
  · rw [hcx] at k0 hgx
    have HP1 := hid (HP.out.rootSkip hgx)
    clear hcx hgx
    go_enter Try.func36, Try.ntmps36
    go_wp2_with fail
    go_end0
    exact ⟨⟨_, rfl⟩, C, O, ⟨vO, HF.out⟩, HP1.out⟩

end Go.Proofs.Ytfjabjnajcfamaa

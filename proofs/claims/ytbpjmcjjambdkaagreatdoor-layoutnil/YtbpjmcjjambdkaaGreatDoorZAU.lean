/-
  CStart, MNodes, CShelf, CLib, CNode: joined by program; no statement is proved here.
-/
import Derived.Test.YtbpjmcjjambdkaaGreatDoorZAT
import Derived.Shelf.Bits.Mul64
import Derived.Test.YtbpjmcjjambdkaaGreatDoorProg
import Derived.Test.YtbpjmcjjambdkaaGreatDoorZAQ
import Derived.Deep.RegionLaw
import Derived.Deep.LoopGhost
import Derived.Test.YtbpjmcjjambdkaaGreatDoorZAS
/-
  The program's Start; no statement is proved here.
-/
namespace Go.Proofs.YtbpjmcjjambdkaaGreatDoor.Co
open Go.RowKit

/-- The first k live nodes are white. -/
def wn (l : List Nd) (k : Nat) : List Nd := (l.take k).map wh ++ l.drop k
theorem wn_len (l : List Nd) (k : Nat) : (wn l k).length = l.length := by simp [wn]; omega
theorem wn_zero (l : List Nd) : wn l 0 = l := by simp [wn]
theorem wn_all (l : List Nd) : wn l l.length = l.map wh := by simp [wn]
theorem wn_at (l : List Nd) (k i : Nat) (h : k ≤ i) : ndAt (wn l k) i = ndAt l i := by
  by_cases hi : i < l.length
  · simp only [ndAt, List.getD, wn]
    rw [List.getElem?_append_right (by simp; omega)]
    simp only [List.length_map, List.length_take, List.getElem?_drop]
    congr 2
    congr 1
    omega
  · rw [ndAt_out (by rw [wn_len]; omega), ndAt_out (by omega)]
theorem wn_succ (l : List Nd) (k : Nat) (h : k < l.length) : wn l (k + 1) = (wn l k).set k (wh (ndAt l k)) := by
  simp only [wn]
  rw [List.take_add_one, ndAt_get h, List.map_append, List.set_append_right _ _ (by simp; omega)]
  simp only [List.length_map, List.length_take, Nat.min_eq_left (Nat.le_of_lt h), Nat.sub_self, Option.toList_some, List.map_cons, List.map_nil, List.append_assoc]
  congr 1
  rw [List.drop_eq_getElem_cons h, List.set_cons_zero]
  rfl
theorem wn_same (l : List Nd) (k : Nat) (h : k < l.length) (hc : ¬ ((ndAt l k).c ≠ 0 ∧ (ndAt l k).c ≠ 4)) : wn l (k + 1) = wn l k := by
  rw [wn_succ l k h]
  refine set_self ?_
  rw [ndAt_get (by rw [wn_len]; exact h), wn_at _ _ _ (Nat.le_refl _)]
  simp only [wh, if_neg hc]

theorem shs_len (R : List Int) : ∀ G : Gs, (R.foldl sh G).ns.length = G.ns.length := by
  induction R with
  | nil => intro G; rfl
  | cons x R ih => intro G; simp only [List.foldl_cons]; rw [ih, sh_len]

set_option maxHeartbeats 4000000 in
theorem start_any (p : Nat) (G : Gs) (B : Nat → Prop) (ra : Option Addr) (rn rc : Nat) (R : List Int) (w : World) (h : Gr w p G B) (hI : Iv G) (hR : Is w ra R) (hrn : R.length = rn) (hrb : rn ≤ 17592186044416) (hrB : ∀ ad, ra = some ad → ¬ B ad.block) :
    Calls Tryz.prog 111 #[.pointer (some ⟨p, 0, none⟩), .slice ra rn rc] w (GPost w p (start G R).1 B (.int .i64 (start G R).2)) := by
  have hlen := hI.len
  have f3 : w.cell? ⟨p, 3, none⟩ = some (.int .i64 G.ph) := by
    obtain ⟨vn, vl, SV, hm, _⟩ := h
    exact hm.flds.2.2.2.1
  by_cases hph : G.ph ≠ 0
  · have HF := hid (gr_same h (.int .i64 14))
    rw [show start G R = (G, 14) by simp [start, hph]]
    have hb : ((G.ph : Int) != 0) = true := by simp; omega
    clear h hI hR hrB hph
    generalize G.ph = ph at *
    go_enter Tryz.func111, Tryz.ntmps111
    go_wp2_with fail
    go_ret
    exact HF.out
  replace hph : G.ph = 0 := by omega
  have HH := hid h
  have HR := hid hR
  have HRn := hid hrn
  have HrB := hid hrB
  have HI := hid hI
  have KL := fun x : Int => live_any p G B x w h hlen
  have HBad : Hid (∀ k, k < rn → lvB G (R.getD k 0) = false → start G R = (G, 4)) := fun k hk hb => by
    have : R.all (lvB G) = false := by
      rw [List.all_eq_false]
      exact ⟨R.getD k 0, by simp [List.getD, show k < R.length by omega], by rw [hb]; simp⟩
    simp [start, hph, this]
  have HOk : Hid (R.all (lvB G) = true → start G R = (R.foldl sh (begin G), 0)) := fun h0 => by simp [start, hph, h0, begin]
  have hb0 : ((G.ph : Int) != 0) = false := by simp [hph]
  have HPh := hid hph
  clear h hI hR hrn hrB hph
  generalize hGph : G.ph = ph0 at f3 hb0
  clear hGph
  go_enter Tryz.func111, Tryz.ntmps111
  go_wp2_with fail
  go_loop [19] (fun q => ∃ k : Nat, q = .int .i64 k ∧ k ≤ rn ∧ (R.take k).all (lvB G) = true) (fun q => (rn - (intOf q)).toNat)
  case atStart => exact ⟨0, rfl, Nat.zero_le _, by simp⟩
  case round =>
    obtain ⟨k, rfl, hk, hal⟩ := hrel
    have HAl := hid hal
    clear hal
    by_cases hlt : k < rn
    · obtain ⟨b, o, rfl, c0⟩ := HR.out.cell (j := k) (by rw [HRn.out]; exact hlt)
      have HT : Hid ((R.take (k + 1)).all (lvB G) = ((R.take k).all (lvB G) && lvB G (R.getD k 0))) := by
        show _ = _
        have hkR : k < R.length := by rw [HRn.out]; exact hlt
        have e : R.take (k + 1) = R.take k ++ [R.getD k 0] := by rw [List.take_add_one]; simp [hkR]
        rw [e]
        simp
      have HBk := hid (HBad.out k hlt)
      have K := KL (R.getD k 0)
      generalize R.getD k 0 = x at *
      generalize lvB G x = bx at *
      cases bx
      · have HF := hid (gr_same HH.out (.int .i64 4))
        have HB2 := hid (HBk.out rfl)
        clear KL HBad HOk HBk
        go_wp2_with (go_at_call 153; refine met K ?_)
        go_ret
        rw [HB2.out]
        exact HF.out
      · clear KL
        go_wp2_with (go_at_call 153; refine met K ?_)
        go_round
        case rel => exact ⟨k + 1, by go_num, by omega, by rw [HT.out, HAl.out]; rfl⟩
        case measure => simp [intOf]; omega
    · obtain rfl : k = rn := by omega
      have hall : R.all (lvB G) = true := by have := HAl.out; rwa [← HRn.out, List.take_length] at this
      have HS := hid (HOk.out hall)
      have HAll := hid hall
      clear HOk HBad HAl hall KL
      obtain ⟨vn, vl, SV, h, ft⟩ := HH.out
      obtain ⟨an, cn, rfl, hcn⟩ := own_slice h.row
      obtain ⟨f0, _⟩ := h.flds
      have z3 := h.froz 3
      have HM0 : Hid (Gm (w.setCell ⟨p, 3, none⟩ (.int .i64 1)) p (.slice an G.ns.length cn) vl SV { G with ph := 1 }) := h.fld 3 (.int .i64 1) { G with ph := 1 } rfl rfl rfl
      have HX0 : Hid (Fx B w (w.setCell ⟨p, 3, none⟩ (.int .i64 1))) := Fx.of_ext (S := [p]) (Ext.setCell [p] w _ _ (by simp)) (by simp; exact .inl ft.p)
      have HT := hid ft
      have HWz := hid (wn_zero G.ns)
      have HWa := hid (wn_all G.ns)
      have HWl := hid (wn_len G.ns)
      have HWt := hid (wn_at G.ns)
      have HWs := hid (wn_succ G.ns)
      have HWe := hid (wn_same G.ns)
      obtain ⟨n, hn⟩ : ∃ n, n = G.ns.length := ⟨_, rfl⟩
      have HN := hid hn
      rw [← hn] at f0 hcn hlen
      clear h ft hn
      go_upto_region 12 with fail
      generalize hW1 : w.setCell ⟨p, 3, none⟩ _ = W1 at *
      have f0' : W1.cell? ⟨p, 0, none⟩ = some (.slice an n cn) := by have := HM0.out.flds.1; rwa [← HN.out] at this
      clear hW1 f0 f3 z3
      go_wp2_with fail
      go_loopw [36] (fun q wr => ∃ k : Nat, q = .int .i64 k ∧ k ≤ n ∧ Gm wr p (.slice an n cn) vl SV { G with ph := 1, ns := wn G.ns k } ∧ Fx B w wr) (fun q _ => (n - (intOf q)).toNat)
      case atStart => exact ⟨0, rfl, Nat.zero_le _, by rw [HWz.out, HN.out]; exact HM0.out, HX0.out⟩
      case round =>
        clear HM0 HX0
        obtain ⟨i, rfl, hi, hG, hX⟩ := hrel
        have HG := hid hG
        have HX := hid hX
        clear hX
        by_cases hin : i < n
        · have hlk : i < G.ns.length := by rw [← HN.out]; exact hin
          have hft : Ft B p (.slice an n cn) vl SV := by have := HT.out; rwa [← HN.out] at this
          have K := live_nat p { G with ph := 1, ns := wn G.ns i } B i wr ⟨_, _, _, hG, hft⟩ (by simp only [HWl.out, ← HN.out]; exact hlen) (by simp only [HWl.out]; exact hlk)
          obtain ⟨g, c, hv, hc, hgp, hgl, c0, c1, c2, cf⟩ := hG.node (i := i) (by simp only [HWl.out]; exact hlk)
          simp only [HWl.out, Value.slice.injEq] at hv
          obtain ⟨rfl, hnn, rfl⟩ := hv
          clear hnn
          have fp := hG.flds.1
          simp only [HWt.out i i (Nat.le_refl _)] at c0 c2
          have hln : (wn G.ns i).length = n := by rw [HWl.out, HN.out]
          have hii : (i : Int) < n := by omega
          have HD : Hid (lvN { G with ph := 1, ns := wn G.ns i } i ↔ ((ndAt G.ns i).c ≠ 0 ∧ (ndAt G.ns i).c ≠ 4)) := by
            show _ ↔ _
            unfold lvN
            simp only [HWt.out i i (Nat.le_refl _)]
          clear hc hG
          by_cases hcl : (ndAt G.ns i).c ≠ 0 ∧ (ndAt G.ns i).c ≠ 4
          · have hdt : decide (lvN { G with ph := 1, ns := wn G.ns i } i) = true := decide_eq_true (HD.out.2 hcl)
            rw [hdt] at K
            have HM : Hid (Gm (wr.setCell ⟨g, i * 3, none⟩ (.int .i64 1)) p (.slice (some ⟨g, 0, none⟩) n cn) vl SV { G with ph := 1, ns := wn G.ns (i + 1) }) := by
              have h2 := HG.out
              have e1 : n = ({ G with ph := 1, ns := wn G.ns i } : Gs).ns.length := hln.symm
              rw [e1] at h2
              have h3 := Gm.setc (G := { G with ph := 1, ns := wn G.ns i }) h2 i 1 (by simp only [hln]; exact hin)
              rw [← e1] at h3
              have e2 : wn G.ns (i + 1) = (wn G.ns i).set i ⟨1, (ndAt (wn G.ns i) i).s, (ndAt (wn G.ns i) i).k⟩ := by rw [HWs.out i hlk, HWt.out i i (Nat.le_refl _)]; simp only [wh, if_pos hcl]
              rw [e2]
              exact h3
            have cf0 := cf (i * 3)
            clear HG cf hln HD hcl hdt c1 c2
            generalize (ndAt G.ns i).c = cc at *
            go_wp2_with (go_at_call 153; refine met K ?_)
            go_roundw
            case rel => exact ⟨i + 1, by go_num, by omega, HM.out, HX.out.trans (C := B) (Fx.of_ext (S := [g]) (Ext.setCell [g] wr _ _ (by simp)) (by simp; exact .inl (hft.n g rfl))) (fun _ q => .inl q)⟩
            case measure => simp [intOf]; omega
          · have hdt : decide (lvN { G with ph := 1, ns := wn G.ns i } i) = false := decide_eq_false (fun q => hcl (HD.out.1 q))
            rw [hdt] at K
            have HM : Hid (Gm wr p (.slice (some ⟨g, 0, none⟩) n cn) vl SV { G with ph := 1, ns := wn G.ns (i + 1) }) := by
              have h2 := HG.out
              rw [← HWe.out i hlk hcl] at h2
              exact h2
            clear HG cf hln HD hcl hdt c1 c2 c0
            go_wp2_with (go_at_call 153; refine met K ?_)
            go_roundw
            case rel => exact ⟨i + 1, by go_num, by omega, HM.out, HX.out⟩
            case measure => simp [intOf]; omega
        · obtain rfl : i = n := by omega
          have HG2 : Hid (Gr wr p (begin G) (Nw B w)) := by
            refine ⟨_, _, _, ?_, HT.out.mono (fun _ q => .inl q)⟩
            have h2 := HG.out
            rw [show wn G.ns i = G.ns.map wh by rw [HN.out]; exact HWa.out, HN.out] at h2
            exact h2
          have HI2 : Hid (Iv (begin G)) := iv_begin HI.out HPh.out
          have HLv : Hid (∀ x, lvB (begin G) x = lvB G x) := fun y => by simp only [lvB, begin, wh_lv]
          clear hG HG HWz HWa HWl HWt HWs HWe HT
          go_wp2_with fail
          go_loopw [52] (fun q w3 => ∃ j : Nat, q = .int .i64 j ∧ j ≤ k ∧ Gr w3 p ((R.take j).foldl sh (begin G)) (Nw B w) ∧ Fx B w w3) (fun q _ => (k - (intOf q)).toNat)
          case atStart => exact ⟨0, rfl, Nat.zero_le _, HG2.out, HX.out⟩
          case round =>
            clear HG2 HX
            obtain ⟨j, rfl, hj, hG3, hX3⟩ := hrel
            have HG3 := hid hG3
            have HX3 := hid hX3
            clear hG3 hX3
            by_cases hjn : j < k
            · have hjR : j < R.length := by rw [HRn.out]; exact hjn
              obtain ⟨b, o, rfl, c0⟩ := (is_keepF HR.out HX3.out HrB.out).cell (j := j) hjR
              have hIv := iv_shs (R.take j) HI2.out
              have hll := hIv.lln
              have hle := hIv.len
              have hxl : lvB G (R.getD j 0) = true := List.all_eq_true.1 HAll.out _ (by simp [List.getD, hjR])
              have hxb : lvB (begin G) (R.getD j 0) = true := by rw [HLv.out]; exact hxl
              have K := shade_any p ((R.take j).foldl sh (begin G)) (Nw B w) (R.getD j 0) wr HG3.out (.inr ⟨(lvB_iff.1 hxl).1, by rw [shs_len]; exact lvN_lt (lvB_iff.1 hxb).2⟩) (by omega) hle
              have HN3 : Hid (∀ w4, Gr w4 p (sh ((R.take j).foldl sh (begin G)) (R.getD j 0)) (Nw (Nw B w) wr) → Fx (Nw B w) wr w4 → Gr w4 p ((R.take (j + 1)).foldl sh (begin G)) (Nw B w) ∧ Fx B w w4) := fun w4 g4 x4 => by
                have e1 : (R.take (j + 1)).foldl sh (begin G) = sh ((R.take j).foldl sh (begin G)) (R.getD j 0) := by
                  rw [List.take_add_one, List.foldl_append]; simp [List.getD, hjR]
                rw [e1]
                exact ⟨g4.mono (nw_nw HX3.out.size), HX3.out.trans x4 (fun k q => q)⟩
              clear hIv hll hle hxl hxb hjR HG3 HX3
              generalize R.getD j 0 = x at *
              go_wp2_with fail
              refine K.mono ?_
              clear K
              rintro e w4 ⟨rfl, g4, x4⟩
              have HN4 := hid (HN3.out w4 g4 x4)
              clear g4 x4 HN3
              go_wp2_with fail
              go_roundw
              case rel => exact ⟨j + 1, by go_num, by omega, HN4.out⟩
              case measure => simp [intOf]; omega
            · obtain rfl : j = k := by omega
              go_wp2_with fail
              go_ret
              rw [HS.out]
              refine ⟨rfl, ?_, HX3.out⟩
              have := HG3.out
              rwa [← HRn.out, List.take_length] at this

end Go.Proofs.YtbpjmcjjambdkaaGreatDoor.Co

/-
  The nodes of roots; which slots words are; no statement is proved here.
-/
namespace Go.Proofs.YtbpjmcjjambdkaaGreatDoor
open Go.RowKit

def lI (l : List Int) : List Value := l.map (Value.int .i64)

/-- One number more behind a list of one's own. -/
theorem app_int (w0 w : World) (hE : Ext [] w0 w) (v : Value) (l : List Int) (hown : w.ownsRow w0.heap.size 3 1 v l.length (lI l)) (x : Int) (ty : TypeId) (hn : l.length ≤ 17592186044415) :
    ∃ v' w', (Builtin.append_ #[29, 29] ty #[v, .slice (some ⟨w.heap.size, 0, none⟩) 1 1]).run Tryz.prog (w.alloc (.cells #[.int .i64 x] 3)) = .ok v' w' ∧ w'.ownsRow w0.heap.size 3 1 v' (l ++ [x]).length (lI (l ++ [x])) ∧ Ext [] w0 w' := by
  have hE2 := Ext.alloc [] w (.cells #[.int .i64 x] 3)
  have ho := own_keep0 hown hE2
  obtain ⟨v2, w2, hr2, hO2, hE3, _⟩ := Co.app_own w0 _ (co_ext (hE.trans hE2)) 29 ty 3 _ 8 Tryz.underlying29 Co.info3 rfl (by omega) v l.length _ ho (some ⟨w.heap.size, 0, none⟩) 1 1 [.int .i64 x] rfl (Co.vs_new w 3 [.int .i64 x]) (by simp [Value.oneCell']) (by omega)
  exact ⟨v2, w2, hr2, by simpa [lI] using hO2, ext_co hE3⟩

section
variable {w : World} {p : Nat} {M : Ms} {X : Co.Fo} {cs : Array Value} {cl : Nat → Nat} {bo ba : Nat} {fo : Int → Option Value}

/-- What find answers. -/
def fV (M : Ms) (fo : Int → Option Value) (a : Int) : Value := if (fndM M a).isSome then (fo a).getD moZ else moZ
def fE (M : Ms) (a : Int) : Int := if (fndM M a).isSome then 0 else 4

theorem mfind_any (h : Mm w p M X cs cl bo ba fo) (hlen : M.G.ns.length ≤ 65536) (a : Int) (hi : I64 a) : Calls Tryz.prog 54 #[.pointer (some ⟨p, 0, none⟩), .int .i64 a] w (SayPost w (.tuple #[fV M fo a, .int .i64 (fE M a)])) := by
  unfold fV fE fndM
  cases ho : M.ob a with
  | none => simpa using find_none h a hi ho
  | some o =>
    obtain ⟨g, hf, _⟩ := h.os a o ho
    have K := find_some h hlen a hi o g hf
    rw [hf]
    cases hb : Co.lvB M.G o.nd
    · rw [hb] at K; simpa [hb] using K
    · rw [hb] at K; simpa [hb] using K
theorem fV_some (h : Mm w p M X cs cl bo ba fo) {a : Int} {o : Mo} (ho : fndM M a = some o) : ∃ g, fV M fo a = moV o g ∧ fE M a = 0 ∧ w.heap[g]? = some (.cells (o.sl.map (Value.int .i64)).toArray 3 (0, 0)) ∧ cl g = 3 ∧ o.sl.length ≤ 8192 ∧ M.ob a = some o ∧ Co.lvB M.G o.nd = true := by
  have hq := ho
  unfold fndM at hq
  cases h1 : M.ob a with
  | none => rw [h1] at hq; cases hq
  | some o' =>
    rw [h1] at hq
    simp only at hq
    split at hq
    · cases hq
      obtain ⟨g, hf, h2, h3, h4⟩ := h.os a o h1
      exact ⟨g, by simp [fV, ho, hf], by simp [fE, ho], h2, h3, h4, rfl, by assumption⟩
    · cases hq
theorem fV_none {a : Int} (ho : fndM M a = none) : fV M fo a = moZ ∧ fE M a = 4 := by simp [fV, fE, ho]

/-- What nodes answers. -/
def NdPost (w : World) (r : Option (List Int)) (e : Ending) (w' : World) : Prop := Ext [] w w' ∧ match r with
  | none => e = .returned (.tuple #[.slice none 0 0, .int .i64 4])
  | some l => ∃ v, e = .returned (.tuple #[v, .int .i64 0]) ∧ w'.ownsRow w.heap.size 3 1 v l.length (lI l)

theorem mnodes_nil (r : Value) (w : World) : Calls Tryz.prog 59 #[.pointer none, r] w fun e w' => e = .returned (.tuple #[.slice none 0 0, .int .i64 2]) ∧ w' = w := by
  go_enter Tryz.func59, Tryz.ntmps59
  go_wp2
  go_ret2
  exact ⟨rfl, rfl⟩

theorem nodesM_cons (M : Ms) (a : Int) (R : List Int) : nodesM M (a :: R) = if a = 0 then nodesM M R else match fndM M a with
    | none => none
    | some o => match nodesM M R with
      | none => none
      | some l => some (o.nd :: l) := rfl
theorem map_nil (o : Option (List Int)) : o = o.map ([] ++ ·) := by cases o <;> rfl
theorem drop_at {R : List Int} {k : Nat} (h : k < R.length) : R.drop k = R.getD k 0 :: R.drop (k + 1) := by
  rw [List.drop_eq_getElem_cons h]; simp [List.getD, h]

theorem nodesM_len (M : Ms) (R : List Int) : ∀ l, nodesM M R = some l → l.length ≤ R.length := by
  induction R with
  | nil => intro l h; cases h; simp
  | cons a R ih =>
    intro l h
    unfold nodesM at h
    split at h
    · have := ih l h; simp; omega
    · split at h
      · cases h
      · split at h
        · cases h
        · rename_i l' hl
          cases h
          have := ih l' hl
          simp; omega

set_option maxRecDepth 100000 in
set_option maxHeartbeats 4000000 in
theorem mnodes_any (h : Mm w p M X cs cl bo ba fo) (hlen : M.G.ns.length ≤ 65536) (ra : Option Addr) (n rc : Nat) (R : List Int) (hR : Co.Is w ra R) (hn : R.length = n) (hb : n ≤ 17592186044415) (hi : ∀ x ∈ R, I64 x) :
    Calls Tryz.prog 59 #[.pointer (some ⟨p, 0, none⟩), .slice ra n rc] w (NdPost w (nodesM M R)) := by
  have HK : Hid (∀ u, Ext [] w u → ∀ a, I64 a → Calls Tryz.prog 54 #[.pointer (some ⟨p, 0, none⟩), .int .i64 a] u (SayPost u (.tuple #[fV M fo a, .int .i64 (fE M a)]))) := fun u hu a ha => mfind_any (h.keep0 hu) hlen a ha
  have HV : Hid (∀ a o, fndM M a = some o → ∃ g, fV M fo a = moV o g ∧ fE M a = 0) := fun a o ho => by
    obtain ⟨g, h1, h2, _⟩ := fV_some h ho
    exact ⟨g, h1, h2⟩
  have HR := hid hR
  have HI := hid hi
  have HN := hid hn
  clear h hR hi hlen hn
  go_enter Tryz.func59, Tryz.ntmps59
  go_wp2_with fail
  go_loopw [6, 15] (fun v q wr => ∃ (k : Nat) (l : List Int), q = .int .i64 k ∧ k ≤ n ∧ (∃ ad m d, v = .slice ad m d) ∧ wr.ownsRow w.heap.size 3 1 v l.length (lI l) ∧ Ext [] w wr ∧ l.length ≤ k ∧ nodesM M R = (nodesM M (R.drop k)).map (l ++ ·)) (fun _ q _ => (n - (intOf q)).toNat)
  case atStart => exact ⟨0, [], rfl, by omega, ⟨_, _, _, rfl⟩, own_nil _ _ _ _, Ext.refl _ _, by simp, map_nil _⟩
  case round =>
    obtain ⟨k, l, rfl, hk, ⟨ad, m, d, rfl⟩, ho, hE, hlk, hd⟩ := hrel
    have HO := hid ho
    have HE := hid hE
    have HD := hid hd
    clear ho hE hd
    by_cases hlt : k < n
    · have hkl : k < R.length := by have := HN.out; omega
      obtain ⟨b, o, rfl, hcell⟩ := Co.Is.cell (HR.out.keep0 (co_ext HE.out)) hkl
      have hix := HI.out _ (show R.getD k 0 ∈ R by simp [List.getD, hkl])
      have HD2 := HD.out
      rw [drop_at hkl] at HD2
      rw [nodesM_cons] at HD2
      have K := HK.out wr HE.out _ hix
      clear hkl HD hix
      generalize R.getD k 0 = x at *
      by_cases hx0 : x = 0
      · rw [if_pos hx0] at HD2
        have HD3 := hid HD2
        clear HD2 K
        subst hx0
        go_wp2_with fail
        go_roundw
        case rel => exact ⟨k + 1, l, by go_num, by omega, ⟨_, _, _, rfl⟩, HO.out, HE.out, by omega, HD3.out⟩
        case measure => simp [intOf]; omega
      · rw [if_neg hx0] at HD2
        have hbx : (x == 0) = false := by simpa using hx0
        cases hf : fndM M x with
        | none =>
          rw [hf] at HD2
          have HQ : Hid (nodesM M R = none) := hid (by simpa using HD2)
          obtain ⟨e1, e2⟩ := fV_none (fo := fo) hf
          rw [e1, e2] at K
          unfold moZ at K
          clear HD2 hf e1 e2 hx0
          go_wp2_with (first | (go_at_call 54; refine K.mono ?_; clear K; rintro e w1 ⟨rfl, hE1⟩; have HE1 := hid (HE.out.trans hE1); clear hE1 HE HO) | fail "no arm")
          go_ret2
          rw [HQ.out]
          exact ⟨HE1.out.trans (Ext.alloc [] _ _), rfl⟩
        | some o' =>
          rw [hf] at HD2
          obtain ⟨g, e1, e2⟩ := HV.out x o' hf
          rw [e1, e2] at K
          unfold moV at K
          have hD3 : nodesM M R = (nodesM M (R.drop (k + 1))).map ((l ++ [o'.nd]) ++ ·) := by
            rw [HD2]
            cases nodesM M (R.drop (k + 1)) <;> simp
          have HD3 := hid hD3
          clear hD3
          have HA : Hid (∀ w1, Ext [] wr w1 → ∃ v' w2, (Builtin.append_ #[29, 29] 29 #[.slice ad m d, .slice (some ⟨(w1.alloc (.cells #[.int .i64 o'.nd, .slice (some ⟨g, 0, none⟩) o'.sl.length o'.sl.length] 105)).heap.size, 0, none⟩) 1 1]).run Tryz.prog ((w1.alloc (.cells #[.int .i64 o'.nd, .slice (some ⟨g, 0, none⟩) o'.sl.length o'.sl.length] 105)).alloc (.cells #[.int .i64 o'.nd] 3)) = .ok v' w2 ∧ (∃ a2 n2 c2, v' = .slice a2 n2 c2) ∧ Hid (w2.ownsRow w.heap.size 3 1 v' (l ++ [o'.nd]).length (lI (l ++ [o'.nd])) ∧ Ext [] w w2)) := fun w1 hw1 => by
            have hw2 := hw1.trans (Ext.alloc [] w1 (.cells #[.int .i64 o'.nd, .slice (some ⟨g, 0, none⟩) o'.sl.length o'.sl.length] 105))
            obtain ⟨v', w2, hr, ho2, hE2⟩ := app_int w _ (HE.out.trans hw2) (.slice ad m d) l (own_keep0 HO.out hw2) o'.nd 29 (by omega)
            obtain ⟨a2, c2, e, _⟩ := own_slice ho2
            exact ⟨v', w2, hr, ⟨_, _, _, e⟩, ho2, hE2⟩
          clear HD2 hf e1 e2 hx0
          simp only [World.size_alloc] at HA
          go_wp2_with (first | (go_at_call 54; refine K.mono ?_; clear K; rintro e w1 ⟨rfl, hE1⟩; obtain ⟨v', w2, hr, ⟨a2, n2, c2, rfl⟩, HO2⟩ := HA.out w1 hE1; clear hE1 HE HO HA) | (at_builtin; refine wpList_append_run rfl _ _ 29 rfl _ _ _ rfl rfl hr ?_) | fail "no arm")
          go_roundw
          case rel => exact ⟨k + 1, l ++ [o'.nd], by go_num, by omega, ⟨_, _, _, rfl⟩, HO2.out.1, HO2.out.2, by simp; omega, HD3.out⟩
          case measure => simp [intOf]; omega
    · obtain rfl : k = n := by omega
      have hQ : nodesM M R = some l := by
        rw [HD.out, List.drop_eq_nil_of_le (by have := HN.out; omega)]; simp [nodesM]
      have HQ := hid hQ
      clear hQ
      go_wp2_with fail
      go_ret2
      rw [HQ.out]
      exact ⟨HE.out, _, rfl, HO.out⟩

end

end Go.Proofs.YtbpjmcjjambdkaaGreatDoor

/-
  The library's product, at this program; no statement is proved here.
-/
namespace Go.Proofs
open Go.Shelf
def Tryz.lays212_ren : Go.Shelf.Ren := ⟨fun | 212 => 191 | 263 => 209 | 264 => 210 | n => n, fun | 46 => 86 | 51 => 263 | 146 => 264 | 53 => 44 | 148 => 266 | n => n, fun | n => n⟩
theorem Tryz.lays212 : Go.Proofs.Lays.n212 Tryz.prog Tryz.lays212_ren := {
  mixed := by kernel_rfl
  f212 := Tryz.func191.trans (congrArg some (by kernel_rfl))
  f263 := Tryz.func209.trans (congrArg some (by kernel_rfl))
  f264 := Tryz.func210.trans (congrArg some (by kernel_rfl))
  t46 := Tryz.underlying86
  a46 := Tryz.isAgg86
  z46 := Tryz.sizeOf86
  v46 := Tryz.zeroValue86
  t51 := Tryz.underlying263
  a51 := Tryz.isAgg263
  z51 := Tryz.sizeOf263
  v51 := Tryz.zeroValue263
  t53 := Tryz.underlying44
  a53 := Tryz.isAgg44
  z53 := Tryz.sizeOf44
  v53 := Tryz.zeroValue44
  t146 := Tryz.underlying264
  a146 := Tryz.isAgg264
  z146 := Tryz.sizeOf264
  v146 := Tryz.zeroValue264
  t148 := Tryz.underlying266
  a148 := Tryz.isAgg266
  z148 := Tryz.sizeOf266
  v148 := Tryz.zeroValue266 }
open Go.RowKit Go.Lib in
theorem Tryz.bits_Mul (x y : Nat) (hx : x < 18446744073709551616) (hy : y < 18446744073709551616) (w : World) :
    Calls Tryz.prog 191 #[.int .u64 x, .int .u64 y] w fun e w' => e = .returned (.tuple #[.int .u64 ((x * y / 18446744073709551616 : Nat) : Int), .int .u64 ((x * y % 18446744073709551616 : Nat) : Int)]) ∧ w' = w := Any.bits_Mul Tryz.lays212 x y hx hy w
end Go.Proofs

/-
  The library's sort, turning round and Repeat at lists of one's own; no statement is proved here.
-/
namespace Go.Proofs.YtbpjmcjjambdkaaGreatDoor.Co
open Go.RowKit

/-- copy between slices of elements of k cells, the target a row that is known whole. -/
theorem run_copy_k {P : Program} (w : World) (dT sT ty elem : TypeId) (k g o dLen dCap : Nat) (a : Addr) (sLen sCap m : Nat) (cur : List Value) (t : TypeId) (cs : List Value)
    (hu : P.underlying dT = some (.slice elem)) (hs : (P.info? elem).map (·.size) = some k) (hg : w.heap[g]? = some (.cells cur.toArray t (0, 0))) (hm : Nat.min sLen dLen = m) (hn : cs.length = m * k)
    (hsrc : ∀ j v, cs[j]? = some v → w.cell? (a.add j) = some v) (hfit : o + cs.length ≤ cur.length) (h1 : ∀ v ∈ cs, v.oneCell' = true) :
    (Builtin.copy_ #[dT, sT] ty #[.slice (some ⟨g, o, none⟩) dLen dCap, .slice (some a) sLen sCap]).run P w = .ok (goInt m) (w.setRow g (splice cur o cs).toArray) := by
  have hf := run_firstCells_some (P := P) w k m a sLen sCap cs hn hsrc
  have hst := run_storeCells_at P g o t cs 0 cur.toArray w hg (by simpa using hfit) h1
  cases hq : P.info? elem with
  | none => simp [hq] at hs
  | some i =>
    have hi : i.size = k := by simpa [hq] using hs
    simp only [Nat.add_zero] at hst
    simp [Builtin.copy_, run_underlying hu, Builtin.lenOf, sizeOf, typeInfo, hq, hi, hm, hf, hst, splice]

theorem wpList_copy_run {P : Program} {w w' : World} {ops : Array Oper} {rest : List Oper} {o : Oper} {a : Act} {Q : Exit → Act → World → Prop} (hgd : o.guard = none) (d s : Operand) (t t' : TypeId)
    (ho : o.op = .call { callee := .builtin .copy, args := #[d, s], argTypes := #[t, t'] }) (vd vs v' : Value) (hd : a.eval d = vd) (hs : a.eval s = vs)
    (hr : (Builtin.copy_ #[t, t'] o.type #[vd, vs]).run P w = .ok v' w') (h : wpList P ops Q rest (a.put o.dst v') w') : wpList P ops Q (o :: rest) a w := by
  refine wpList_plain hgd fun K hK => ?_
  unfold Oper.wp execOp
  simp only [ho, resolve, invoke, builtin, Sem.run_bind, Sem.run_pure, Result.andThen_ok, List.map_toArray, List.map_cons, List.map_nil, hd, hs, hr]
  exact hK _ _ h

theorem step_copy_run {P : Program} {ops : Array Oper} {o : Oper} {a : Act} {w w' : World} {K : Act → World → Prop} {Q : Exit → Act → World → Prop} {E : Prop} (hgd : o.guard = none) (d s : Operand) (t t' : TypeId)
    (ho : o.op = .call { callee := .builtin .copy, args := #[d, s], argTypes := #[t, t'] }) (vd vs v' : Value) (hd : a.eval d = vd) (hs : a.eval s = vs)
    (hr : (Builtin.copy_ #[t, t'] o.type #[vd, vs]).run P w = .ok v' w') (h : K (a.put o.dst v') w') :
    if Region.wanted o (yielded ops a.tmps) = true then Oper.wp P o a w K Q else E := by
  rw [if_pos (by simp [Region.wanted, hgd])]
  unfold Oper.wp execOp
  simp only [ho, resolve, invoke, builtin, Sem.run_bind, Sem.run_pure, Result.andThen_ok, List.map_toArray, List.map_cons, List.map_nil, hd, hs, hr]
  exact h


/-! ### Repeat -/

theorem size3 : (Tryz.prog.info? 3).map (·.size) = some 1 := by kernel_rfl

/-- So many numbers -1, then 0. -/
def fil (n k : Nat) : List Value := List.replicate k (.int .i64 (-1)) ++ List.replicate (n - k) (.int .i64 0)
theorem fil_len (n k : Nat) (h : k ≤ n) : (fil n k).length = n := by simp [fil]; omega
theorem fil_splice (n k m : Nat) (h : k + m ≤ n) : splice (fil n k) k (List.replicate m (.int .i64 (-1))) = fil n (k + m) := by
  simp only [splice, fil, List.length_replicate]
  rw [List.take_append_of_le_length (by simp), List.take_of_length_le (by simp), List.drop_append, List.drop_eq_nil_of_le (by simp)]
  simp only [List.length_replicate, List.nil_append, List.drop_replicate]
  rw [← List.append_assoc, List.replicate_append_replicate]
  congr 2
  omega
theorem fil_full (n : Nat) : fil n n = List.replicate n (.int .i64 (-1)) := by simp [fil]

def RpPost (w : World) (n : Nat) (e : Ending) (w' : World) : Prop :=
  ∃ g, e = .returned (.slice (some ⟨g, 0, none⟩) n n) ∧ w.heap.size ≤ g ∧ w'.heap[g]? = some (.cells (List.replicate n (Value.int .i64 (-1))).toArray 3 (0, 0)) ∧ Ext [] w w'

set_option maxRecDepth 100000 in
set_option maxHeartbeats 2000000 in
theorem repeat_any (b n : Nat) (w : World) (hb : w.cell? ⟨b, 0, none⟩ = some (.int .i64 (-1))) (hn : n ≤ 65536) : Calls Tryz.prog 162 #[.slice (some ⟨b, 0, none⟩) 1 1, .int .i64 n] w (RpPost w n) := by
  have K := Tryz.bits_Mul 1 n (by omega) (by omega) w
  rw [show (1 * n / 18446744073709551616 : Nat) = 0 by omega, show (1 * n % 18446744073709551616 : Nat) = n by omega] at K
  obtain ⟨i3, hi3, hz3, hs3, hy3⟩ := info_parts info3
  have hr := run_make (P := Tryz.prog) w 29 3 i3 _ Tryz.underlying29 hi3 hz3 .i64 .i64 n n (by omega) (Int.le_refl _) (by rw [hy3]; omega) (by omega)
  rw [hs3] at hr
  simp only [Int.toNat_natCast] at hr
  have hm : madeCells (Value.int .i64 0).cells (n * 1) = (fil n 0).toArray := by
    apply Array.toList_inj.1
    rw [show (Value.int .i64 0).cells = #[.int .i64 0] from rfl, toList_madeCells_one]
    simp [fil]
  rw [hm] at hr
  have hbl : b < w.heap.size := block_lt_of_cell hb
  have hm1 : Nat.min 1 n ≤ 1 := Nat.min_le_left 1 n
  have hm2 : Nat.min 1 n ≤ n := Nat.min_le_right 1 n
  have hE0 := Ext.alloc [] w (.cells (fil n 0).toArray 3)
  have hg0 : (w.alloc (.cells (fil n 0).toArray 3)).heap[w.heap.size]? = some (.cells (fil n 0).toArray 3 (0, 0)) := heap_alloc_new w _
  have hcp := run_copy_k (P := Tryz.prog) _ 29 29 3 3 1 w.heap.size 0 n n ⟨b, 0, none⟩ 1 1 (Nat.min 1 n) (fil n 0) 3 (List.replicate (Nat.min 1 n) (.int .i64 (-1))) Tryz.underlying29 size3 hg0 rfl (by simp) (fun j u hu => by
    rw [List.getElem?_replicate] at hu
    split at hu
    · rename_i hj
      obtain rfl : j = 0 := by omega
      cases hu
      rw [Addr.add_lit]
      exact hE0.cell hb (by simp)
    · cases hu) (by rw [fil_len _ _ (by omega), List.length_replicate]; omega) (by simp [Value.oneCell'])
  rw [show splice (fil n 0) 0 (List.replicate (Nat.min 1 n) (Value.int .i64 (-1))) = fil n (Nat.min 1 n) by have := fil_splice n 0 (Nat.min 1 n) (by omega); simpa using this] at hcp
  have HX1 : Hid (Ext [] w ((w.alloc (.cells (fil n 0).toArray 3)).setRow w.heap.size (fil n (Nat.min 1 n)).toArray)) := (Ext.alloc [] _ _).on (Ext.setRow [w.heap.size] _ _ _ (by simp)) (by simp)
  have HG1 : Hid (((w.alloc (.cells (fil n 0).toArray 3)).setRow w.heap.size (fil n (Nat.min 1 n)).toArray).heap[w.heap.size]? = some (.cells (fil n (Nat.min 1 n)).toArray 3 (0, 0))) := by
    show _ = _
    exact setRow_heap _ _ _ _ _ _ hg0
  have HM0 : Hid (n = 0 ∨ Nat.min 1 n = 1) := by
    show _ ∨ _
    by_cases h : n = 0
    · exact .inl h
    · exact .inr (Nat.min_eq_left (by omega))
  generalize Nat.min 1 n = m1 at *
  clear hm hi3 hz3 hs3 hy3 hE0 hg0
  go_enter Tryz.func162, Tryz.ntmps162
  go_wp2_with (first | (go_at_call 191; refine met K ?_) | (at_builtin; refine wpList_copy_run rfl _ _ 29 29 rfl _ _ _ rfl rfl hcp ?_))
  generalize hW1 : (w.alloc (.cells (fil n 0).toArray 3)).setRow w.heap.size (fil n m1).toArray = W1 at *
  clear hW1 hcp hr K
  go_loopg [8] (n - m1) (fun q u wr => ∃ k : Nat, u = .int .i64 k ∧ k ≤ n ∧ n - k ≤ q ∧ (n = 0 ∨ 0 < k) ∧ Ext [] w wr ∧ wr.heap[w.heap.size]? = some (.cells (fil n k).toArray 3 (0, 0)))
  case atStart => exact ⟨m1, rfl, hm2, by omega, by have := HM0.out; omega, HX1.out, HG1.out⟩
  case round =>
    clear HX1 HG1 HM0 hm1 hm2
    obtain ⟨k, rfl, hk, hkq, hk0, hE, hg⟩ := hrel
    have HE := hid hE
    have HG := hid hg
    clear hE hg
    by_cases hlt : k < n
    · have hk1 : 0 < k := by omega
      have hmin : Nat.min k (n - k) ≤ n - k := Nat.min_le_right _ _
      have hmin2 : Nat.min k (n - k) ≤ k := Nat.min_le_left _ _
      have HMp : Hid (0 < Nat.min k (n - k)) := by
        show 0 < _
        exact Nat.lt_min.2 ⟨hk1, by omega⟩
      have hgd : wr.drew.heap[w.heap.size]? = some (.cells (fil n k).toArray 3 (0, 0)) := (Ext.drew [] wr).keep HG.out (by simp)
      have hcp := run_copy_k (P := Tryz.prog) wr.drew 29 29 3 3 1 w.heap.size k (n - k) (n - k) ⟨w.heap.size, 0, none⟩ k n (Nat.min k (n - k)) (fil n k) 3 (List.replicate (Nat.min k (n - k)) (.int .i64 (-1))) Tryz.underlying29 size3 hgd rfl (by simp) (fun j u hu => by
        rw [List.getElem?_replicate] at hu
        split at hu
        · rename_i hj
          cases hu
          rw [Addr.add_lit, cell_of_row _ _ _ _ _ _ hgd, Nat.zero_add, List.getElem?_toArray, fil, List.getElem?_append_left (by simp; omega), List.getElem?_replicate, if_pos (by omega)]
        · cases hu) (by rw [fil_len _ _ (by omega), List.length_replicate]; omega) (fun u hu => by rw [List.eq_of_mem_replicate hu]; rfl)
      rw [fil_splice n k _ (by omega)] at hcp
      have HG2 : Hid ((wr.drew.setRow w.heap.size (fil n (k + Nat.min k (n - k))).toArray).heap[w.heap.size]? = some (.cells (fil n (k + Nat.min k (n - k))).toArray 3 (0, 0))) := by
        show _ = _
        exact setRow_heap _ _ _ _ _ _ hgd
      have HE2 : Hid (Ext [] w (wr.drew.setRow w.heap.size (fil n (k + Nat.min k (n - k))).toArray)) := (HE.out.trans (Ext.drew [] _)).on (Ext.setRow [w.heap.size] _ _ _ (by simp)) (by simp)
      generalize Nat.min k (n - k) = m at *
      clear hgd
      have hw : IntKind.i64.wrap ((k : Int) + (m : Int)) = ((k + m : Nat) : Int) := by rw [IntKind.wrap_i64]; omega
      go_wp2_with fail
      go_region_law (refine step_copy_run rfl _ _ 29 29 rfl (.slice (some ⟨w.heap.size, k, none⟩) (n - k) (n - k)) (.slice (some ⟨w.heap.size, 0, none⟩) k n) _ (by simp [Act.eval, Act.put]; omega) (by simp [Act.eval, Act.put]) hcp ?_)
      all_goals
        go_wp2_with fail
        go_roundg (n - (k + m))
        case measure => have := HMp.out; omega
        case rel => exact ⟨k + m, by first | rfl | go_num, by omega, by omega, .inr (by omega), HE2.out, HG2.out⟩
    · obtain rfl : k = n := by omega
      go_wp2_with fail
      go_ret
      refine ⟨_, rfl, Nat.le_refl _, ?_, HE.out⟩
      have := HG.out
      rwa [fil_full] at this

end Go.Proofs.YtbpjmcjjambdkaaGreatDoor.Co

/-
  The program's free and Node; no statement is proved here.
-/
namespace Go.Proofs.YtbpjmcjjambdkaaGreatDoor.Co
open Go.RowKit

theorem fr_eq {G : Gs} {k : Nat} (h1 : G.le ≤ k) (h2 : ∀ i, G.le ≤ i → i < k → (ndAt G.ns i).c ≠ 0) (h3 : (ndAt G.ns k).c = 0) : fr G = k := by
  rcases Nat.lt_trichotomy k (fr G) with h | h | h
  · exact absurd h3 (fr_lo h1 h)
  · exact h.symm
  · refine absurd fr_free (h2 (fr G) ?_ h)
    unfold fr; omega

set_option maxHeartbeats 4000000 in
theorem free_any (p : Nat) (G : Gs) (B : Nat → Prop) (w : World) (h : Gr w p G B) (hle : G.le ≤ G.ns.length) (hlen : G.ns.length ≤ 65536) :
    Calls Tryz.prog 161 #[.pointer (some ⟨p, 0, none⟩)] w (GPost w p { G with le := fr G } B (.int .i64 (fr G))) := by
  obtain ⟨vn, vl, SV, h, ft⟩ := h
  obtain ⟨an, cn, rfl, hcn⟩ := own_slice h.row
  have HH := hid h
  have HT := hid ft
  obtain ⟨n, hn⟩ : ∃ n, n = G.ns.length := ⟨_, rfl⟩
  have HN := hid hn
  rw [← hn] at hle hlen hcn
  clear h ft hn
  have HE : Hid (∀ k, G.le ≤ k → (∀ i, G.le ≤ i → i < k → (ndAt G.ns i).c ≠ 0) → (ndAt G.ns k).c = 0 → fr G = k) := fun k => fr_eq
  go_enter Tryz.func161, Tryz.ntmps161
  go_wp2_with fail
  go_loopg [] (n - G.le) (fun q wr => ∃ k : Nat, G.le ≤ k ∧ k ≤ n ∧ n - k ≤ q ∧ (∀ i, G.le ≤ i → i < k → (ndAt G.ns i).c ≠ 0) ∧ Gm wr p (.slice an n cn) vl SV { G with le := k } ∧ Fx B w wr)
  case atStart => exact ⟨G.le, Nat.le_refl _, hle, Nat.le_refl _, fun i h1 h2 => by omega, by rw [HN.out]; exact HH.out, Fx.refl _ _⟩
  case round =>
    clear HH
    obtain ⟨k, hk1, hk2, hkq, hno, hG, hX⟩ := hrel
    have HNo := hid hno
    have HG := hid hG
    have HX := hid hX
    have f0 := hG.flds.1
    have f1 := hG.flds.2.1
    have z1 := hG.froz 1
    clear hno hX
    have HF : Hid (∀ m, (ndAt G.ns k).c = 0 → GPost w p { G with le := fr G } B (.int .i64 (fr G)) (.returned (.int .i64 k)) (wr.drewN m)) := fun m hc => by
      rw [HE.out k hk1 HNo.out hc]
      refine ⟨rfl, ⟨_, _, _, HG.out.keepD (B := B) (by have := HT.out; rw [← HN.out] at this; exact this) (Ext.drewN [] _ _), (by have := HT.out; rw [← HN.out] at this; exact this.mono (fun _ q => .inl q))⟩, HX.out.trans (C := B) (Fx.of_ext0 (Ext.drewN [] _ _)) (fun _ q => .inl q)⟩
    by_cases hlt : k < n
    · obtain ⟨g, c, hv, hc, hgp, hgl, c0, c1, c2, cf⟩ := hG.node (i := k) (by simp only; rw [← HN.out]; exact hlt)
      simp only [Value.slice.injEq] at hv
      obtain ⟨rfl, hnn, rfl⟩ := hv
      clear hnn
      simp only at c0
      have hil : (k : Int) < n := by omega
      have hd1 : decide ((k : Int) < n) = true := by simp [hlt]
      have hd2 : decide (k < n) = true := by simp [hlt]
      clear hG c1 c2 cf hc
      by_cases hc0 : (ndAt G.ns k).c = 0
      · have HF1 := hid (fun m => HF.out m hc0)
        have hb : (((ndAt G.ns k).c : Int) != 0) = false := by simp [hc0]
        clear HF hc0
        generalize (ndAt G.ns k).c = cc at *
        go_wp2_with fail
        go_quiet (fail)
        go_wp2_with fail
        go_ret
        exact HF1.out _
      · have hb : (((ndAt G.ns k).c : Int) != 0) = true := by simp; omega
        have HM : Hid (∀ m, Gm ((wr.drewN m).setCell ⟨p, 1, none⟩ (.int .i64 ((k : Int) + 1))) p (.slice (some ⟨g, 0, none⟩) n cn) vl SV { G with le := k + 1 }) := fun m => by
          have h0 := HG.out.keepD (B := B) (by have := HT.out; rw [← HN.out] at this; exact this) (Ext.drewN [] wr m)
          exact h0.fld 1 (.int .i64 ((k : Int) + 1)) { G with le := k + 1 } rfl rfl rfl
        have HNo2 : Hid (∀ i, G.le ≤ i → i < k + 1 → (ndAt G.ns i).c ≠ 0) := fun i h1 h2 => by
          by_cases e : i = k
          · rw [e]; exact hc0
          · exact HNo.out i h1 (by omega)
        clear HF hc0 HG HNo
        generalize (ndAt G.ns k).c = cc at *
        cases gk with
        | zero => omega
        | succ q =>
          go_wp2_with fail
          go_quiet (fail)
          go_wp2_with fail
          go_roundg q
          case measure => omega
          case rel => exact ⟨k + 1, by omega, by omega, by omega, HNo2.out, HM.out _, HX.out.trans (C := B) (Fx.of_ext (S := [p]) ((Ext.drewN [p] wr _).trans (Ext.setCell [p] _ _ _ (by simp))) (by simp; exact .inl HT.out.p)) (fun _ q => .inl q)⟩
    · obtain rfl : k = n := by omega
      have hc0 : (ndAt G.ns k).c = 0 := by rw [HN.out, ndAt_out (Nat.le_refl _)]; rfl
      have HF1 := hid (fun m => HF.out m hc0)
      have hd1 : decide ((k : Int) < k) = false := by simp
      clear HF hc0 hG HG
      go_wp2_with fail
      go_quiet (fail)
      go_wp2_with fail
      go_ret
      exact HF1.out _

theorem info229 : (Tryz.prog.info? 229).map (fun i => (i.zero, i.size, i.bytes)) = some (some (.agg #[.int .i64 0, .slice none 0 0, .int .i64 0]), 3, 40) := by kernel_rfl

/-- The graph ahead of the node's laying. -/
def pre (G : Gs) : Gs := { G with le := fr G, ns := if fr G = G.ns.length then G.ns ++ [nz] else G.ns }
theorem node_pre {G : Gs} (hf : fr G ≠ 65536) (m : Nat) : nodeG G m = { pre G with ns := (pre G).ns.set (fr G) ⟨3, List.replicate m (-1), 0⟩ } := by simp only [nodeG, hf, if_false, pre]
theorem pre_lt {G : Gs} (h : G.le ≤ G.ns.length) : fr G < (pre G).ns.length := by
  have := (fr_le h).2
  simp only [pre]
  split <;> simp <;> omega

theorem node_fin {w W1 W2 : World} {p g c m gq : Nat} {G : Gs} {B : Nat → Prop} {vl : Value} {SV : List Value} (hle : G.le ≤ G.ns.length) (hf : fr G ≠ 65536) (h1 : Gm W1 p (.slice (some ⟨g, 0, none⟩) (pre G).ns.length c) vl SV (pre G)) (ft : Ft (Nw B w) p (.slice (some ⟨g, 0, none⟩) (pre G).ns.length c) vl SV) (hX : Fx B w W1)
    (hE : Ext [] W1 W2) (hq : W1.heap.size ≤ gq) (hr : W2.heap[gq]? = some (.cells (List.replicate m (Value.int .i64 (-1))).toArray 3 (0, 0))) :
    GPost w p (nodeG G m) B (.tuple #[.int .i64 (fr G : Nat), .int .i64 0]) (.returned (.tuple #[.int .i64 (fr G : Nat), .int .i64 0])) (((W2.setCell ⟨g, fr G * 3, none⟩ (.int .i64 3)).setCell ⟨g, fr G * 3 + 1, none⟩ (.slice (some ⟨gq, 0, none⟩) m m)).setCell ⟨g, fr G * 3 + 2, none⟩ (.int .i64 0)) := by
  have h2 := h1.keepD ft hE
  have h3 := h2.setn (fr G) ⟨3, List.replicate m (-1), 0⟩ (.slice (some ⟨gq, 0, none⟩) m m) (pre_lt hle) (.inr ⟨gq, by simp, by simpa using hr⟩) (fun k hk => by
    simp [Value.ownBlock] at hk
    subst hk
    refine ⟨fun q => ?_, fun j q => ?_⟩
    · have := h1.lin.lt _ q; omega
    · have := (h1.slAll j).lt _ q; omega)
  rw [node_pre hf]
  have hXs := hX.size
  refine ⟨rfl, ⟨_, _, _, h3, ft.p, ft.n, ft.l, fun j k => ?_⟩, ?_⟩
  · rw [svAt_set (by rw [h1.svl]; exact pre_lt hle)]
    split
    · intro q; simp [Value.ownBlock] at q; subst q; exact .inr (by omega)
    · exact ft.s j k
  · refine (hX.trans (C := Nw B w) (Fx.of_ext0 hE) (fun k q => q)).trans (C := Nw B w) (Fx.of_ext (S := [g]) (((Ext.setCell [g] W2 _ _ (by simp)).trans (Ext.setCell [g] _ _ _ (by simp))).trans (Ext.setCell [g] _ _ _ (by simp))) (by simp; exact .inl (ft.n g rfl))) (fun k q => q)

set_option maxHeartbeats 4000000 in
theorem node_any (p : Nat) (G : Gs) (B : Nat → Prop) (x : Int) (w : World) (h : Gr w p G B) (hI : Iv G) :
    Calls Tryz.prog 128 #[.pointer (some ⟨p, 0, none⟩), .int .i64 x] w (GPost w p (node G x).1 B (.tuple #[.int .i64 (node G x).2.1, .int .i64 (node G x).2.2])) := by
  have hlen := hI.len
  have hle := hI.le
  by_cases hx : x < 0
  · rw [show node G x = (G, 0, 2) by simp [node, hx]]
    have HF := hid (gr_same h (.tuple #[.int .i64 0, .int .i64 2]))
    clear h hI
    go_enter Tryz.func128, Tryz.ntmps128
    go_wp2_with fail
    go_ret2
    exact HF.out
  by_cases hx2 : 8192 < x
  · rw [show node G x = (G, 0, 2) by simp [node, hx2]]
    have HF := hid (gr_same h (.tuple #[.int .i64 0, .int .i64 2]))
    clear h hI
    go_enter Tryz.func128, Tryz.ntmps128
    go_wp2_with fail
    go_ret2
    exact HF.out
  obtain ⟨m, rfl⟩ : ∃ m : Nat, x = m := ⟨x.toNat, by omega⟩
  have K := free_any p G B w h hle hlen
  have hfl := fr_le hle
  by_cases hf : fr G = 65536
  · rw [show node G m = ({ G with le := fr G }, 0, 7) by simp only [node, nodeG]; rw [if_neg (by omega), if_pos hf, if_pos hf]]
    have hf' : ((fr G : Int) == 65536) = true := by simp [hf]
    clear h hI hf
    go_enter Tryz.func128, Tryz.ntmps128
    go_wp2_with fail
    refine K.mono ?_
    clear K
    rintro e w1 ⟨rfl, hG, hX⟩
    have HG := hid hG
    have HX := hid hX
    clear hG hX
    go_wp2_with fail
    go_ret2
    exact ⟨rfl, HG.out, HX.out⟩
  · rw [show node G m = (nodeG G m, (fr G : Int), 0) by simp only [node]; rw [if_neg (by omega), if_neg hf]; simp]
    have hf' : ((fr G : Int) == 65536) = false := by simp; omega
    have HFin : Hid (∀ {W1 W2 : World} {g c gq : Nat} {vl : Value} {SV : List Value}, Gm W1 p (.slice (some ⟨g, 0, none⟩) (pre G).ns.length c) vl SV (pre G) → Ft (Nw B w) p (.slice (some ⟨g, 0, none⟩) (pre G).ns.length c) vl SV → Fx B w W1 → Ext [] W1 W2 → W1.heap.size ≤ gq → W2.heap[gq]? = some (.cells (List.replicate m (Value.int .i64 (-1))).toArray 3 (0, 0)) →
      GPost w p (nodeG G m) B (.tuple #[.int .i64 (fr G : Nat), .int .i64 0]) (.returned (.tuple #[.int .i64 (fr G : Nat), .int .i64 0])) (((W2.setCell ⟨g, fr G * 3, none⟩ (.int .i64 3)).setCell ⟨g, fr G * 3 + 1, none⟩ (.slice (some ⟨gq, 0, none⟩) m m)).setCell ⟨g, fr G * 3 + 2, none⟩ (.int .i64 0))) := fun h1 ft hX hE hq hr => node_fin hle hf h1 ft hX hE hq hr
    have hplt := pre_lt hle
    have HP : Hid ((pre G).le = fr G ∧ (pre G).ns = if fr G = G.ns.length then G.ns ++ [nz] else G.ns) := ⟨rfl, rfl⟩
    have HPre : Hid (pre G = { G with le := fr G, ns := if fr G = G.ns.length then G.ns ++ [nz] else G.ns }) := rfl
    have hm : m ≤ 8192 := by omega
    have hpl2 : (pre G).ns.length ≤ 65536 := by
      simp only [pre]
      split
      · simp; omega
      · exact hlen
    clear h hI
    go_enter Tryz.func128, Tryz.ntmps128
    go_wp2_with fail
    refine K.mono ?_
    clear K
    rintro e w1 ⟨rfl, ⟨vn, vl, SV, hm1, ft⟩, hX⟩
    have f0 := hm1.flds.1
    obtain ⟨an, cn, rfl, hcn⟩ := own_slice hm1.row
    simp only at f0 hcn
    by_cases hfe : fr G = G.ns.length
    · have hfe' : ((fr G : Int) == (G.ns.length : Int)) = true := by simp [hfe]
      have hpe : pre G = { G with le := fr G, ns := G.ns ++ [nz] } := by rw [HPre.out, if_pos hfe]
      have z0 := hm1.froz 0
      obtain ⟨i72, hi72, hz72, hs72, hy72⟩ := info_parts info229
      have hEa := Ext.alloc [] w1 (.cells #[.int .i64 0, .slice none 0 0, .int .i64 0] 229)
      obtain ⟨v', w2, hr, ho2, hg2, _, hat⟩ := run_append_own_at (P := Tryz.prog) (w1.alloc (.cells #[.int .i64 0, .slice none 0 0, .int .i64 0] 229)) 0 108 108 229 i72 _ 3 40 Tryz.underlying108 hi72 hz72 hs72 hy72 rfl (by decide) _ _ _ (own_keep0 hm1.row hEa) ⟨w1.heap.size, 0, none⟩ 1 1 [.int .i64 0, .slice none 0 0, .int .i64 0] rfl (fun j u hu => by rw [Addr.add_lit, cell_of_row _ _ _ _ _ _ (heap_alloc_new w1 _), Nat.zero_add, ← hu]; simp) (by simp [Value.oneCell']) (by unfold maxLen; simp only; omega) (by simp only; omega) (Nat.zero_le _)
      have hX2 := ext_grown hg2
      have hE12 : Ext (Value.slice an G.ns.length cn).ownBlock.toList w1 w2 := (hEa.mono (by simp)).trans hX2
      simp only at ho2
      rw [show ncs G.ns SV ++ [Value.int .i64 0, .slice none 0 0, .int .i64 0] = ncs (G.ns ++ [nz]) (SV ++ [.slice none 0 0]) by rw [ncs_snoc _ _ _ _ hm1.svl]; rfl] at ho2
      have hm2 := hm1.rown (G := { G with le := fr G }) hE12 ho2
      have hb2 : w2.heap[p]? = _ := hE12.keep hm1.blk (by simpa using hm1.np)
      have k0 : w2.cell? ⟨p, 0, none⟩ = some (.slice an G.ns.length cn) := by rw [cell_of_row _ _ _ _ _ _ hb2]; rfl
      have zz : w2.frozen? ⟨p, 0, none⟩ = false := frozen_of_row _ _ _ _ _ hb2
      obtain ⟨g, c2, rfl, _⟩ := ho2.form (by omega)
      rw [← hpe] at hm2
      have hpn : (pre G).ns.length = G.ns.length + 1 := by rw [hpe]; simp
      have HM : Hid (Gm (w2.setCell ⟨p, 0, none⟩ (.slice (some ⟨g, 0, none⟩) (G.ns.length + 1) c2)) p (.slice (some ⟨g, 0, none⟩) (pre G).ns.length c2) vl (SV ++ [.slice none 0 0]) (pre G)) := by rw [hpn]; exact hm2
      have HT : Hid (Ft (Nw B w) p (.slice (some ⟨g, 0, none⟩) (pre G).ns.length c2) vl (SV ++ [.slice none 0 0])) := by
        refine ⟨ft.p, fun k hk => ?_, ft.l, fun j k hk => ?_⟩
        · simp [Value.ownBlock] at hk
          subst hk
          rcases hat with q | q
          · exact ft.n g (by rw [← q]; rfl)
          · simp [Value.ownBlock] at q
            have := hX.size
            exact .inr (by omega)
        · by_cases q : j < SV.length
          · refine ft.s j k ?_
            rw [← hk]; simp [svAt, List.getD, List.getElem?_append_left q]
          · exfalso
            by_cases e : j = SV.length
            · subst e; simp [svAt, List.getD, Value.ownBlock] at hk
            · rw [svAt_out (by simp; omega)] at hk; simp [Value.ownBlock] at hk
      have HXX : Hid (Fx B w (w2.setCell ⟨p, 0, none⟩ (.slice (some ⟨g, 0, none⟩) (G.ns.length + 1) c2))) := by
        refine hX.trans (C := Nw B w) (Fx.of_ext (S := p :: (Value.slice an G.ns.length cn).ownBlock.toList) ((hE12.mono (by simp; intro a ha; exact .inr ha)).trans (Ext.setCell _ _ _ _ (by simp))) ?_) (fun k q => q)
        intro k hk
        simp only [List.mem_cons, Option.mem_toList] at hk
        rcases hk with rfl | hk
        · exact .inl ft.p
        · exact .inl (ft.n k hk)
      have hlt : (fr G : Int) < ((G.ns.length + 1 : Nat) : Int) := by omega
      have hbnd : G.ns.length < 65536 := by omega
      clear hm1 hm2 ft hX hEa ho2 hg2 hat hX2 hE12 hb2 hi72 hz72 hs72 hy72 hpe HP HPre hpn hfe
      go_upto_region 8 with (at_builtin; refine wpList_append_run rfl _ _ 108 rfl _ _ _ rfl rfl hr ?_)
      generalize hW1 : w2.setCell ⟨p, 0, none⟩ _ = W1 at *
      clear hW1 hr k0 zz f0 z0
      obtain ⟨f0, _⟩ := HM.out.flds
      obtain ⟨g', c', hv, hc, hgp, hgl, c0, c1, c2', cf⟩ := HM.out.node hplt
      simp only [Value.slice.injEq, Option.some.injEq, Addr.mk.injEq, and_true, true_and] at hv
      obtain ⟨rfl, rfl⟩ := hv
      have cf0 := cf (fr G * 3)
      have cf1 := cf (fr G * 3 + 1)
      have cf2 := cf (fr G * 3 + 2)
      have hlt2 : (fr G : Int) < (pre G).ns.length := by omega
      have hpW : p < W1.heap.size := lt_of_heap HM.out.blk
      generalize svAt _ (fr G) = sv0 at *
      generalize (ndAt (pre G).ns (fr G)).c = cc0 at *
      generalize (ndAt (pre G).ns (fr G)).k = kk0 at *
      have HFin2 := hid (fun (W2 : World) (gq : Nat) (hE : Ext [] W1 W2) (hq : W1.heap.size ≤ gq) (hr : W2.heap[gq]? = some (.cells (List.replicate m (Value.int .i64 (-1))).toArray 3 (0, 0))) => HFin.out HM.out HT.out HXX.out hE hq hr)
      have KR := repeat_any W1.heap.size m (W1.alloc (.cells #[.int .i64 (-1)] 3)).drew (cell_of_row _ W1.heap.size 0 _ _ _ (heap_alloc_new W1 (.cells #[.int .i64 (-1)] 3))) (by omega)
      have hEW : Ext [] W1 (W1.alloc (.cells #[.int .i64 (-1)] 3)).drew := (Ext.alloc [] _ _).trans (Ext.drew [] _)
      clear HM HT HXX HFin cf hc
      generalize (pre G).ns.length = n1 at *
      generalize fr G = fn at *
      have HC : Hid (∀ W2, Ext [] (W1.alloc (.cells #[.int .i64 (-1)] 3)).drew W2 → W2.cell? ⟨g, fn * 3, none⟩ = some (.int .i64 cc0) ∧ W2.cell? ⟨g, fn * 3 + 1, none⟩ = some sv0 ∧ W2.cell? ⟨g, fn * 3 + 2, none⟩ = some (.int .i64 kk0) ∧ W2.frozen? ⟨g, fn * 3, none⟩ = false ∧ W2.frozen? ⟨g, fn * 3 + 1, none⟩ = false ∧ W2.frozen? ⟨g, fn * 3 + 2, none⟩ = false) := fun W2 hE2 => by
        have hE3 := hEW.trans hE2
        have hbk := hE3.block g hgl (by simp)
        exact ⟨hE3.cell c0 (by simp), hE3.cell c1 (by simp), hE3.cell c2' (by simp), (World.frozen?_of_block (a := ⟨g, fn * 3, none⟩) hbk).trans cf0, (World.frozen?_of_block (a := ⟨g, fn * 3 + 1, none⟩) hbk).trans cf1, (World.frozen?_of_block (a := ⟨g, fn * 3 + 2, none⟩) hbk).trans cf2⟩
      go_region_held3 (fun w' => w'.cell? ⟨p, 0, none⟩ = some (.slice (some ⟨g, 0, none⟩) n1 c2))
        (first | exact hE2.cell (hEW.cell f0 (by simp)) (by simp) | go_keep)
        (first | (go_at_call 162; refine KR.mono ?_; rintro e W2 ⟨gq, rfl, hgq, hrow, hE2⟩; obtain ⟨d0, d1, d2, e0, e1, e2⟩ := HC.out W2 hE2) | fail "no arm")
      have HF := hid (HFin2.out W2 gq (hEW.trans hE2) (Nat.le_trans hEW.size hgq) hrow)
      clear hrow hE2 HFin2 HC d0 d1 d2 e0 e1 e2 hEW KR
      go_wp2_with fail
      go_ret2
      exact HF.out
    · have hfe' : ((fr G : Int) == (G.ns.length : Int)) = false := by simp; omega
      have hpe : pre G = { G with le := fr G } := by rw [HPre.out, if_neg hfe]
      have hpn : (pre G).ns.length = G.ns.length := by rw [hpe]
      obtain ⟨g, c2, hv, _⟩ := hm1.row.form (by simp only; omega)
      simp only [Value.slice.injEq, true_and] at hv
      obtain ⟨rfl, rfl⟩ := hv
      have HM : Hid (Gm w1 p (.slice (some ⟨g, 0, none⟩) (pre G).ns.length cn) vl SV (pre G)) := by rw [hpn, hpe]; exact hm1
      have HT : Hid (Ft (Nw B w) p (.slice (some ⟨g, 0, none⟩) (pre G).ns.length cn) vl SV) := by rw [hpn]; exact ft
      have HXX := hid hX
      rw [← hpn] at f0 hcn hfe'
      clear hm1 ft hX hpe HP HPre hfe hpn
      go_upto_region 8 with fail
      generalize hW1 : w1 = W1 at *
      clear hW1 f0
      obtain ⟨f0, _⟩ := HM.out.flds
      obtain ⟨g', c', hv, hc, hgp, hgl, c0, c1, c2', cf⟩ := HM.out.node hplt
      simp only [Value.slice.injEq, Option.some.injEq, Addr.mk.injEq, and_true, true_and] at hv
      obtain ⟨rfl, rfl⟩ := hv
      have cf0 := cf (fr G * 3)
      have cf1 := cf (fr G * 3 + 1)
      have cf2 := cf (fr G * 3 + 2)
      have hlt2 : (fr G : Int) < (pre G).ns.length := by omega
      have hpW : p < W1.heap.size := lt_of_heap HM.out.blk
      generalize svAt _ (fr G) = sv0 at *
      generalize (ndAt (pre G).ns (fr G)).c = cc0 at *
      generalize (ndAt (pre G).ns (fr G)).k = kk0 at *
      have HFin2 := hid (fun (W2 : World) (gq : Nat) (hE : Ext [] W1 W2) (hq : W1.heap.size ≤ gq) (hr : W2.heap[gq]? = some (.cells (List.replicate m (Value.int .i64 (-1))).toArray 3 (0, 0))) => HFin.out HM.out HT.out HXX.out hE hq hr)
      have KR := repeat_any W1.heap.size m (W1.alloc (.cells #[.int .i64 (-1)] 3)).drew (cell_of_row _ W1.heap.size 0 _ _ _ (heap_alloc_new W1 (.cells #[.int .i64 (-1)] 3))) (by omega)
      have hEW : Ext [] W1 (W1.alloc (.cells #[.int .i64 (-1)] 3)).drew := (Ext.alloc [] _ _).trans (Ext.drew [] _)
      clear HM HT HXX HFin cf hc
      generalize (pre G).ns.length = n1 at *
      generalize fr G = fn at *
      have HC : Hid (∀ W2, Ext [] (W1.alloc (.cells #[.int .i64 (-1)] 3)).drew W2 → W2.cell? ⟨g, fn * 3, none⟩ = some (.int .i64 cc0) ∧ W2.cell? ⟨g, fn * 3 + 1, none⟩ = some sv0 ∧ W2.cell? ⟨g, fn * 3 + 2, none⟩ = some (.int .i64 kk0) ∧ W2.frozen? ⟨g, fn * 3, none⟩ = false ∧ W2.frozen? ⟨g, fn * 3 + 1, none⟩ = false ∧ W2.frozen? ⟨g, fn * 3 + 2, none⟩ = false) := fun W2 hE2 => by
        have hE3 := hEW.trans hE2
        have hbk := hE3.block g hgl (by simp)
        exact ⟨hE3.cell c0 (by simp), hE3.cell c1 (by simp), hE3.cell c2' (by simp), (World.frozen?_of_block (a := ⟨g, fn * 3, none⟩) hbk).trans cf0, (World.frozen?_of_block (a := ⟨g, fn * 3 + 1, none⟩) hbk).trans cf1, (World.frozen?_of_block (a := ⟨g, fn * 3 + 2, none⟩) hbk).trans cf2⟩
      go_region_held3 (fun w' => w'.cell? ⟨p, 0, none⟩ = some (.slice (some ⟨g, 0, none⟩) n1 cn))
        (first | exact hE2.cell (hEW.cell f0 (by simp)) (by simp) | go_keep)
        (first | (go_at_call 162; refine KR.mono ?_; rintro e W2 ⟨gq, rfl, hgq, hrow, hE2⟩; obtain ⟨d0, d1, d2, e0, e1, e2⟩ := HC.out W2 hE2) | fail "no arm")
      have HF := hid (HFin2.out W2 gq (hEW.trans hE2) (Nat.le_trans hEW.size hgq) hrow)
      clear hrow hE2 HFin2 HC d0 d1 d2 e0 e1 e2 hEW KR
      go_wp2_with fail
      go_ret2
      exact HF.out

end Go.Proofs.YtbpjmcjjambdkaaGreatDoor.Co

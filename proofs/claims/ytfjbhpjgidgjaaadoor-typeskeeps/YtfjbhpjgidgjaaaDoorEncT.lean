/-
  How the program writes tables; no statement is proved here.
-/
import Derived.Test.YtfjbhpjgidgjaaaDoorEnc
namespace Go.Proofs.YtfjbhpjgidgjaaaDoor
open Go.RowKit

theorem encFields_len : ∀ fs : List Int, (∀ f ∈ fs, 0 ≤ f ∧ f ≤ 2147483647) → (encFields fs).length ≤ 5 * fs.length
  | [], _ => by simp [encFields]
  | f :: r, h => by
    have h1 := h f (by simp)
    have h2 := encFields_len r (fun x hx => h x (by simp [hx]))
    have h3 := vb_len5 (n := f.toNat) (by omega)
    simp only [encFields, List.length_append, List.length_cons]
    omega
theorem encFields_snoc (fs : List Int) (k : Nat) (h : k < fs.length) : encFields (fs.take (k + 1)) = encFields (fs.take k) ++ vb (fs.getD k 0).toNat := by
  rw [take_snoc fs k 0 h, encFields_append]; simp [encFields]
theorem getD_mem {fs : List Int} {k : Nat} (h : k < fs.length) : fs.getD k 0 ∈ fs := by
  simp [List.getD, h]
theorem take_ok {fs : List Int} {k : Nat} (h : ∀ f ∈ fs, 0 ≤ f ∧ f ≤ 2147483647) : (encFields (fs.take k)).length ≤ 5 * fs.length := by
  have := encFields_len (fs.take k) (fun f hf => h f (List.mem_of_mem_take hf))
  simp at this
  omega

set_option maxRecDepth 100000 in
set_option maxHeartbeats 1000000 in
theorem fields_any (w0 w : World) (v : Value) (xs fs : List Int) (fa : Option Addr) (m fc : Nat) (hO : YOwn w0 w v xs) (hE : Ext [] w0 w) (hF : Is w0 fa fs) (hm : fs.length = m) (hl : xs.length ≤ 900000) (hm2 : m ≤ 16) (hb : ∀ f ∈ fs, 0 ≤ f ∧ f ≤ 2147483647) :
    Calls Tryd.prog 63 #[v, .slice fa m fc] w (YPost w0 w (xs ++ (vb m ++ encFields fs))) := by
  have K := num_any w0 w v xs m hO hE (by omega) (by omega)
  have HB := hid hb
  have HM := hid hm
  have HF := hid hF
  have hv := vb_len5 (n := m) (by omega)
  clear hO hE hF hm hb
  go_enter Tryd.func63, Tryd.ntmps63
  go_wp2_with fail
  refine K.mono ?_
  clear K
  rintro e w1 ⟨v1, rfl, hO1, hE1, hF1⟩
  have HN : Hid (YOwn w0 w1 v1 (xs ++ (vb m ++ encFields (fs.take 0))) ∧ Ext [] w0 w1 ∧ Fy w w1) := ⟨by simpa [encFields] using hO1, hE1, hF1⟩
  clear hO1 hE1 hF1
  go_wp2_with fail
  go_loopg [0, 14] m (fun g lv u wr => ∃ k : Nat, k + g = m ∧ u = .int .i64 (k : Nat) ∧ YOwn w0 wr lv (xs ++ (vb m ++ encFields (fs.take k))) ∧ Ext [] w0 wr ∧ Fy w wr)
  case atStart => exact ⟨0, by omega, rfl, HN.out⟩
  case round =>
    clear HN
    obtain ⟨k, hkg, rfl, hO, hE, hFy⟩ := hrel
    have HO := hid hO
    have HE := hid hE
    have HFy := hid hFy
    clear hO hE hFy
    cases gk with
    | zero =>
      have HFin : Hid (YPost w0 w (xs ++ (vb m ++ encFields fs)) (.returned u0) wr) := by
        have h1 := HO.out
        rw [List.take_of_length_le (by rw [HM.out]; omega)] at h1
        exact ⟨u0, rfl, h1, HE.out, HFy.out⟩
      have hkm : ¬ ((k : Int) < m) := by omega
      go_wp2_with fail
      go_ret
      exact HFin.out
    | succ g =>
      obtain ⟨b, o, rfl, hc⟩ := HF.out.at_ (by intro h; have := HM.out; rw [h] at this; simp at this; omega)
      have hck := HE.out.cell (hc k (by rw [HM.out]; omega)) (by simp)
      have hfk := HB.out _ (getD_mem (k := k) (by rw [HM.out]; omega))
      have HSn := hid (encFields_snoc fs k (by rw [HM.out]; omega))
      have HTk := hid (take_ok (k := k) HB.out)
      clear hc
      generalize fs.getD k 0 = x at *
      obtain ⟨hx0, hx1⟩ := hfk
      obtain ⟨y, rfl⟩ : ∃ y : Nat, x = y := ⟨x.toNat, by omega⟩
      have K := num_any w0 wr u0 _ y HO.out HE.out (by have := HTk.out; have := HM.out; simp; omega) (by omega)
      go_wp2_with fail
      refine K.mono ?_
      clear K
      rintro e w2 ⟨v2, rfl, hO2, hE2, hF2⟩
      have HN : Hid (YOwn w0 w2 v2 (xs ++ (vb m ++ encFields (fs.take (k + 1)))) ∧ Ext [] w0 w2 ∧ Fy w w2) := ⟨by rw [HSn.out]; simpa using hO2, hE2, HFy.out.trans hF2⟩
      clear hO2 hE2 hF2
      go_wp2_with fail
      go_roundg g
      case measure => omega
      case rel => exact ⟨k + 1, by omega, by go_num, HN.out⟩

/-- The bytes of a part. -/
def partB (t : Ty) (j : Nat) : List Int := if has t.kind j then (if j = 0 then vb t.key.toNat else if j = 1 then vb t.elem.toNat else if j = 2 then vb t.len.toNat else vb t.fields.length ++ encFields t.fields) else []
def encP (t : Ty) : Nat → List Int
  | 0 => []
  | j + 1 => encP t j ++ partB t j
theorem encTy_parts (t : Ty) : encTy t = vb t.kind.toNat ++ encP t 4 := by
  unfold encTy
  simp only [encP, partB, has]
  by_cases h5 : t.kind = 5 ∨ t.kind = 10
  · have e : (t.kind == 6) = false ∧ (t.kind == 9) = false ∧ (t.kind == 8) = false ∧ ((t.kind == 5 || t.kind == 6 || t.kind == 9 || t.kind == 10) = true) := by
      rcases h5 with h | h <;> rw [h] <;> decide
    rw [if_pos h5]
    simp [e]
    intro a b
    exfalso; omega
  · rw [if_neg h5]
    by_cases h6 : t.kind = 6
    · simp [h6]
    · rw [if_neg h6]
      by_cases h8 : t.kind = 8
      · simp [h8]
      · rw [if_neg h8]
        by_cases h9 : t.kind = 9
        · simp [h9]
        · have e5 : t.kind ≠ 5 := fun h => h5 (.inl h)
          have e10 : t.kind ≠ 10 := fun h => h5 (.inr h)
          simp [e5, e10, h6, h8, h9]

/-- A type of a sound table. -/
structure Small (t : Ty) : Prop where
  k0 : 1 ≤ t.kind
  k1 : t.kind ≤ 10
  e0 : 0 ≤ t.elem
  e1 : t.elem ≤ 2147483647
  y0 : 0 ≤ t.key
  y1 : t.key ≤ 2147483647
  l0 : 0 ≤ t.len
  l1 : t.len ≤ 2147483647
  f0 : t.fields.length ≤ 16
  f1 : ∀ f ∈ t.fields, 0 ≤ f ∧ f ≤ 2147483647

theorem Small.part {t : Ty} (h : Small t) (j : Nat) : (partB t j).length ≤ 100 := by
  unfold partB
  have h1 := vb_len5 (n := t.key.toNat) (by have := h.y1; omega)
  have h2 := vb_len5 (n := t.elem.toNat) (by have := h.e1; omega)
  have h3 := vb_len5 (n := t.len.toNat) (by have := h.l1; omega)
  have h4 := vb_len5 (n := t.fields.length) (by have := h.f0; omega)
  have h5 := encFields_len t.fields h.f1
  have h6 := h.f0
  split
  · split
    · omega
    · split
      · omega
      · split
        · omega
        · simp; omega
  · simp
theorem Small.encP {t : Ty} (h : Small t) : ∀ j, (encP t j).length ≤ 100 * j
  | 0 => by simp [YtfjbhpjgidgjaaaDoor.encP]
  | j + 1 => by
    have h1 := h.encP j
    have h2 := h.part j
    simp only [YtfjbhpjgidgjaaaDoor.encP, List.length_append]
    omega

set_option maxRecDepth 100000 in
set_option maxHeartbeats 1000000 in
theorem type_any (w0 w : World) (v : Value) (xs : List Int) (t : Ty) (fa : Option Addr) (fc : Nat) (hO : YOwn w0 w v xs) (hE : Ext [] w0 w) (hF : Is w0 fa t.fields) (hS : Small t) (hl : xs.length ≤ 800000) (hG : Gl w0) :
    Calls Tryd.prog 43 #[v, tyVal t fa fc] w (YPost w0 w (xs ++ encTy t)) := by
  have hE0 := Ext.alloc [] w (.cells #[.int .i64 t.kind, .int .i64 t.elem, .int .i64 t.key, .int .i64 t.len, .slice fa t.fields.length fc] 48)
  obtain ⟨kd, hkd⟩ : ∃ kd : Nat, t.kind = kd := ⟨t.kind.toNat, by have := hS.k0; omega⟩
  have hk0 := hS.k0
  have hk1 := hS.k1
  rw [hkd] at hk0 hk1
  have hone : OneAt (w.alloc (.cells #[.int .i64 t.kind, .int .i64 t.elem, .int .i64 t.key, .int .i64 t.len, .slice fa t.fields.length fc] 48)) w.heap.size t fa fc := heap_alloc_new w _
  have K := num_any w0 _ v xs kd (own_keep0 hO hE0) (hE.trans hE0) (by omega) (by omega)
  have HFy0 := hid (Fy.of hE0)
  have HOne := hid hone
  have HKd := hid hkd
  have HEnc := hid (encTy_parts t)
  have HS := hid hS
  have HF := hid hF
  have HG := hid hG
  have hv := vb_len5 (n := kd) (by omega)
  obtain ⟨q, hq⟩ : ∃ q, q = w.heap.size := ⟨_, rfl⟩
  clear hO hE hF hS hG hE0 hone
  unfold tyVal
  rw [hkd] at K HFy0 HOne ⊢
  clear hkd
  go_enter Tryd.func43, Tryd.ntmps43
  go_wp2_with fail
  refine K.mono ?_
  clear K
  rintro e w1 ⟨v1, rfl, hO1, hE1, hF1⟩
  have HN : Hid (YOwn w0 w1 v1 (xs ++ (vb kd ++ encP t 0)) ∧ Ext [] w0 w1 ∧ Fy w w1 ∧ OneAt w1 w.heap.size t fa fc) := ⟨by simpa [encP] using hO1, hE1, HFy0.out.trans hF1, hF1 _ _ _ _ (by decide) HOne.out⟩
  clear hO1 hE1 hF1 HFy0 HOne
  go_wp2_with fail
  go_loopg [0, 11] 4 (fun r lv u wr => ∃ j : Nat, j + r = 4 ∧ u = .int .i64 (j : Nat) ∧ YOwn w0 wr lv (xs ++ (vb kd ++ encP t j)) ∧ Ext [] w0 wr ∧ Fy w wr ∧ OneAt wr w.heap.size t fa fc)
  case atStart => exact ⟨0, rfl, rfl, HN.out⟩
  case round =>
    clear HN
    obtain ⟨j, hjr, rfl, hO, hE, hFy, hone⟩ := hrel
    have HO := hid hO
    have HE := hid hE
    have HFy := hid hFy
    have HOne := hid hone
    obtain ⟨c0, c1, c2, c3, c4, cf⟩ := hone.cells
    rw [HKd.out] at c0
    have HPl := hid (HS.out.encP j)
    clear hO hE hFy hone
    cases gk with
    | zero =>
      obtain rfl : j = 4 := by omega
      have HFin : Hid (YPost w0 w (xs ++ encTy t) (.returned u0) wr) := by
        refine ⟨u0, rfl, ?_, HE.out, HFy.out⟩
        rw [HEnc.out, HKd.out]
        exact HO.out
      go_wp2_with fail
      go_ret
      exact HFin.out
    | succ r =>
      have K59 := hasPart_any kd j wr ⟨hk0, hk1⟩ (by omega) (HG.out.keep0 HE.out)
      cases hh : has kd j
      · rw [hh] at K59
        have HP : Hid (partB t j = []) := by show _ = _; unfold partB; rw [HKd.out, hh]; rfl
        have HN : Hid (YOwn w0 wr u0 (xs ++ (vb kd ++ encP t (j + 1)))) := by
          have := HO.out
          show YOwn w0 wr u0 (xs ++ (vb kd ++ (encP t j ++ partB t j)))
          rw [HP.out, List.append_nil]; exact this
        clear hh
        go_wp2_with (go_at_call 59; refine met K59 ?_)
        go_roundg r
        case measure => omega
        case rel => exact ⟨j + 1, by omega, by go_num, HN.out, HE.out, HFy.out, HOne.out⟩
      · rw [hh] at K59
        have HH := hid hh
        clear hh
        rcases (by omega : j ≤ 2 ∨ j = 3) with hj | rfl
        · have K60 := numberOf_any w.heap.size j wr hj
          have hjn : ((j : Int) == 3) = false := beq_false_of_ne (by omega)
          obtain ⟨x, hx1, hx2, hx3, hx4⟩ : ∃ x : Nat, wr.cell? ⟨w.heap.size, slot j, none⟩ = some (.int .i64 (x : Int)) ∧ Hid (partB t j = vb x) ∧ x ≤ 2147483647 ∧ True := by
            have s := HS.out
            have s1 := s.e0; have s2 := s.e1; have s3 := s.y0; have s4 := s.y1; have s5 := s.l0; have s6 := s.l1
            rcases (by omega : j = 0 ∨ j = 1 ∨ j = 2) with rfl | rfl | rfl
            · refine ⟨t.key.toNat, ?_, ?_, by omega, trivial⟩
              · rw [show ((t.key.toNat : Nat) : Int) = t.key by omega]; exact c2
              · show partB t 0 = _; unfold partB; rw [HKd.out, HH.out]; rfl
            · refine ⟨t.elem.toNat, ?_, ?_, by omega, trivial⟩
              · rw [show ((t.elem.toNat : Nat) : Int) = t.elem by omega]; exact c1
              · show partB t 1 = _; unfold partB; rw [HKd.out, HH.out]; rfl
            · refine ⟨t.len.toNat, ?_, ?_, by omega, trivial⟩
              · rw [show ((t.len.toNat : Nat) : Int) = t.len by omega]; exact c3
              · show partB t 2 = _; unfold partB; rw [HKd.out, HH.out]; rfl
          have K42 := num_any w0 wr u0 _ x HO.out HE.out (by have := HPl.out; simp; omega) hx3
          clear hx4 c1 c2 c3 c4
          go_wp2_with (first | (go_at_call 59; refine met K59 ?_) | (go_at_call 60; refine met K60 ?_))
          refine K42.mono ?_
          clear K42 K59 K60
          rintro e w2 ⟨v2, rfl, hO2, hE2, hF2⟩
          have HN : Hid (YOwn w0 w2 v2 (xs ++ (vb kd ++ encP t (j + 1))) ∧ Ext [] w0 w2 ∧ Fy w w2 ∧ OneAt w2 w.heap.size t fa fc) := by
            refine ⟨?_, hE2, HFy.out.trans hF2, hF2 _ _ _ _ (by decide) HOne.out⟩
            show YOwn w0 w2 v2 (xs ++ (vb kd ++ (encP t j ++ partB t j)))
            rw [hx2.out]; simpa using hO2
          clear hO2 hE2 hF2
          go_wp2_with fail
          go_roundg r
          case measure => omega
          case rel => exact ⟨j + 1, by omega, by go_num, HN.out⟩
        · have HPt : Hid (partB t 3 = vb t.fields.length ++ encFields t.fields) := by show _ = _; unfold partB; rw [HKd.out, HH.out]; rfl
          have K63 := fields_any w0 wr u0 _ t.fields fa t.fields.length fc HO.out HE.out HF.out rfl (by have := HPl.out; simp; omega) HS.out.f0 HS.out.f1
          clear c1 c2 c3
          go_wp2_with (go_at_call 59; refine met K59 ?_)
          refine K63.mono ?_
          clear K63 K59
          rintro e w2 ⟨v2, rfl, hO2, hE2, hF2⟩
          have HN : Hid (YOwn w0 w2 v2 (xs ++ (vb kd ++ encP t 4)) ∧ Ext [] w0 w2 ∧ Fy w w2 ∧ OneAt w2 w.heap.size t fa fc) := by
            refine ⟨?_, hE2, HFy.out.trans hF2, hF2 _ _ _ _ (by decide) HOne.out⟩
            show YOwn w0 w2 v2 (xs ++ (vb kd ++ (encP t 3 ++ partB t 3)))
            rw [HPt.out]; simpa using hO2
          clear hO2 hE2 hF2
          go_wp2_with fail
          go_roundg 0
          case measure => omega
          case rel => exact ⟨4, by omega, by go_num, HN.out⟩

theorem Within.bd {ts : List Ty} {n : Nat} {p : Int} (h : Within ts n p) (hn : n ≤ 64) : 0 ≤ p ∧ p ≤ 2147483647 := by
  have h1 := h.1; have h2 := h.2.1; omega

/-- The types of a sound table are small. -/
theorem Sound.small {ts : List Ty} (h : Sound ts) {i : Nat} (hi : i < ts.length) : Small (tyAt ts i) ∧ Writ (tyAt ts i) := by
  obtain ⟨hl, hok, _⟩ := h
  obtain ⟨⟨k0, k1, c1, c2, c3, c4⟩, f5, f6, f8, f9, f10⟩ := (hok i hi).1
  have hE : 0 ≤ (tyAt ts i).elem ∧ (tyAt ts i).elem ≤ 2147483647 := by
    rcases c1 with (h | h | h | h) | h
    · exact (f5 h).bd hl
    · exact (f6 h).2.bd hl
    · exact (f9 h).2.2.bd (by omega)
    · have := f10 h; omega
    · omega
  have hY : 0 ≤ (tyAt ts i).key ∧ (tyAt ts i).key ≤ 2147483647 := by
    rcases c2 with h | h
    · exact (f6 h).1.bd hl
    · omega
  have hL : 0 ≤ (tyAt ts i).len ∧ (tyAt ts i).len ≤ 2147483647 := by
    rcases c3 with h | h
    · have := f9 h; omega
    · omega
  have hF : (tyAt ts i).fields.length ≤ 16 ∧ ∀ f ∈ (tyAt ts i).fields, 0 ≤ f ∧ f ≤ 2147483647 := by
    rcases c4 with h | h
    · have := f8 h
      exact ⟨this.2.1, fun f hf => (this.2.2 f hf).bd (by omega)⟩
    · rw [h]; simp
  refine ⟨⟨k0, k1, hE.1, hE.2, hY.1, hY.2, hL.1, hL.2, hF.1, hF.2⟩, ⟨k0, k1, c1, c2, c3, c4⟩, hE.1, hE.2, hY.1, hY.2, hL.1, hL.2, ?_, hF.2⟩
  have := hF.1
  unfold lim
  omega

theorem encMany_take (ts : List Ty) (k : Nat) (h : k < ts.length) : encMany (ts.take (k + 1)) = encMany (ts.take k) ++ encTy (tyAt ts k) := by
  rw [take_snoc ts k zeroTy h, encMany_append]; simp [encMany, tyAt]
theorem encMany_len {ts : List Ty} (h : Sound ts) : ∀ k, k ≤ ts.length → (encMany (ts.take k)).length ≤ 500 * k
  | 0, _ => by simp [encMany]
  | k + 1, hk => by
    have h1 := encMany_len h k (by omega)
    have hs := (h.small (i := k) (by omega)).1
    have h2 := hs.encP 4
    have h3 := vb_len5 (n := (tyAt ts k).kind.toNat) (by have := hs.k1; omega)
    rw [encMany_take ts k (by omega), encTy_parts]
    simp only [List.length_append]
    omega

open Classical in
noncomputable def encR (ts : List Ty) : List Int := if Sound ts then encTab ts else []
theorem encR_yes {ts : List Ty} (h : Sound ts) : encR ts = encTab ts := by unfold encR; rw [if_pos h]
theorem encR_no {ts : List Ty} (h : ¬ Sound ts) : encR ts = [] := by unfold encR; rw [if_neg h]

def EncPost (w : World) (ts : List Ty) (e : Ending) (w' : World) : Prop := ∃ v, e = .returned (.tuple #[v, .int .i64 (chk ts)]) ∧ YOwn w w' v (encR ts) ∧ Ext [] w w'

set_option maxRecDepth 100000 in
set_option maxHeartbeats 1000000 in
theorem encode_any (a : Option Addr) (ts : List Ty) (n c : Nat) (w : World) (hT : Tab w a ts) (hn : ts.length = n) (hc : n ≤ c) (hG : Gl w) :
    Calls Tryd.prog 24 #[.slice a n c] w (EncPost w ts) := by
  have K := check_any a ts n c w hT hn hc hG
  have HT := hid hT
  have HN := hid hn
  have HG := hid hG
  clear hT hn hG
  go_enter Tryd.func24, Tryd.ntmps24
  go_wp2_with fail
  refine K.mono ?_
  clear K
  rintro e w1 ⟨rfl, hE1⟩
  have HE1 := hid hE1
  by_cases hs : Sound ts
  · have HS := hid hs
    have HChk := hid (chk_yes hs)
    rw [chk_yes hs]
    have hn64 : n ≤ 64 := by rw [← HN.out]; exact hs.1
    have K := num_any w w1 (.slice none 0 0) [] n (own_nil _ _ _ _) hE1 (by simp) (by omega)
    clear hE1 hs
    go_wp2_with fail
    refine K.mono ?_
    clear K
    rintro e w2 ⟨v2, rfl, hO2, hE2, _⟩
    have HN2 : Hid (YOwn w w2 v2 (vb n ++ encMany (ts.take 0)) ∧ Ext [] w w2) := ⟨by simpa [encMany] using hO2, hE2⟩
    have hv := vb_len5 (n := n) (by omega)
    clear hO2 hE2
    go_wp2_with fail
    go_loopg [5, 19] n (fun g lv u wr => ∃ k : Nat, k + g = n ∧ u = .int .i64 (k : Nat) ∧ YOwn w wr lv (vb n ++ encMany (ts.take k)) ∧ Ext [] w wr)
    case atStart => exact ⟨0, by omega, rfl, HN2.out⟩
    case round =>
      clear HN2
      obtain ⟨k, hkg, rfl, hO, hE⟩ := hrel
      have HO := hid hO
      have HE := hid hE
      clear hO hE
      cases gk with
      | zero =>
        have hkm : ¬ ((k : Int) < n) := by omega
        have HFin : Hid (EncPost w ts (.returned (.tuple #[u5, .int .i64 0])) wr) := by
          refine ⟨u5, by rw [HChk.out], ?_, HE.out⟩
          have h1 := HO.out
          rw [List.take_of_length_le (by rw [HN.out]; omega)] at h1
          rw [encR_yes HS.out]
          unfold encTab
          rw [HN.out]
          exact h1
        go_wp2_with fail
        go_ret2
        exact HFin.out
      | succ g =>
        obtain ⟨b, o, rfl, hta⟩ := HT.out.addr (by rw [HN.out]; omega)
        obtain ⟨fa, fc, htt⟩ := hta k (by rw [HN.out]; omega)
        have HFo := hid htt.f
        obtain ⟨c0, c1, c2, c3, c4, _⟩ := htt.keep0 HE.out
        have hsm := (HS.out.small (i := k) (by rw [HN.out]; omega)).1
        have HTk := hid (encMany_take ts k (by rw [HN.out]; omega))
        have hel := encMany_len HS.out k (by rw [HN.out]; omega)
        have hE0 := Ext.alloc [] wr (.cells #[.int .i64 (tyAt ts k).kind, .int .i64 (tyAt ts k).elem, .int .i64 (tyAt ts k).key, .int .i64 (tyAt ts k).len, .slice fa (tyAt ts k).fields.length fc] 48)
        have K := type_any w _ u5 _ (tyAt ts k) fa fc (own_keep0 HO.out hE0) (HE.out.trans hE0) HFo.out.1 hsm (by simp; omega) HG.out
        generalize tyAt ts k = t at *
        unfold tyVal at K
        clear hta htt hE0 hsm hel
        go_wp2_with fail
        refine K.mono ?_
        clear K
        rintro e w3 ⟨v3, rfl, hO3, hE3, _⟩
        have HN3 : Hid (YOwn w w3 v3 (vb n ++ encMany (ts.take (k + 1))) ∧ Ext [] w w3) := ⟨by rw [HTk.out, ← List.append_assoc]; exact hO3, hE3⟩
        clear hO3 hE3
        go_wp2_with fail
        go_roundg g
        case measure => omega
        case rel => exact ⟨k + 1, by omega, by go_num, HN3.out⟩
  · have HFin : Hid (EncPost w ts (.returned (.tuple #[.slice none 0 0, .int .i64 1])) w1) := ⟨_, by rw [chk_no hs], by rw [encR_no hs]; exact own_nil _ _ _ _, HE1.out⟩
    rw [chk_no hs]
    clear hs hE1
    go_wp2_with fail
    go_ret2
    exact HFin.out

end Go.Proofs.YtfjbhpjgidgjaaaDoor

/-
  TParts, TCell, TTree, TPoint, TRefA: joined by program; no statement is proved here.
-/
import Derived.Test.YtbpjmcjjambdkaaGreatDoorZAC
import Derived.Maps.AppendAt
/-
  The parts of a type, as the statements' helper lists them; no statement is proved here.
-/
namespace Go.Proofs.YtbpjmcjjambdkaaGreatDoor.Ty
open Go.RowKit

def IPost (w : World) (xs : List Int) (e : Ending) (w' : World) : Prop := ∃ a c, e = .returned (.slice a xs.length c) ∧ w'.ownsRow w.heap.size 3 1 (.slice a xs.length c) xs.length (xs.map (Value.int .i64)) ∧ Ext [] w w'

theorem IPost.mk' {w w' : World} {v : Value} {xs : List Int} (h : w'.ownsRow w.heap.size 3 1 v xs.length (xs.map (Value.int .i64))) (hE : Ext [] w w') : IPost w xs (.returned v) w' := by
  obtain ⟨a, c, rfl, _⟩ := own_slice h
  exact ⟨a, c, rfl, h, hE⟩

set_option maxRecDepth 100000 in
set_option maxHeartbeats 1000000 in
theorem parts_any (t : Ty) (fa : Option Addr) (fc : Nat) (w : World) (hF : FOk w t fa) (h9 : t.kind = 9 → 0 ≤ t.len ∧ t.len ≤ 16) : Calls Tryz.prog 34 #[tyVal t fa fc] w (IPost w (parts t)) := by
  unfold tyVal
  by_cases k8 : t.kind = 8
  · have hpp : parts t = t.fields := by unfold parts; rw [if_pos k8]
    rw [hpp, k8]
    have hE1 := Ext.alloc [] w (.cells #[.int .i64 8, .int .i64 t.elem, .int .i64 t.key, .int .i64 t.len, .slice fa t.fields.length fc] 56)
    obtain ⟨v', w', hr, hO, hE, hX⟩ := app_own w _ hE1 29 29 3 _ 8 Tryz.underlying29 info3 rfl (by omega) (.slice none 0 0) 0 [] (own_nil _ _ _ _) fa t.fields.length fc (t.fields.map (Value.int .i64)) (by simp) (hF.1.keep0 hE1) (fun u hu => by obtain ⟨x, _, rfl⟩ := List.mem_map.1 hu; rfl) (by have := hF.2; omega)
    simp only [Nat.zero_add, List.nil_append] at hO
    have HX := hid (IPost.mk' hO hE)
    have hb := heap_alloc_new w (.cells #[.int .i64 8, .int .i64 t.elem, .int .i64 t.key, .int .i64 t.len, .slice fa t.fields.length fc] 56)
    obtain ⟨a', c', rfl, _⟩ := own_slice hO
    have e0 : w'.cell? ⟨w.heap.size, 0, none⟩ = some (.int .i64 8) := by
      rw [cell_of_row _ _ _ _ _ _ (hX.keep hb (by simp [Value.ownBlock]))]; rfl
    clear hO hE hE1 k8 hpp hF h9 hb hX
    go_enter Tryz.func34, Tryz.ntmps34
    go_wp2_with (at_builtin; refine wpList_append_run rfl _ _ 29 rfl _ _ _ rfl rfl hr ?_)
    go_ret
    exact HX.out
  by_cases k9 : t.kind = 9
  · obtain ⟨l0, l1⟩ := h9 k9
    obtain ⟨L, hL⟩ : ∃ L : Nat, t.len = L := ⟨t.len.toNat, by omega⟩
    have hpp : parts t = List.replicate L t.elem := by unfold parts; rw [if_neg k8, if_pos k9, hL]; rfl
    have hE1 := Ext.alloc [] w (.cells #[.int .i64 9, .int .i64 t.elem, .int .i64 t.key, .int .i64 L, .slice fa t.fields.length fc] 56)
    have hb := heap_alloc_new w (.cells #[.int .i64 9, .int .i64 t.elem, .int .i64 t.key, .int .i64 L, .slice fa t.fields.length fc] 56)
    rw [hpp, k9, hL]
    have hL16 : L ≤ 16 := by omega
    have HE1 := hid hE1
    have HB := hid hb
    clear hpp k8 k9 hL l0 l1 hF h9 hE1 hb
    go_enter Tryz.func34, Tryz.ntmps34
    go_wp2_with fail
    generalize w.alloc (.cells #[.int .i64 9, .int .i64 t.elem, .int .i64 t.key, .int .i64 L, .slice fa t.fields.length fc] 56) = w1 at *
    go_loopw [3, 4] (fun lv u wr => ∃ k : Nat, u = .int .i64 k ∧ k ≤ L ∧ wr.ownsRow w.heap.size 3 1 lv k ((List.replicate k t.elem).map (Value.int .i64)) ∧ Ext [] w wr ∧ wr.heap[w.heap.size]? = some (.cells #[.int .i64 9, .int .i64 t.elem, .int .i64 t.key, .int .i64 L, .slice fa t.fields.length fc] 56 (0, 0))) (fun _ u _ => (L - (intOf u)).toNat)
    case atStart => exact ⟨0, rfl, Nat.zero_le _, own_nil _ _ _ _, HE1.out, HB.out⟩
    case round =>
      obtain ⟨k, rfl, hkl, hO, hE, hb⟩ := hrel
      have c3 : wr.cell? ⟨w.heap.size, 3, none⟩ = some (.int .i64 L) := by rw [cell_of_row _ _ _ _ _ _ hb]; rfl
      have c1 : wr.cell? ⟨w.heap.size, 1, none⟩ = some (.int .i64 t.elem) := by rw [cell_of_row _ _ _ _ _ _ hb]; rfl
      by_cases hlt : k < L
      · have hE2 := Ext.alloc [] wr (.cells #[.int .i64 t.elem] 3)
        obtain ⟨v', w', hr, hO', hE', hX⟩ := app_own w _ (hE.trans hE2) 29 29 3 _ 8 Tryz.underlying29 info3 rfl (by omega) _ k _ (own_keep0 hO hE2) (some ⟨wr.heap.size, 0, none⟩) 1 1 [.int .i64 t.elem] rfl (vs_new wr 3 [.int .i64 t.elem]) (by simp [Value.oneCell']) (by omega)
        have hne := own_ne hO hb (by decide)
        have HB' := hid (hX.keep (hE2.keep hb (by simp)) (by simpa using hne))
        have HO' : Hid (w'.ownsRow w.heap.size 3 1 v' (k + 1) ((List.replicate (k + 1) t.elem).map (Value.int .i64))) := by
          show World.ownsRow _ _ _ _ _ _ _
          rw [List.replicate_succ', List.map_append]
          exact hO'
        have HE' := hid hE'
        clear hO hE hb hE2 hO' hE' hX hne
        go_wp2_with (at_builtin; refine wpList_append_run rfl _ _ 29 rfl _ _ _ rfl rfl hr ?_)
        go_roundw
        case rel => exact ⟨k + 1, by go_num, by omega, HO'.out, HE'.out, HB'.out⟩
        case measure => simp [intOf]; omega
      · obtain rfl : k = L := by omega
        have HX : Hid (IPost w (List.replicate k t.elem) (.returned u3) wr) := IPost.mk' (by rw [List.length_replicate]; exact hO) hE
        clear hO hE hb
        go_wp2_with fail
        go_ret
        exact HX.out
  · have hpp : parts t = [] := by unfold parts; rw [if_neg k8, if_neg k9]
    rw [hpp]
    have b8 : (t.kind == 8) = false := by simpa using k8
    have b9 : (t.kind == 9) = false := by simpa using k9
    clear hpp k8 k9 hF h9
    go_enter Tryz.func34, Tryz.ntmps34
    go_wp2_with fail
    go_ret
    exact ⟨none, 0, rfl, own_nil _ _ _ _, Ext.alloc _ _ _⟩

end Go.Proofs.YtbpjmcjjambdkaaGreatDoor.Ty

/-
  Values as trees of cells, how they lie in memory, and how large they are; no statement is proved here.
-/
namespace Go.Proofs.YtbpjmcjjambdkaaGreatDoor.Ty
open Go.RowKit

inductive Cl where
  | mk (n : Int) (s : ByteArray) (t : Int) (box : List Cl)

def Cl.n : Cl → Int | .mk n _ _ _ => n
def Cl.s : Cl → ByteArray | .mk _ s _ _ => s
def Cl.t : Cl → Int | .mk _ _ t _ => t
def Cl.box : Cl → List Cl | .mk _ _ _ b => b
theorem Cl.eta (c : Cl) : c = .mk c.n c.s c.t c.box := by cases c; rfl
theorem Cl.ext_iff {c d : Cl} : c = d ↔ c.n = d.n ∧ c.s = d.s ∧ c.t = d.t ∧ c.box = d.box := by
  cases c; cases d; simp [Cl.n, Cl.s, Cl.t, Cl.box]

def zeroCl : Cl := .mk 0 ⟨#[]⟩ 0 []
def cAt (l : List Cl) (i : Nat) : Cl := l.getD i zeroCl
theorem cAt_get {l : List Cl} {i : Nat} (h : i < l.length) : cAt l i = l[i] := by simp [cAt, h]
theorem cAt_mem {l : List Cl} {i : Nat} (h : i < l.length) : cAt l i ∈ l := by rw [cAt_get h]; exact List.getElem_mem h

mutual
def totC : Cl → Nat
  | .mk _ _ _ b => 1 + totL b
def totL : List Cl → Nat
  | [] => 0
  | c :: r => totC c + totL r
end
theorem totC_eq (c : Cl) : totC c = 1 + totL c.box := by cases c; rfl
theorem totL_append : ∀ a b : List Cl, totL (a ++ b) = totL a + totL b
  | [], b => by simp [totL]
  | c :: r, b => by rw [List.cons_append, totL, totL, totL_append r b]; omega
theorem totL_len : ∀ l : List Cl, l.length ≤ totL l
  | [] => by simp
  | c :: r => by have := totL_len r; rw [totL, totC_eq]; simp; omega
theorem take_c {l : List Cl} {k : Nat} (h : k < l.length) : l.take (k + 1) = l.take k ++ [cAt l k] := by rw [List.take_succ_eq_append_getElem h, cAt_get h]
theorem totL_take {l : List Cl} {k : Nat} (h : k < l.length) : totL (l.take (k + 1)) = totL (l.take k) + (1 + totL (cAt l k).box) := by
  rw [take_c h, totL_append]; simp [totL, totC_eq]
theorem totL_take_le (l : List Cl) (k : Nat) : totL (l.take k) ≤ totL l := by
  have := totL_append (l.take k) (l.drop k)
  rw [List.take_append_drop] at this; omega

/-- A cell in memory. -/
structure ClAt (w : World) (b o : Nat) (c : Cl) (ba : Option Addr) (bc : Nat) : Prop where
  c0 : w.cell? ⟨b, o, none⟩ = some (.int .u64 c.n)
  c1 : w.cell? ⟨b, o + 1, none⟩ = some (.string c.s)
  c2 : w.cell? ⟨b, o + 2, none⟩ = some (.int .i64 c.t)
  c3 : w.cell? ⟨b, o + 3, none⟩ = some (.slice ba c.box.length bc)
  cap : c.box.length ≤ bc
  n0 : 0 ≤ c.n ∧ c.n < 18446744073709551616
  t0 : -9223372036854775808 ≤ c.t ∧ c.t < 9223372036854775808
  s0 : c.s.size ≤ 140737488351232
theorem ClAt.keep0 {w w' : World} {b o : Nat} {c : Cl} {ba : Option Addr} {bc : Nat} (h : ClAt w b o c ba bc) (e : Ext [] w w') : ClAt w' b o c ba bc :=
  ⟨e.cell h.c0 (by simp), e.cell h.c1 (by simp), e.cell h.c2 (by simp), e.cell h.c3 (by simp), h.cap, h.n0, h.t0, h.s0⟩

/-- A list of cells in memory, with boxes of at most this depth. -/
def Cs : Nat → World → Option Addr → List Cl → Prop
  | 0, _, _, l => l = []
  | d + 1, w, a, l => l.length ≤ 2513169434843 ∧ (l = [] ∨ ∃ b o, a = some ⟨b, o, none⟩ ∧ ∀ i, i < l.length → ∃ ba bc, ClAt w b (o + i * 4) (cAt l i) ba bc ∧ Cs d w ba (cAt l i).box)

theorem Cs.keep0 : ∀ {d : Nat} {w w' : World} {a : Option Addr} {l : List Cl}, Cs d w a l → Ext [] w w' → Cs d w' a l
  | 0, _, _, _, _, h, _ => h
  | d + 1, w, w', a, l, h, e => by
    rcases h with ⟨hl, h | ⟨b, o, rfl, h⟩⟩
    · exact ⟨hl, .inl h⟩
    · refine ⟨hl, .inr ⟨b, o, rfl, fun i hi => ?_⟩⟩
      obtain ⟨ba, bc, hc, hb⟩ := h i hi
      exact ⟨ba, bc, hc.keep0 e, hb.keep0 e⟩
theorem Cs.len {d : Nat} {w : World} {a : Option Addr} {l : List Cl} (h : Cs d w a l) : l.length ≤ 2513169434843 := by
  cases d with
  | zero => rw [h]; simp
  | succ d => exact h.1
theorem Cs.nil (d : Nat) (w : World) (a : Option Addr) : Cs d w a [] := by
  cases d with
  | zero => rfl
  | succ d => exact ⟨by simp, .inl rfl⟩
theorem Cs.at_ {d : Nat} {w : World} {a : Option Addr} {l : List Cl} (h : Cs d w a l) (h0 : 0 < l.length) : ∃ d' b o, d = d' + 1 ∧ a = some ⟨b, o, none⟩ ∧ ∀ i, i < l.length → ∃ ba bc, ClAt w b (o + i * 4) (cAt l i) ba bc ∧ Cs d' w ba (cAt l i).box := by
  cases d with
  | zero => rw [h] at h0; simp at h0
  | succ d =>
    rcases h with ⟨_, rfl | ⟨b, o, rfl, h⟩⟩
    · simp at h0
    · exact ⟨d, b, o, rfl, rfl, h⟩
theorem Cs.mono : ∀ {d e : Nat} {w : World} {a : Option Addr} {l : List Cl}, Cs d w a l → d ≤ e → Cs e w a l
  | 0, e, w, a, l, h, _ => by rw [show l = [] from h]; exact Cs.nil e w a
  | d + 1, e, w, a, l, h, he => by
    obtain ⟨e, rfl⟩ : ∃ e', e = e' + 1 := ⟨e - 1, by omega⟩
    rcases h with ⟨hl, h | ⟨b, o, rfl, h⟩⟩
    · exact ⟨hl, .inl h⟩
    · refine ⟨hl, .inr ⟨b, o, rfl, fun i hi => ?_⟩⟩
      obtain ⟨ba, bc, hc, hb⟩ := h i hi
      exact ⟨ba, bc, hc, hb.mono (by omega)⟩
theorem cAt_sub {l : List Cl} {p q i : Nat} (hi : i < q - p) : cAt ((l.take q).drop p) i = cAt l (p + i) := by
  simp only [cAt, List.getD]
  rw [List.getElem?_drop, List.getElem?_take, if_pos (by omega)]
theorem Cs.sub {d : Nat} {w : World} {b o : Nat} {l : List Cl} (h : Cs d w (some ⟨b, o, none⟩) l) {p q : Nat} (hp : p ≤ q) (hq : q ≤ l.length) : Cs d w (some ⟨b, o + p * 4, none⟩) ((l.take q).drop p) := by
  have hl : ((l.take q).drop p).length = q - p := by simp; omega
  by_cases h0 : p = q
  · subst h0
    have : (l.take p).drop p = [] := by apply List.length_eq_zero_iff.1; omega
    rw [this]; exact Cs.nil _ _ _
  · obtain ⟨d', b', o', rfl, ha, hc⟩ := h.at_ (by omega)
    cases ha
    refine ⟨by have := h.len; omega, .inr ⟨b, o + p * 4, rfl, fun i hi => ?_⟩⟩
    rw [cAt_sub (by omega)]
    obtain ⟨ba, bc, h1, h2⟩ := hc (p + i) (by omega)
    exact ⟨ba, bc, by rw [show o + p * 4 + i * 4 = o + (p + i) * 4 by omega]; exact h1, h2⟩

/-- The number of cells, counted up to one more than may be. -/
def siz (l : List Cl) : Nat := min (totL l) 257

set_option maxRecDepth 100000 in
set_option maxHeartbeats 4000000 in
theorem count_any : ∀ (d : Nat) (a : Option Addr) (l : List Cl) (n c : Nat) (s : Nat) (w : World), Cs d w a l → l.length = n → s ≤ 257 →
    Calls Tryz.prog 88 #[.slice a n c, .int .i64 s] w fun e w' => e = .returned (.int .i64 (min (s + totL l) 257 : Nat)) ∧ w' = w := by
  intro d
  induction d with
  | zero =>
    intro a l n c s w hC hn hs
    obtain rfl : l = [] := hC
    obtain rfl : n = 0 := by simpa using hn.symm
    have e1 : min (s + totL []) 257 = s := by simp [totL]; omega
    rw [e1]
    have h0 : ¬ ((0 : Int) < 0) := by omega
    go_enter Tryz.func88, Tryz.ntmps88
    go_wp2_with fail
    go_loopw [1, 5] (fun p q wr => p = .int .i64 s ∧ q = .int .i64 0 ∧ wr = w) (fun _ _ _ => 0)
    case atStart => exact ⟨rfl, rfl, rfl⟩
    case round =>
      obtain ⟨rfl, rfl, rfl⟩ := hrel
      go_wp2_with fail
      go_ret
      exact ⟨rfl, rfl⟩
  | succ d ih =>
    intro a l n c s w hC hn hs
    have HC := hid hC
    have HN := hid hn
    have hl := hC.len
    have HIH := hid ih
    clear hC ih
    go_enter Tryz.func88, Tryz.ntmps88
    go_wp2_with fail
    go_loopw [1, 5] (fun p q wr => ∃ k : Nat, p = .int .i64 (min (s + totL (l.take k)) 257 : Nat) ∧ q = .int .i64 k ∧ k ≤ l.length ∧ wr = w) (fun _ q _ => (n - (intOf q)).toNat)
    case atStart => exact ⟨0, by simp [totL]; omega, rfl, by omega, rfl⟩
    case round =>
      obtain ⟨k, rfl, rfl, hk, rfl⟩ := hrel
      obtain ⟨m, hm⟩ : ∃ m, min (s + totL (l.take k)) 257 = m := ⟨_, rfl⟩
      rw [hm]
      have hm2 : m ≤ 257 := by omega
      by_cases hlt : k < l.length
      · obtain ⟨d', b, o, hd, rfl, hat⟩ := HC.out.at_ (by omega)
        obtain rfl : d' = d := by omega
        obtain ⟨ba, bc, hcl, hbx⟩ := hat k hlt
        have hc3 := hcl.c3
        have ht := totL_take hlt
        have hkn : (k : Int) < n := by have := HN.out; omega
        have hkn2 : k < n := by have := HN.out; omega
        by_cases hmc : m = 257
        · have e1 : Hid (min (s + totL l) 257 = 257) := by show _ = _; have := totL_take_le l k; omega
          have e2 : ¬ ((m : Int) ≤ 256) := by omega
          have e3 : decide ((m : Int) ≤ 256) = false := by simpa using e2
          clear hat hcl hbx ht hm hlt
          go_wp2_with fail
          go_ret
          exact ⟨by rw [e1.out]; rfl, rfl⟩
        · have e2 : (m : Int) ≤ 256 := by omega
          have K := HIH.out ba (cAt l k).box _ bc (m + 1) wr hbx rfl (by omega)
          have e4 : Hid (min (m + 1 + totL (cAt l k).box) 257 = min (s + totL (l.take (k + 1))) 257) := by show _ = _; omega
          have e5 : IntKind.wrap .i64 ((m : Int) + 1) = ((m + 1 : Nat) : Int) := by rw [IntKind.wrap_i64]; omega
          generalize (cAt l k).box.length = bn at *
          clear hat hcl hbx ht hm
          go_wp2_with (go_at_call 88; refine met K ?_)
          go_roundw
          case rel => exact ⟨k + 1, by rw [e4.out], by go_num, by omega, trivial⟩
          case measure => simp [intOf]; omega
      · obtain rfl : k = l.length := by omega
        have hkn : ¬ ((l.length : Int) < n) := by have := HN.out; omega
        have hm3 : Hid (min (s + totL l) 257 = m) := by rw [List.take_length] at hm; exact hm
        clear hm hlt
        have hd : decide ((l.length : Int) < n) = false := by simpa using hkn
        go_wp2_with fail
        go_ret
        exact ⟨by rw [hm3.out]; rfl, rfl⟩

theorem rsize_any (d : Nat) (a : Option Addr) (l : List Cl) (n c : Nat) (w : World) (hC : Cs d w a l) (hn : l.length = n) :
    Calls Tryz.prog 44 #[.slice a n c] w fun e w' => e = .returned (.int .i64 (siz l)) ∧ w' = w := by
  have K := count_any d a l n c 0 w hC hn (by omega)
  rw [Nat.zero_add] at K
  have e1 : siz l = min (totL l) 257 := rfl
  rw [e1]
  generalize hx : min (totL l) 257 = x at *
  have e2 : min (x : Int) 257 = x := by omega
  go_enter Tryz.func44, Tryz.ntmps44
  go_wp2_with (go_at_call 88; refine met K ?_)
  go_ret
  exact ⟨rfl, rfl⟩

end Go.Proofs.YtbpjmcjjambdkaaGreatDoor.Ty

/-
  Trees of cells of one's own, and the reference's Copy; no statement is proved here.
-/
namespace Go.Proofs.YtbpjmcjjambdkaaGreatDoor.Ty
open Go.RowKit

theorem info89 : (Tryz.prog.info? 89).map (fun i => (i.zero, i.size, i.bytes)) = some (some (.agg #[.int .u64 0, .string ⟨#[]⟩, .int .i64 0, .slice none 0 0]), 4, 56) := by kernel_rfl

theorem ClAt.keep {S : List Nat} {w w' : World} {b o : Nat} {c : Cl} {ba : Option Addr} {bc : Nat} (h : ClAt w b o c ba bc) (e : Ext S w w') (hb : b ∉ S) : ClAt w' b o c ba bc :=
  ⟨e.cell h.c0 hb, e.cell h.c1 hb, e.cell h.c2 hb, e.cell h.c3 hb, h.cap, h.n0, h.t0, h.s0⟩

/-- A list of cells in a row of its own, its boxes likewise, all of them in blocks with P. -/
def Co (P : Nat → Prop) : Nat → World → Option Addr → List Cl → Prop
  | 0, _, _, l => l = []
  | d + 1, w, a, l => l.length ≤ 2513169434843 ∧ (l = [] ∨ ∃ b cs, a = some ⟨b, 0, none⟩ ∧ P b ∧ w.heap[b]? = some (.cells cs 89 (0, 0)) ∧ ∀ i, i < l.length → ∃ ba bc, ClAt w b (0 + i * 4) (cAt l i) ba bc ∧ Co P d w ba (cAt l i).box)

theorem Co.nil (P : Nat → Prop) (d : Nat) (w : World) (a : Option Addr) : Co P d w a [] := by
  cases d with
  | zero => rfl
  | succ d => exact ⟨by simp, .inl rfl⟩
theorem Co.cs {P : Nat → Prop} : ∀ {d : Nat} {w : World} {a : Option Addr} {l : List Cl}, Co P d w a l → Cs d w a l
  | 0, _, _, _, h => h
  | d + 1, w, a, l, h => by
    rcases h with ⟨hl, h | ⟨b, cs, rfl, _, _, h⟩⟩
    · exact ⟨hl, .inl h⟩
    · refine ⟨hl, .inr ⟨b, 0, rfl, fun i hi => ?_⟩⟩
      obtain ⟨ba, bc, hc, hb⟩ := h i hi
      exact ⟨ba, bc, hc, hb.cs⟩
theorem Co.keep {P : Nat → Prop} {S : List Nat} : ∀ {d : Nat} {w w' : World} {a : Option Addr} {l : List Cl}, Co P d w a l → Ext S w w' → (∀ b ∈ S, ¬ P b) → Co P d w' a l
  | 0, _, _, _, _, h, _, _ => h
  | d + 1, w, w', a, l, h, e, hs => by
    rcases h with ⟨hl, h | ⟨b, cs, rfl, hp, hr, h⟩⟩
    · exact ⟨hl, .inl h⟩
    · have hb : b ∉ S := fun hm => hs b hm hp
      refine ⟨hl, .inr ⟨b, cs, rfl, hp, e.keep hr hb, fun i hi => ?_⟩⟩
      obtain ⟨ba, bc, hc, hx⟩ := h i hi
      exact ⟨ba, bc, hc.keep e hb, hx.keep e hs⟩
theorem Co.keep0 {P : Nat → Prop} {d : Nat} {w w' : World} {a : Option Addr} {l : List Cl} (h : Co P d w a l) (e : Ext [] w w') : Co P d w' a l := h.keep e (by simp)
theorem Co.imp {P Q : Nat → Prop} : ∀ {d : Nat} {w : World} {a : Option Addr} {l : List Cl}, Co P d w a l → (∀ b, b < w.heap.size → P b → Q b) → Co Q d w a l
  | 0, _, _, _, h, _ => h
  | d + 1, w, a, l, h, hq => by
    rcases h with ⟨hl, h | ⟨b, cs, rfl, hp, hr, h⟩⟩
    · exact ⟨hl, .inl h⟩
    · refine ⟨hl, .inr ⟨b, cs, rfl, hq b (lt_of_heap hr) hp, hr, fun i hi => ?_⟩⟩
      obtain ⟨ba, bc, hc, hx⟩ := h i hi
      exact ⟨ba, bc, hc, hx.imp hq⟩

/-- A cell's values. -/
def clRow (c : Cl) (g : Option Addr × Nat) : List Value := [.int .u64 c.n, .string c.s, .int .i64 c.t, .slice g.1 c.box.length g.2]
def crows (l : List Cl) (G : Nat → Option Addr × Nat) : Nat → List Value
  | 0 => []
  | k + 1 => crows l G k ++ clRow (cAt l k) (G k)
theorem length_crows (l : List Cl) (G : Nat → Option Addr × Nat) : ∀ k, (crows l G k).length = k * 4
  | 0 => rfl
  | k + 1 => by rw [crows, List.length_append, length_crows l G k]; simp [clRow]; omega
theorem crows_cong {l : List Cl} {G H : Nat → Option Addr × Nat} : ∀ k, (∀ i, i < k → G i = H i) → crows l G k = crows l H k
  | 0, _ => rfl
  | k + 1, h => by rw [crows, crows, crows_cong k (fun i hi => h i (by omega)), h k (by omega)]
theorem crows_get (l : List Cl) (G : Nat → Option Addr × Nat) : ∀ (n i j : Nat), i < n → j < 4 → (crows l G n)[i * 4 + j]? = (clRow (cAt l i) (G i))[j]?
  | 0, _, _, h, _ => by omega
  | n + 1, i, j, h, hj => by
    rw [crows]
    by_cases e : i = n
    · subst e
      rw [List.getElem?_append_right (by rw [length_crows]; omega), length_crows]
      congr 1; omega
    · rw [List.getElem?_append_left (by rw [length_crows]; omega)]
      exact crows_get l G n i j (by omega) hj

/-- What a cell's numbers and texts are. -/
def Rg (c : Cl) : Prop := (0 ≤ c.n ∧ c.n < 18446744073709551616) ∧ (-9223372036854775808 ≤ c.t ∧ c.t < 9223372036854775808) ∧ c.s.size ≤ 140737488351232
theorem ClAt.rg {w : World} {b o : Nat} {c : Cl} {ba : Option Addr} {bc : Nat} (h : ClAt w b o c ba bc) : Rg c := ⟨h.n0, h.t0, h.s0⟩
theorem Cs.rg {d : Nat} {w : World} {a : Option Addr} {l : List Cl} (h : Cs d w a l) {i : Nat} (hi : i < l.length) : Rg (cAt l i) := by
  obtain ⟨d', b, o, _, rfl, hat⟩ := h.at_ (by omega)
  obtain ⟨ba, bc, hc, _⟩ := hat i hi
  exact hc.rg

/-- The first k boxes. -/
def Bx (P : Nat → Prop) (d : Nat) (w : World) (l : List Cl) (G : Nat → Option Addr × Nat) (k : Nat) : Prop := ∀ i, i < k → (cAt l i).box.length ≤ (G i).2 ∧ Co P d w (G i).1 (cAt l i).box

theorem co_of_row {P : Nat → Prop} {d : Nat} {w : World} {base : Nat} {a : Option Addr} {n c : Nat} {l : List Cl} {G : Nat → Option Addr × Nat} (h : w.ownsRow base 89 4 (.slice a n c) n (crows l G n)) (hB : Bx P d w l G n) (hn : l.length = n) (hl : n ≤ 2513169434843)
    (hr : ∀ i, i < n → Rg (cAt l i)) (hP : ∀ g, Value.ownBlock (.slice a n c) = some g → P g) : Co P (d + 1) w a l := by
  subst hn
  refine ⟨hl, ?_⟩
  rcases h.2 with ⟨h1, h2⟩ | ⟨g, cap, cur, h0, h1, h2, h3, h4, h5, h6⟩
  · left; exact List.length_eq_zero_iff.1 h2
  · right
    cases h0
    refine ⟨g, cur, rfl, hP g rfl, h2, fun i hi => ⟨(G i).1, (G i).2, ?_, (hB i hi).2⟩⟩
    have key : ∀ j v, j < 4 → (clRow (cAt l i) (G i))[j]? = some v → w.cell? ⟨g, 0 + i * 4 + j, none⟩ = some v := fun j v hj hv => by
      rw [Nat.zero_add, cell_of_row w g _ _ _ _ h2]
      have : (cur.toList.take (l.length * 4))[i * 4 + j]? = cur[i * 4 + j]? := by
        rw [List.getElem?_take, if_pos (by omega)]; simp
      rw [← this, h6, crows_get l G _ i j hi hj, hv]
    obtain ⟨r1, r2, r3⟩ := hr i hi
    exact ⟨key 0 _ (by omega) rfl, key 1 _ (by omega) rfl, key 2 _ (by omega) rfl, key 3 _ (by omega) rfl, (hB i hi).1, r1, r2, r3⟩

def CpPost (w : World) (d : Nat) (l : List Cl) (n : Nat) (e : Ending) (w' : World) : Prop :=
  ∃ a c, e = .returned (.slice a n c) ∧ n ≤ c ∧ Co (fun b => w.heap.size ≤ b) d w' a l ∧ Ext [] w w'

set_option maxHeartbeats 1000000 in
/-- One more cell, with a box of its own. -/
theorem cstep (w wr w2 : World) (lv : Value) (k n d : Nat) (l : List Cl) (G : Nat → Option Addr × Nat) (ba a1 : Option Addr) (bc c1 : Nat) (hk : k < n) (hl : n ≤ 2513169434843) (hE : Ext [] w wr)
    (hO : wr.ownsRow w.heap.size 89 4 lv k (crows l G k)) (hB : Bx (fun b => w.heap.size ≤ b ∧ lv.ownBlock ≠ some b) d wr l G k)
    (hE2 : Ext [] (wr.alloc (.cells #[.int .u64 (cAt l k).n, .string (cAt l k).s, .int .i64 (cAt l k).t, .slice ba (cAt l k).box.length bc] 89)) w2)
    (hac : (cAt l k).box.length ≤ c1) (hC : Co (fun b => (wr.alloc (.cells #[.int .u64 (cAt l k).n, .string (cAt l k).s, .int .i64 (cAt l k).t, .slice ba (cAt l k).box.length bc] 89)).heap.size ≤ b) d w2 a1 (cAt l k).box) :
    ∃ v2 w4, (Builtin.append_ #[26, 26] 26 #[lv, .slice (some ⟨w2.heap.size, 0, none⟩) 1 1]).run Tryz.prog ((w2.setCell ⟨wr.heap.size, 3, none⟩ (.slice a1 (cAt l k).box.length c1)).alloc (.cells #[.int .u64 (cAt l k).n, .string (cAt l k).s, .int .i64 (cAt l k).t, .slice a1 (cAt l k).box.length c1] 89)) = .ok v2 w4 ∧
      w4.ownsRow w.heap.size 89 4 v2 (k + 1) (crows l (fun i => if i = k then (a1, c1) else G i) (k + 1)) ∧ Bx (fun b => w.heap.size ≤ b ∧ v2.ownBlock ≠ some b) d w4 l (fun i => if i = k then (a1, c1) else G i) (k + 1) ∧ Ext [] w w4 := by
  have hE1 := Ext.alloc [] wr (.cells #[.int .u64 (cAt l k).n, .string (cAt l k).s, .int .i64 (cAt l k).t, .slice ba (cAt l k).box.length bc] 89)
  have hsz1 : wr.heap.size < w2.heap.size := by have := hE2.size; simp at this; omega
  have hE3 := (Ext.setCell [wr.heap.size] w2 ⟨wr.heap.size, 3, none⟩ (.slice a1 (cAt l k).box.length c1) (by simp)).trans (Ext.alloc [wr.heap.size] _ (.cells #[.int .u64 (cAt l k).n, .string (cAt l k).s, .int .i64 (cAt l k).t, .slice a1 (cAt l k).box.length c1] 89))
  have hE12 := hE1.trans hE2
  have hEw := (hE.trans hE12).on hE3 (by simp; exact hE.size)
  have holt := own_lt hO
  have hOw := own_keep (own_keep0 hO hE12) hE3 (by simp; exact fun h => by have := holt _ h; omega)
  obtain ⟨v2, w4, hr2, hO2, hg2, _, hnew⟩ := run_append_own_at (P := Tryz.prog) _ w.heap.size 26 26 89 _ _ 4 56 Tryz.underlying26 (info_parts info89).choose_spec.1 (info_parts info89).choose_spec.2.1 (info_parts info89).choose_spec.2.2.1 (info_parts info89).choose_spec.2.2.2 rfl (by decide) _ k _ hOw ⟨w2.heap.size, 0, none⟩ 1 1 (clRow (cAt l k) (a1, c1)) rfl (fun j u hu => by
    rw [Addr.add_lit, cell_of_row _ _ _ _ _ _ (show (World.alloc _ _).heap[w2.heap.size]? = _ from by have := heap_alloc_new (w2.setCell ⟨wr.heap.size, 3, none⟩ (.slice a1 (cAt l k).box.length c1)) (.cells #[.int .u64 (cAt l k).n, .string (cAt l k).s, .int .i64 (cAt l k).t, .slice a1 (cAt l k).box.length c1] 89); simpa using this)]
    rw [Nat.zero_add, ← hu]; simp [clRow]) (by simp [clRow, Value.oneCell']) (by unfold maxLen; omega) (by omega) hEw.size
  have hX2 : Ext lv.ownBlock.toList _ w4 := Ext.grown hg2 (by intro q hq; simp [hq])
  have hsz3 : w2.heap.size < ((w2.setCell ⟨wr.heap.size, 3, none⟩ (.slice a1 (cAt l k).box.length c1)).alloc (.cells #[.int .u64 (cAt l k).n, .string (cAt l k).s, .int .i64 (cAt l k).t, .slice a1 (cAt l k).box.length c1] 89)).heap.size := by simp
  have hRW : crows l G k ++ clRow (cAt l k) (a1, c1) = crows l (fun i => if i = k then (a1, c1) else G i) (k + 1) := by
    rw [crows, crows_cong k (H := fun i => if i = k then (a1, c1) else G i) (fun i hi => by simp [Nat.ne_of_lt hi])]
    simp
  refine ⟨v2, w4, hr2, by rw [← hRW]; exact hO2, fun i hi => ?_, hEw.on hX2 (fun x hx => (holt x (by simpa using hx)).1)⟩
  -- a block with P ahead of the append is no block of the list's
  have hfin : ∀ (a : Option Addr) (b : List Cl), Co (fun b => w.heap.size ≤ b ∧ lv.ownBlock ≠ some b ∧ b ≠ wr.heap.size) d w2 a b → Co (fun b => w.heap.size ≤ b ∧ v2.ownBlock ≠ some b) d w4 a b := fun a b hb => by
    have h3 := hb.keep hE3 (by simp)
    have h4 := h3.imp (Q := fun b => w.heap.size ≤ b ∧ lv.ownBlock ≠ some b ∧ v2.ownBlock ≠ some b) (fun b hlt hp => ⟨hp.1, hp.2.1, fun e => by
      rcases hnew with h | h
      · rw [h] at e; exact hp.2.1 e
      · rw [h] at e; simp only [Option.some.injEq] at e; omega⟩)
    exact (h4.keep hX2 (fun x hx hp => hp.2.1 (by simpa using hx))).imp (fun b _ hp => ⟨hp.1, hp.2.2⟩)
  by_cases e : i = k
  · subst e
    simp only [if_true]
    refine ⟨hac, hfin _ _ (hC.imp fun b _ hp => ?_)⟩
    simp only [World.size_alloc] at hp
    exact ⟨by have := hE.size; omega, fun h => by have := holt _ h; omega, by omega⟩
  · simp only [e, if_false]
    obtain ⟨h1, h2⟩ := hB i (by omega)
    refine ⟨h1, hfin _ _ ?_⟩
    have h3 := h2.imp (Q := fun b => w.heap.size ≤ b ∧ lv.ownBlock ≠ some b ∧ b ≠ wr.heap.size) (fun b hlt hp => ⟨hp.1, hp.2, by omega⟩)
    exact h3.keep0 hE12

set_option maxRecDepth 100000 in
set_option maxHeartbeats 4000000 in
theorem rcopy_any : ∀ (d : Nat) (a : Option Addr) (l : List Cl) (n c : Nat) (w : World), Cs d w a l → l.length = n → Calls Tryz.prog 14 #[.slice a n c] w (CpPost w d l n) := by
  intro d
  induction d with
  | zero =>
    intro a l n c w hC hn
    obtain rfl : l = [] := hC
    obtain rfl : n = 0 := by simpa using hn.symm
    go_enter Tryz.func14, Tryz.ntmps14
    go_wp2_with fail
    go_loopw [3, 4] (fun lv u wr => lv = .slice none 0 0 ∧ u = .int .i64 0 ∧ wr = w) (fun _ _ _ => 0)
    case atStart => exact ⟨rfl, rfl, rfl⟩
    case round =>
      obtain ⟨rfl, rfl, rfl⟩ := hrel
      go_wp2_with fail
      go_ret
      exact ⟨none, 0, rfl, Nat.le_refl _, Co.nil _ _ _ _, Ext.refl _ _⟩
  | succ d ih =>
    intro a l n c w hC hn
    have HC := hid hC
    have HN := hid hn
    have hl := hC.len
    rw [hn] at hl
    have HR : Hid (∀ i, i < n → Rg (cAt l i)) := fun i hi => hC.rg (by omega)
    have HIH := hid ih
    clear hC ih
    go_enter Tryz.func14, Tryz.ntmps14
    go_wp2_with fail
    go_loopw [3, 4] (fun lv u wr => ∃ k : Nat, ∃ G, u = .int .i64 k ∧ k ≤ n ∧ wr.ownsRow w.heap.size 89 4 lv k (crows l G k) ∧ Bx (fun b => w.heap.size ≤ b ∧ lv.ownBlock ≠ some b) d wr l G k ∧ Ext [] w wr) (fun _ u _ => (n - (intOf u)).toNat)
    case atStart => exact ⟨0, fun _ => (none, 0), rfl, Nat.zero_le _, own_nil _ _ _ _, fun i hi => by omega, Ext.refl _ _⟩
    case round =>
      obtain ⟨k, G, rfl, hkn, hO, hB, hE⟩ := hrel
      have HO := hid hO
      have HB := hid hB
      have HE := hid hE
      clear hO hB hE
      by_cases hlt : k < n
      · obtain ⟨d1, b, o, hd, rfl, hat⟩ := (HC.out.keep0 HE.out).at_ (by rw [HN.out]; omega)
        obtain rfl : d1 = d := by omega
        obtain ⟨ba, bc, hcl, hbx⟩ := hat k (by rw [HN.out]; omega)
        have x0 := hcl.c0
        have x1 := hcl.c1
        have x2 := hcl.c2
        have x3 := hcl.c3
        have hE1 := Ext.alloc [] wr (.cells #[.int .u64 (cAt l k).n, .string (cAt l k).s, .int .i64 (cAt l k).t, .slice ba (cAt l k).box.length bc] 89)
        have K := HIH.out ba (cAt l k).box _ bc _ (hbx.keep0 hE1) rfl
        have hb1 := heap_alloc_new wr (.cells #[.int .u64 (cAt l k).n, .string (cAt l k).s, .int .i64 (cAt l k).t, .slice ba (cAt l k).box.length bc] 89)
        have HB1 := hid hb1
        clear hat hcl hbx hE1 hd hb1
        go_wp2_with (first
          | (go_at_call 14
             refine K.mono ?_
             rintro e w2 ⟨a1, c1, rfl, hac, hCo, hE2⟩
             obtain ⟨v2, w4, hr2, hO2, hB2, hE4⟩ := cstep w wr w2 u3 k n d1 l G ba a1 bc c1 hlt hl HE.out HO.out HB.out hE2 hac hCo
             have hb2 := hE2.keep HB1.out (by simp)
             have e0 : w2.cell? ⟨wr.heap.size, 0, none⟩ = some (.int .u64 (cAt l k).n) := by rw [cell_of_row _ _ _ _ _ _ hb2]; rfl
             have e1 : w2.cell? ⟨wr.heap.size, 1, none⟩ = some (.string (cAt l k).s) := by rw [cell_of_row _ _ _ _ _ _ hb2]; rfl
             have e2 : w2.cell? ⟨wr.heap.size, 2, none⟩ = some (.int .i64 (cAt l k).t) := by rw [cell_of_row _ _ _ _ _ _ hb2]; rfl
             have e3 : w2.cell? ⟨wr.heap.size, 3, none⟩ = some (.slice ba (cAt l k).box.length bc) := by rw [cell_of_row _ _ _ _ _ _ hb2]; rfl
             have ef : ∀ i, w2.frozen? ⟨wr.heap.size, i, none⟩ = false := fun i => frozen_of_row _ _ i _ _ hb2
             have HO2 := hid hO2
             have HB2 := hid hB2
             have HE4 := hid hE4
             clear hCo hE2 hb2 hO2 hB2 hE4 hac)
          | (at_builtin; refine wpList_append_run rfl _ _ 26 rfl _ _ _ rfl rfl hr2 ?_))
        go_roundw
        case rel => exact ⟨k + 1, fun i => if i = k then (a1, c1) else G i, by go_num, by omega, HO2.out, HB2.out, HE4.out⟩
        case measure => simp [intOf]; omega
      · obtain rfl : k = n := by omega
        obtain ⟨a', c', rfl, hac⟩ := own_slice HO.out
        have hol := own_lt HO.out
        go_wp2_with fail
        go_ret
        exact ⟨a', c', rfl, hac, co_of_row (P := fun b => w.heap.size ≤ b) HO.out (fun i hi => ⟨(HB.out i hi).1, (HB.out i hi).2.imp fun b _ hp => hp.1⟩) HN.out hl HR.out (fun g hg => (hol g hg).1), HE.out⟩

end Go.Proofs.YtbpjmcjjambdkaaGreatDoor.Ty

/-
  Sound tables: what is known of their types; no statement is proved here.
-/
namespace Go.Proofs.YtbpjmcjjambdkaaGreatDoor.Ty
open Go.RowKit

theorem sound_fit {ts : List Ty} (h : Sound ts) {i : Nat} (hi : i < ts.length) : Fit (M ts i) ∧ (M ts i).width ≤ 16 :=
  ⟨fit_of ts (i + 1) i (by omega) hi (fun j hj => (h.2.1 j (by omega)).1), (h.2.1 i hi).2⟩

theorem bad_zero {ts : List Ty} {t : Int} (h : bad ts t = 0) : Sound ts ∧ 0 ≤ t ∧ t < ts.length := by
  by_cases hs : Sound ts
  · by_cases ht : 0 ≤ t ∧ t < ts.length
    · exact ⟨hs, ht⟩
    · rw [bad_arg hs ht] at h; omega
  · rw [bad_form hs] at h; omega

def one2 : Ty := ⟨2, 0, 0, 0, []⟩
theorem one2_sound : Sound [one2] := by
  have h0 : ∀ i : Nat, i < [one2].length → i = 0 := fun i hi => by simp at hi; omega
  refine ⟨by simp, fun i hi => ?_, fun i hi => ?_⟩
  · rw [h0 i hi]
    have e : tyAt [one2] (0 : Nat) = one2 := rfl
    refine ⟨⟨?_, ?_⟩, by decide⟩
    · rw [e]; simp [Clean, one2]
    · rw [e]; simp [one2]
  · rw [h0 i hi]
    intro h
    exact absurd h (by decide)
theorem one2_mo : (mo [one2] 0).width = 1 ∧ bad [one2] 0 = 0 := by
  have hb : bad [one2] 0 = 0 := bad_ok one2_sound (by simp)
  exact ⟨by rw [mo_ok hb]; rfl, hb⟩

end Go.Proofs.YtbpjmcjjambdkaaGreatDoor.Ty

/-
  What the document's answer by definition finds of a type: its width, whether it can be compared, its pointers; no statement is proved here.
-/
namespace Go.Proofs.YtbpjmcjjambdkaaGreatDoor.Ty
open Go.RowKit

theorem plain_kind {ts : List Ty} {i : Nat} (h : Formed ts i) (hp : parts (tyAt ts i) = []) : ¬ ((tyAt ts i).kind = 8 ∨ (tyAt ts i).kind = 9) := fun hk => h.ne hk hp
theorem made_kind {t : Ty} (hp : parts t ≠ []) : t.kind = 8 ∨ t.kind = 9 := by
  by_cases a : t.kind = 8
  · exact .inl a
  · by_cases b : t.kind = 9
    · exact .inr b
    · exact absurd (by unfold parts; rw [if_neg a, if_neg b]) hp
theorem made_of {ts : List Ty} {i : Nat} (h : Formed ts i) (hi : i < ts.length) (hp : parts (tyAt ts i) ≠ []) : M ts i = ⟨sumWidth (ms ts) (parts (tyAt ts i)), sumWords (ms ts) (parts (tyAt ts i)), allCmp (ms ts) (parts (tyAt ts i)), allPtrs (ms ts) (parts (tyAt ts i))⟩ := by
  rw [h.eq hi]
  have h8 := made_kind hp
  unfold meas
  rw [if_neg (by omega), if_neg (by omega), if_neg (by omega), if_pos h8]
theorem plain_wide {ts : List Ty} {i : Nat} (h : Formed ts i) (hi : i < ts.length) (hp : parts (tyAt ts i) = []) : (M ts i).width = 1 := by
  rw [h.eq hi]
  unfold meas
  have h8 := plain_kind h hp
  rw [if_neg h8]
  split
  · rfl
  · split
    · rfl
    · split
      · rfl
      · split <;> rfl

/-- Bounds of a type whose earlier ones are in order. -/
theorem ok_fit {ts : List Ty} {i : Nat} (hi : i < ts.length) (h : ∀ j, j ≤ i → OkAt ts j) : Fit (M ts i) ∧ (M ts i).width ≤ 16 :=
  ⟨fit_of ts (i + 1) i (by omega) hi (fun j hj => (h j hj).1), (h i (Nat.le_refl _)).2⟩

set_option maxRecDepth 100000 in
set_option maxHeartbeats 1000000 in
theorem widthOf_any (ts : List Ty) (a : Option Addr) (n c : Nat) (hn : ts.length = n) : ∀ (N i : Nat), i < N → i < n → (∀ j, j < i → OkAt ts j) → Formed ts i → ∀ w, Tab w a ts →
    Calls Tryz.prog 46 #[.slice a n c, .int .i64 i] w (SayPost w (.int .i64 (M ts i).width))
  | 0, _, h, _, _, _, _, _ => by omega
  | N + 1, i, hiN, hi, hok, hfm, w, hT => by
    have HIH := hid (widthOf_any ts a n c hn N)
    obtain ⟨b, o, rfl, hta⟩ := hT.addr (by omega)
    obtain ⟨fa, fc, htt⟩ := hta i (by omega)
    obtain ⟨d0, d1, d2, d3, d4, hfo⟩ := htt
    have KP := parts_any (tyAt ts i) fa fc w hfo (fun h => by have := hfm.2.2.2.2.1 h; omega)
    unfold tyVal at KP
    have hl := hT.len
    rw [hn] at hl
    have HT := hid hT
    have HOK := hid hok
    have HFm := hid hfm
    have HBW := hid hfm.below
    have hlp := hfm.length_parts
    have HPW := hid (plain_wide hfm (by omega))
    have HMM := hid (made_of hfm (by omega))
    have HN := hid hn
    clear hta hfo hT hok hfm hn
    go_enter Tryz.func46, Tryz.ntmps46
    go_wp2_with fail
    refine KP.mono ?_
    rintro e w1 ⟨qa, qc, rfl, hO1, hE1⟩
    have HQ := hid (own_vs hO1)
    have HE1 := hid hE1
    clear KP hO1 hE1 d0 d1 d2 d3 d4
    generalize parts (tyAt ts i) = ps at *
    by_cases hps : ps = []
    · have HW := hid (HPW.out hps)
      subst hps
      clear HPW HMM
      go_wp2_with fail
      go_ret
      exact ⟨ret_int HW.out.symm, HE1.out⟩
    · have hme := HMM.out hps
      have HRE : Hid ((M ts i).width = sumWidth (ms ts) ps) := by show _ = _; rw [hme]
      have hb0 : ((ps.length : Int) == 0) = false := by have := List.length_pos_iff.2 hps; simp; omega
      obtain ⟨pb, po, rfl, hpc⟩ := Is.at_ (show Is w1 qa ps from HQ.out) hps
      have HPC := hid hpc
      clear hpc hps hme HQ HPW HMM
      go_wp2_with fail
      go_loopw [6, 7] (fun u0 u wr => ∃ k : Nat, u = .int .i64 k ∧ k ≤ ps.length ∧ u0 = .int .i64 (sumWidth (ms ts) (ps.take k)) ∧ Ext [] w1 wr) (fun _ u _ => (ps.length - (intOf u)).toNat)
      case atStart => exact ⟨0, rfl, Nat.zero_le _, rfl, Ext.refl _ _⟩
      case round =>
        obtain ⟨k, rfl, hkl, rfl, hEk⟩ := hrel
        have HEk := hid hEk
        clear hEk
        by_cases hkm : k < ps.length
        · have hck := HEk.out.cell (HPC.out k hkm) (by simp)
          have hmem : ps.getD k 0 ∈ ps := by simp [List.getD, hkm]
          obtain ⟨p0, p1, _⟩ := HBW.out _ hmem
          have HSW := hid (sumWidth_snoc (ms ts) ps k hkm)
          have hbd := sum_bd (E := ms ts) (k := 16) (l := ps.take k) (fun p hp => by
            obtain ⟨q0, q1, _⟩ := HBW.out p (List.mem_of_mem_take hp)
            obtain ⟨q, rfl⟩ : ∃ q : Nat, p = q := ⟨p.toNat, by omega⟩
            obtain ⟨hf, h16⟩ := ok_fit (ts := ts) (i := q) (by have := HN.out; omega) (fun j hj => HOK.out j (by omega))
            have := hf.w0; have := hf.d0; have := hf.dw
            show 0 ≤ (M ts q).width ∧ (M ts q).width ≤ 16 ∧ 0 ≤ (M ts q).words ∧ (M ts q).words ≤ 2 * (M ts q).width
            omega)
          have hkl2 : (ps.take k).length ≤ 16 := by rw [List.length_take]; omega
          generalize ps.getD k 0 = x at *
          obtain ⟨q, rfl⟩ : ∃ q : Nat, x = q := ⟨x.toNat, by omega⟩
          obtain ⟨hf, h16⟩ := ok_fit (ts := ts) (i := q) (by have := HN.out; omega) (fun j hj => HOK.out j (by omega))
          have hf0 := hf.w0
          have K := HIH.out q (by omega) (by omega) (fun j hj => HOK.out j (by omega)) (HOK.out q (by omega)).1 wr ((HT.out.keep0 HE1.out).keep0 HEk.out)
          obtain ⟨hs0, hs1, _, _⟩ := hbd
          have hxm : at' (ms ts) q = M ts q := rfl
          rw [hxm] at HSW
          generalize M ts q = mx at *
          clear hmem p0 p1 hf hxm
          go_wp2_with fail
          refine K.mono ?_
          clear K
          rintro e w2 ⟨rfl, hE2⟩
          have HE2 := hid (HEk.out.trans hE2)
          clear hE2
          go_wp2_with fail
          go_roundw
          case rel => exact ⟨k + 1, by go_num, by omega, by rw [HSW.out], HE2.out⟩
          case measure => simp [intOf]; omega
        · obtain rfl : k = ps.length := by omega
          go_wp2_with fail
          go_ret
          refine ⟨ret_int ?_, HE1.out.trans HEk.out⟩
          rw [HRE.out, List.take_length]

theorem plain_cmp {ts : List Ty} {i : Nat} (h : Formed ts i) (hi : i < ts.length) (h6 : ¬ ((tyAt ts i).kind = 6 ∨ (tyAt ts i).kind = 10)) : (M ts i).cmp = allCmp (ms ts) (parts (tyAt ts i)) := by
  by_cases hp : parts (tyAt ts i) = []
  · have h8 := plain_kind h hp
    rw [h.eq hi, hp]
    unfold meas
    rw [if_neg h6, if_neg h8]
    split
    · rfl
    · split
      · rfl
      · split <;> rfl
  · rw [made_of h hi hp]
theorem map_cmp {ts : List Ty} {i : Nat} (h : Formed ts i) (hi : i < ts.length) (h6 : (tyAt ts i).kind = 6 ∨ (tyAt ts i).kind = 10) : (M ts i).cmp = false := by
  rw [h.eq hi]
  unfold meas
  rw [if_neg (by omega), if_neg (by omega), if_pos h6]

theorem allCmp_false {E : List Me} {l : List Int} {k : Nat} (hk : k < l.length) (h : (at' E (l.getD k 0)).cmp = false) : allCmp E l = false := by
  have h1 := allCmp_snoc E l k hk
  have h2 : allCmp E l = (allCmp E (l.take (k + 1)) && allCmp E (l.drop (k + 1))) := by rw [← allCmp_append, List.take_append_drop]
  rw [h2, h1, h]
  simp

set_option maxRecDepth 100000 in
set_option maxHeartbeats 1000000 in
theorem comparOf_any (ts : List Ty) (a : Option Addr) (n c : Nat) (hn : ts.length = n) (hS : AllOk ts) : ∀ (N i : Nat), i < N → i < n → ∀ w, Tab w a ts →
    Calls Tryz.prog 76 #[.slice a n c, .int .i64 i] w (SayPost w (.bool (M ts i).cmp))
  | 0, _, h, _, _, _ => by omega
  | N + 1, i, hiN, hi, w, hT => by
    have HIH := hid (comparOf_any ts a n c hn hS N)
    have hfm := (hS i (by omega)).1
    obtain ⟨b, o, rfl, hta⟩ := hT.addr (by omega)
    obtain ⟨fa, fc, htt⟩ := hta i (by omega)
    obtain ⟨d0, d1, d2, d3, d4, hfo⟩ := htt
    have KP := parts_any (tyAt ts i) fa fc w hfo (fun h => by have := hfm.2.2.2.2.1 h; omega)
    unfold tyVal at KP
    have hl := hT.len
    rw [hn] at hl
    have HT := hid hT
    have HBW := hid hfm.below
    have hlp := hfm.length_parts
    have HPC0 := hid (plain_cmp hfm (by omega))
    have HMC := hid (map_cmp hfm (by omega))
    have HN := hid hn
    clear hta hfo hT hfm hn hS
    by_cases h6 : (tyAt ts i).kind = 6
    · have HV := hid (HMC.out (.inl h6))
      rw [h6] at d0
      clear h6 HMC HPC0
      go_enter Tryz.func76, Tryz.ntmps76
      go_wp2_with fail
      go_ret
      exact ⟨ret_bool HV.out.symm, Ext.refl _ _⟩
    by_cases h10 : (tyAt ts i).kind = 10
    · have HV := hid (HMC.out (.inr h10))
      rw [h10] at d0
      clear h6 h10 HMC HPC0
      go_enter Tryz.func76, Tryz.ntmps76
      go_wp2_with fail
      go_ret
      exact ⟨ret_bool HV.out.symm, Ext.refl _ _⟩
    have HV := hid (HPC0.out (by omega))
    have b6 : ((tyAt ts i).kind == 6) = false := by simpa using h6
    have b10 : ((tyAt ts i).kind == 10) = false := by simpa using h10
    clear h6 h10 HMC HPC0
    go_enter Tryz.func76, Tryz.ntmps76
    go_wp2_with fail
    refine KP.mono ?_
    rintro e w1 ⟨qa, qc, rfl, hO1, hE1⟩
    have HQ := hid (own_vs hO1)
    have HE1 := hid hE1
    clear KP hO1 hE1 d0 d1 d2 d3 d4
    generalize parts (tyAt ts i) = ps at *
    go_wp2_with fail
    go_loopw [6] (fun u wr => ∃ k : Nat, u = .int .i64 k ∧ k ≤ ps.length ∧ allCmp (ms ts) (ps.take k) = true ∧ Ext [] w1 wr) (fun u _ => (ps.length - (intOf u)).toNat)
    case atStart => exact ⟨0, rfl, Nat.zero_le _, rfl, Ext.refl _ _⟩
    case round =>
      obtain ⟨k, rfl, hkl, hck0, hEk⟩ := hrel
      have HEk := hid hEk
      have HCK := hid hck0
      clear hEk hck0
      by_cases hkm : k < ps.length
      · obtain ⟨pb, po, rfl, hpc⟩ := Is.at_ (show Is w1 qa ps from HQ.out) (by intro h; rw [h] at hkm; simp at hkm)
        have hck := HEk.out.cell (hpc k hkm) (by simp)
        have hmem : ps.getD k 0 ∈ ps := by simp [List.getD, hkm]
        obtain ⟨p0, p1, _⟩ := HBW.out _ hmem
        have HSC := hid (allCmp_snoc (ms ts) ps k hkm)
        have HAF := hid (allCmp_false (E := ms ts) hkm)
        generalize ps.getD k 0 = x at *
        obtain ⟨q, rfl⟩ : ∃ q : Nat, x = q := ⟨x.toNat, by omega⟩
        have K := HIH.out q (by omega) (by omega) wr ((HT.out.keep0 HE1.out).keep0 HEk.out)
        have hxm : at' (ms ts) q = M ts q := rfl
        rw [hxm] at HSC HAF
        generalize M ts q = mx at *
        clear hmem p0 p1 hxm hpc
        by_cases hx : mx.cmp = true
        · rw [hx] at K
          have HX := hid hx
          clear hx
          go_wp2_with fail
          refine K.mono ?_
          clear K
          rintro e w2 ⟨rfl, hE2⟩
          have HE2 := hid (HEk.out.trans hE2)
          clear hE2
          go_wp2_with fail
          go_roundw
          case rel => exact ⟨k + 1, by go_num, by omega, by rw [HSC.out, HCK.out, HX.out]; rfl, HE2.out⟩
          case measure => simp [intOf]; omega
        · have hx : mx.cmp = false := by simpa using hx
          rw [hx] at K
          have HX := hid hx
          clear hx
          go_wp2_with fail
          refine K.mono ?_
          clear K
          rintro e w2 ⟨rfl, hE2⟩
          have HE2 := hid (HEk.out.trans hE2)
          clear hE2
          go_wp2_with fail
          go_ret
          exact ⟨ret_bool (by rw [HV.out, HAF.out HX.out]), HE1.out.trans HE2.out⟩
      · obtain rfl : k = ps.length := by omega
        go_wp2_with fail
        go_ret
        refine ⟨ret_bool ?_, HE1.out.trans HEk.out⟩
        have := HCK.out
        rw [List.take_length] at this
        rw [HV.out, this]

end Go.Proofs.YtbpjmcjjambdkaaGreatDoor.Ty

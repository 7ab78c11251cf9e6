/-
  The program's live, fault and shade; no statement is proved here.
-/
import Derived.Test.YtbjplfbplkjibaaMem
import Derived.Deep.Cut
namespace Go.Proofs.Ytbjplfbplkjibaa
open Go.RowKit

/-- What is new besides. -/
def Nw (B : Nat → Prop) (w : World) : Nat → Prop := fun k => B k ∨ w.heap.size ≤ k
/-- How a graph has turned, and what was answered. -/
def GPost (w : World) (p : Nat) (G' : Gs) (B : Nat → Prop) (r : Value) (e : Ending) (w' : World) : Prop := e = .returned r ∧ Gr w' p G' (Nw B w) ∧ Fx B w w'

theorem live_nat (p : Nat) (G : Gs) (B : Nat → Prop) (i : Nat) (w : World) (h : Gr w p G B) (_hlen : G.ns.length ≤ 65536) (hi : i < G.ns.length) : Calls Try.prog 32 #[.pointer (some ⟨p, 0, none⟩), .int .i64 i] w fun e w' => e = .returned (.bool (decide (lvN G i))) ∧ w' = w := by
  obtain ⟨vn, vl, SV, h, _⟩ := h
  obtain ⟨g, c, rfl, hc, hgp, hgl, c0, _, _, _⟩ := h.node hi
  obtain ⟨f0, _⟩ := h.flds
  have HL : Hid (decide (lvN G i) = (decide ((ndAt G.ns i).c ≠ 0) && decide ((ndAt G.ns i).c ≠ 4))) := by
    show _ = _
    by_cases a : (ndAt G.ns i).c = 0 <;> by_cases b : (ndAt G.ns i).c = 4 <;> simp [lvN, a, b]
  clear h
  generalize (ndAt G.ns i).c = q at *
  generalize G.ns.length = n at *
  have hi2 : ¬ (n : Int) ≤ i := by omega
  have hi3 : ¬ (i : Int) < 0 := by omega
  by_cases h0 : q = 0
  · subst h0
    go_enter Try.func32, Try.ntmps32
    go_wp2
    go_ret
    exact ⟨by rw [HL.out]; rfl, rfl⟩
  · have h0' : ((q : Int) != 0) = true := by simp; omega
    by_cases h4 : q = 4
    · subst h4
      go_enter Try.func32, Try.ntmps32
      go_wp2
      go_ret
      exact ⟨by rw [HL.out]; rfl, rfl⟩
    · have h4' : ((q : Int) != 4) = true := by simp; omega
      have HT : Hid (decide (lvN G i) = true) := by show _ = _; rw [HL.out]; simp [h0, h4]
      clear h0 h4 HL
      go_enter Try.func32, Try.ntmps32
      go_wp2
      go_ret
      exact ⟨by rw [HT.out]; rfl, rfl⟩

theorem live_any (p : Nat) (G : Gs) (B : Nat → Prop) (x : Int) (w : World) (h : Gr w p G B) (hlen : G.ns.length ≤ 65536) : Calls Try.prog 32 #[.pointer (some ⟨p, 0, none⟩), .int .i64 x] w fun e w' => e = .returned (.bool (lvB G x)) ∧ w' = w := by
  by_cases h1 : x < 0
  · have HL : Hid (lvB G x = false) := by show _ = _; simp [lvB]; omega
    clear h
    go_enter Try.func32, Try.ntmps32
    go_wp2
    go_ret
    exact ⟨by rw [HL.out]; rfl, rfl⟩
  · obtain ⟨i, rfl⟩ : ∃ i : Nat, x = i := ⟨x.toNat, by omega⟩
    by_cases h2 : i < G.ns.length
    · rw [lvB_nat]; exact live_nat p G B i w h hlen h2
    · have HL : Hid (lvB G i = false) := by
        show _ = _
        rw [lvB_nat]
        simp only [decide_eq_false_iff_not]
        exact fun q => h2 (lvN_lt q)
      obtain ⟨vn, vl, SV, h, _⟩ := h
      obtain ⟨f0, _⟩ := h.flds
      obtain ⟨a, c, rfl, _⟩ := own_slice h.row
      have h3 : (G.ns.length : Int) ≤ i := by omega
      clear h
      generalize G.ns.length = n at *
      go_enter Try.func32, Try.ntmps32
      go_wp2
      go_ret
      exact ⟨by rw [HL.out]; rfl, rfl⟩

/-- The error of a number that should be a live node's. -/
def fl (G : Gs) (x : Int) : Int := if lvB G x then 0 else 4
theorem fault_any (p : Nat) (G : Gs) (B : Nat → Prop) (x : Int) (w : World) (h : Gr w p G B) (hlen : G.ns.length ≤ 65536) : Calls Try.prog 31 #[.pointer (some ⟨p, 0, none⟩), .int .i64 x] w fun e w' => e = .returned (.int .i64 (fl G x)) ∧ w' = w := by
  have K := live_any p G B x w h hlen
  clear h
  unfold fl
  generalize lvB G x = b at *
  cases b
  · go_enter Try.func31, Try.ntmps31
    go_wp2_with (go_at_call 32; refine met K ?_)
    go_ret
    exact ⟨rfl, rfl⟩
  · go_enter Try.func31, Try.ntmps31
    go_wp2_with (go_at_call 32; refine met K ?_)
    go_ret
    exact ⟨rfl, rfl⟩
theorem fault_nil (x : Int) (w : World) : Calls Try.prog 31 #[.pointer none, .int .i64 x] w fun e w' => e = .returned (.int .i64 2) ∧ w' = w := by
  go_enter Try.func31, Try.ntmps31
  go_wp2_with fail
  go_ret
  exact ⟨rfl, rfl⟩

theorem gr_same {w : World} {p : Nat} {G : Gs} {B : Nat → Prop} (h : Gr w p G B) (r : Value) : GPost w p G B r (.returned r) w := ⟨rfl, h.mono (fun _ q => .inl q), Fx.refl _ _⟩

/-- What shading leaves: the line alone is another value. -/
def ShPost (w : World) (p : Nat) (vn : Value) (SV : List Value) (G' : Gs) (B : Nat → Prop) (e : Ending) (w' : World) : Prop :=
  e = .returned (.tuple #[]) ∧ (∃ vl', Gm w' p vn vl' SV G' ∧ Ft (Nw B w) p vn vl' SV) ∧ Fx B w w'
theorem sh_same {w : World} {p : Nat} {vn vl : Value} {SV : List Value} {G : Gs} {B : Nat → Prop} (h : Gm w p vn vl SV G) (f : Ft B p vn vl SV) : ShPost w p vn SV G B (.returned (.tuple #[])) w := ⟨rfl, ⟨vl, h, f.mono (fun _ q => .inl q)⟩, Fx.refl _ _⟩

set_option maxHeartbeats 1000000 in
theorem shade_gm (p : Nat) (G : Gs) (B : Nat → Prop) (x : Int) (w : World) (vn vl : Value) (SV : List Value) (h : Gm w p vn vl SV G) (hft : Ft B p vn vl SV) (hx : x = -1 ∨ 0 ≤ x ∧ x.toNat < G.ns.length) (hln : G.ln.length ≤ 1000000) (_hlen : G.ns.length ≤ 65536) :
    Calls Try.prog 33 #[.pointer (some ⟨p, 0, none⟩), .int .i64 x] w (ShPost w p vn SV (sh G x) B) := by
  rcases hx with rfl | ⟨hx0, hxl⟩
  · have HF := hid (sh_same h hft)
    clear h hft
    go_enter Try.func33, Try.ntmps33
    go_wp2
    go_end0
    exact HF.out
  · obtain ⟨i, rfl⟩ : ∃ i : Nat, x = i := ⟨x.toNat, by omega⟩
    have hsh : sh G i = shN G i := by
      have : ((i : Int)) ≠ -1 := by omega
      simp [sh, this]
    rw [hsh]
    simp only [Int.toNat_natCast] at hxl
    have HF := hid (sh_same h hft)
    obtain ⟨g, c, rfl, hc, hgp, hgl, c0, c1, c2, cf⟩ := h.node hxl
    obtain ⟨f0, _, f2, _⟩ := h.flds
    have hb1 : ((i : Int) == -1) = false := by simp
    have hil : (i : Int) < G.ns.length := by omega
    by_cases h1 : (ndAt G.ns i).c = 1
    · have HS : Hid (shN G i = { G with ns := G.ns.set i ⟨2, (ndAt G.ns i).s, 0⟩, ln := G.ln ++ [i] }) := by show _ = _; simp only [shN, h1, if_true]
      have hm1 := h.setc i 2 hxl
      have hm2 := Gm.setk (G := { G with ns := G.ns.set i ⟨2, (ndAt G.ns i).s, (ndAt G.ns i).k⟩ }) (c := c) (g := g) (by simpa using hm1) i 0 (by simpa using hxl)
      simp only [ndAt_set hxl, if_true, List.set_set, List.length_set] at hm2
      have HM := hid hm2
      have HX : Hid (Fx B w ((w.setCell ⟨g, i * 3, none⟩ (.int .i64 (2 : Nat))).setCell ⟨g, i * 3 + 2, none⟩ (.int .i64 (0 : Nat)))) := Fx.of_ext (S := [g]) ((Ext.setCell [g] w _ _ (by simp)).trans (Ext.setCell [g] _ _ _ (by simp))) (by simp; exact .inl (hft.n g rfl))
      have HT := hid hft
      rw [h1] at c0
      have cf0 := cf (i * 3)
      have cf2 := cf (i * 3 + 2)
      clear h hm1 hm2 HF cf hft h1
      go_enter Try.func33, Try.ntmps33
      go_upto_region 3 with fail
      generalize hW2 : (w.setCell ⟨g, i * 3, none⟩ (.int .i64 2)).setCell ⟨g, i * 3 + 2, none⟩ (.int .i64 0) = W2 at *
      have HM2 := HM
      have HX2 := HX
      clear hW2 c0 c1 c2 cf0 cf2 f0 f2 HM HX
      have hna := cell_of_row _ W2.heap.size 0 _ _ _ (heap_alloc_new W2 (.cells #[.int .i64 i] 3))
      have hEa := Ext.alloc [] W2 (.cells #[.int .i64 (i : Int)] 3)
      obtain ⟨v', W3, hr, hq, hE3, hv'⟩ := HM2.out.lin.push _ hEa ⟨W2.heap.size, 0, none⟩ i hna hln 28
      have hE23 : Ext vl.ownBlock.toList W2 W3 := (hEa.mono (by simp)).trans hE3
      have HM3 := hid (HM2.out.line hE23 _ hq (hv'.imp id (fun q k hk => by have := q k hk; simp at this; omega)))
      have HX3 : Hid (Fx B w (W3.setCell ⟨p, 2, none⟩ v')) := by
        refine HX2.out.trans (C := B) (Fx.of_ext (S := p :: vl.ownBlock.toList) ((hE23.mono (by simp; intro a ha; exact .inr ha)).trans (Ext.setCell _ _ _ _ (by simp))) ?_) (fun _ q => .inl q)
        intro k hk
        simp only [List.mem_cons, Option.mem_toList] at hk
        rcases hk with rfl | hk
        · exact .inl HT.out.p
        · exact .inl (HT.out.l k hk)
      have HF3 : Hid (Ft (Nw B w) p (.slice (some ⟨g, 0, none⟩) G.ns.length c) v' SV) := by
        refine ⟨.inl HT.out.p, fun k hk => .inl (HT.out.n k hk), fun k hk => ?_, fun j k hk => .inl (HT.out.s j k hk)⟩
        rcases hv' with q | q
        · exact .inl (HT.out.l k (q ▸ hk))
        · right; have := q k hk; have := HX2.out.size; simp at *; omega
      obtain ⟨fa0, _, fa2, _⟩ := HM2.out.flds
      have hb3 : W3.heap[p]? = _ := hE23.keep HM2.out.blk (by simpa using HM2.out.lp)
      have fb := frozen_of_row W3 p 2 _ _ hb3
      have fc : W3.cell? ⟨p, 2, none⟩ = some vl := by rw [cell_of_row _ _ _ _ _ _ hb3]; rfl
      obtain ⟨av, cv, rfl, _⟩ := HM2.out.lin.slice
      obtain ⟨av', cv', hv2, _⟩ := hq.slice
      rw [List.length_append, List.length_singleton] at hv2
      subst hv2
      clear hEa hna hq hE3 hE23 hv' HM2 HX2 hb3
      go_upto_region 4 with (at_builtin; refine wpList_append_run rfl _ _ 28 rfl _ _ _ rfl rfl hr ?_)
      go_end0
      refine ⟨rfl, ⟨_, ?_, HF3.out⟩, HX3.out⟩
      rw [HS.out]
      exact HM3.out
    · have HS : Hid (shN G i = G) := by show _ = _; simp only [shN, h1, if_false]
      have h1' : (((ndAt G.ns i).c : Int) != 1) = true := by simp; omega
      clear h h1 cf c1 c2 f2 hft
      go_enter Try.func33, Try.ntmps33
      go_wp2
      go_end0
      rw [HS.out]
      exact HF.out

theorem shade_any (p : Nat) (G : Gs) (B : Nat → Prop) (x : Int) (w : World) (h : Gr w p G B) (hx : x = -1 ∨ 0 ≤ x ∧ x.toNat < G.ns.length) (hln : G.ln.length ≤ 1000000) (hlen : G.ns.length ≤ 65536) :
    Calls Try.prog 33 #[.pointer (some ⟨p, 0, none⟩), .int .i64 x] w (GPost w p (sh G x) B (.tuple #[])) := by
  obtain ⟨vn, vl, SV, h, ft⟩ := h
  refine (shade_gm p G B x w vn vl SV h ft hx hln hlen).mono ?_
  rintro e w' ⟨rfl, ⟨vl', h1, h2⟩, hX⟩
  exact ⟨rfl, ⟨_, _, _, h1, h2⟩, hX⟩

end Go.Proofs.Ytbjplfbplkjibaa

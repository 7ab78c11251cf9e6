/-
  The step of ColorPlays that begins a cycle; no statement is proved here.
-/
import Derived.Test.YtbjplfbplkjibaaStep
namespace Go.Proofs.Ytbjplfbplkjibaa
open Go.RowKit

theorem step_append_run {P : Program} {ops : Array Oper} {o : Oper} {a : Act} {w w' : World} {K : Act → World → Prop} {Q : Exit → Act → World → Prop} {E : Prop} (hgd : o.guard = none) (d s : Operand) (t : TypeId)
    (ho : o.op = .call { callee := .builtin .append, args := #[d, s], argTypes := #[t, t] }) (vd vs v' : Value) (hd : a.eval d = vd) (hs : a.eval s = vs)
    (hr : (Builtin.append_ #[t, t] o.type #[vd, vs]).run P w = .ok v' w') (h : K (a.put o.dst v') w') :
    if Region.wanted o (yielded ops a.tmps) = true then Oper.wp P o a w K Q else E := by
  rw [if_pos (by simp [Region.wanted, hgd])]
  unfold Oper.wp execOp
  simp only [ho, resolve, invoke, builtin, Sem.run_bind, Sem.run_pure, Result.andThen_ok, List.map_toArray, List.map_cons, List.map_nil, hd, hs, hr]
  exact h

set_option maxRecDepth 100000 in
set_option maxHeartbeats 4000000 in
theorem step_start (w0 : World) (p q : Nat) (G : Gs) (o : Oq) (ra : Option Addr) (rc : Nat) (w : World) (h : PlE w0 w p q G) (hI : Iv G) (hR : Is w0 ra o.r) (hb : o.r.length ≤ 17592186044416) (hk : o.kd = 2) :
    Calls Try.prog 6 #[.pointer (some ⟨p, 0, none⟩), .pointer (some ⟨q, 0, none⟩), oqv o ra o.r.length rc] w (SpPost w0 p q (opG G o)) := by
  obtain ⟨C, D, hP⟩ := h
  rw [(oq_eq G o).2.1 hk]
  have b1 : (o.kd == 1) = false := by simp [hk]
  have b2 : (o.kd == 2) = true := by simp [hk]
  have hEa : Ext [] w (w.alloc (.cells #[.int .i64 o.kd, .int .i64 o.a, .int .i64 o.b, .int .i64 o.c, .slice ra o.r.length rc] 33)) := Ext.alloc [] w _
  have hEd : Ext [] (w.alloc (.cells #[.int .i64 o.kd, .int .i64 o.a, .int .i64 o.b, .int .i64 o.c, .slice ra o.r.length rc] 33)) (((w.alloc (.cells #[.int .i64 o.kd, .int .i64 o.a, .int .i64 o.b, .int .i64 o.c, .slice ra o.r.length rc] 33)).alloc (.cells #[] 3)).drew) := (Ext.alloc [] _ _).trans (Ext.drew [] _)
  have hos : (w.alloc (.cells #[.int .i64 o.kd, .int .i64 o.a, .int .i64 o.b, .int .i64 o.c, .slice ra o.r.length rc] 33)).heap.size = w.heap.size + 1 := by simp
  have hown : (((w.alloc (.cells #[.int .i64 o.kd, .int .i64 o.a, .int .i64 o.b, .int .i64 o.c, .slice ra o.r.length rc] 33)).alloc (.cells #[] 3)).drew).ownsRow (w.alloc (.cells #[.int .i64 o.kd, .int .i64 o.a, .int .i64 o.b, .int .i64 o.c, .slice ra o.r.length rc] 33)).heap.size 3 1 (.slice (some ⟨w.heap.size + 1, 0, none⟩) 0 0) 0 [] := by
    rw [← hos]
    exact own_keep0 (World.ownsRow_made (w.alloc (.cells #[.int .i64 o.kd, .int .i64 o.a, .int .i64 o.b, .int .i64 o.c, .slice ra o.r.length rc] 33)) #[] 0 (Nat.le_refl _) (Nat.zero_le _) rfl) (Ext.drew [] _)
  obtain ⟨v5, w5, hr5, ho5, hE5, _⟩ := app_own (w.alloc (.cells #[.int .i64 o.kd, .int .i64 o.a, .int .i64 o.b, .int .i64 o.c, .slice ra o.r.length rc] 33)) _ hEd 28 28 3 _ 8 Try.underlying28 info3 rfl (by decide) _ 0 [] hown ra o.r.length rc (o.r.map (Value.int .i64)) (by simp) (hR.keep0 ((hP.ext.trans hEa).trans hEd)) (fun u hu => by obtain ⟨y, _, rfl⟩ := List.mem_map.1 hu; rfl) (by omega)
  rw [Nat.zero_add, List.nil_append] at ho5
  obtain ⟨a5, c5, rfl, _⟩ := own_slice ho5
  have hI5 : Is w5 a5 o.r := own_vs ho5
  have hn5 : ∀ ad, a5 = some ad → w.heap.size + 1 ≤ ad.block := fun ad had => by have := (own_lt ho5 ad.block (by rw [had]; rfl)).1; omega
  have hP5 := hP.keep0 (hEa.trans hE5)
  have hsz := hEa.size
  have K : Calls Try.prog 16 #[.pointer (some ⟨p, 0, none⟩), .slice a5 o.r.length c5] w5 (StA w0 p q w.heap.size (start G o.r).1 (.int .i64 (start G o.r).2) 17 #[.pointer (some ⟨q, 0, none⟩), .slice ra o.r.length rc] (.int .i64 (start G o.r).2) w5) := by
    refine (start_any p G C a5 o.r.length c5 o.r w5 hP5.a hI hI5 rfl hb (fun ad had r => by
      have h1 := hn5 ad had
      have h2 := (hP.la _ r).2
      omega)).mono ?_
    rintro e w1 ⟨rfl, g1, x1⟩
    have h1 := hP5.opA g1 (fun _ r => r) x1
    refine ⟨rfl, ca_fx x1 (fun r => by have := (hP.la _ r).2; omega), (rstart_any q G D ra o.r.length rc o.r w1 h1.b hI (hR.keep0 h1.ext) rfl hb (fun hne ad had r => ?_)).mono ?_⟩
    · obtain ⟨b, oo, hab, hc⟩ := hR.at_ hne
      have hl : 0 < o.r.length := List.length_pos_iff.2 hne
      have h2 := block_lt_of_cell (hc 0 hl)
      have h3 := (hP.lb _ r).1
      rw [hab] at had
      simp only [Option.some.injEq] at had
      subst had
      simp only at h2 h3
      omega
    · rintro e w2 ⟨rfl, g2, x2⟩
      exact ⟨rfl, ca_fx x2 (fun r => by have := (hP.lb _ r).2; omega), _, _, h1.opB g2 (fun _ r => r) x2⟩
  have d4 : (w.alloc (.cells #[.int .i64 o.kd, .int .i64 o.a, .int .i64 o.b, .int .i64 o.c, .slice ra o.r.length rc] 33)).cell? ⟨w.heap.size, 4, none⟩ = some (.slice ra o.r.length rc) := by rw [cell_of_row _ _ _ _ _ _ (heap_alloc_new w _)]; rfl
  have d5 := hE5.cell d4 (by simp)
  unfold oqv
  clear hP hP5 hI hEa hk hR hI5 hn5 hE5 hsz hown ho5 hEd hos
  generalize start G o.r = res at *
  generalize o.r.length = rl at *
  go_enter Try.func6, Try.ntmps6
  go_wp2_with fail
  go_region_law (first
    | (refine step_append_run rfl _ _ 28 rfl (.slice (some ⟨w.heap.size + 1, 0, none⟩) 0 0) (.slice ra rl rc) _ (by rfl) (by rfl) hr5 ?_)
    | (go_simp; go_wp2_with (first | (go_at_call 16; refine K.mono ?_; rintro e w1 ⟨rfl, ca1, KB⟩; have d6 := ca1 _ _ d5) | (go_at_call 17; refine KB.mono ?_; rintro e w2 ⟨rfl, ca2, hP2⟩)))
    | fail "no arm")
  all_goals
    have HP2 := hid hP2
    clear hP2 KB ca1 ca2 K
    have hbe : (res.2 == res.2) = true := by simp
    go_wp2_with fail
    go_ret
    exact ⟨rfl, HP2.out⟩

end Go.Proofs.Ytbjplfbplkjibaa

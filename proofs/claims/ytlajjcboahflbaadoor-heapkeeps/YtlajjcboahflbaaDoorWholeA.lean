/-
  Objects, spans and holes of a heap and of none; no statement is proved here.
-/
import Derived.Test.YtlajjcboahflbaaDoorWhole
namespace Go.Proofs.YtlajjcboahflbaaDoor
open Go.RowKit Go.Shelf

attribute [local go_sem] Oper.semAt_some

theorem objs_few : ∀ (L : List Spn) (P b : Nat), L.Pairwise (fun x y => x.st + x.n ≤ y.st) → (∀ x ∈ L, x.Ok ∧ b ≤ x.st ∧ x.st + x.n ≤ P) → b ≤ P → (objs L).length + 32 * b ≤ 32 * P
  | [], P, b, _, _, h => by simp [objs]; omega
  | x :: L, P, b, hp, hm, h => by
    obtain ⟨h1, h2⟩ := List.pairwise_cons.1 hp
    obtain ⟨hk, hb, hP⟩ := hm x (by simp)
    have ih := objs_few L P (x.st + x.n) h2 (fun y hy => ⟨(hm y (by simp [hy])).1, h1 y hy, (hm y (by simp [hy])).2.2⟩) hP
    have hl := sobs_len x x.S.length
    have hf := hk.fit
    have h8 : x.S.length * 8 ≤ x.S.length * x.rm := Nat.mul_le_mul_left _ hk.rm1
    simp only [objs, List.flatMap_cons, List.length_append] at ih ⊢
    omega
theorem Hv.objs {H : Hs} (h : Hv H) : (objs H.sp).length ≤ 32768 := by
  have := objs_few H.sp H.P 0 h.sorted (fun x hx => ⟨h.ok x hx, Nat.zero_le _, h.le hx⟩) (Nat.zero_le _)
  have := h.P1
  omega

theorem Gives.more {α : Type} {F : Fence} {n : Nat} {P : Program} {gf : Nat} {lb : Array Value} {encs : α → Array Value} {Kp : World → World → Prop} {L : List α} {N N' : Nat} {w : World} (h : Gives F n P gf lb encs Kp L N w) (hN : N ≤ N') : Gives F n P gf lb encs Kp L N' w :=
  fun l J W1 h1 h2 h3 hY h0 => h l J W1 h1 h2 h3 (fun pre x W hp hl => hY pre x W hp (by omega)) h0

/-! ### a heap -/
theorem holes_ho {T : TypeId} {ox : Nat} {cs : Array Value} (p : Nat) (v : Value) (L : List Rn) (w : World) (hR : Rs T ox cs w p v L) (hlen : L.length ≤ 1024) : Calls Tryd.prog 31 #[.pointer (some ⟨p, ox, none⟩)] w (HoPost w (fr L)) := by
  refine (holes_any p v L w hR (by omega)).mono ?_
  rintro e w' ⟨B, Bn, v', rfl, hB, hBn, hL, h1, h2, h3, hE⟩
  refine ⟨66, _, B :: Bn :: v'.ownBlock.toList, rfl, enters_of Tryd.func66 (by kernel_rfl) rfl, fun b hb => ?_, fun V n hn hV => ?_, hE⟩
  · simp only [List.mem_cons, Option.mem_toList] at hb
    rcases hb with rfl | rfl | hb
    · exact ⟨h1, Boxed.lt hB⟩
    · exact ⟨h2, Boxed.lt hBn⟩
    · exact ⟨h3 b hb, (own_lt hL b hb).2⟩
  · exact (holes_gives n hn B Bn v' L (by omega) V (hV.keep hB (by simp)) (hV.keep hBn (by simp)) (hL.keep0 hV)).more hlen

theorem Hm.spit {w : World} {p ox : Nat} {T : TypeId} {cs : Array Value} {F : Nat → Prop} {H : Hs} {ag og : Nat} {V : Value} {sb : Nat → Nat × Nat} {O : List (Option Nat)} (h : Hm w p ox T cs F H ag og V sb O) : SpIt w (some ⟨p, ox, none⟩) H sb (fun Bn => Kb Bn p og H sb) := by
  refine ⟨fun W Bn hE hBn hb => spans_stops Fence.wide 7 trivial rfl (by omega) Bn p og H sb O W ((h.keep0 hE).it hb), fun Bn b hb => ?_⟩
  simp only [Kb, List.mem_cons, List.mem_map] at hb
  rcases hb with rfl | rfl | rfl | ⟨x, hx, rfl⟩
  · exact .inl rfl
  · exact .inr h.pt
  · exact .inr (lt_of_heap h.owners)
  · exact .inr (lt_of_heap (h.spans x hx).box)

theorem whole_any {w : World} {p ox : Nat} {T : TypeId} {cs : Array Value} {F : Nat → Prop} {H : Hs} (h : Hw w p ox T cs F H) : Calls Tryd.prog 11 #[.pointer (some ⟨p, ox, none⟩)] w (WhPost w (objs H.sp) H.sp (fr H.R)) := by
  obtain ⟨ag, og, V, sb, O, h⟩ := h
  have hl := h.ok.splen
  have hP := h.ok.P1
  have hr := h.ok.inv.len
  have ho := h.ok.objs
  exact whole_of _ _ _ _ w (by omega) (by omega)
    (fun W hE => objects_of _ H sb _ W h.ok (h.keep0 hE).spans (h.keep0 hE).spit)
    (fun W hE => spansl_of _ H sb _ W h.ok (h.keep0 hE).spans (h.keep0 hE).spit)
    (fun W hE => holes_ho p V H.R W (h.keep0 hE).rs (by omega))

/-! ### none -/
set_option maxRecDepth 100000 in
theorem spans1_nil (l Bn : Nat) (W : World) (hb : Boxed W Bn 23 (.pointer none)) : CallsIn Fence.wide 7 Tryd.prog 77 #[.func (.yield l) #[] #[], .pointer (some ⟨Bn, 0, none⟩)] W fun e W' => (∃ v, e = .returned v) ∧ W' = W := by
  have hc := Boxed.cell hb
  clear hb
  refine callsIn_of_wp Tryd.func77 rfl trivial ?_ rfl
  simp only [Tryd.ntmps77, List.size_toArray, List.length_cons, List.length_nil, Nat.reduceAdd, Nat.reduceSub, Array.replicate_succ, Array.replicate_zero, List.push_toArray, List.append_toArray, List.nil_append, List.cons_append]
  gi_wp2
  refine bodyPost_ret (results_none rfl _ _ _) rfl ?_
  exact ⟨⟨_, rfl⟩, rfl⟩
theorem nil_spit (w : World) : SpIt w none (newH 0) (fun _ => (0, 0)) (fun Bn => [Bn]) := by
  refine ⟨fun W Bn hE hBn hb => fun l J Jx W1 hW _ _ _ h0 => ?_, fun Bn b hb => .inl (by simpa using hb)⟩
  refine (spans1_nil l Bn W1 ((below_ext hW).keep hb (by simp))).mono ?_
  rintro e W' ⟨he, rfl⟩
  exact ⟨he, .inl ⟨[], rfl, h0⟩⟩
theorem values30 (v : Value) (hv : ∃ a n c, v = .slice a n c) (w : World) : Calls Tryd.prog 64 #[v] w fun e w' => e = .returned (.func (.func 81) #[] #[.pointer (some ⟨w.heap.size, 0, none⟩)]) ∧ w' = w.alloc (.cells #[v] 30) := by
  obtain ⟨a, n, c, rfl⟩ := hv
  go_enter Tryd.func64, Tryd.ntmps64
  go_wp2
  go_ret
  exact ⟨rfl, rfl⟩
theorem holes_nil (w : World) : Calls Tryd.prog 31 #[.pointer none] w (HoPost w []) := by
  have K := values30 (.slice none 0 0) ⟨_, _, _, rfl⟩ w
  have HF : Hid (HoPost w [] (.returned (.func (.func 81) #[] #[.pointer (some ⟨w.heap.size, 0, none⟩)])) (w.alloc (.cells #[.slice none 0 0] 30))) := by
    refine ⟨81, _, [], rfl, enters_of Tryd.func81 (by kernel_rfl) rfl, fun b hb => by simp at hb, fun V n hn hV => ?_, Ext.alloc _ _ _⟩
    intro l J W1 hl hb hJ hY h0
    have hB : Boxed W1 w.heap.size 30 (.slice none 0 0) := (below_ext hb).keep (hV.keep (Boxed.new w 30 (.slice none 0 0)) (by simp)) (by simp)
    refine (vals81_in Fence.wide n trivial rfl (by omega) l w.heap.size (.slice none 0 0) [] (by simp) J (fun _ _ => False) W1.heap.size (fun s A B row hs hg hr => hJ s A B row hs hg (fun r e => ⟨(hr r e).1, by obtain ⟨_, o, ho, hw⟩ := hr r e; exact ⟨o, ho, Obj.not_cells_of_walk hw⟩⟩)) (fun pre x W _ h => by simp at h) W1 hB (lst_nil _) h0).mono ?_
    rintro e W' ⟨he, ⟨ys, rfl, hj⟩ | ⟨pre, _, h⟩⟩
    · exact ⟨he, hj⟩
    · exact h.elim
  go_enter Tryd.func31, Tryd.ntmps31
  go_wp2_with fail
  refine K.mono ?_
  clear K
  rintro e w1 ⟨rfl, rfl⟩
  go_wp2
  go_ret
  exact HF.out
theorem whole_nil (w : World) : Calls Tryd.prog 11 #[.pointer none] w (WhPost w [] [] []) :=
  whole_of none [] [] [] w (by simp) (by simp)
    (fun W _ => objects_of none (newH 0) _ _ W (newH_ok (by omega)) (fun x hx => (List.not_mem_nil (show x ∈ ([] : List Spn) from hx)).elim) (nil_spit W))
    (fun W _ => spansl_of none (newH 0) _ _ W (newH_ok (by omega)) (fun x hx => (List.not_mem_nil (show x ∈ ([] : List Spn) from hx)).elim) (nil_spit W))
    (fun W _ => holes_nil W)

theorem hinfo_nil (a : Int) (w : World) : Calls Tryd.prog 12 #[.pointer none, .int .i64 a] w fun e w' => e = .returned (.tuple #[.agg #[.int .i64 0, .int .i64 0, .int .i64 0, .slice none 0 0], .int .i64 2]) ∧ Ext [] w w' := by
  have HE := hid (Ext.alloc [] w (.cells #[.int .i64 0, .int .i64 0, .int .i64 0, .slice none 0 0] 34))
  go_enter Tryd.func12, Tryd.ntmps12
  go_wp2
  exact bodyPost_ret (results_cell_tmp2 rfl _ _ ⟨w.heap.size, 0, none⟩ _ rfl (load34 (heap_alloc_new _ _))) rfl ⟨rfl, HE.out⟩

end Go.Proofs.YtlajjcboahflbaaDoor

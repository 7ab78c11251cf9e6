/-
  Seq and its iterator; no statement is proved here.
-/
import Derived.Test.YtkknadkcpndnaaaDoorPSmall
namespace Go.Proofs.YtkknadkcpndnaaaDoor.Pr
open Go.RowKit Go.Shelf

attribute [local go_sem] Oper.semAt_some

/-- The blocks of S stay. -/
def Kq (S : List Nat) (A B : World) : Prop := ∀ q ∈ S, ∀ o, A.heap[q]? = some o → B.heap[q]? = some o
theorem Kq.refl (S : List Nat) (A : World) : Kq S A A := fun _ _ _ h => h
theorem Kq.trans {S : List Nat} {A B C : World} (h : Kq S A B) (k : Kq S B C) : Kq S A C := fun q hq o ho => k q hq o (h q hq o ho)
theorem Kq.of_ext {S T : List Nat} {A B : World} (x : Ext T A B) (h : ∀ q ∈ S, q ∉ T) : Kq S A B := fun q hq _ ho => x.keep ho (h q hq)
theorem Kq.of_below {S : List Nat} {n : Nat} {A B : World} (h : Below n A B) (h0 : ∀ q ∈ S, q < n) : Kq S A B := fun q hq _ ho => (h.block q (h0 q hq)).trans ho
theorem kq_b {S : List Nat} {w : World} (h1 : ∀ q ∈ S, q < w.heap.size) (W : World) (l : Nat) (o o' : Obj) (hl : w.heap.size ≤ l) (_ : W.heap[l]? = some o) (_ : o.isCells = false) (_ : o.isWalk = false) : Kq S W (W.putObj l o') :=
  fun q hq _ ho => (World.putObj_heap_other (by have := h1 q hq; omega)).trans ho
theorem kq_t {S : List Nat} {A B C : World} (h : Kq S A B) (k : Kq S B C) : Kq S A C := h.trans k

theorem pl_next {h G i : Nat} (_hG : G ≤ 4096) (hi : i < G) (_hp : 0 < G) (p : Nat) (hpl : p = if i = 0 then h % G else pl h G (i - 1)) : ((p : Int) + (i : Int)) % (G : Int) = ((pl h G i : Nat) : Int) := by
  subst hpl
  cases i with
  | zero =>
    simp only [if_true, pl_zero]
    norm_cast
    rw [Nat.add_zero, Nat.mod_mod]
  | succ j =>
    simp only [Nat.add_one_ne_zero, if_false, Nat.add_sub_cancel]
    rw [pl_step]
    norm_cast

set_option maxRecDepth 100000 in
set_option maxHeartbeats 2000000 in
/-- The iterator's body, for every loop body that leaves the box of the number of groups. -/
theorem each1_in (n : Nat) (hn : 2 ≤ n) (l Bf Bg : Nat) (h G : Nat) (hG : Gp G) (J Jx : List Nat → World → Prop)
    (hY : ∀ pre x W, J pre W → pre ++ [x] <+: sq h G → YieldAt Fence.wide (n - 1) Tryd.prog l #[.int .i64 (x : Nat)] W fun e W' =>
      (e = .returned (.bool true) ∧ J (pre ++ [x]) W' ∧ Kq [Bg] W W') ∨ (e = .returned (.bool false) ∧ Jx (pre ++ [x]) W'))
    (W : World) (hBf : Boxed W Bf 3 (.int .i64 (h % G : Nat))) (hBg : Boxed W Bg 3 (.int .i64 (G : Nat))) (h0 : J [] W) :
    CallsIn Fence.wide n Tryd.prog 87 #[.func (.yield l) #[] #[], .pointer (some ⟨Bf, 0, none⟩), .pointer (some ⟨Bg, 0, none⟩)] W fun e W' => (∃ v, e = .returned v) ∧
      ((∃ ys, ys = sq h G ∧ J ys W') ∨ (∃ pre, pre <+: sq h G ∧ Jx pre W')) := by
  have hc := hBf.cell
  have hc2 := hBg.cell
  have hbl := hBf.lt
  have hbg := hBg.lt
  have hpos := hG.pos
  have hle := hG.le
  have hslen := sq_len h G
  have hmod : h % G < G := Nat.mod_lt _ hpos
  have HPL := hid (fun i => pl_lt h hpos i)
  have HBG := hid hBg
  have HN := hid (fun i (hi : i < G) p hp => pl_next (h := h) (i := i) hle hi hpos p hp)
  have HTK := hid (fun k hk => sq_take h G k hk)
  refine callsIn_of_wp Tryd.func87 rfl trivial ?_ rfl
  simp only [Tryd.ntmps87, List.size_toArray, List.length_cons, List.length_nil, Nat.reduceAdd, Nat.reduceSub, Array.replicate_succ, Array.replicate_zero, List.push_toArray, List.append_toArray, List.nil_append, List.cons_append]
  have HGP := hid hG
  clear hG hBf hBg
  gi_wp2
  clear hc hc2 hbl hbg
  gi_loopw [4, 8] (fun pv q wr => ∃ (i p : Nat), q = .int .i64 i ∧ pv = .int .i64 p ∧ p < G ∧ i ≤ G ∧ (p = if i = 0 then h % G else pl h G (i - 1)) ∧ Boxed wr Bg 3 (.int .i64 (G : Nat)) ∧ J ((sq h G).take i) wr) (fun _ q _ => (G - (intOf q)).toNat)
  case atStart => exact ⟨0, h % G, rfl, rfl, hmod, by omega, by simp, HBG.out, by simpa using h0⟩
  case round =>
    clear HBG h0 hmod
    obtain ⟨i, p, rfl, rfl, hpG, hiG, hp, hB, hJ⟩ := hrel
    have hc := hB.cell
    have hbl := hB.lt
    have HB := hid hB
    clear hB
    by_cases hi : i < G
    · have hnx := HN.out i hi p hp
      have hx := HPL.out i
      have HT := hid (HTK.out i hi)
      have HP : Hid (pl h G i = if i + 1 = 0 then h % G else pl h G (i + 1 - 1)) := by show _ = _; simp
      have hlen : (sq h G).take i ++ [pl h G i] <+: sq h G := by rw [← HT.out]; exact List.take_prefix _ _
      obtain ⟨fn, tmps, assign, body, hy, hR⟩ := hY _ (pl h G i) _ hJ hlen
      have HQ := hid hslen
      clear hlen hJ hp HN HPL HTK hslen
      generalize hqx : pl h G i = x at *
      clear hqx
      gi_wp2_with fail
      refine ⟨fun _ => by omega, hR.mono ?_⟩
      rintro e W3 (⟨rfl, hJ3, hk3⟩ | ⟨rfl, hJx3⟩)
      · have HB3 := hid (show Boxed W3 Bg 3 (.int .i64 (G : Nat)) from hk3 Bg (by simp) _ HB.out)
        clear hR hy hk3
        gi_wp2
        go_roundw
        case rel => exact ⟨i + 1, x, rfl, rfl, hx, by omega, HP.out, HB3.out, by rw [HT.out]; exact hJ3⟩
        case measure => simp [intOf]; omega
      · clear hR hy
        gi_wp2
        refine bodyPost_ret (results_none rfl _ _ _) rfl ?_
        exact ⟨⟨_, rfl⟩, .inr ⟨_, by rw [← HT.out]; exact List.take_prefix _ _, hJx3⟩⟩
    · obtain rfl : i = G := by omega
      have HQ := hid hslen
      clear hp HN HPL HTK hslen
      gi_wp2
      go_end0
      exact ⟨⟨_, rfl⟩, .inl ⟨_, List.take_of_length_le (by rw [HQ.out]; omega), hJ⟩⟩

/-- The iterator's contract. -/
theorem seq_stops (n : Nat) (hn : 2 ≤ n) (Bf Bg h G : Nat) (hG : Gp G) (w : World) (hF : Boxed w Bf 3 (.int .i64 (h % G : Nat))) (hB : Boxed w Bg 3 (.int .i64 (G : Nat))) :
    SeqStopsK Fence.wide n Tryd.prog 87 #[.pointer (some ⟨Bf, 0, none⟩), .pointer (some ⟨Bg, 0, none⟩)] (fun x : {x : Nat // x < G} => #[Value.int .i64 (x.val : Nat)]) (Kq [Bg]) (fun ys => ys.map Subtype.val = sq h G) (fun pre => pre.map Subtype.val <+: sq h G) G w := by
  intro l J Jx W hW _ _ hY h0
  refine (each1_in n hn l Bf Bg h G hG (fun p W => ∃ q, q.map Subtype.val = p ∧ J q W) (fun p W => ∃ q, q.map Subtype.val = p ∧ Jx q W) ?_ W ((below_ext hW).keep hF (by simp)) ((below_ext hW).keep hB (by simp)) ⟨[], rfl, h0⟩).mono ?_
  · rintro pre x W ⟨q, rfl, hj⟩ hp
    have hx : x < G := by
      have h1 : x ∈ sq h G := hp.subset (by simp)
      obtain ⟨i, _, rfl⟩ := List.mem_map.1 h1
      exact pl_lt h hG.pos i
    have hl : q.length < G := by
      have := hp.length_le
      rw [sq_len] at this
      simp at this
      omega
    obtain ⟨fn, tmps, assign, body, hy, hR⟩ := hY q ⟨x, hx⟩ W hj hl
    refine ⟨fn, tmps, assign, body, hy, hR.mono ?_⟩
    rintro e W' (⟨rfl, h1, h2⟩ | ⟨rfl, h1⟩)
    · exact .inl ⟨rfl, ⟨q ++ [⟨x, hx⟩], by simp, h1⟩, h2⟩
    · exact .inr ⟨rfl, ⟨q ++ [⟨x, hx⟩], by simp, h1⟩⟩
  · rintro e W' ⟨hv, (⟨ys, h1, q, h2, h3⟩ | ⟨pre, h1, q, h2, h3⟩)⟩
    · exact ⟨hv, .inl ⟨q, h2.trans h1, h3⟩⟩
    · exact ⟨hv, .inr ⟨q, by show q.map _ <+: _; rw [h2]; exact h1, h3⟩⟩

theorem seq_ok (h G : Nat) (hG : Gp G) (w : World) : Calls Tryd.prog 70 #[.int .u64 h, .int .i64 G] w fun e w' =>
    e = .returned (.tuple #[.func (.func 87) #[] #[.pointer (some ⟨w.heap.size + 1, 0, none⟩), .pointer (some ⟨w.heap.size, 0, none⟩)], .int .i64 0]) ∧ w' = (w.alloc (.cells #[.int .i64 (G : Nat)] 3)).alloc (.cells #[.int .i64 (h % G : Nat)] 3) := by
  have K := allowed_yes G hG (w.alloc (.cells #[.int .i64 (G : Nat)] 3))
  have hpos := hG.pos
  have hle := hG.le
  have hm : h % G < G := Nat.mod_lt _ hpos
  have he : (h : Int) % (G : Int) = ((h % G : Nat) : Int) := by norm_cast
  clear hG
  generalize h % G = r at *
  go_enter Tryd.func70, Tryd.ntmps70
  go_wp2_with fail
  refine met K ?_
  clear K
  go_wp2
  go_ret2
  exact ⟨rfl, rfl⟩
theorem seq_bad (h : Nat) (G : Int) (hG : ¬ GpI G) (w : World) : Calls Tryd.prog 70 #[.int .u64 h, .int .i64 G] w fun e w' =>
    e = .returned (.tuple #[.func (.func 86) #[] #[], .int .i64 2]) ∧ w' = w.alloc (.cells #[.int .i64 G] 3) := by
  have K := allowed_no G hG (w.alloc (.cells #[.int .i64 G] 3))
  clear hG
  go_enter Tryd.func70, Tryd.ntmps70
  go_wp2_with fail
  refine met K ?_
  clear K
  go_wp2
  go_ret2
  exact ⟨rfl, rfl⟩

/-- What Seq's order is, and its error. -/
def ordL (h : Nat) (G : Int) (L : List Nat) (er : Int) : Prop := (∃ g : Nat, G = g ∧ Gp g ∧ L = sq h g ∧ er = 0) ∨ (¬ GpI G ∧ L = [] ∧ er = 2)
theorem ord_ex (h : Nat) (G : Int) : ∃ L er, ordL h G L er := by
  by_cases hG : GpI G
  · obtain ⟨g, rfl, hg⟩ := hG
    exact ⟨_, _, .inl ⟨g, rfl, hg, rfl, rfl⟩⟩
  · exact ⟨_, _, .inr ⟨hG, rfl, rfl⟩⟩
theorem ord_len {h : Nat} {G : Int} {L : List Nat} {er : Int} (hL : ordL h G L er) : L.length ≤ 4096 := by
  rcases hL with ⟨g, rfl, hg, rfl, rfl⟩ | ⟨_, rfl, rfl⟩
  · rw [sq_len]; exact hg.le
  · simp

end Go.Proofs.YtkknadkcpndnaaaDoor.Pr

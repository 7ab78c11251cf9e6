/-
  Scrp, WView: joined by program; no statement is proved here.
-/
import Derived.Test.YtjbbomokgpoilaaGreatDoorZMH
import Derived.Test.YtjbbomokgpoilaaGreatDoorZO
import Derived.Deep.Grids
import Derived.Test.YtjbbomokgpoilaaGreatDoorZVA
import Derived.Test.YtjbbomokgpoilaaGreatDoorZME2
import Derived.Test.YtjbbomokgpoilaaGreatDoorZME
/-
  What a walk is told of a script that came in; no statement is proved here.
-/
namespace Go.Proofs.YtjbbomokgpoilaaGreatDoor
open Go.ChangeShapes Go.WideShapes Go.ChangeAt Go.RowKit Go.Deep

theorem bytes3 : Tryz.prog.bytesOf 3 = 8 := by kernel_rfl
theorem bytes4 : Tryz.prog.bytesOf 4 = 1 := by kernel_rfl
theorem bytes113 : Tryz.prog.bytesOf 113 = 96 := by kernel_rfl
theorem cells4 : Tryz.prog.cellsOf 4 = 1 := by kernel_rfl
theorem cells26 : Tryz.prog.cellsOf 26 = 1 := by kernel_rfl
theorem cells27 : Tryz.prog.cellsOf 27 = 1 := by kernel_rfl
theorem cells32 : Tryz.prog.cellsOf 32 = 1 := by kernel_rfl
theorem cells113 : Tryz.prog.cellsOf 113 = 8 := by kernel_rfl

theorem weightsAll_mem {H : Type} {P : Program} {e : TypeId} : ∀ {l : List (DataW H)} {d : DataW H}, d ∈ l → ∀ n ∈ d.weights P e, n ∈ DataW.weightsAll P e l
  | x :: r, d, h, n, hn => by
    unfold DataW.weightsAll
    rcases List.mem_cons.1 h with rfl | h
    · exact List.mem_append.2 (.inl hn)
    · exact List.mem_append.2 (.inr (weightsAll_mem h n hn))

theorem pick_list {α : Type} (p : Nat → α → Prop) : ∀ n, (∀ i, i < n → ∃ x, p i x) → ∃ l : List α, l.length = n ∧ ∀ i, ∀ hi : i < l.length, p i l[i]
  | 0, _ => ⟨[], rfl, fun i hi => by simp at hi⟩
  | n + 1, h => by
    obtain ⟨l, h1, h2⟩ := pick_list p n (fun i hi => h i (by omega))
    obtain ⟨x, hx⟩ := h n (by omega)
    refine ⟨l ++ [x], by simp [h1], fun i hi => ?_⟩
    by_cases e : i = n
    · subst e; simpa [← h1] using hx
    · have hi2 : i < l.length := by simp at hi; omega
      have := h2 i hi2
      simpa [List.getElem_append_left hi2] using this

/-- A list of ints out of its reading. -/
theorem open_list {H : Type} {enc : TypeId × Value → H} {W : World} {fuel : Nat} {v : Value} {x : DataW H × List MemPlace} (h : DataW.trod enc Tryz.prog W 0 (fun _ => true) true fuel 32 [v] = some x)
    (hsz : ∀ y ∈ x.1.weights Tryz.prog 32, y ≤ 140737488351232) : ∃ a c, ∃ xs : List Int, v = .slice a xs.length c ∧ Co.Is W a xs ∧ xs.length ≤ 17592186043904 ∧ ∀ y ∈ xs, I64 y := by
  rcases open_ints Tryz.underlying32 Tryz.underlying3 cells3 h with ⟨hcs, _⟩ | ⟨q, l, c, zs, hcs, _, hl, hm, hz, hx, hcl, hwz⟩
  · obtain rfl : v = .slice none 0 0 := by simpa using hcs
    exact ⟨none, 0, [], rfl, .inl rfl, by simp, by simp⟩
  · obtain rfl : v = .slice (some q) l c := by simpa using hcs
    simp only [if_true] at hz
    have hlen2 : (zs.take l).length = l := by simp; omega
    subst hx
    have := hsz (((lits (H := H) .i64 (zs.take l)).length + (lits (H := H) .i64 (zs.drop l)).length) * Tryz.prog.bytesOf 3) (by
      simp only [DataW.weights, Tryz.underlying32]
      exact List.mem_cons_self)
    rw [bytes3] at this
    simp only [lits, List.length_map, List.length_take, List.length_drop] at this
    refine ⟨some q, c, zs.take l, by simp only [hlen2], ?_, by rw [hlen2]; omega, fun y hy => i64_of_wf (hwz y (List.mem_of_mem_take hy))⟩
    by_cases h0 : l = 0
    · left; simp [h0]
    · right
      obtain ⟨b, o, rfl, hc2⟩ := ints_at hcl (by omega)
      refine ⟨b, o, rfl, fun j hj => ?_⟩
      simp only [List.length_map, hlen2] at hj
      have hj2 : j < zs.length := by omega
      rw [hc2 j hj2]
      simp [List.getD, hj, hj2]

/-- A list of truths out of its reading. -/
theorem open_truths {H : Type} {enc : TypeId × Value → H} {W : World} {fuel : Nat} {v : Value} {x : DataW H × List MemPlace} (h : DataW.trod enc Tryz.prog W 0 (fun _ => true) true fuel 26 [v] = some x)
    (hsz : ∀ y ∈ x.1.weights Tryz.prog 26, y ≤ 140737488351232) : ∃ a c, ∃ xs : List Bool, v = .slice a xs.length c ∧ Co.Os W a xs ∧ xs.length ≤ 140737488351232 := by
  rcases open_bools Tryz.underlying26 Tryz.underlying4 cells4 h with ⟨hcs, _⟩ | ⟨q, l, c, B, hcs, _, hl, hm, hx, hcl⟩
  · obtain rfl : v = .slice none 0 0 := by simpa using hcs
    exact ⟨none, 0, [], rfl, .inl rfl, by simp⟩
  · obtain rfl : v = .slice (some q) l c := by simpa using hcs
    subst hx
    have hw := hsz ((((List.range l).map fun i => (DataW.lit (.bool (B i)) : DataW H)).length + ((List.range (c - l)).map fun j => (DataW.lit (.bool (B (l + j))) : DataW H)).length) * Tryz.prog.bytesOf 4) (by
      simp only [boolRow, DataW.weights, Tryz.underlying26]
      exact List.mem_cons_self)
    rw [bytes4] at hw
    simp only [List.length_map, List.length_range] at hw
    refine ⟨some q, c, (List.range l).map B, by simp, ?_, by simp; omega⟩
    by_cases h0 : l = 0
    · left; simp [h0]
    · right
      obtain ⟨b, o, sp⟩ := q
      have hsp : sp = none := by
        have := World.cell?_spot (hcl 0 (by omega))
        simpa [Addr.add] using this
      subst hsp
      refine ⟨b, o, rfl, fun j hj => ?_⟩
      simp only [List.length_map, List.length_range] at hj
      have h1 := hcl j (by omega)
      rw [Addr.add_lit] at h1
      rw [h1]
      simp [hj]

set_option maxRecDepth 100000 in
/-- One call of a script, out of its reading. -/
theorem open_op {H : Type} {enc : TypeId × Value → H} {W : World} {fuel : Nat} {ad : Addr} {cs : List Value} {x : DataW H × List MemPlace} (hc : W.cells? 0 ad 8 = some cs) (h : DataW.trod enc Tryz.prog W 0 (fun _ => true) true fuel 113 cs = some x)
    (hsz : ∀ y ∈ x.1.weights Tryz.prog 113, y ≤ 140737488351232) :
    ∃ b o, ad = ⟨b, o, none⟩ ∧ ∃ q : Oq, ∃ pa pn pc ra rn rc, Opm W q pa pn pc ra rn rc ∧ W.cell? ⟨b, o, none⟩ = some (.int .i64 q.kd) ∧ W.cell? ⟨b, o + 1, none⟩ = some (.int .i64 q.A) ∧ W.cell? ⟨b, o + 2, none⟩ = some (.int .i64 q.I) ∧ W.cell? ⟨b, o + 3, none⟩ = some (.int .i64 q.to) ∧ W.cell? ⟨b, o + 4, none⟩ = some (.int .i64 q.tag) ∧ W.cell? ⟨b, o + 5, none⟩ = some (.int .u64 q.V) ∧ W.cell? ⟨b, o + 6, none⟩ = some (.slice pa pn pc) ∧ W.cell? ⟨b, o + 7, none⟩ = some (.slice ra rn rc) := by
  obtain ⟨_, hlen, hcell⟩ := World.cells?_some hc
  obtain ⟨v0, v1, v2, v3, v4, v5, v6, v7, rfl⟩ : ∃ v0 v1 v2 v3 v4 v5 v6 v7, cs = [v0, v1, v2, v3, v4, v5, v6, v7] := by
    match cs, hlen with
    | [v0, v1, v2, v3, v4, v5, v6, v7], _ => exact ⟨v0, v1, v2, v3, v4, v5, v6, v7, rfl⟩
  obtain ⟨xs, n, rfl, rfl, _, hxl, hf⟩ := DataW.trod_struct Tryz.underlying113 h
  have h0 := hcell 0 (by omega)
  have hsp := World.cell?_spot h0
  obtain ⟨b, o, sp⟩ := ad
  have hsp2 : sp = none := by simpa [Addr.add] using hsp
  subst hsp2
  have hxl2 : xs.length = 8 := hxl
  obtain ⟨x0, x1, x2, x3, x4, x5, x6, x7, rfl⟩ : ∃ x0 x1 x2 x3 x4 x5 x6 x7, xs = [x0, x1, x2, x3, x4, x5, x6, x7] := by
    match xs, hxl2 with
    | [x0, x1, x2, x3, x4, x5, x6, x7], _ => exact ⟨x0, x1, x2, x3, x4, x5, x6, x7, rfl⟩
  have f0 : DataW.trod enc Tryz.prog W 0 (fun _ => true) true n 3 (([v0, v1, v2, v3, v4, v5, v6, v7].drop 0).take (Tryz.prog.cellsOf 3)) = some x0 := hf 0 _ rfl
  have f1 : DataW.trod enc Tryz.prog W 0 (fun _ => true) true n 3 (([v0, v1, v2, v3, v4, v5, v6, v7].drop 1).take (Tryz.prog.cellsOf 3)) = some x1 := hf 1 _ rfl
  have f2 : DataW.trod enc Tryz.prog W 0 (fun _ => true) true n 3 (([v0, v1, v2, v3, v4, v5, v6, v7].drop 2).take (Tryz.prog.cellsOf 3)) = some x2 := hf 2 _ rfl
  have f3 : DataW.trod enc Tryz.prog W 0 (fun _ => true) true n 3 (([v0, v1, v2, v3, v4, v5, v6, v7].drop 3).take (Tryz.prog.cellsOf 3)) = some x3 := hf 3 _ rfl
  have f4 : DataW.trod enc Tryz.prog W 0 (fun _ => true) true n 3 (([v0, v1, v2, v3, v4, v5, v6, v7].drop 4).take (Tryz.prog.cellsOf 3)) = some x4 := hf 4 _ rfl
  have f5 : DataW.trod enc Tryz.prog W 0 (fun _ => true) true n 27 (([v0, v1, v2, v3, v4, v5, v6, v7].drop 5).take (Tryz.prog.cellsOf 27)) = some x5 := hf 5 _ rfl
  have f6 : DataW.trod enc Tryz.prog W 0 (fun _ => true) true n 26 (([v0, v1, v2, v3, v4, v5, v6, v7].drop 6).take (Tryz.prog.cellsOf 26)) = some x6 := hf 6 _ rfl
  have f7 : DataW.trod enc Tryz.prog W 0 (fun _ => true) true n 32 (([v0, v1, v2, v3, v4, v5, v6, v7].drop 7).take (Tryz.prog.cellsOf 32)) = some x7 := hf 7 _ rfl
  rw [cells3] at f0 f1 f2 f3 f4
  rw [cells27] at f5
  rw [cells26] at f6
  rw [cells32] at f7
  obtain ⟨K, e0, rfl, w0⟩ := DataW.trod_int Tryz.underlying3 f0
  obtain ⟨A, e1, rfl, w1⟩ := DataW.trod_int Tryz.underlying3 f1
  obtain ⟨I, e2, rfl, w2⟩ := DataW.trod_int Tryz.underlying3 f2
  obtain ⟨T, e3, rfl, w3⟩ := DataW.trod_int Tryz.underlying3 f3
  obtain ⟨G, e4, rfl, w4⟩ := DataW.trod_int Tryz.underlying3 f4
  obtain ⟨V, e5, rfl, w5⟩ := DataW.trod_int Tryz.underlying27 f5
  obtain rfl : v0 = .int .i64 K := by simpa using e0
  obtain rfl : v1 = .int .i64 A := by simpa using e1
  obtain rfl : v2 = .int .i64 I := by simpa using e2
  obtain rfl : v3 = .int .i64 T := by simpa using e3
  obtain rfl : v4 = .int .i64 G := by simpa using e4
  obtain rfl : v5 = .int .u64 V := by simpa using e5
  obtain ⟨pa, pc, ps, hv6, hO, ho2⟩ := open_truths (v := v6) (by simpa using f6) (fun y hy => hsz y (by
    simp only [DataW.weights, Tryz.underlying113, List.map_cons, List.map_nil]
    exact DataW.weights_mem_each (j := 6) (t := 26) rfl rfl y hy))
  subst hv6
  obtain ⟨ra, rc, r, hv7, hI, hi2, hi3⟩ := open_list (v := v7) (by simpa using f7) (fun y hy => hsz y (by
    simp only [DataW.weights, Tryz.underlying113, List.map_cons, List.map_nil]
    exact DataW.weights_mem_each (j := 7) (t := 32) rfl rfl y hy))
  subst hv7
  refine ⟨b, o, rfl, ⟨K, A, I, T, G, V, ps, r⟩, pa, ps.length, pc, ra, r.length, rc, ⟨hO, rfl, by omega, hI, rfl, by omega, u64_of_wf w5, i64_of_wf w1, i64_of_wf w2, i64_of_wf w3, hi3⟩, by simpa [Addr.add_lit] using h0, by simpa [Addr.add_lit] using hcell 1 (by omega), by simpa [Addr.add_lit] using hcell 2 (by omega), by simpa [Addr.add_lit] using hcell 3 (by omega), by simpa [Addr.add_lit] using hcell 4 (by omega), by simpa [Addr.add_lit] using hcell 5 (by omega), by simpa [Addr.add_lit] using hcell 6 (by omega), by simpa [Addr.add_lit] using hcell 7 (by omega)⟩

theorem open_script {H : Type} {enc : TypeId × Value → H} {W : World} {fuel : Nat} {a : Option Addr} {n c : Nat} {d : DataW H} {ps : List MemPlace} (h : DataW.trod enc Tryz.prog W 0 (fun _ => true) true fuel 49 [.slice a n c] = some (d, ps))
    (hsz : ∀ y ∈ d.weights Tryz.prog 49, y ≤ 140737488351232) : ∃ S : List Oq, Scr W a S ∧ S.length = n := by
  rcases DataW.trod_slice Tryz.underlying49 h with ⟨hcs, _⟩ | ⟨ad, len, cap, elems, rest, fu, rfl, hcs, hx, _, _, _, hel, hE, _, _⟩
  · simp at hcs
    exact ⟨[], ⟨.inl rfl, by simp⟩, hcs.2.1.symm⟩
  · simp only [List.cons.injEq, Value.slice.injEq, and_true] at hcs
    obtain ⟨rfl, rfl, rfl⟩ := hcs
    simp only [Prod.mk.injEq] at hx
    obtain ⟨rfl, _⟩ := hx
    have hw1 := hsz (((elems.map (·.1)).length + (rest.map (·.1)).length) * Tryz.prog.bytesOf 113) (by
      simp only [DataW.weights, Tryz.underlying49]; exact List.mem_cons_self)
    rw [bytes113] at hw1
    simp only [List.length_map] at hw1
    have hall : ∀ i, i < n → ∃ b o, ad.add (i * 8) = ⟨b, o, none⟩ ∧ ∃ q : Oq, ∃ pa pn pc ra rn rc, Opm W q pa pn pc ra rn rc ∧ W.cell? ⟨b, o, none⟩ = some (.int .i64 q.kd) ∧ W.cell? ⟨b, o + 1, none⟩ = some (.int .i64 q.A) ∧ W.cell? ⟨b, o + 2, none⟩ = some (.int .i64 q.I) ∧ W.cell? ⟨b, o + 3, none⟩ = some (.int .i64 q.to) ∧ W.cell? ⟨b, o + 4, none⟩ = some (.int .i64 q.tag) ∧ W.cell? ⟨b, o + 5, none⟩ = some (.int .u64 q.V) ∧ W.cell? ⟨b, o + 6, none⟩ = some (.slice pa pn pc) ∧ W.cell? ⟨b, o + 7, none⟩ = some (.slice ra rn rc) := by
      intro i hi
      have he := hE i hi
      rw [cells113] at he
      have hlt : i < elems.length := by omega
      rw [List.getElem?_eq_getElem hlt] at he
      obtain ⟨cs, hc, ht⟩ := Option.bind_eq_some_iff.1 he
      exact open_op hc ht (fun y hy => hsz y (by
        simp only [DataW.weights, Tryz.underlying49]
        refine List.mem_cons_of_mem _ (List.mem_append.2 (.inl ?_))
        exact weightsAll_mem (List.mem_map.2 ⟨elems[i], List.getElem_mem hlt, rfl⟩) y hy))
    by_cases h0 : n = 0
    · exact ⟨[], ⟨.inl rfl, by simp⟩, h0.symm⟩
    · obtain ⟨b, o, hb, _⟩ := hall 0 (by omega)
      obtain ⟨b', o', sp⟩ := ad
      have hsp : sp = none := by
        have := congrArg Addr.spot hb
        simpa [Addr.add] using this
      subst hsp
      obtain ⟨S, hS, hq⟩ := pick_list (fun i (q : Oq) => ∃ pa pn pc ra rn rc, Opm W q pa pn pc ra rn rc ∧ W.cell? ⟨b', o' + i * 8, none⟩ = some (.int .i64 q.kd) ∧ W.cell? ⟨b', o' + i * 8 + 1, none⟩ = some (.int .i64 q.A) ∧ W.cell? ⟨b', o' + i * 8 + 2, none⟩ = some (.int .i64 q.I) ∧ W.cell? ⟨b', o' + i * 8 + 3, none⟩ = some (.int .i64 q.to) ∧ W.cell? ⟨b', o' + i * 8 + 4, none⟩ = some (.int .i64 q.tag) ∧ W.cell? ⟨b', o' + i * 8 + 5, none⟩ = some (.int .u64 q.V) ∧ W.cell? ⟨b', o' + i * 8 + 6, none⟩ = some (.slice pa pn pc) ∧ W.cell? ⟨b', o' + i * 8 + 7, none⟩ = some (.slice ra rn rc)) n (fun i hi => by
        obtain ⟨b2, o2, hb2, q, h1⟩ := hall i hi
        rw [Addr.add_lit] at hb2
        simp only [Addr.mk.injEq, and_true] at hb2
        obtain ⟨rfl, rfl⟩ := hb2
        exact ⟨q, h1⟩)
      exact ⟨S, ⟨.inr ⟨b', o', rfl, fun i hi => hq i hi⟩, by omega⟩, hS⟩

end Go.Proofs.YtjbbomokgpoilaaGreatDoor

/-
  The walk through MemoryView; no statement is proved here.
-/
namespace Go.Proofs.YtjbbomokgpoilaaGreatDoor
open Go.RowKit

theorem grown_cy (x pc : Int) (S : List Oq) (hS : ∀ q ∈ S, 0 ≤ q.V ∧ q.V < 18446744073709551616) (hl : S.length ≤ 1048576) : (grownM x pc S).1.G.cy ≤ 2147483648 := by
  have hpg : pgF x ≤ 1024 := by unfold pgF; split <;> omega
  have h := grow_gi S (s := (newM (pgF x) pc x0, [])) (b := 899999999000000000) (i := 0) hS ⟨mk_new9 hpg pc _ (by omega), by simp [newM], by simp [newM], by simp, fun y hy => by cases hy⟩ (jd_new hpg pc) (by omega)
  have := h.km.cy
  unfold grownM
  omega

set_option maxRecDepth 100000 in
set_option maxHeartbeats 4000000 in
theorem viewWalk (x pc : Int) (a : Option Addr) (n c : Nat) (S : List Oq) (ra : Option Addr) (rn rc : Nat) (R : List Int) (w : World) (hG : Gl w) (hS : Scr w a S) (hn : S.length = n) (hsm : n ≤ 1048576)
    (hR : Co.Is w ra R) (hrn : R.length = rn) (hrb : rn ≤ 17592186043904) (hi : ∀ y ∈ R, I64 y) :
    Calls Tryz.prog 6 #[.int .i64 x, .int .i64 pc, .slice a n c, .slice ra rn rc] w (SayPost w (.bool true)) := by
  have K := grown_any w hG x pc a n c S hS hn
  have hSV : ∀ q ∈ S, 0 ≤ q.V ∧ q.V < 18446744073709551616 := fun q hq => by
    obtain ⟨k, hk, rfl⟩ := List.mem_iff_getElem.1 hq
    rcases hS.at_ with e | ⟨b, o, _, hsc⟩
    · rw [e] at hk; simp at hk
    · obtain ⟨_, _, _, _, _, _, hop, _⟩ := hsc k hk
      exact hop.hV
  have hJ : Jd (grownM x pc S).1 [] := grow_jd S hSV (jd_new (by unfold pgF; split <;> omega) pc)
  have hgi := grown_gi x pc S hSV hS.len
  have hsl := hS.len
  have hcy := grown_cy x pc S hSV (by omega)
  have HG := hid hG
  have HR := hid hR
  have Hi := hid hi
  clear hS hn hSV hG hR hi
  generalize grownM x pc S = Rr at *
  obtain ⟨M, L⟩ := Rr
  simp only at hJ hgi hcy
  have hk := hgi.km
  have hok := hgi.ok
  have hln := hgi.ln
  simp only at hk hok hln
  generalize S.length = sl at *
  obtain ⟨l0, hl0, _⟩ := nodes_live M (adrsF L R)
  have hAi := adrsF_i64 hok Hi.out
  have hLi : ∀ y ∈ liveM M (adrsF L R), I64 y := fun y hy => hAi y (List.mem_filter.1 hy).1
  have hAl : (adrsF L R).length = rn := by unfold adrsF; rw [List.length_map]; exact hrn
  have hLl := liveM_len M (adrsF L R)
  rw [hAl] at hLl
  have hV := hJ.vsd hl0 (by omega) hcy
  have HV := hid hV
  have HJ := hid hJ
  have HK := hid hk
  have HL0 := hid hl0
  have HLi := hid hLi
  have HAi := hid hAi
  have HAl := hid hAl
  have HLl := hid hLl
  clear hgi hJ hk hok hl0 hAi hLi hAl hLl hcy hV
  go_enter Tryz.func6, Tryz.ntmps6
  go_wp2_with fail
  refine K.mono ?_
  clear K
  rintro e w1 ⟨p1, gv, rfl, ⟨Z1, hm1, hz1, hgv, hE1⟩, _⟩
  simp only at hm1 hgv
  obtain ⟨va, vc, rfl, hVI, _⟩ := own_is hgv
  have HM1 := hid hm1.there
  have HVI := hid hVI
  have HE1 := hid hE1
  clear hm1 hz1 hgv hE1 hVI
  generalize (fun k => Z1 k ∧ k < w1.heap.size) = Y1 at *
  go_wp2_with fail
  refine (mawake_any w1 (HG.out.keep0 HE1.out)).mono ?_
  rintro e w3 ⟨rfl, hE3⟩
  have HM3 := hid (HM1.out.keep0 hE3)
  have K := addresses_any w3 va L.length vc L (HVI.out.keep0 (co_ext hE3)) rfl (by omega) ra rn rc R (HR.out.keep0 (co_ext (HE1.out.trans hE3))) hrn (by omega)
  have HE3 := hid (HE1.out.trans hE3)
  clear hE3 HM1 HE1 HVI
  go_wp2_with fail
  refine K.mono ?_
  clear K
  rintro e w4 ⟨av, rfl, ho4, hE4⟩
  obtain ⟨aa, ac, rfl, hA4, _⟩ := own_is (l := adrsF L R) ho4
  rw [HAl.out]
  have hE4 := ext_co hE4
  have K := mlive_any (HM3.out.keep0 hE4) HK.out HJ.out aa rn ac (adrsF L R) hA4 HAl.out (by omega) HAi.out
  have HM4 := hid (HM3.out.keep0 hE4)
  have HE4 := hid (HE3.out.trans hE4)
  clear ho4 hA4 hE4 HM3 HE3
  go_wp2_with fail
  refine K.mono ?_
  clear K
  rintro e w5 ⟨lv, rfl, ho5, hE5⟩
  obtain ⟨la, lc, rfl, hL5, hlb5⟩ := own_is (l := liveM M (adrsF L R)) ho5
  have hE5 := ext_co hE5
  have K := mview_any (HM4.out.keep0 hE5) (b := 12) HK.out HJ.out la (liveM M (adrsF L R)).length lc (liveM M (adrsF L R)) hL5 rfl (by have := HLl.out; omega) HLi.out HL0.out
  have HM5 := hid (HM4.out.keep0 hE5)
  have HE5 := hid (HE4.out.trans hE5)
  clear ho5 hL5 hlb5 hE5 HM4 HE4
  go_wp2_with fail
  refine K.mono ?_
  clear K
  rintro e w6 ⟨v, fa, fc, rra, rrc, rfl, hv1, hv2, hv3, hE6⟩
  obtain ⟨oa, oc, rfl, hv4⟩ := hv1.vl
  have hv5 := Co.own_vs hv3
  have HM6 := hid (HM5.out.keep0 hE6)
  have HE6 := hid (HE5.out.trans hE6)
  have HPh : Hid (∀ u, Ext [] w6 u → Calls Tryz.prog 19 #[.pointer (some ⟨p1, 0, none⟩)] u fun e u' => e = .returned (.int .i64 M.G.ph) ∧ u' = u) := fun u hu => phase_any (HM6.out.keep0 hu)
  have HCy : Hid (∀ u, Ext [] w6 u → Calls Tryz.prog 20 #[.pointer (some ⟨p1, 0, none⟩)] u fun e u' => e = .returned (.int .i64 M.G.cy) ∧ u' = u) := fun u hu => cycles_any (HM6.out.keep0 hu)
  have HS6 : Hid (∀ u, Ext [] w6 u → Calls Tryz.prog 30 #[.agg #[.slice oa (vosM M (objs M.H.sp)).length oc, .slice fa (fr M.H.R).length fc, .slice rra (vroots (liveM M (adrsF L R))).length rrc, .int .i64 M.G.ph, .int .i64 M.G.cy]] u (SayPost u (.int .i64 0))) := fun u hu =>
    sound_yes u oa _ oc _ fa _ fc _ rra _ rrc _ _ _ (hv4.keep0 hu) rfl (own_keep0 (own_base hv2 (Nat.zero_le _)) hu) rfl (Co.Is.keep0 hv5 (co_ext hu)) rfl HV.out
  clear hv1 hv2 hv3 hv4 hv5 hE6 HM5 HE5
  generalize (vosM M (objs M.H.sp)).length = on at *
  generalize (fr M.H.R).length = fn at *
  generalize (vroots (liveM M (adrsF L R))).length = rrn at *
  generalize M.G.ph = gph at *
  generalize M.G.cy = gcy at *
  obtain ⟨W7, hW7⟩ : ∃ W7, w6.alloc (.cells #[.slice oa on oc, .slice fa fn fc, .slice rra rrn rrc, .int .i64 gph, .int .i64 gcy] 40) = W7 := ⟨_, rfl⟩
  obtain ⟨z, hz⟩ : ∃ z, w6.heap.size = z := ⟨_, rfl⟩
  have hE7 : Ext [] w6 W7 := by rw [← hW7]; exact Ext.alloc [] _ _
  have hr7 : W7.heap[z]? = some (.cells #[.slice oa on oc, .slice fa fn fc, .slice rra rrn rrc, .int .i64 gph, .int .i64 gcy] 40 (0, 0)) := by rw [← hW7, ← hz]; exact heap_alloc_new _ _
  have HC : Hid (∀ u, Ext [] W7 u → u.cell? ⟨z, 0, none⟩ = some (.slice oa on oc) ∧ u.cell? ⟨z, 1, none⟩ = some (.slice fa fn fc) ∧ u.cell? ⟨z, 2, none⟩ = some (.slice rra rrn rrc) ∧ u.cell? ⟨z, 3, none⟩ = some (.int .i64 gph) ∧ u.cell? ⟨z, 4, none⟩ = some (.int .i64 gcy)) := fun u hu => by
    have := hu.keep hr7 (by simp)
    refine ⟨?_, ?_, ?_, ?_, ?_⟩ <;> (rw [cell_of_row _ _ _ _ _ _ this]; rfl)
  have K30 : Hid (∀ u, Ext [] W7 u → Calls Tryz.prog 30 #[.agg #[.slice oa on oc, .slice fa fn fc, .slice rra rrn rrc, .int .i64 gph, .int .i64 gcy]] u (fun e u' => e = .returned (.int .i64 0) ∧ (u'.cell? ⟨z, 0, none⟩ = some (.slice oa on oc) ∧ u'.cell? ⟨z, 1, none⟩ = some (.slice fa fn fc) ∧ u'.cell? ⟨z, 2, none⟩ = some (.slice rra rrn rrc) ∧ u'.cell? ⟨z, 3, none⟩ = some (.int .i64 gph) ∧ u'.cell? ⟨z, 4, none⟩ = some (.int .i64 gcy)) ∧ Hid (Ext [] W7 u'))) := fun u hu =>
    (HS6.out u (hE7.trans hu)).mono (fun e u' hp => ⟨hp.1, HC.out u' (hu.trans hp.2), hu.trans hp.2⟩)
  have K19 : Hid (∀ u, Ext [] W7 u → Calls Tryz.prog 19 #[.pointer (some ⟨p1, 0, none⟩)] u fun e u' => e = .returned (.int .i64 gph) ∧ u' = u) := fun u hu => HPh.out u (hE7.trans hu)
  have K20 : Hid (∀ u, Ext [] W7 u → Calls Tryz.prog 20 #[.pointer (some ⟨p1, 0, none⟩)] u fun e u' => e = .returned (.int .i64 gcy) ∧ u' = u) := fun u hu => HCy.out u (hE7.trans hu)
  have HE7 := hid (HE6.out.trans hE7)
  have HW7 := hid hW7
  have HZ := hid hz
  obtain ⟨c0, c1, c2, c3, c4⟩ := HC.out W7 (Ext.refl _ _)
  clear hE7 hr7 hW7 hz HS6 HE6 HPh HCy HC HM6
  go_wp2_with fail
  rw [HW7.out]
  try simp only [HZ.out]
  first | go_region_held3 (fun u => u.cell? ⟨z, 0, none⟩ = some (.slice oa on oc) ∧ u.cell? ⟨z, 1, none⟩ = some (.slice fa fn fc) ∧ u.cell? ⟨z, 2, none⟩ = some (.slice rra rrn rrc) ∧ u.cell? ⟨z, 3, none⟩ = some (.int .i64 gph) ∧ u.cell? ⟨z, 4, none⟩ = some (.int .i64 gcy)) (first | exact ⟨c0, c1, c2, c3, c4⟩ | exact d8 | fail "S") (first | (go_at_call 30; refine (K30.out _ (Ext.drew _ _)).mono ?_; rintro e w8 ⟨rfl, d8, H8⟩) | (go_at_call 19; refine met (K19.out _ H8.out) ?_) | (go_at_call 20; refine met (K20.out _ H8.out) ?_) | fail "no arm") | fail "no"
  clear d8 c0 c1 c2 c3 c4
  go_wp2_with fail
  go_ret
  exact ⟨rfl, HE7.out.trans H8.out⟩
end Go.Proofs.YtjbbomokgpoilaaGreatDoor

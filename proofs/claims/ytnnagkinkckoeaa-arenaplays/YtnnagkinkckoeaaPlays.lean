/-
  Whatever is read, written, moved and cleared in an arena, each call answers what a plain list of bytes would: the function ArenaPlays answers true and leaves its arguments as they were, for every size and every script; no condition.
-/
import Derived.Test.YtnnagkinkckoeaaStepTwo
import Derived.SizedLaws
namespace Go.Proofs.Ytnnagkinkckoeaa
open Go.ChangeShapes Go.WideShapes Go.ChangeAt Go.RowKit

/-- One call of the script, as it lies in memory. -/
def OpAt (w : World) (b o : Nat) (K A N F V : Int) (a : Option Addr) (m c : Nat) (ys : List Int) : Prop :=
  (w.cell? ⟨b, o, none⟩ = some (.int .i64 K) ∧ w.cell? ⟨b, o + 1, none⟩ = some (.int .i64 A) ∧ w.cell? ⟨b, o + 2, none⟩ = some (.int .i64 N) ∧ w.cell? ⟨b, o + 3, none⟩ = some (.int .i64 F) ∧
    w.cell? ⟨b, o + 4, none⟩ = some (.int .u64 V) ∧ w.cell? ⟨b, o + 5, none⟩ = some (.slice a m c)) ∧
  I64 A ∧ I64 F ∧ (0 ≤ V ∧ V < 18446744073709551616) ∧ Sl w a ys ∧ ys.length = m ∧ m ≤ 140737488351232

theorem OpAt.lt {w : World} {b o : Nat} {K A N F V : Int} {a : Option Addr} {m c : Nat} {ys : List Int} (h : OpAt w b o K A N F V a m c ys) : ∀ ad, a = some ad → ys ≠ [] → ad.block < w.heap.size := by
  obtain ⟨_, _, _, _, hS, _⟩ := h
  rintro ad rfl h0
  rcases hS.at_ with h | ⟨b', o', he, hc⟩
  · exact absurd h h0
  · cases he
    exact block_lt_of_cell (hc 0 (List.length_pos_iff.2 h0))

/-- The script: n calls. -/
def Script (w : World) (b o n : Nat) : Prop := ∀ i, i < n → ∃ K A N F V a m c ys, OpAt w b (o + i * 6) K A N F V a m c ys

set_option maxRecDepth 100000 in
set_option maxHeartbeats 1000000 in
theorem playsOf (s : Int) (a : Option Addr) (n c : Nat) (w : World) (hsc : n = 0 ∨ ∃ b o, a = some ⟨b, o, none⟩ ∧ Script w b o n) (hn : n ≤ 140737488351232) :
    Calls Try.prog 3 #[.int .i64 s, .slice a n c] w (SayPost w (.bool true)) := by
  have HS : Hid (n = 0 ∨ ∃ b o, a = some ⟨b, o, none⟩ ∧ Script w b o n) := hsc
  clear hsc
  by_cases hs : 0 ≤ s ∧ s ≤ 1048576
  · obtain ⟨S, rfl⟩ : ∃ S : Nat, s = S := ⟨s.toNat, by omega⟩
    go_enter Try.func3, Try.ntmps3
    go_wp2_with fail
    refine (awake_any _).mono ?_
    rintro e w1 ⟨rfl, hE1⟩
    go_wp2_with fail
    refine (new_ok S w1 (by omega)).mono ?_
    rintro e w2 ⟨rfl, hA2, hE2⟩
    have HE2 : Hid (Ext [] w w2) := hE1.trans hE2
    have hlt : w.heap.size ≤ w1.heap.size := hE1.size
    have hlt2 := hA2.row.lt
    have hlt3 := lt_of_heap hA2.box
    have K2 := size_any w2 _ _ _ hA2
    rw [List.length_replicate] at K2
    clear hE1 hE2
    obtain ⟨t, ht, hz0, hz1, hz2⟩ := info_parts info5
    have hr := run_make (P := Try.prog) w2 29 5 t _ Try.underlying29 ht hz0 .i64 .i64 S S (by omega) (Int.le_refl _) (by rw [hz2]; omega) (by omega)
    rw [hz1] at hr
    simp only [Int.toNat_natCast] at hr
    have hm : madeCells (Value.int IntKind.u8 0).cells (S * 1) = ((List.replicate S (0 : Int)).map (Value.int .u8)).toArray := by
      apply Array.toList_inj.1
      rw [show (Value.int IntKind.u8 0).cells = #[.int .u8 0] from rfl, toList_madeCells_one]
      simp
    rw [hm] at hr
    clear hm hz0 hz1 hz2 ht t
    have hR3 : Row (w2.alloc (.cells ((List.replicate S (0 : Int)).map (Value.int .u8)).toArray 5)) w2.heap.size (List.replicate S 0) := heap_alloc_new w2 _
    have hA3 := hA2.keep (Ext.alloc [] w2 (.cells ((List.replicate S (0 : Int)).map (Value.int .u8)).toArray 5)) (by simp) (by simp)
    have HE3 : Hid (Ext [] w (w2.alloc (.cells ((List.replicate S (0 : Int)).map (Value.int .u8)).toArray 5))) := HE2.out.trans (Ext.alloc [] w2 _)
    have HA3 : Hid (Ar (w2.alloc (.cells ((List.replicate S (0 : Int)).map (Value.int .u8)).toArray 5)) (w1.heap.size + 1) w1.heap.size (List.replicate S 0)) := hA3
    have HR3 : Hid (Row (w2.alloc (.cells ((List.replicate S (0 : Int)).map (Value.int .u8)).toArray 5)) w2.heap.size (List.replicate S 0)) := hR3
    clear hR3 hA3 hA2
    generalize ((List.replicate S (0 : Int)).map (Value.int .u8)).toArray = X at *
    go_wp2_with (go_at_call 11; refine met K2 ?_)
    clear hr K2
    obtain ⟨w3, hw3⟩ : ∃ w3, w3 = w2.alloc (.cells X 5) := ⟨_, rfl⟩
    rw [← hw3] at HE3 HA3 HR3
    have HW3 : Hid (w3 = w2.alloc (.cells X 5)) := hw3
    rw [← hw3]
    clear hw3
    go_loopw [8] (fun q wr => ∃ k : Nat, ∃ L : List Int, q = .int .i64 k ∧ k ≤ n ∧ Ar wr (w1.heap.size + 1) w1.heap.size L ∧ Row wr w2.heap.size L ∧ L.length = S ∧ Ext [] w wr) (fun q _ => (n - (intOf q)).toNat)
    case atStart => exact ⟨0, _, rfl, Nat.zero_le _, HA3.out, HR3.out, by simp, HE3.out⟩
    case round =>
      obtain ⟨k, L, rfl, hk, hA, hR, hL, hE⟩ := hrel
      have HA : Hid (Ar wr (w1.heap.size + 1) w1.heap.size L) := hA
      have HR : Hid (Row wr w2.heap.size L) := hR
      have HL : Hid (L.length = S) := hL
      have HE : Hid (Ext [] w wr) := hE
      clear hA hR hL hE
      by_cases hkn : k < n
      · obtain ⟨b, o, rfl, hsc⟩ : ∃ b o, a = some ⟨b, o, none⟩ ∧ Script w b o n := by
          rcases HS.out with h | h
          · omega
          · exact h
        obtain ⟨K, A, N, F, V, a2, m, c2, ys, hop⟩ := hsc k hkn
        have hlt4 := hop.lt
        obtain ⟨⟨c0, c1, c2', c3, c4, c5⟩, hi, hf, hv, hS, hm, hm2⟩ := hop
        have d0 := HE.out.cell c0 (by simp)
        have d1 := HE.out.cell c1 (by simp)
        have d2 := HE.out.cell c2' (by simp)
        have d3 := HE.out.cell c3 (by simp)
        have d4 := HE.out.cell c4 (by simp)
        have d5 := HE.out.cell c5 (by simp)
        have KS := step_any (w1.heap.size + 1) w1.heap.size w2.heap.size L S K A N F V a2 m c2 ys wr HA.out HR.out HL.out (by omega) hi hf hv (hS.keep HE.out (by simp)) hm (by omega) (fun ad had h0 => by have := hlt4 ad had h0; omega)
        clear c0 c1 c2' c3 c4 c5 hi hf hv hS hm hlt4 hsc
        go_wp2_with fail
        refine KS.mono ?_
        clear KS
        rintro e w4 ⟨L', rfl, hA', hR', hL', hE'⟩
        have hE4 : Ext [] w w4 := ((HE.out.mono (by simp)).trans hE').drop (by simp; omega)
        have HA' : Hid (Ar w4 (w1.heap.size + 1) w1.heap.size L') := hA'
        have HR' : Hid (Row w4 w2.heap.size L') := hR'
        have HL' : Hid (L'.length = S) := hL'
        have HE' : Hid (Ext [] w w4) := hE4
        clear hA' hR' hL' hE' hE4 d0 d1 d2 d3 d4 d5
        go_wp2
        go_roundw
        case rel => exact ⟨k + 1, L', by go_num, by omega, HA'.out, HR'.out, HL'.out, HE'.out⟩
        case measure => simp [intOf]; omega
      · have K4 := bytes_ok 0 S _ _ wr L HA.out (by rw [HL.out]; omega)
        rw [← HL.out, cut_all, HL.out] at K4
        go_wp2_with fail
        refine K4.mono ?_
        clear K4
        rintro e w4 ⟨rfl, hR4, hE4⟩
        have K5 := same_true _ _ S S S L w4 (hR4.sl HA.out.ok) ((HR.out.sl HA.out.ok).keep hE4 (by simp)) HL.out (by unfold maxLen; omega)
        have HE4 : Hid (Ext [] w w4) := HE.out.trans hE4
        clear hR4 hE4
        go_wp2_with fail
        refine K5.mono ?_
        rintro e w5 ⟨rfl, hE5⟩
        go_wp2
        go_ret
        exact ⟨rfl, HE4.out.trans hE5⟩
  · have K1 := fun W => new_bad s W (by omega)
    rcases (by omega : s < 0 ∨ 1048576 < s) with h | h
    all_goals
      clear hs
      go_enter Try.func3, Try.ntmps3
      go_wp2_with fail
      refine (awake_any _).mono ?_
      rintro e w1 ⟨rfl, hE1⟩
      go_wp2_with (go_at_call 10; refine met (K1 _) ?_)
      go_ret
      exact ⟨rfl, hE1⟩

theorem weightsAll_mem {H : Type} {P : Program} {e : TypeId} : ∀ {l : List (DataW H)} {d : DataW H}, d ∈ l → ∀ n ∈ d.weights P e, n ∈ DataW.weightsAll P e l
  | x :: r, d, h, n, hn => by
    unfold DataW.weightsAll
    rcases List.mem_cons.1 h with rfl | h
    · exact List.mem_append.2 (.inl hn)
    · exact List.mem_append.2 (.inr (weightsAll_mem h n hn))

theorem bytes5 : Try.prog.bytesOf 5 = 1 := by kernel_rfl
theorem bytes33 : Try.prog.bytesOf 33 = 64 := by kernel_rfl
theorem cells33 : Try.prog.cellsOf 33 = 6 := by kernel_rfl
theorem cells3 : Try.prog.cellsOf 3 = 1 := by kernel_rfl
theorem cells31 : Try.prog.cellsOf 31 = 1 := by kernel_rfl
theorem cells29 : Try.prog.cellsOf 29 = 1 := by kernel_rfl
theorem cells5 : Try.prog.cellsOf 5 = 1 := by kernel_rfl

/-- One call of the script, out of its reading. -/
theorem open_op {H : Type} {enc : TypeId × Value → H} {W : World} {fuel : Nat} {ad : Addr} {cs : List Value} {x : DataW H × List MemPlace} (hc : W.cells? 0 ad 6 = some cs) (h : DataW.trod enc Try.prog W 0 (fun _ => true) true fuel 33 cs = some x)
    (hsz : ∀ y ∈ x.1.weights Try.prog 33, y ≤ 140737488351232) : ∃ b o, ad = ⟨b, o, none⟩ ∧ ∃ K A N F V a m c ys, OpAt W b o K A N F V a m c ys := by
  obtain ⟨_, hlen, hcell⟩ := World.cells?_some hc
  obtain ⟨v0, v1, v2, v3, v4, v5, rfl⟩ : ∃ v0 v1 v2 v3 v4 v5, cs = [v0, v1, v2, v3, v4, v5] := by
    match cs, hlen with
    | [v0, v1, v2, v3, v4, v5], _ => exact ⟨v0, v1, v2, v3, v4, v5, rfl⟩
  obtain ⟨xs, n, rfl, rfl, _, hxl, hf⟩ := DataW.trod_struct Try.underlying33 h
  have h0 := hcell 0 (by omega)
  have hsp := World.cell?_spot h0
  obtain ⟨b, o, sp⟩ := ad
  have hsp2 : sp = none := by simpa [Addr.add] using hsp
  subst hsp2
  have f0 : DataW.trod enc Try.prog W 0 (fun _ => true) true n 3 (([v0, v1, v2, v3, v4, v5].drop 0).take (Try.prog.cellsOf 3)) = xs[0]? := hf 0 _ rfl
  rw [cells3] at f0
  have f1 : DataW.trod enc Try.prog W 0 (fun _ => true) true n 3 (([v0, v1, v2, v3, v4, v5].drop 1).take (Try.prog.cellsOf 3)) = xs[1]? := hf 1 _ rfl
  rw [cells3] at f1
  have f2 : DataW.trod enc Try.prog W 0 (fun _ => true) true n 3 (([v0, v1, v2, v3, v4, v5].drop 2).take (Try.prog.cellsOf 3)) = xs[2]? := hf 2 _ rfl
  rw [cells3] at f2
  have f3 : DataW.trod enc Try.prog W 0 (fun _ => true) true n 3 (([v0, v1, v2, v3, v4, v5].drop 3).take (Try.prog.cellsOf 3)) = xs[3]? := hf 3 _ rfl
  rw [cells3] at f3
  have f4 : DataW.trod enc Try.prog W 0 (fun _ => true) true n 31 (([v0, v1, v2, v3, v4, v5].drop 4).take (Try.prog.cellsOf 31)) = xs[4]? := hf 4 _ rfl
  rw [cells31] at f4
  have f5 : DataW.trod enc Try.prog W 0 (fun _ => true) true n 29 (([v0, v1, v2, v3, v4, v5].drop 5).take (Try.prog.cellsOf 29)) = xs[5]? := hf 5 _ rfl
  rw [cells29] at f5
  have hxl6 : xs.length = 6 := hxl
  obtain ⟨x0, x1, x2, x3, x4, x5, rfl⟩ : ∃ x0 x1 x2 x3 x4 x5, xs = [x0, x1, x2, x3, x4, x5] := by
    match xs, hxl6 with
    | [x0, x1, x2, x3, x4, x5], _ => exact ⟨x0, x1, x2, x3, x4, x5, rfl⟩
  obtain ⟨K, e0, rfl, w0⟩ := DataW.trod_int Try.underlying3 f0
  obtain ⟨A, e1, rfl, w1⟩ := DataW.trod_int Try.underlying3 f1
  obtain ⟨N, e2, rfl, w2⟩ := DataW.trod_int Try.underlying3 f2
  obtain ⟨F, e3, rfl, w3⟩ := DataW.trod_int Try.underlying3 f3
  obtain ⟨V, e4, rfl, w4⟩ := DataW.trod_int Try.underlying31 f4
  obtain rfl : v0 = .int .i64 K := by simpa using e0
  obtain rfl : v1 = .int .i64 A := by simpa using e1
  obtain rfl : v2 = .int .i64 N := by simpa using e2
  obtain rfl : v3 = .int .i64 F := by simpa using e3
  obtain rfl : v4 = .int .u64 V := by simpa using e4
  obtain ⟨a, m, c, zs, rfl, hrow, hm⟩ : ∃ a m c zs, v5 = .slice a m c ∧ IsRow .u8 W a m c zs ∧ m ≤ 140737488351232 := by
    rcases open_ints Try.underlying29 Try.underlying5 cells5 f5 with ⟨hcs, _⟩ | ⟨q, l, c, zs, hcs, _, hl, hm, hz, hx, hcl, hwz⟩
    · have hcs : v5 = .slice none 0 0 := by simpa using hcs
      exact ⟨none, 0, 0, [], hcs, .inl ⟨rfl, rfl, rfl, rfl⟩, by omega⟩
    · have hcs : v5 = .slice (some q) l c := by simpa using hcs
      simp only [if_true] at hz
      refine ⟨some q, l, c, zs, hcs, .inr ⟨q, rfl, hl, hm, hz, hcl, hwz⟩, ?_⟩
      subst hx
      have := hsz (((lits (H := H) .u8 (zs.take l)).length + (lits (H := H) .u8 (zs.drop l)).length) * Try.prog.bytesOf 5) (by
        simp only [DataW.weights, Try.underlying33]
        refine DataW.weights_mem_each (ts := [3, 3, 3, 3, 31, 29]) (j := 5) (t := 29) rfl rfl _ ?_
        simp only [DataW.weights, Try.underlying29]
        exact List.mem_cons_self)
      rw [bytes5] at this
      simp only [lits, List.length_map, List.length_take, List.length_drop] at this
      omega
  have hsl := hrow.sl
  refine ⟨b, o, rfl, K, A, N, F, V, a, m, c, zs.take m, ⟨?_, ?_, ?_, ?_, ?_, ?_⟩, i64_of_wf w1, i64_of_wf w3, u64_of_wf w4, hsl.1, hsl.2.1, hm⟩
  · simpa [Addr.add_lit] using h0
  · simpa [Addr.add_lit] using hcell 1 (by omega)
  · simpa [Addr.add_lit] using hcell 2 (by omega)
  · simpa [Addr.add_lit] using hcell 3 (by omega)
  · simpa [Addr.add_lit] using hcell 4 (by omega)
  · simpa [Addr.add_lit] using hcell 5 (by omega)

theorem open_script {H : Type} {enc : TypeId × Value → H} {W : World} {fuel : Nat} {a : Option Addr} {n c : Nat} {d : DataW H} {ps : List MemPlace} (h : DataW.trod enc Try.prog W 0 (fun _ => true) true fuel 22 [.slice a n c] = some (d, ps))
    (hsz : ∀ y ∈ d.weights Try.prog 22, y ≤ 140737488351232) : (n = 0 ∨ ∃ b o, a = some ⟨b, o, none⟩ ∧ Script W b o n) ∧ n ≤ 140737488351232 := by
  rcases DataW.trod_slice Try.underlying22 h with ⟨hcs, _⟩ | ⟨ad, len, cap, elems, rest, fu, rfl, hcs, hx, _, _, _, hel, hE, _, _⟩
  · simp at hcs
    exact ⟨.inl hcs.2.1, by omega⟩
  · simp only [List.cons.injEq, Value.slice.injEq, and_true] at hcs
    obtain ⟨rfl, rfl, rfl⟩ := hcs
    simp only [Prod.mk.injEq] at hx
    obtain ⟨rfl, _⟩ := hx
    have hw1 := hsz (((elems.map (·.1)).length + (rest.map (·.1)).length) * Try.prog.bytesOf 33) (by
      simp only [DataW.weights, Try.underlying22]; exact List.mem_cons_self)
    rw [bytes33] at hw1
    simp only [List.length_map] at hw1
    have hall : ∀ i, i < n → ∃ b o, ad.add (i * 6) = ⟨b, o, none⟩ ∧ ∃ K A N F V a m c ys, OpAt W b o K A N F V a m c ys := by
      intro i hi
      have he := hE i hi
      rw [cells33] at he
      have hlt : i < elems.length := by omega
      rw [List.getElem?_eq_getElem hlt] at he
      obtain ⟨cs, hc, ht⟩ := Option.bind_eq_some_iff.1 he
      refine open_op hc ht (fun y hy => hsz y ?_)
      simp only [DataW.weights, Try.underlying22]
      refine List.mem_cons_of_mem _ (List.mem_append.2 (.inl ?_))
      exact weightsAll_mem (List.mem_map.2 ⟨elems[i], List.getElem_mem hlt, rfl⟩) y hy
    refine ⟨?_, by omega⟩
    by_cases h0 : n = 0
    · exact .inl h0
    · right
      obtain ⟨b, o, hb, _⟩ := hall 0 (by omega)
      obtain ⟨b', o', sp⟩ := ad
      have hsp : sp = none := by
        have := congrArg Addr.spot hb
        simpa [Addr.add] using this
      subst hsp
      refine ⟨b', o', rfl, fun i hi => ?_⟩
      obtain ⟨b2, o2, hb2, hop⟩ := hall i hi
      rw [Addr.add_lit] at hb2
      simp only [Addr.mk.injEq, and_true] at hb2
      obtain ⟨rfl, rfl⟩ := hb2
      exact hop

end Go.Proofs.Ytnnagkinkckoeaa

namespace Go.Proofs.Ytnnagkinkckoeaa.arenaPlays
open Go.ChangeShapes Go.WideShapes Go.ChangeAt Go.RowKit

set_option maxRecDepth 100000 in
theorem lifted (os : Os) (started : os.Started) (H : Type) (enc : TypeId × Value → H) :
    ReturnsInHanded {} Try.checked os 3 .any (Rows.arenaPlaysSpec.pre6 enc Try.prog Try.f3 Rows.arenaPlaysRow.domain false) (Rows.arenaPlaysSpec.post enc Try.prog Try.f3 false true false false) := by
  refine returnsInHanded_of_change_sized (C := Try.checked) own started (by kernel_rfl) Try.func3
    (ChangeSpec.witness6 (enc := enc) (C := Try.checked) false ⟨#[], #[.int .i64 0, .slice none 0 0], []⟩ 8 (by kernel_rfl) (by kernel_rfl) (by kernel_rfl) (by kernel_rfl)) ?_
  intro W base args ds gs before hval0 hW hcnd hsz0 _
  have hval : ∀ (j : Nat) t v, Try.f3.params[j]? = some t → args[j]? = some v → Value.okWide Try.prog W .any base t v := hval0
  have hW' := hW
  obtain ⟨p, q, hA0, hV, rfl, hfz, hnd⟩ := hW
  have hA : DataW.TrodAll enc Try.prog W 0 (fun _ => true) true Try.f3.params.toList args.toList ds p := hA0
  rw [Try.params3] at hA hval
  obtain ⟨v0, vs0, d0, ds0, p0, q0, hargs, rfl, rfl, h0, r0⟩ := trodAll_cons hA
  obtain ⟨v1, vs1, d1, ds1, p1, q1, rfl, rfl, rfl, h1, r1⟩ := trodAll_cons r0
  obtain ⟨rfl, rfl, rfl⟩ := trodAll_nil r1
  obtain rfl : args = #[v0, v1] := by cases args; simp_all
  obtain ⟨rfl, rfl⟩ := trodVars_none hV
  obtain ⟨a0, rfl, rfl, rfl, w0⟩ := open_int Try.underlying3 (hval 0 3 v0 rfl rfl) h0
  obtain ⟨a1, len1, cap1, rfl⟩ := okWide_slice Try.underlying22 (hval 1 22 v1 rfl rfl)
  have k1 := h1
  have lt1 : ∀ x ∈ p1, x.block < W.heap.size := by obtain ⟨m, hm⟩ := k1; exact DataW.trod_lt m _ _ _ hm
  have hsz : (DataW.weightsEach Try.prog [3, 22] [_, d1]).all (· ≤ reachBytes) = true := hsz0
  have hwd : ∀ y ∈ d1.weights Try.prog 22, y ≤ 140737488351232 := by
    intro y hy
    have := List.all_eq_true.1 hsz y (DataW.weights_mem_each (j := 1) (t := 22) rfl rfl y hy)
    have h2 := of_decide_eq_true this
    simpa [reachBytes] using h2
  obtain ⟨fuel, hf⟩ := h1
  have hsc := open_script (n := len1) (c := cap1) hf hwd
  clear hA0 hval0
  refine (playsOf a0 a1 len1 cap1 W hsc.1 hsc.2).mono fun e W' ⟨he, hext⟩ => ?_
  subst he
  have bel := hext.below
  exact ⟨_, rfl, _, _, _, [], _, [], hW', trodAll_mk1 (shut_bool Try.underlying4 _), (trodAll_cons_mk (shut_int Try.underlying3 w0) (trodAll_cons_mk (Below.trod laidOut (by kernel_rfl) (of_decide_eq_true (by kernel_rfl)) k1 bel lt1) trodAll_mk0)), rfl, bel.frame _, fun h => by cases h⟩

theorem over : Rows.arenaPlaysRow.holds Try.pinned (OpenSpec.ofChange Rows.arenaPlaysSpec) :=
  OpenClaim.holds_of_wide 3 Try.f3 rfl rfl rfl rfl rfl rfl rfl ⟨rfl, rfl, rfl, rfl, rfl⟩ rfl rfl rfl rfl rfl (by kernel_rfl) Try.func3 (by kernel_rfl)
    (of_decide_eq_true (by kernel_rfl)) (by unfold Func.isWrapper; first | (rw [if_pos (by decide +kernel)]; kernel_rfl) | (rw [if_neg (by decide +kernel)]; exact ⟨rfl, rfl⟩))
    (fun os started H enc _ => lifted os started H enc)

end Go.Proofs.Ytnnagkinkckoeaa.arenaPlays

namespace Go.Proofs.Ytnnagkinkckoeaa
theorem arenaPlays_holds : Rows.ArenaPlaysSaid := arenaPlays.over
#print axioms arenaPlays_holds
end Go.Proofs.Ytnnagkinkckoeaa

/-
  The reference's Reached, Set and Lost; no statement is proved here.
-/
import Derived.Test.YtfjabjnajcfamaaRfA
namespace Go.Proofs.Ytfjabjnajcfamaa
open Go.RowKit

/-- A number put behind a list of one's own, however long. -/
theorem put_big {w0 W : World} {v : Value} {n base : Nat} {xs : List Value} (ho : W.ownsRow base 3 1 v n xs) (hb : base ≤ W.heap.size) (hE : Ext [] w0 W) (hw : w0.heap.size ≤ base) (x : Int) (hl : n ≤ 10000000000) :
    ∃ v' W2, (Builtin.append_ #[23, 23] 23 #[v, .slice (some ⟨W.heap.size, 0, none⟩) 1 1]).run Try.prog (W.alloc (.cells #[.int .i64 x] 3)) = .ok v' W2 ∧ W2.ownsRow base 3 1 v' (n + 1) (xs ++ [.int .i64 x]) ∧ Ext [] w0 W2 ∧ (∀ k o, k < base → W.heap[k]? = some o → W2.heap[k]? = some o) := by
  obtain ⟨i3, hi3, hz3, hs3, hy3⟩ := info_parts info3
  have hEa := Ext.alloc [] W (.cells #[.int .i64 x] 3)
  have hna : ∀ (j : Nat) (u : Value), [Value.int .i64 x][j]? = some u → (W.alloc (.cells #[.int .i64 x] 3)).cell? (Addr.add ⟨W.heap.size, 0, none⟩ j) = some u := fun j u hu => by
    rw [Addr.add_lit, cell_of_row _ _ _ _ _ _ (heap_alloc_new W _), Nat.zero_add, ← hu]; simp
  obtain ⟨v', W2, hr, ho2, hg2, _⟩ := run_append_own (P := Try.prog) (W.alloc (.cells #[.int .i64 x] 3)) base 23 23 3 i3 _ 1 8 Try.underlying23 hi3 hz3 hs3 hy3 rfl (by decide) v n _ (own_keep0 ho hEa) ⟨W.heap.size, 0, none⟩ 1 1 [.int .i64 x] rfl hna (by simp [Value.oneCell']) (by unfold maxLen; omega) (by omega) (by simp; omega)
  have hX := ext_grown hg2
  have hlt := own_lt ho
  refine ⟨v', W2, hr, ho2, (hE.trans hEa).on hX (fun k hk => by have := hlt k (by simpa using hk); omega), fun k o hk ho => hX.keep (hEa.keep ho (by simp)) (fun q => by have := hlt k (by simpa using q); omega)⟩

/-- What stands of the reference's search. -/
structure Rs (N : List (List Nat)) (R : List Nat) (wo : Int) (C : List Bool) (T : List Nat) (x : Nat) (rest : List Nat) : Prop where
  tn : ∀ z ∈ T, Rch N R wo z
  cnn : ∀ z, C[z]? = some true → Rch N R wo z
  roots : ∀ r ∈ R, (r : Int) ≠ wo → C[r]? = some true ∨ r ∈ T
  clos : ∀ z, C[z]? = some true → ∀ y ∈ nxt N z, (y : Int) ≠ wo → C[y]? = some true ∨ y ∈ T ∨ (z = x ∧ y ∈ rest)

theorem Rs.pop {N : List (List Nat)} {R : List Nat} {wo : Int} {C : List Bool} {T : List Nat} {x z : Nat} (h : Rs N R wo C (T ++ [x]) z []) (hx : C[x]? = some true) : Rs N R wo C T 0 [] := by
  refine ⟨fun y hy => h.tn y (by simp [hy]), h.cnn, fun r hr hw => ?_, fun u hu y hy hw => ?_⟩
  · rcases h.roots r hr hw with q | q
    · exact .inl q
    · simp only [List.mem_append, List.mem_singleton] at q
      rcases q with q | rfl
      · exact .inr q
      · exact .inl hx
  · rcases h.clos u hu y hy hw with q | q | ⟨_, q⟩
    · exact .inl q
    · simp only [List.mem_append, List.mem_singleton] at q
      rcases q with q | rfl
      · exact .inr (.inl q)
      · exact .inl hx
    · cases q
theorem Rs.visit {N : List (List Nat)} {R : List Nat} {wo : Int} {C : List Bool} {T : List Nat} {x z : Nat} (h : Rs N R wo C (T ++ [x]) z []) (hx : x < C.length) : Rs N R wo (C.set x true) T x (nxt N x) := by
  have hxx : (C.set x true)[x]? = some true := by rw [List.getElem?_set_self hx]
  have hset : ∀ y : Nat, C[y]? = some true → (C.set x true)[y]? = some true := fun y hy => by
    by_cases e : x = y
    · subst e; exact hxx
    · rw [List.getElem?_set_ne e]; exact hy
  refine ⟨fun y hy => h.tn y (by simp [hy]), fun y hy => ?_, fun r hr hw => ?_, fun u hu y hy hw => ?_⟩
  · by_cases e : x = y
    · subst e; exact h.tn _ (by simp)
    · rw [List.getElem?_set_ne e] at hy; exact h.cnn y hy
  · rcases h.roots r hr hw with q | q
    · exact .inl (hset r q)
    · simp only [List.mem_append, List.mem_singleton] at q
      rcases q with q | rfl
      · exact .inr q
      · exact .inl hxx
  · by_cases e : x = u
    · subst e; exact .inr (.inr ⟨rfl, hy⟩)
    · rw [List.getElem?_set_ne e] at hu
      rcases h.clos u hu y hy hw with q | q | ⟨_, q⟩
      · exact .inl (hset y q)
      · simp only [List.mem_append, List.mem_singleton] at q
        rcases q with q | rfl
        · exact .inr (.inl q)
        · exact .inl hxx
      · cases q
theorem Rs.skip {N : List (List Nat)} {R : List Nat} {wo : Int} {C : List Bool} {T : List Nat} {x y : Nat} {rest : List Nat} (h : Rs N R wo C T x (y :: rest)) (hy : (y : Int) = wo ∨ C[y]? = some true) : Rs N R wo C T x rest := by
  refine ⟨h.tn, h.cnn, h.roots, fun u hu z hz hw => ?_⟩
  rcases h.clos u hu z hz hw with q | q | ⟨e, q⟩
  · exact .inl q
  · exact .inr (.inl q)
  · simp only [List.mem_cons] at q
    rcases q with rfl | q
    · rcases hy with hy | hy
      · exact absurd hy hw
      · exact .inl hy
    · exact .inr (.inr ⟨e, q⟩)
theorem Rs.push {N : List (List Nat)} {R : List Nat} {wo : Int} {C : List Bool} {T : List Nat} {x y : Nat} {rest : List Nat} (h : Rs N R wo C T x (y :: rest)) (hx : Rch N R wo x) (hyx : y ∈ nxt N x) (hy : (y : Int) ≠ wo) : Rs N R wo C (T ++ [y]) x rest := by
  refine ⟨fun z hz => ?_, h.cnn, fun r hr hw => ?_, fun u hu z hz hw => ?_⟩
  · simp only [List.mem_append, List.mem_singleton] at hz
    rcases hz with hz | rfl
    · exact h.tn z hz
    · exact .step hx hyx hy
  · rcases h.roots r hr hw with q | q
    · exact .inl q
    · exact .inr (by simp [q])
  · rcases h.clos u hu z hz hw with q | q | ⟨e, q⟩
    · exact .inl q
    · exact .inr (.inl (by simp [q]))
    · simp only [List.mem_cons] at q
      rcases q with rfl | q
      · exact .inr (.inl (by simp))
      · exact .inr (.inr ⟨e, q⟩)
theorem Rs.done {N : List (List Nat)} {R : List Nat} {wo : Int} {C : List Bool} {x : Nat} (h : Rs N R wo C [] x []) (hl : C.length = N.length) : Bl N R wo C := by
  refine ⟨hl, fun z hz => ?_⟩
  have e : C.getD z false = true ↔ C[z]? = some true := by
    have : z < C.length := by omega
    simp [this]
  rw [e]
  refine ⟨h.cnn z, fun hr => ?_⟩
  refine hr.least (fun z => C[z]? = some true) (fun r hr hw => ?_) (fun u hu y hy hw => ?_)
  · rcases h.roots r hr hw with q | q
    · exact q
    · cases q
  · rcases h.clos u hu y hy hw with q | q | ⟨_, q⟩
    · exact q
    · cases q
    · cases q

def flt (wo : Int) (l : List Nat) : List Nat := l.filter fun (r : Nat) => decide ((r : Int) ≠ wo)
theorem flt_snoc (wo : Int) (l : List Nat) (x : Nat) : flt wo (l ++ [x]) = flt wo l ++ if (x : Int) = wo then [] else [x] := by
  unfold flt
  rw [List.filter_append]
  congr 1
  by_cases h : (x : Int) = wo
  · simp [h]
  · simp [h]
theorem flt_len (wo : Int) (l : List Nat) : (flt wo l).length ≤ l.length := List.length_filter_le _ _
theorem rs_start (N : List (List Nat)) (R : List Nat) (wo : Int) (n : Nat) : Rs N R wo (List.replicate n false) (flt wo R) 0 [] := by
  refine ⟨fun z hz => ?_, fun z hz => ?_, fun r hr hw => .inr ?_, fun z hz => ?_⟩
  · simp only [flt, List.mem_filter, decide_eq_true_eq] at hz
    exact .root hz.1 hz.2
  · rw [List.getElem?_replicate] at hz
    split at hz <;> simp at hz
  · simp only [flt, List.mem_filter, decide_eq_true_eq]
    exact ⟨hr, hw⟩
  · rw [List.getElem?_replicate] at hz
    split at hz <;> simp at hz

/-- Memory. -/
structure Rm (w : World) (n : Nat) (W : World) (C : List Bool) (T : List Nat) (v : Value) : Prop where
  ext : Ext [] w W
  size : w.heap.size + 1 ≤ W.heap.size
  cl : C.length = n
  cr : W.heap[w.heap.size]? = some (.cells (C.map Value.bool).toArray 4 (0, 0))
  tr : W.ownsRow (w.heap.size + 1) 3 1 v T.length ((ci T).map (Value.int .i64))

theorem Rm.cell {w : World} {n : Nat} {W : World} {C : List Bool} {T : List Nat} {v : Value} (h : Rm w n W C T v) {x : Nat} (hx : x < n) : W.cell? ⟨w.heap.size, x, none⟩ = some (.bool (C.getD x false)) := by
  have := h.cl
  rw [cell_of_row _ _ _ _ _ _ h.cr]
  simp [show x < C.length by omega]
theorem Rm.come {w : World} {n : Nat} {W : World} {C : List Bool} {T : List Nat} {v : Value} (h : Rm w n W C T v) (x : Nat) : Rm w n (W.setCell ⟨w.heap.size, x, none⟩ (.bool true)) (C.set x true) T v := by
  have hE := Ext.setCell [w.heap.size] W ⟨w.heap.size, x, none⟩ (.bool true) (by simp)
  refine ⟨h.ext.on hE (by simp), by simpa using h.size, by simp [h.cl], ?_, own_keep h.tr hE (by simp; intro q; have := own_lt h.tr _ q; omega)⟩
  rw [set_row h.cr, List.map_set, List.setIfInBounds_toArray]
theorem Rm.put {w : World} {n : Nat} {W : World} {C : List Bool} {T : List Nat} {v : Value} (h : Rm w n W C T v) (x : Nat) (hl : T.length ≤ 10000000000) :
    ∃ v' W2, (Builtin.append_ #[23, 23] 23 #[v, .slice (some ⟨W.heap.size, 0, none⟩) 1 1]).run Try.prog (W.alloc (.cells #[.int .i64 x] 3)) = .ok v' W2 ∧ Rm w n W2 C (T ++ [x]) v' := by
  obtain ⟨v', W2, hr, ho, hE, hk⟩ := put_big h.tr h.size h.ext (Nat.le_succ _) (x : Int) hl
  exact ⟨v', W2, hr, hE, by have := hE.size; have := lt_of_heap (hk _ _ (by omega) h.cr); omega, h.cl, hk _ _ (by omega) h.cr, by simpa [ci] using ho⟩
theorem Rm.popped {w : World} {n : Nat} {W : World} {C : List Bool} {T : List Nat} {x gq cap : Nat} (h : Rm w n W C (T ++ [x]) (.slice (some ⟨gq, 0, none⟩) (T.length + 1) cap)) : Rm w n W C T (.slice (some ⟨gq, 0, none⟩) T.length cap) := by
  refine ⟨h.ext, h.size, h.cl, h.cr, ?_⟩
  have ho := h.tr
  rw [List.length_append, List.length_singleton, ci_app, List.map_append] at ho
  exact ownsRow_pop (by simp [ci]) ho

set_option maxRecDepth 100000 in
set_option maxHeartbeats 4000000 in
theorem rreached_any (N : List (List Nat)) (R : List Nat) (wo : Int) (a : Option Addr) (n c : Nat) (ra : Option Addr) (rn rc : Nat) (w : World) (hN : Nt w a (cn N)) (hn : N.length = n) (hG : Good N R) (hR : Is w ra (ci R)) (hrn : R.length = rn) (hrb : rn ≤ 1048576) :
    Calls Try.prog 31 #[.slice a n c, .slice ra rn rc, .int .i64 wo] w (RePost w N R wo) := by
  obtain ⟨i4, hi4, hz4, hs4, hy4⟩ := info_parts info4
  have hnb : n ≤ 65536 := by have := hG.len; omega
  have hr := run_make (P := Try.prog) w 25 4 i4 _ Try.underlying25 hi4 hz4 .i64 .i64 n n (by omega) (Int.le_refl _) (by rw [hy4]; omega) (by omega)
  rw [hs4] at hr
  simp only [Int.toNat_natCast] at hr
  have hm : madeCells (Value.bool false).cells (n * 1) = ((mark n []).map Value.bool).toArray := by
    apply Array.toList_inj.1
    rw [show (Value.bool false).cells = #[.bool false] from rfl, toList_madeCells_one, mark_nil]
    simp
  rw [hm] at hr
  have HM0 : Hid (Rm w n (w.alloc (.cells ((mark n []).map Value.bool).toArray 4)) (mark n []) [] (.slice none 0 0)) := ⟨Ext.alloc [] _ _, by simp, mark_len _ _, heap_alloc_new w _, own_nil _ _ _ _⟩
  have HN := hid hN
  have HR := hid hR
  have HNn := hid hn
  have HRn := hid hrn
  have HG := hid hG
  clear hm hi4 hz4 hs4 hy4 hN hR hn hrn hG
  go_enter Try.func31, Try.ntmps31
  go_upto_block 0 with fail
  generalize w.alloc (.cells ((mark n []).map Value.bool).toArray 4) = w1 at *
  clear hr
  go_cut [8] from 15 (fun u wc => Rm w n wc (mark n []) (flt wo R) u)
  case first =>
    go_wp2_with fail
    go_loopg [8, 9] rn (fun q lv u wr => ∃ k : Nat, k + q = rn ∧ u = .int .i64 k ∧ Rm w n wr (mark n []) (flt wo (R.take k)) lv)
    case atStart => exact ⟨0, by omega, rfl, HM0.out⟩
    case round =>
      clear HM0
      obtain ⟨k, hkq, rfl, hM⟩ := hrel
      have HM := hid hM
      have HQ := hid hkq
      have hTl : (flt wo (R.take k)).length ≤ 1048576 := by
        have h1 := flt_len wo (R.take k)
        have h2 := List.length_take_le k R
        omega
      obtain ⟨la, lc, hlv, _⟩ := own_slice hM.tr
      subst hlv
      clear hM
      cases gk with
      | zero =>
        obtain rfl : k = rn := by omega
        clear hkq
        go_wp2_with fail
        go_meet
        case rel =>
          have e : R.take k = R := List.take_of_length_le (by rw [HRn.out]; exact Nat.le_refl _)
          have := HM.out
          rw [e] at this
          rw [e]
          exact this
      | succ q =>
        have hkr : k < rn := by omega
        have HG1 : Hid (k + 1 + q = rn) := by show _ = _; omega
        have hkR : k < R.length := by rw [HRn.out]; exact hkr
        obtain ⟨rb, ro, rfl, hc⟩ := HR.out.cell (j := k) (by rw [ci_len]; exact hkR)
        rw [ci_get _ _ hkR] at hc
        have HTk : Hid (flt wo (R.take (k + 1)) = flt wo (R.take k) ++ if ((R.getD k 0 : Nat) : Int) = wo then [] else [R.getD k 0]) := by
          show _ = _
          rw [List.take_add_one, show R[k]?.toList = [R.getD k 0] by simp [hkR], flt_snoc]
        have k1 := HM.out.ext.cell hc (by simp)
        have hrbl : rb < wr.heap.size := block_lt_of_cell k1
        generalize R.getD k 0 = x at *
        clear hc hkR hkq
        by_cases hx : (x : Int) = wo
        · have hb : ((x : Int) != wo) = false := by simp [hx]
          have HS : Hid (flt wo (R.take (k + 1)) = flt wo (R.take k)) := by show _ = _; rw [HTk.out, if_pos hx]; simp
          clear hx HTk
          go_wp2_with fail
          go_roundg q
          case measure => omega
          case rel => exact ⟨k + 1, HG1.out, by go_num, by rw [HS.out]; exact HM.out⟩
        · have hb : ((x : Int) != wo) = true := by simpa using hx
          have HS : Hid (flt wo (R.take (k + 1)) = flt wo (R.take k) ++ [x]) := by show _ = _; rw [HTk.out, if_neg hx]
          obtain ⟨v', W2, hr2, hM2⟩ := HM.out.put x (by omega)
          obtain ⟨a2, c2, hv', _⟩ := own_slice hM2.tr
          rw [List.length_append, List.length_singleton] at hv'
          subst hv'
          have HM2 := hid hM2
          clear hx HTk hM2
          go_wp2_with (at_builtin; refine wpList_append_run rfl _ _ 23 rfl _ _ _ rfl rfl hr2 ?_)
          go_roundg q
          case measure => omega
          case rel => exact ⟨k + 1, HG1.out, by go_num, by rw [HS.out]; exact HM2.out⟩
  case rest =>
    clear HM0 HR
    have HM1 := hid hcut
    have HFl : Hid ((flt wo R).length ≤ rn) := by show _ ≤ _; rw [← HRn.out]; exact flt_len wo R
    clear hcut
    have HS0 : Hid (Rs N R wo (mark n []) (flt wo R) 0 []) := by rw [mark_nil]; exact rs_start N R wo n
    have HCt : Hid ((mark n []).count false = n) := by show _ = _; rw [mark_nil]; simp
    go_wp2_with fail
    go_loopg [8] (8193 * n + rn) (fun q lv wr => ∃ C T, 8193 * C.count false + T.length ≤ q ∧ q ≤ 8193 * n + rn ∧ Rm w n wr C T lv ∧ Rs N R wo C T 0 [])
    case atStart => exact ⟨_, _, by rw [HCt.out]; have := HFl.out; omega, Nat.le_refl _, HM1.out, HS0.out⟩
    case round =>
      clear HM1 HFl HS0 HCt
      obtain ⟨C, T, hcq, hqb, hM, hS⟩ := hrel
      have HM := hid hM
      have HS := hid hS
      have HCq := hid hcq
      obtain ⟨G2, hG2⟩ : ∃ G2, G2 = gk := ⟨_, rfl⟩
      subst hG2
      have hTl : T.length ≤ 1000000000 := by omega
      clear hS hcq
      rcases List.eq_nil_or_concat T with rfl | ⟨T1, x, hT1⟩
      · obtain ⟨la, lc, hlv, _⟩ := own_slice hM.tr
        subst hlv
        clear hM
        simp only [List.length_nil]
        go_wp2_with fail
        go_ret
        refine ⟨_, C, rfl, HS.out.done (by rw [HM.out.cl, HNn.out]), ?_, HM.out.ext⟩
        have hcl := HM.out.cl
        rw [HNn.out]
        exact ⟨by simp [hcl], .inr ⟨_, n, _, rfl, Nat.le_refl _, HM.out.cr, Nat.le_refl _, by unfold maxLen; omega, by simp [hcl], by simp; rw [List.take_of_length_le (by simp [hcl])]⟩⟩
      · rw [List.concat_eq_append] at hT1
        subst hT1
        obtain ⟨gq, cap, hlv, _⟩ := hM.tr.form (by simp)
        rw [List.length_append, List.length_singleton] at hlv
        subst hlv
        have hcap : T1.length + 1 ≤ cap := by
          obtain ⟨a', c', e', h⟩ := own_slice hM.tr
          simp only [Value.slice.injEq] at e'
          obtain ⟨_, _, rfl⟩ := e'
          simpa using h
        have hcapI : (T1.length : Int) ≤ cap := by omega
        have ho := hM.tr
        rw [List.length_append, List.length_singleton] at ho
        have k0 : wr.cell? ⟨gq, T1.length, none⟩ = some (.int .i64 (x : Nat)) := by
          rw [ho.cellAt T1.length (by omega)]
          simp [ci]
        have hxN := (HS.out.tn x (by simp)).lt HG.out.net HG.out.roots
        rw [HNn.out] at hxN
        have k1 := HM.out.cell hxN
        have hcl := HM.out.cl
        have hgx : C[x]? = some (C.getD x false) := by simp [show x < C.length by omega]
        have HMp := hid HM.out.popped
        simp only [List.length_append, List.length_singleton] at hTl HCq
        have hlen1 : ((T1.length : Int) + 1 - 1) = T1.length := by omega
        clear hM ho
        cases hcx : C.getD x false
        · rw [hcx] at k1 hgx
          have HRx := hid (HS.out.tn x (by simp))
          have HS1 := hid (HS.out.visit (by omega))
          have HMc := hid (HMp.out.come x)
          have k2 : wr.frozen? ⟨w.heap.size, x, none⟩ = false := frozen_of_row _ _ _ _ _ HM.out.cr
          have HCc := hid (count_came hgx)
          obtain ⟨nb, no, rfl, hcs⟩ := HN.out.addr (by rw [cn_len, HNn.out]; omega)
          obtain ⟨fa, fc, hcn, hI, _, _⟩ := hcs x (by rw [cn_len, HNn.out]; exact hxN)
          rw [cn_get] at hcn hI
          rw [ci_len] at hcn
          have HCn := hid hcn
          have HI := hid hI
          have hw8 := HG.out.slim x
          clear hcs hI hcn hcx hgx HM HS
          go_upto_region 14 with fail
          generalize hC1 : C.set x true = C1 at *
          obtain ⟨lst, hlst⟩ : ∃ lst, lst = nxt N x := ⟨_, rfl⟩
          have HLst := hid hlst
          rw [← hlst] at HCn HI hw8 HS1
          generalize hW4 : wr.setCell ⟨w.heap.size, x, none⟩ (.bool true) = W4 at *
          clear k0 k1 k2 hW4 hlst HMp hC1
          go_loopg [8, 11] lst.length (fun q lv u wx => ∃ k : Nat, ∃ T2, k + q = lst.length ∧ u = .int .i64 k ∧ T2.length ≤ T1.length + k ∧ Rm w n wx C1 T2 lv ∧ Rs N R wo C1 T2 x (lst.drop k))
          case atStart => exact ⟨0, T1, by omega, rfl, by omega, HMc.out, HS1.out⟩
          case round =>
            clear HMc HS1
            obtain ⟨k, T2, hkq, rfl, hT2, hM2, hS2⟩ := hrel
            have HM2 := hid hM2
            have HS2 := hid hS2
            obtain ⟨la, lc, hlv, _⟩ := own_slice hM2.tr
            subst hlv
            have kn := hM2.ext.cell HCn.out (by simp)
            have hnbl : nb < wr.heap.size := block_lt_of_cell kn
            clear hM2 hS2
            cases gk with
            | zero =>
              obtain rfl : k = lst.length := by omega
              have HSd : Hid (Rs N R wo C1 T2 0 []) := by
                have h1 := HS2.out
                rw [List.drop_eq_nil_of_le (Nat.le_refl _)] at h1
                exact ⟨h1.tn, h1.cnn, h1.roots, fun z hz y hy hw => by
                  rcases h1.clos z hz y hy hw with q | q | ⟨_, q⟩
                  · exact .inl q
                  · exact .inr (.inl q)
                  · cases q⟩
              have HLe : Hid (8193 * C1.count false + T2.length ≤ G2 - 1 ∧ 0 < G2) := by
                have := HCc.out
                have := HCq.out
                show _ ∧ _
                omega
              clear hkq
              go_wp2_with fail
              go_roundg (G2 - 1)
              case measure => have := HLe.out; omega
              case rel => exact ⟨C1, T2, HLe.out.1, by omega, HM2.out, HSd.out⟩
            | succ q =>
              have hkl : k < lst.length := by omega
              have HG1 : Hid (k + 1 + q = lst.length) := by show _ = _; omega
              obtain ⟨fb, fo, rfl, hc⟩ := HI.out.cell (j := k) (by rw [ci_len]; exact hkl)
              rw [ci_get _ _ hkl] at hc
              have hmem : lst.getD k 0 ∈ lst := by simp [hkl]
              have HDr : Hid (lst.drop k = lst.getD k 0 :: lst.drop (k + 1)) := by
                show _ = _
                rw [List.drop_eq_getElem_cons hkl]
                simp [hkl]
              have hmx : lst.getD k 0 ∈ nxt N x := by rw [← HLst.out]; exact hmem
              have hyN := HG.out.net.nxt x _ hmx
              rw [HNn.out] at hyN
              have HMx := hid hmx
              have HSy : Hid (Rs N R wo C1 T2 x (lst.getD k 0 :: lst.drop (k + 1))) := by rw [← HDr.out]; exact HS2.out
              generalize lst.getD k 0 = y at *
              have ky := HM2.out.ext.cell hc (by simp)
              have hfbl : fb < wr.heap.size := block_lt_of_cell ky
              have ks := HM2.out.cell hyN
              have hcl1 := HM2.out.cl
              have hgy : C1[y]? = some (C1.getD y false) := by simp [show y < C1.length by omega]
              clear hc hmem hmx hkq HDr HS2
              by_cases hyw : (y : Int) = wo
              · have hb : ((y : Int) != wo) = false := by simp [hyw]
                have HS3 := hid (HSy.out.skip (.inl hyw))
                clear hyw hgy
                go_wp2_with fail
                go_roundg q
                case measure => omega
                case rel => exact ⟨k + 1, T2, HG1.out, by go_num, by omega, HM2.out, HS3.out⟩
              · have hb : ((y : Int) != wo) = true := by simpa using hyw
                cases hcy : C1.getD y false
                · rw [hcy] at ks
                  have HS3 := hid (HSy.out.push HRx.out HMx.out hyw)
                  obtain ⟨v', W2, hr2, hM3⟩ := HM2.out.put y (by omega)
                  obtain ⟨a2, c2, hv', _⟩ := own_slice hM3.tr
                  rw [List.length_append, List.length_singleton] at hv'
                  subst hv'
                  have HM3 := hid hM3
                  clear hyw hgy hcy hM3
                  go_wp2_with (at_builtin; refine wpList_append_run rfl _ _ 23 rfl _ _ _ rfl rfl hr2 ?_)
                  go_roundg q
                  case measure => omega
                  case rel => exact ⟨k + 1, T2 ++ [y], HG1.out, by go_num, by simp; omega, HM3.out, HS3.out⟩
                · rw [hcy] at ks hgy
                  have HS3 := hid (HSy.out.skip (.inr hgy))
                  clear hyw hgy hcy
                  go_wp2_with fail
                  go_roundg q
                  case measure => omega
                  case rel => exact ⟨k + 1, T2, HG1.out, by go_num, by omega, HM2.out, HS3.out⟩
        · rw [hcx] at k1 hgx
          have HS1 := hid (HS.out.pop hgx)
          have HLe : Hid (8193 * C.count false + T1.length ≤ G2 - 1 ∧ 0 < G2) := by
            have := HCq.out
            show _ ∧ _
            omega
          clear hcx hgx
          go_wp2_with fail
          go_roundg (G2 - 1)
          case measure => have := HLe.out; omega
          case rel => exact ⟨C, T1, HLe.out.1, by omega, HMp.out, HS1.out⟩

/-! ### Set -/

theorem rset_bad (a : Option Addr) (n c : Nat) (ra : Option Addr) (rn rc : Nat) (M : List (List Int)) (R : List Int) (w : World) (hN : Nt w a M) (hn : M.length = n) (hR : Is w ra R) (hrn : R.length = rn) (hrb : rn ≤ 17592186044416) (h : errB M R [] ≠ 0) :
    Calls Try.prog 13 #[.slice a n c, .slice ra rn rc] w fun e w' => e = .returned (.tuple #[.slice none 0 0, .int .i64 (errB M R [])]) ∧ w' = w := by
  have K := rbad_any a n c ra rn rc M R w hN hn hR hrn hrb
  have hne : (errB M R [] != 0) = true := by simpa using h
  generalize errB M R [] = er at *
  clear hN hn hR hrn h
  go_enter Try.func13, Try.ntmps13
  go_wp2_with (go_at_call 30; refine met K ?_)
  go_ret2
  exact ⟨rfl, rfl⟩

theorem rset_ok (N : List (List Nat)) (R : List Nat) (a : Option Addr) (n c : Nat) (ra : Option Addr) (rn rc : Nat) (w : World) (hN : Nt w a (cn N)) (hn : N.length = n) (hG : Good N R) (hR : Is w ra (ci R)) (hrn : R.length = rn) (hrb : rn ≤ 1048576) :
    Calls Try.prog 13 #[.slice a n c, .slice ra rn rc] w (SetPost w N R) := by
  have K := rbad_any a n c ra rn rc (cn N) (ci R) w hN (by rw [cn_len]; exact hn) hR (by rw [ci_len]; exact hrn) (by omega)
  have h0 := good_err hG (T := []) (by intro x hx; cases hx)
  rw [show ci [] = [] from rfl] at h0
  rw [h0] at K
  have K2 := rreached_any N R (-1) a n c ra rn rc w hN hn hG hR hrn hrb
  clear hN hn hR hrn hG h0
  go_enter Try.func13, Try.ntmps13
  go_wp2_with (first | (go_at_call 30; refine met K ?_) | (go_at_call 31; refine K2.mono ?_; rintro e w1 ⟨v, L, rfl, hB, ho, hE⟩))
  obtain ⟨av, cv, rfl, _⟩ := own_slice ho
  go_ret2
  exact ⟨_, L, rfl, hB, ho, hE⟩

end Go.Proofs.Ytfjabjnajcfamaa

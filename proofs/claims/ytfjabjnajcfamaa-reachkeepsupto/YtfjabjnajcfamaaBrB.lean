/-
  The program's search by the ways' length; no statement is proved here.
-/
import Derived.Test.YtfjabjnajcfamaaBrA
import Derived.Deep.CutBlock
namespace Go.Proofs.Ytfjabjnajcfamaa
open Go.RowKit

def BrPost (w : World) (N : List (List Nat)) (R : List Nat) (tg : Nat) (e : Ending) (w' : World) : Prop :=
  ∃ g A, e = .returned (.slice (some ⟨g, 0, none⟩) N.length N.length) ∧ Found N R tg A ∧ w.heap.size ≤ g ∧ w'.heap[g]? = some (.cells (A.map (Value.int .i64)).toArray 3 (0, 0)) ∧ Ext [] w w'

/-- What the loop over the roots has made. -/
structure Rt (N : List (List Nat)) (S : List Nat) (A : List Int) (Q : List Nat) : Prop where
  once : Q.Nodup
  mem : ∀ x, x ∈ Q ↔ x ∈ S
  inq : ∀ x ∈ Q, A[x]? = some (x : Int)
  out : ∀ x, x < N.length → x ∉ Q → A[x]? = some (-1)

theorem getD_of {α : Type} {l : List α} {i : Nat} {d x : α} (h : l[i]? = some x) : l.getD i d = x := by simp [List.getD, h]

theorem Rt.skip {N : List (List Nat)} {S : List Nat} {A : List Int} {Q : List Nat} {x : Nat} (h : Rt N S A Q) (hx : x < N.length) (ha : A.getD x 0 ≠ -1) : Rt N (S ++ [x]) A Q := by
  have hq : x ∈ Q := Classical.byContradiction fun hno => ha (getD_of (h.out x hx hno))
  refine ⟨h.once, fun y => ?_, h.inq, h.out⟩
  rw [h.mem y, List.mem_append, List.mem_singleton]
  constructor
  · exact .inl
  · rintro (q | rfl)
    · exact q
    · exact (h.mem y).1 hq
theorem Rt.add {N : List (List Nat)} {S : List Nat} {A : List Int} {Q : List Nat} {x : Nat} (h : Rt N S A Q) (hx : x < N.length) (hl : A.length = N.length) (ha : A.getD x 0 = -1) : Rt N (S ++ [x]) (A.set x (x : Int)) (Q ++ [x]) := by
  have hq : x ∉ Q := fun hq => by rw [getD_of (h.inq x hq)] at ha; omega
  refine ⟨?_, fun y => ?_, fun y hy => ?_, fun y hy hno => ?_⟩
  · rw [List.nodup_append]
    refine ⟨h.once, by simp, fun y hy z hz e => ?_⟩
    simp only [List.mem_singleton] at hz
    subst hz
    exact hq (e ▸ hy)
  · rw [List.mem_append, List.mem_append, h.mem y]
  · by_cases e : x = y
    · subst e; rw [List.getElem?_set_self (by omega)]
    · rw [List.getElem?_set_ne e]
      simp only [List.mem_append, List.mem_singleton] at hy
      rcases hy with hy | rfl
      · exact h.inq y hy
      · exact absurd rfl e
  · simp only [List.mem_append, List.mem_singleton, not_or] at hno
    rw [List.getElem?_set_ne (fun e => hno.2 e.symm)]
    exact h.out y hy hno.1

/-- What the loop over what a node names has made. -/
structure In1 (N : List (List Nat)) (A0 : List Int) (Q : List Nat) (x : Nat) (S : List Nat) (A : List Int) (B : List Nat) : Prop where
  once : B.Nodup
  fresh : ∀ y ∈ B, y ∉ Q ∧ y ∈ nxt N x
  all : ∀ y ∈ S, y ∈ Q ∨ y ∈ B
  out : ∀ z, z ∉ B → A[z]? = A0[z]?
  inb : ∀ z ∈ B, A[z]? = some (x : Int)

theorem Bf.pos {N : List (List Nat)} {R : List Nat} {A : List Int} {Q : List Nat} {t : Nat} {W : Nat → List Nat} (h : Bf N R A Q t W) {x : Nat} (hx : x ∈ Q) : ∃ p : Nat, A[x]? = some (p : Int) := by
  obtain ⟨i, hi, rfl⟩ := mem_qa hx
  rcases h.src i hi with ⟨_, _, h⟩ | ⟨j, _, _, _, _, h⟩
  · exact ⟨_, h⟩
  · exact ⟨_, h⟩

theorem In1.skip {N : List (List Nat)} {R : List Nat} {A0 A : List Int} {Q S B : List Nat} {x t : Nat} {W : Nat → List Nat} {y : Nat} (hB : Bf N R A0 Q t W) (h : In1 N A0 Q x S A B) (hy : y < N.length) (ha : A.getD y 0 ≠ -1) : In1 N A0 Q x (S ++ [y]) A B := by
  refine ⟨h.once, h.fresh, fun z hz => ?_, h.out, h.inb⟩
  simp only [List.mem_append, List.mem_singleton] at hz
  rcases hz with hz | rfl
  · exact h.all z hz
  · by_cases hb : z ∈ B
    · exact .inr hb
    · refine .inl (Classical.byContradiction fun hq => ha ?_)
      refine getD_of ?_
      rw [h.out z hb]
      exact hB.out z hy hq
theorem In1.no {N : List (List Nat)} {R : List Nat} {A0 A : List Int} {Q S B : List Nat} {x t : Nat} {W : Nat → List Nat} {y : Nat} (hB : Bf N R A0 Q t W) (h : In1 N A0 Q x S A B) (ha : A.getD y 0 = -1) : y ∉ Q ∧ y ∉ B := by
  have hb : y ∉ B := fun hb => by rw [getD_of (h.inb y hb)] at ha; omega
  refine ⟨fun hq => ?_, hb⟩
  obtain ⟨p, hp⟩ := hB.pos hq
  rw [← h.out y hb] at hp
  rw [getD_of hp] at ha
  omega
theorem In1.add {N : List (List Nat)} {R : List Nat} {A0 A : List Int} {Q S B : List Nat} {x t : Nat} {W : Nat → List Nat} {y : Nat} (hB : Bf N R A0 Q t W) (h : In1 N A0 Q x S A B) (hy : y < N.length) (hl : A.length = N.length) (hyx : y ∈ nxt N x) (ha : A.getD y 0 = -1) : In1 N A0 Q x (S ++ [y]) (A.set y (x : Int)) (B ++ [y]) := by
  obtain ⟨hq, hb⟩ := h.no hB ha
  refine ⟨?_, fun z hz => ?_, fun z hz => ?_, fun z hz => ?_, fun z hz => ?_⟩
  · rw [List.nodup_append]
    refine ⟨h.once, by simp, fun u hu z hz e => ?_⟩
    simp only [List.mem_singleton] at hz
    subst hz
    exact hb (e ▸ hu)
  · simp only [List.mem_append, List.mem_singleton] at hz
    rcases hz with hz | rfl
    · exact h.fresh z hz
    · exact ⟨hq, hyx⟩
  · simp only [List.mem_append, List.mem_singleton] at hz ⊢
    rcases hz with hz | rfl
    · rcases h.all z hz with q | q
      · exact .inl q
      · exact .inr (.inl q)
    · exact .inr (.inr rfl)
  · simp only [List.mem_append, List.mem_singleton, not_or] at hz
    rw [List.getElem?_set_ne (fun e => hz.2 e.symm)]
    exact h.out z hz.1
  · by_cases e : y = z
    · subst e; rw [List.getElem?_set_self (by omega)]
    · rw [List.getElem?_set_ne e]
      simp only [List.mem_append, List.mem_singleton] at hz
      rcases hz with hz | rfl
      · exact h.inb z hz
      · exact absurd rfl e
/-- The node that is asked for is named. -/
theorem In1.hit {N : List (List Nat)} {R : List Nat} {A0 A : List Int} {Q S B : List Nat} {t : Nat} {W : Nat → List Nat} {y : Nat} (hB : Bf N R A0 Q t W) (ht : t < Q.length) (h : In1 N A0 Q (qa Q t) S A B) (hy : y < N.length) (hl : A.length = N.length) (hyx : y ∈ nxt N (qa Q t)) (ha : A.getD y 0 = -1) : Found N R y (A.set y ((qa Q t : Nat) : Int)) := by
  obtain ⟨hq, hb⟩ := h.no hB ha
  refine hB.hit ht hq hyx (by simpa using hl) (fun z hz => ?_) (by rw [List.getElem?_set_self (by omega)])
  rw [List.getElem?_set_ne (fun (e : y = z) => hq (e ▸ hz))]
  exact h.out z (fun hzb => (h.fresh z hzb).1 hz)
theorem In1.done {N : List (List Nat)} {R : List Nat} {A0 A : List Int} {Q B : List Nat} {t : Nat} {W : Nat → List Nat} (hN : Net N) (hB : Bf N R A0 Q t W) (ht : t < Q.length) (h : In1 N A0 Q (qa Q t) (nxt N (qa Q t)) A B) (hl : A.length = N.length) : ∃ W', Bf N R A (Q ++ srtN B) (t + 1) W' :=
  hB.next hN ht hl (srtN_rise h.once) (fun y hy => h.fresh y ((srtN_mem B y).1 hy)) (fun y hy => by rw [srtN_mem]; exact h.all y hy) (fun z hz => h.out z (fun q => hz ((srtN_mem B z).2 q))) (fun z hz => h.inb z ((srtN_mem B z).1 hz))

theorem In1.len {N : List (List Nat)} {R : List Nat} {A0 A : List Int} {Q S B : List Nat} {x t : Nat} {W : Nat → List Nat} (hN : Net N) (hB : Bf N R A0 Q t W) (h : In1 N A0 Q x S A B) : (Q ++ B).length ≤ N.length := by
  refine nodup_len _ _ ?_ (fun z hz => ?_)
  · rw [List.nodup_append]
    exact ⟨hB.once, h.once, fun u hu z hz e => (h.fresh z hz).1 (e ▸ hu)⟩
  · simp only [List.mem_append] at hz
    rcases hz with hz | hz
    · exact hB.lt z hz
    · exact hN.nxt x z (h.fresh z hz).2

set_option maxRecDepth 100000 in
set_option maxHeartbeats 8000000 in
theorem breadth_any (N : List (List Nat)) (R : List Nat) (tg : Nat) (a : Option Addr) (n c : Nat) (ra : Option Addr) (rn rc : Nat) (w : World) (hN : Nt w a (cn N)) (hn : N.length = n) (hG : Good N R) (hR : Is w ra (ci R)) (hrn : R.length = rn) (hrb : rn ≤ 17592186044416) (hto : tg < n) :
    Calls Try.prog 32 #[.slice a n c, .slice ra rn rc, .int .i64 tg] w (BrPost w N R tg) := by
  have hnb : n ≤ 65536 := by have := hG.len; omega
  have hE0 := Ext.alloc [] w (.cells #[.int .i64 (-1)] 3)
  have K := repeat_any w.heap.size n (w.alloc (.cells #[.int .i64 (-1)] 3)) (by rw [cell_of_row _ _ _ _ _ _ (heap_alloc_new _ _)]; rfl) hnb
  have HN := hid hN
  have HR := hid hR
  have HNn := hid hn
  have HRn := hid hrn
  have HG := hid hG
  have HE0 := hid hE0
  clear hN hR hn hrn hG hE0
  go_enter Try.func32, Try.ntmps32
  go_wp2_with fail
  go_step3
  go_wp2_with fail
  refine K.mono ?_
  clear K
  rintro e w1 ⟨g, rfl, hg1, hg2, hE1⟩
  have HB0 : Hid (Bm w g w1.heap.size n w1 (List.replicate n (-1)) [] (.slice none 0 0)) := by
    refine ⟨HE0.out.trans hE1, by simp at hg1; omega, lt_of_heap hg2, Nat.le_refl _, by simp, ?_, own_nil _ _ _ _⟩
    rw [hg2, List.map_replicate]
  have HR0 : Hid (Rt N (R.take 0) (List.replicate n (-1)) []) := ⟨by simp, by simp, by simp, fun x hx _ => by rw [List.getElem?_replicate, if_pos (by have := HNn.out; omega)]⟩
  generalize hb0 : w1.heap.size = b0 at *
  clear hg1 hg2 hE1 HE0 hb0
  go_upto_block 0 with fail
  go_cut [7, 8] from 20 (fun q u wc => q = .slice (some ⟨g, 0, none⟩) n n ∧ ∃ A Q, Bm w g b0 n wc A Q u ∧ Rt N R A Q)
  case first =>
    go_wp2_with fail
    go_loopg [8, 22] rn (fun q lv u wr => ∃ k A Q, k + q = rn ∧ u = .int .i64 (k : Nat) ∧ Bm w g b0 n wr A Q lv ∧ Rt N (R.take k) A Q)
    case atStart => exact ⟨0, _, [], by omega, rfl, HB0.out, HR0.out⟩
    case round =>
      clear HB0 HR0
      obtain ⟨k, A, Q, hkg, rfl, hB, hRt⟩ := hrel
      have HB := hid hB
      have HRt := hid hRt
      obtain ⟨la, lc, hlv, _⟩ := own_slice hB.qr
      subst hlv
      clear hB hRt
      cases gk with
      | zero =>
        obtain rfl : k = rn := by omega
        go_wp2_with fail
        go_meet
        case rel =>
          refine ⟨rfl, A, Q, HB.out, ?_⟩
          have := HRt.out
          rwa [List.take_of_length_le (by rw [HRn.out]; exact Nat.le_refl _)] at this
      | succ q =>
        have hkr : k < rn := by omega
        have hkR : k < R.length := by rw [HRn.out]; exact hkr
        obtain ⟨rb, ro, rfl, hc⟩ := HR.out.cell (j := k) (by rw [ci_len]; exact hkR)
        rw [ci_get _ _ hkR] at hc
        have hx := HG.out.roots (R.getD k 0) (by simp [hkR])
        rw [HNn.out] at hx
        have HTk : Hid (R.take (k + 1) = R.take k ++ [R.getD k 0]) := by
          show _ = _
          rw [List.take_add_one]; simp [hkR]
        generalize R.getD k 0 = x at *
        have k1 := HB.out.ext.cell hc (by simp)
        have k2 := HB.out.cell hx
        have k3 := HB.out.frozen x
        have hQl : Q.length ≤ 65536 := by
          have := nodup_len N.length Q HRt.out.once (fun z hz => HG.out.roots z (List.mem_of_mem_take ((HRt.out.mem z).1 hz)))
          have := HG.out.len
          omega
        clear hc hkR
        by_cases ha : A.getD x 0 = -1
        · have hb1 : (A.getD x 0 == -1) = true := by rw [ha]; rfl
          have HRn2 := hid (HRt.out.add (by rw [HNn.out]; exact hx) (by rw [HB.out.al, HNn.out]) ha)
          have HBs := hid (HB.out.set x (x : Int))
          obtain ⟨v', W2, hr, hB2⟩ := HBs.out.put x hQl
          obtain ⟨a2, c2, hv', _⟩ := own_slice hB2.qr
          rw [List.length_append, List.length_singleton] at hv'
          subst hv'
          have HB2 := hid hB2
          simp only [World.size_setCell] at hr
          generalize A.getD x 0 = ax at *
          clear ha hB2
          go_wp2_with (at_builtin; refine wpList_append_run rfl _ _ 23 rfl _ _ _ rfl rfl hr ?_)
          go_roundg q
          case measure => omega
          case rel => exact ⟨k + 1, _, _, by omega, by go_num, HB2.out, by rw [HTk.out]; exact HRn2.out⟩
        · have hb1 : (A.getD x 0 == -1) = false := beq_false_of_ne ha
          have HRn2 := hid (HRt.out.skip (by rw [HNn.out]; exact hx) ha)
          generalize A.getD x 0 = ax at *
          clear ha
          go_wp2_with fail
          go_roundg q
          case measure => omega
          case rel => exact ⟨k + 1, _, _, by omega, by go_num, HB.out, by rw [HTk.out]; exact HRn2.out⟩
  case rest =>
    clear HB0 HR0
    obtain ⟨rfl, A, Q, hB, hRt⟩ := hcut
    obtain ⟨la, lc, hlv, hla⟩ : ∃ la lc, u8 = .slice la Q.length lc ∧ (Q ≠ [] → ∀ gq, u8.ownBlock = some gq → la = some ⟨gq, 0, none⟩) := by
      rcases hB.qr.2 with ⟨h1, h2⟩ | ⟨g', cap, cur, h0, _⟩
      · exact ⟨none, 0, by rw [h1, h2], fun h => absurd (List.length_eq_zero_iff.1 h2) h⟩
      · exact ⟨_, _, h0, fun _ gq hq => by rw [h0] at hq; simp [Value.ownBlock] at hq; rw [hq]⟩
    have hQn : Q.length ≤ N.length := nodup_len N.length Q hRt.once (fun z hz => HG.out.roots z ((hRt.mem z).1 hz))
    have KS := Bm.sort (Q := []) (B := Q) hB (by have := HG.out.len; simp; omega) la lc (by simpa using hla)
    have HBf : Hid (∃ W, Bf N R A (srtN Q) 0 W) := ⟨_, bf_start (by rw [hB.al, HNn.out]) (srtN_rise hRt.once) (fun x => by rw [srtN_mem]; exact hRt.mem x) HG.out.roots (fun x hx => hRt.inq x ((srtN_mem Q x).1 hx)) (fun x hx hq => hRt.out x hx (fun h => hq ((srtN_mem Q x).2 h)))⟩
    have HSl := hid (srtN_len Q)
    subst hlv
    clear hB hRt hla hQn
    go_wp2_with fail
    refine KS.mono ?_
    clear KS
    rintro e w2 ⟨rfl, hB2⟩
    rw [List.nil_append] at hB2
    rw [← HSl.out] at hB2 ⊢
    have HB2 := hid hB2
    generalize srtN Q = Q1 at *
    clear hB2 HSl
    go_wp2_with fail
    go_step3
    go_wp2_with fail
    go_loopg [8, 11] n (fun q lv u wr => ∃ t A Q W, n - t ≤ q ∧ u = .int .i64 (t : Nat) ∧ t ≤ Q.length ∧ Bm w g b0 n wr A Q lv ∧ Bf N R A Q t W)
    case atStart =>
      obtain ⟨W, hW⟩ := HBf.out
      exact ⟨0, A, Q1, W, by omega, rfl, Nat.zero_le _, HB2.out, hW⟩
    case round =>
      clear HB2 HBf
      obtain ⟨t, A, Q, W, htq, rfl, htl, hB, hBf⟩ := hrel
      obtain ⟨G2, hG2⟩ : ∃ G2, G2 = gk := ⟨_, rfl⟩
      subst hG2
      have HB := hid hB
      have HBf := hid hBf
      have hQn : Q.length ≤ n := by rw [← HNn.out]; exact nodup_len _ _ hBf.once hBf.lt
      obtain ⟨la, lc, hlv, hlc⟩ := own_slice hB.qr
      subst hlv
      clear hB hBf
      by_cases htQ : t < Q.length
      · have hQ0 : 0 < Q.length := by omega
        obtain ⟨gq, hgq⟩ : ∃ gq, la = some ⟨gq, 0, none⟩ := by
          rcases HB.out.qr.2 with ⟨_, h2⟩ | ⟨g', cap, cur, h0, _⟩
          · omega
          · cases h0; exact ⟨g', rfl⟩
        subst hgq
        have kq : wr.cell? ⟨gq, t, none⟩ = some (.int .i64 ((qa Q t : Nat) : Int)) := by
          rw [HB.out.qr.cellAt t (by omega)]
          simp [ci, qa, htQ]
        have hxn := HBf.out.lt _ (qa_mem htQ)
        rw [HNn.out] at hxn
        obtain ⟨nb, no, rfl, hcs⟩ := HN.out.addr (by rw [cn_len, HNn.out]; omega)
        obtain ⟨fa, fc, hcn, hI, _, _⟩ := hcs (qa Q t) (by rw [cn_len, HNn.out]; exact hxn)
        rw [cn_get] at hcn hI
        rw [ci_len] at hcn
        have kn := HB.out.ext.cell hcn (by simp)
        have HI := hid hI
        have hw8 := HG.out.slim (qa Q t)
        have HNx := hid (HG.out.net.nxt (qa Q t))
        have HI0 : Hid (In1 N A Q (qa Q t) ((nxt N (qa Q t)).take 0) A []) := ⟨by simp, by simp, by simp, fun _ _ => rfl, by simp⟩
        obtain ⟨lst, hlst⟩ : ∃ lst, lst = nxt N (qa Q t) := ⟨_, rfl⟩
        have HLst := hid hlst
        rw [← hlst] at kn HI hw8 HNx HI0
        clear hcs hI hcn hlst
        obtain ⟨x, hx⟩ : ∃ x, x = qa Q t := ⟨_, rfl⟩
        have HX := hid hx
        rw [← hx] at kq kn hxn HI0 HLst
        clear hx
        go_wp2_with fail
        go_loopg [8, 59] lst.length (fun q lv u wx => ∃ k A1 B, k + q = lst.length ∧ u = .int .i64 (k : Nat) ∧ Bm w g b0 n wx A1 (Q ++ B) lv ∧ In1 N A Q x (lst.take k) A1 B)
        case atStart => exact ⟨0, A, [], by omega, rfl, by simpa using HB.out, HI0.out⟩
        case round =>
          clear HI0 kq kn
          obtain ⟨k, A1, B, hkg, rfl, hB1, hIn⟩ := hrel
          have HB1 := hid hB1
          have HIn := hid hIn
          obtain ⟨gq1, lc1, hlv1, hlc1⟩ : ∃ gq lc, u8 = .slice (some ⟨gq, 0, none⟩) (Q ++ B).length lc ∧ (Q ++ B).length ≤ lc := by
            rcases hB1.qr.2 with ⟨_, h2⟩ | ⟨g', cap, cur, h0, _, _, h3, _⟩
            · rw [List.length_append] at h2; omega
            · exact ⟨g', cap, h0, h3⟩
          subst hlv1
          have hQB : (Q ++ B).length ≤ n := by rw [← HNn.out]; exact hIn.len HG.out.net HBf.out
          clear hB1 hIn
          cases gk with
          | zero =>
            obtain rfl : k = lst.length := by omega
            have HIf : Hid (∃ W', Bf N R A1 (Q ++ srtN B) (t + 1) W') := by
              have h1 := HIn.out
              rw [List.take_length, HLst.out, HX.out] at h1
              exact h1.done HG.out.net HBf.out htQ (by rw [HB1.out.al, HNn.out])
            have HLe : Hid ((Q ++ srtN B).length = (Q ++ B).length) := by show _ = _; simp [srtN_len]
            have hQB2 : Q.length ≤ (Q ++ B).length := by simp
            have HBl : Hid ((Q ++ B).length - Q.length = B.length) := by show _ = _; simp
            by_cases hcap : Q.length < lc1
            · have KS := HB1.out.sort (by omega) (some ⟨gq1, Q.length, none⟩) (lc1 - Q.length) (fun _ gq h => by simp [Value.ownBlock] at h; rw [h])
              rw [← HBl.out] at KS
              have hci : (Q.length : Int) < lc1 := by omega
              generalize (Q ++ B).length = ql at *
              go_wp2_with fail
              refine KS.mono ?_
              clear KS
              rintro e w3 ⟨rfl, hB3⟩
              have HB3 := hid hB3
              clear hB3
              go_wp2_with fail
              go_roundg (n - (t + 1))
              case measure => omega
              case rel =>
                obtain ⟨W', hW'⟩ := HIf.out
                exact ⟨t + 1, A1, _, W', by omega, by go_num, by have := HLe.out; omega, HB3.out, hW'⟩
            · have hB0 : B = [] := by
                rw [List.length_append] at hlc1
                exact List.length_eq_zero_iff.1 (by omega)
              subst hB0
              have KS := HB1.out.sort (by omega) (some ⟨gq1, 0, none⟩) 0 (fun h => absurd rfl h)
              rw [List.append_nil] at hlc1
              have hlc2 : lc1 = Q.length := by omega
              subst hlc2
              simp only [List.length_nil, List.append_nil] at KS ⊢
              go_wp2_with fail
              refine KS.mono ?_
              clear KS
              rintro e w3 ⟨rfl, hB3⟩
              have HB3 := hid hB3
              clear hB3
              go_wp2_with fail
              go_roundg (n - (t + 1))
              case measure => omega
              case rel =>
                obtain ⟨W', hW'⟩ := HIf.out
                exact ⟨t + 1, A1, Q ++ srtN [], W', by omega, by go_num, by rw [List.length_append]; omega, HB3.out, hW'⟩
          | succ q =>
            have hkl : k < lst.length := by omega
            obtain ⟨fb, fo, rfl, hc⟩ := HI.out.cell (j := k) (by rw [ci_len]; exact hkl)
            rw [ci_get _ _ hkl] at hc
            have HMem : Hid (lst.getD k 0 ∈ lst) := by show _ ∈ _; simp [hkl]
            have hyn := HNx.out _ HMem.out
            rw [HNn.out] at hyn
            have HTk : Hid (lst.take (k + 1) = lst.take k ++ [lst.getD k 0]) := by
              show _ = _
              rw [List.take_add_one]; simp [hkl]
            generalize lst.getD k 0 = y at *
            have k1 := HB1.out.ext.cell hc (by simp)
            have k2 := HB1.out.cell hyn
            have k3 := HB1.out.frozen y
            have HYx : Hid (y ∈ nxt N x) := by show _ ∈ _; rw [← HLst.out]; exact HMem.out
            clear hc
            by_cases ha : A1.getD y 0 = -1
            · have hb1 : (A1.getD y 0 == -1) = true := by rw [ha]; rfl
              have hb2 : (A1.getD y 0 != -1) = false := by rw [ha]; rfl
              have HBs := hid (HB1.out.set y (x : Int))
              by_cases hyt : y = tg
              · have hyb : ((y : Int) == (tg : Int)) = true := by simp [hyt]
                have HF : Hid (Found N R tg (A1.set y (x : Int))) := by
                  have h1 := HIn.out
                  have h2 := HYx.out
                  rw [HX.out] at h1 h2 ⊢
                  have h3 := h1.hit HBf.out htQ (by rw [HNn.out]; exact hyn) (by rw [HB1.out.al, HNn.out]) h2 ha
                  rw [hyt] at h3 ⊢
                  exact h3
                generalize A1.getD y 0 = ay at *
                clear ha hyt
                go_wp2_with fail
                try rw [Exit.noGoto_ret]
                go_ret
                exact ⟨g, _, by rw [HNn.out]; rfl, HF.out, HBs.out.lo, HBs.out.ar, HBs.out.ext⟩
              · have hyb : ((y : Int) == (tg : Int)) = false := by simp; omega
                have HIn2 := hid (HIn.out.add HBf.out (by rw [HNn.out]; exact hyn) (by rw [HB1.out.al, HNn.out]) HYx.out ha)
                obtain ⟨v', W2, hr, hB2⟩ := HBs.out.put y (by omega)
                obtain ⟨a2, c2, hv', _⟩ := own_slice hB2.qr
                rw [List.length_append, List.length_append, List.length_singleton] at hv'
                subst hv'
                have HB2 : Hid (Bm w g b0 n W2 (A1.set y (x : Int)) (Q ++ (B ++ [y])) (.slice a2 (Q.length + B.length + 1) c2)) := by rw [← List.append_assoc]; exact hB2
                simp only [World.size_setCell] at hr
                generalize A1.getD y 0 = ay at *
                clear ha hB2 hyt
                go_wp2_with (at_builtin; refine wpList_append_run rfl _ _ 23 rfl _ _ _ rfl rfl hr ?_)
                go_roundg q
                case measure => omega
                case rel => exact ⟨k + 1, _, _, by omega, by go_num, HB2.out, by rw [HTk.out]; exact HIn2.out⟩
            · have hb1 : (A1.getD y 0 == -1) = false := beq_false_of_ne ha
              have hb2 : (A1.getD y 0 != -1) = true := by simp only [bne, hb1]; rfl
              have HIn2 := hid (HIn.out.skip HBf.out (by rw [HNn.out]; exact hyn) ha)
              generalize A1.getD y 0 = ay at *
              clear ha
              go_wp2_with fail
              go_roundg q
              case measure => omega
              case rel => exact ⟨k + 1, A1, B, by omega, by go_num, HB1.out, by rw [HTk.out]; exact HIn2.out⟩
      · have HF := hid (HBf.out.done (tg := tg) (by omega) (by rw [HNn.out]; exact hto))
        go_wp2_with fail
        try rw [Exit.noGoto_ret]
        go_ret
        have hal := HB.out.al
        exact ⟨g, A, by rw [HNn.out]; rfl, HF.out, HB.out.lo, HB.out.ar, HB.out.ext⟩

end Go.Proofs.Ytfjabjnajcfamaa

/-
  An object that comes and goes at once: plain facts; no statement is proved here.
-/
import Derived.Test.YtlajjcboahflbaaDoorSame
import Derived.Test.YtlajjcboahflbaaDoorWWords
namespace Go.Proofs.YtlajjcboahflbaaDoor

theorem set_split {α : Type} {L : List α} {k : Nat} {x : α} (h : L[k]? = some x) (x' : α) : L = L.take k ++ x :: L.drop (k + 1) ∧ L.set k x' = L.take k ++ x' :: L.drop (k + 1) := by
  obtain ⟨hk, rfl⟩ := List.getElem?_eq_some_iff.1 h
  refine ⟨?_, ?_⟩
  · rw [List.getElem_cons_drop, List.take_append_drop]
  · rw [List.set_eq_take_append_cons_drop, if_pos hk]
theorem objs_set {L : List Spn} {k : Nat} {x x' : Spn} (h : L[k]? = some x) (hs : sobs x' x'.S.length = sobs x x.S.length) : objs (L.set k x') = objs L := by
  obtain ⟨e1, e2⟩ := set_split h x'
  rw [e2]
  conv => rhs; rw [e1]
  simp only [objs, List.flatMap_append, List.flatMap_cons, hs]
theorem spcs_set {L : List Spn} {k : Nat} {x x' : Spn} (h : L[k]? = some x) (hs : spc x' = spc x) : spcs (L.set k x') = spcs L := by
  obtain ⟨e1, e2⟩ := set_split h x'
  rw [e2]
  conv => rhs; rw [e1]
  simp only [spcs, List.flatMap_append, List.flatMap_cons, hs]
theorem sobs_same {x x' : Spn} (h1 : x'.st = x.st) (h2 : x'.rm = x.rm) : ∀ i, (∀ j, j < i → x'.S.getD j (0, 0) = x.S.getD j (0, 0) ∨ (¬ 0 < (x'.S.getD j (0, 0)).1 ∧ ¬ 0 < (x.S.getD j (0, 0)).1)) → sobs x' i = sobs x i
  | 0, _ => rfl
  | i + 1, h => by
    have ih := sobs_same h1 h2 i (fun j hj => h j (by omega))
    have ea : adr x' i = adr x i := by unfold adr; rw [h1, h2]
    rcases h i (by omega) with q | ⟨q1, q2⟩
    · by_cases hp : 0 < (x.S.getD i (0, 0)).1
      · rw [sobs_yes hp, sobs_yes (by rw [q]; exact hp), ih, q, ea]
      · rw [sobs_no hp, sobs_no (by rw [q]; exact hp), ih]
    · rw [sobs_no q1, sobs_no q2, ih]
theorem getD_setB {α : Type} (L : List α) (j i : Nat) (y d : α) : (L.set j y).getD i d = if i = j ∧ j < L.length then y else L.getD i d := by
  simp only [List.getD_eq_getElem?_getD, List.getElem?_set]
  by_cases h : j = i
  · subst h
    by_cases hl : j < L.length
    · simp [hl]
    · simp [hl]
  · rw [if_neg h, if_neg (fun q => h q.1.symm)]

structure Back (H H1 H2 : Hs) (a size tag : Int) : Prop where
  info : ∃ k j, fnd H1 a = some (k, j) ∧ (adrAt H1 k j : Int) = a ∧ slotAt H1 k j = (size, tag)
  obj : objs H2.sp = objs H.sp
  len : H2.sp.length = H.sp.length
  spc : spcs H2.sp = spcs H.sp
  run : H2.R = H.R
  gone : fnd H2 a = none

theorem back_heap {H : Hs} (h : Hv H) {size tag : Int} (he : (allocH H size tag).2.1 = 0) (h1 : Hv (allocH H size tag).2.2) :
    (freeH (allocH H size tag).2.2 (allocH H size tag).1).1 = 0 ∧ Back H (allocH H size tag).2.2 (freeH (allocH H size tag).2.2 (allocH H size tag).1).2 (allocH H size tag).1 size tag := by
  have hc : Ok size ∧ 0 ≤ tag ∧ tag ≤ 2147483647 := by
    obtain ⟨q1, q2, _⟩ := alloc_found h he; exact ⟨q1, q2⟩
  have hs1 : 1 ≤ size := hc.1.1
  cases hk : H.sp.findIdx? (fitS (roomN size)) with
  | some k =>
    have e : allocH H size tag = ((adrAt H k (fz (spAt H k).S) : Int), 0, { H with sp := H.sp.set k (tkS (spAt H k) size tag), B := put H.B (adrAt H k (fz (spAt H k).S)) (fun _ => 0) (roomN size) }) := by
      unfold allocH; rw [if_pos hc]; simp only [hk]
    obtain ⟨x, hx, _, hfit⟩ := findIdx_find hk
    have ex := spAt_eq hx
    have hlk := (List.getElem?_eq_some_iff.1 hx).1
    unfold fitS at hfit
    simp only [Bool.and_eq_true, decide_eq_true_eq] at hfit
    have hox := h.ok x (List.mem_of_getElem? hx)
    obtain ⟨z1, z2, _⟩ := fz_spec hfit.2 (fun y hy => (hox.sz y hy).1)
    rw [e] at h1 ⊢
    simp only at h1 ⊢
    rw [ex] at h1 ⊢
    have ea : (adrAt H k (fz x.S)) = adr x (fz x.S) := by unfold adrAt; rw [ex]
    rw [ea] at h1 ⊢
    generalize hB : put H.B (adr x (fz x.S)) (fun _ => 0) (roomN size) = B at *
    generalize hj : fz x.S = j at *
    have hx1 : (H.sp.set k (tkS x size tag))[k]? = some (tkS x size tag) := by simp [hlk]
    have hy1 : (tkS x size tag).S[j]? = some (size, tag) := by simp [tkS, hj, z1]
    obtain ⟨f1, f2, f3⟩ := found_at (H := { H with sp := H.sp.set k (tkS x size tag), B := B }) h1 hx1 hy1 (a := adr x j) (b := adr x j) (by simp [adr, tkS]) (by omega) (by simp only; omega)
    have hsp1 : spAt { H with sp := H.sp.set k (tkS x size tag), B := B } k = tkS x size tag := spAt_eq hx1
    have hset : (tkS x size tag).S.set j (0, 0) = x.S.set j (0, 0) := by simp [tkS, hj]
    have hus : us (x.S.set j (0, 0)) = us x.S := by
      have := us_set z1 (0, 0)
      rw [if_neg (by rw [z2]; omega), if_neg (by simp)] at this
      omega
    have hdp : dpS (tkS x size tag) j = { x with S := x.S.set j (0, 0) } := by unfold dpS; rw [hset]; rfl
    have efree : freeH { H with sp := H.sp.set k (tkS x size tag), B := B } (adr x j) = (0, { H with sp := H.sp.set k { x with S := x.S.set j (0, 0) }, B := B }) := by
      unfold freeH
      rw [f1]
      simp only
      rw [if_pos f2, hsp1, hset, if_pos (by rw [hus]; exact hox.us), hdp]
      simp
    rw [efree]
    have hgone : ∀ k' j', ¬ At { H with sp := H.sp.set k { x with S := x.S.set j (0, 0) }, B := B } k' j' (adr x j) := by
      rintro k' j' ⟨x2, y2, hx2, hy2, q1, q2⟩
      have hat : At { H with sp := H.sp.set k (tkS x size tag), B := B } k j (adr x j) := (h1.fnd_iff).1 f1
      by_cases hkk : k' = k
      · subst hkk
        simp [hlk] at hx2
        subst hx2
        by_cases hjj : j' = j
        · subst hjj
          simp [z1] at hy2
          subst hy2
          simp [adr] at q1 q2
        · have hy3 : x.S[j']? = some y2 := by
            have := hy2
            simp only [List.getElem?_set] at this
            rwa [if_neg (fun q => hjj q.symm)] at this
          have h2 : At { H with sp := H.sp.set k' (tkS x size tag), B := B } k' j' (adr x j) := ⟨_, y2, hx1, by simp only [tkS, hj, List.getElem?_set]; rw [if_neg (fun q => hjj q.symm)]; exact hy3, by simpa [adr, tkS] using q1, by simpa [adr, tkS] using q2⟩
          exact hjj (h1.at_one h2 hat).2
      · have hx3 : H.sp[k']? = some x2 := by
          have := hx2
          simp only [List.getElem?_set] at this
          rwa [if_neg (fun q => hkk q.symm)] at this
        have h2 : At { H with sp := H.sp.set k (tkS x size tag), B := B } k' j' (adr x j) := ⟨x2, y2, by simp only [List.getElem?_set]; rw [if_neg (fun q => hkk q.symm)]; exact hx3, hy2, q1, q2⟩
        exact hkk (h1.at_one h2 hat).1
    refine ⟨rfl, ⟨k, j, f1, f2, f3⟩, ?_, by simp, ?_, rfl, fnd_none.2 hgone⟩
    · refine objs_set hx ?_
      simp only [List.length_set]
      refine sobs_same (x' := { x with S := x.S.set j (0, 0) }) (x := x) rfl rfl _ (fun i hi => ?_)
      simp only [getD_setB]
      by_cases hij : i = j
      · subst hij
        rw [if_pos ⟨rfl, z1⟩]
        exact .inr ⟨by simp, by rw [z2]; omega⟩
      · rw [if_neg (fun q => hij q.1)]; exact .inl rfl
    · refine spcs_set hx ?_
      unfold YtlajjcboahflbaaDoor.spc
      simp only [List.length_set, hus]
  | none =>
    cases hi : hole H.R (pgN size) with
    | none =>
      have e : allocH H size tag = (0, 7, H) := by unfold allocH; rw [if_pos hc]; simp only [hk, hi]
      rw [e] at he; simp at he
    | some i =>
      have e : allocH H size tag = (((((rnAt H.R i).s + 1) * 256 : Nat) : Int), 0, ⟨H.P, takeL H.R i (pgN size), insS H.sp (insK H.R i) (tkS (newS (rnAt H.R i).s (pgN size) (roomN size)) size tag), put H.B (((rnAt H.R i).s + 1) * 256) (fun _ => 0) (roomN size)⟩) := by
        unfold allocH; rw [if_pos hc]; simp only [hk, hi]
      obtain ⟨_, f0, l1⟩ := new_ok hc.1 hc.2 (rnAt H.R i).s
      obtain ⟨i1, i2, i3, _⟩ := hole_some hi
      rw [e] at h1 ⊢
      simp only at h1 ⊢
      generalize hB : put H.B (((rnAt H.R i).s + 1) * 256) (fun _ => 0) (roomN size) = B at *
      obtain ⟨x, hx⟩ : ∃ x, x = tkS (newS (rnAt H.R i).s (pgN size) (roomN size)) size tag := ⟨_, rfl⟩
      have hst : x.st = (rnAt H.R i).s := by rw [hx]; rfl
      have hxn : x.n = pgN size := by rw [hx]; rfl
      have hxS : x.S = (List.replicate (pgN size * 256 / roomN size) ((0 : Int), (0 : Int))).set 0 (size, tag) := by rw [hx]; unfold tkS; rw [f0]; rfl
      have ha : (adr x 0 : Int) = ((((rnAt H.R i).s + 1) * 256 : Nat) : Int) := by unfold adr; rw [hst]; simp
      rw [← hx] at h1 ⊢
      obtain ⟨K, hK⟩ : ∃ K, K = insK H.R i := ⟨_, rfl⟩
      have hKl : K ≤ H.sp.length := by
        have q1 : H.sp.length = (used H.R).length := by rw [← h.run]; simp
        have q2 : used H.R = used (H.R.take i) ++ used (H.R.drop i) := by rw [← used_append, List.take_append_drop]
        rw [hK, q1, q2]; unfold insK; simp
      rw [← hK] at h1 ⊢
      have hget : ∀ k, (insS H.sp K x)[k]? = if k < K then H.sp[k]? else if k = K then some x else H.sp[k - 1]? := fun k => by
        unfold insS
        rw [List.getElem?_append]
        simp only [List.length_take, Nat.min_eq_left hKl]
        by_cases q : k < K
        · rw [if_pos q, if_pos q, List.getElem?_take, if_pos q]
        · rw [if_neg q, if_neg q]
          by_cases q2 : k = K
          · subst q2; simp
          · rw [if_neg q2, show k - K = (k - K - 1) + 1 by omega, List.getElem?_cons_succ, List.getElem?_drop]
            congr 1; omega
      have hxK : (insS H.sp K x)[K]? = some x := by rw [hget, if_neg (by omega), if_pos rfl]
      have hy1 : x.S[0]? = some (size, tag) := by rw [hxS]; exact List.getElem?_set_self (by rw [List.length_replicate]; omega)
      obtain ⟨f1, f2, f3⟩ := found_at (H := ⟨H.P, takeL H.R i (pgN size), insS H.sp K x, B⟩) h1 hxK hy1 (a := ((((rnAt H.R i).s + 1) * 256 : Nat) : Int)) (b := ((((rnAt H.R i).s + 1) * 256 : Nat) : Int)) ha (by omega) (by omega)
      have hsp1 : spAt ⟨H.P, takeL H.R i (pgN size), insS H.sp K x, B⟩ K = x := spAt_eq hxK
      have hset : us (x.S.set 0 (0, 0)) = 0 := by
        rw [hxS, List.set_set]
        have : (List.replicate (pgN size * 256 / roomN size) ((0 : Int), (0 : Int))).set 0 (0, 0) = List.replicate (pgN size * 256 / roomN size) (0, 0) := by
          apply List.ext_getElem?
          intro m
          simp only [List.getElem?_set, List.getElem?_replicate]
          by_cases q : 0 = m
          · subst q; simp
          · rw [if_neg q]
        rw [this]; exact us_rep _
      have herase : (insS H.sp K x).eraseIdx K = H.sp := by
        apply List.ext_getElem?
        intro m
        rw [List.getElem?_eraseIdx, hget, hget]
        by_cases q : m < K
        · rw [if_pos q, if_pos q]
        · rw [if_neg q, if_neg (by omega), if_neg (by omega)]; congr 1
      have hsplit := split_at H.R i i1
      have hAl : (H.R.take i).length = i := by simp; omega
      have hrat : rnAt (takeL H.R i (pgN size)) i = ⟨(rnAt H.R i).s, pgN size, true⟩ ∧ i < (takeL H.R i (pgN size)).length := by
        have := takeL_eq (H.R.take i) (H.R.drop (i + 1)) (rnAt H.R i) (pgN size)
        rw [← hsplit, hAl] at this
        rw [this]
        refine ⟨rnAt_eq rfl hAl, ?_⟩
        simp [hAl]
      have hrunk : runK (takeL H.R i (pgN size)) x.st = i := by
        have hmem : x ∈ (⟨H.P, takeL H.R i (pgN size), insS H.sp K x, B⟩ : Hs).sp := List.mem_of_getElem? hxK
        obtain ⟨i', _, _, _, _, hu⟩ := h1.run_at hmem
        obtain ⟨r1, _, r3, _⟩ := h1.runK hmem
        rw [hu _ r1 r3]
        exact (hu i hrat.2 (by simp only; rw [hrat.1, hst])).symm
      have hback : relL (takeL H.R i (pgN size)) i = H.R := by
        have := back_take (P := H.P) (A := H.R.take i) (B := H.R.drop (i + 1)) (x := rnAt H.R i) (n := pgN size) (by rw [← hsplit]; exact h.inv) i2 i3
        rw [← hsplit, hAl] at this
        exact this
      have efree : freeH ⟨H.P, takeL H.R i (pgN size), insS H.sp K x, B⟩ ((((rnAt H.R i).s + 1) * 256 : Nat) : Int) = (0, ⟨H.P, H.R, H.sp, B⟩) := by
        unfold freeH
        rw [f1]
        simp only
        rw [if_pos f2, hsp1, if_neg (by rw [hset]; omega), hrunk, hback, herase]
      rw [efree]
      have hgone : ∀ k' j', ¬ At ⟨H.P, H.R, H.sp, B⟩ k' j' ((((rnAt H.R i).s + 1) * 256 : Nat) : Int) := by
        rintro k' j' ⟨x2, y2, hx2, hy2, q1, q2⟩
        have hat := (h1.fnd_iff).1 f1
        have h2 : At ⟨H.P, takeL H.R i (pgN size), insS H.sp K x, B⟩ (if k' < K then k' else k' + 1) j' ((((rnAt H.R i).s + 1) * 256 : Nat) : Int) := ⟨x2, y2, by
          simp only
          rw [hget]
          by_cases q : k' < K
          · rw [if_pos q, if_pos q]; exact hx2
          · rw [if_neg q, if_neg (by omega), if_neg (by omega)]; exact hx2, hy2, q1, q2⟩
        have := (h1.at_one h2 hat).1
        split at this <;> omega
      exact ⟨rfl, ⟨K, 0, f1, f2, f3⟩, rfl, rfl, rfl, rfl, fnd_none.2 hgone⟩

end Go.Proofs.YtlajjcboahflbaaDoor

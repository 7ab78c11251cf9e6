/-
  Plain facts of an object that has come; no statement is proved here.
-/
import Derived.Test.YtlajjcboahflbaaDoorInfoH
namespace Go.Proofs.YtlajjcboahflbaaDoor

theorem alloc_zero (H : Hs) (size tag : Int) (h : (allocH H size tag).2.1 ≠ 0) : (allocH H size tag).1 = 0 ∧ (allocH H size tag).2.2 = H := by
  unfold allocH at h ⊢
  split
  · rename_i hc
    rw [if_pos hc] at h
    split
    · rename_i k hk; rw [hk] at h; simp at h
    · rename_i hk
      rw [hk] at h
      split
      · exact ⟨rfl, rfl⟩
      · rename_i i hi; simp only [hi] at h; simp at h
  · exact ⟨rfl, rfl⟩

/-- Where the new object lies. -/
theorem alloc_found {H : Hs} (h : Hv H) {size tag : Int} (he : (allocH H size tag).2.1 = 0) :
    Ok size ∧ (0 ≤ tag ∧ tag ≤ 2147483647) ∧ ∃ (k j : Nat) (x : Spn), (allocH H size tag).2.2.sp[k]? = some x ∧ x.S[j]? = some (size, tag) ∧ (adr x j : Int) = (allocH H size tag).1 := by
  by_cases hc : Ok size ∧ 0 ≤ tag ∧ tag ≤ 2147483647
  · refine ⟨hc.1, hc.2, ?_⟩
    cases hk : H.sp.findIdx? (fitS (roomN size)) with
    | some k =>
      have e : allocH H size tag = ((adrAt H k (fz (spAt H k).S) : Int), 0, { H with sp := H.sp.set k (tkS (spAt H k) size tag), B := put H.B (adrAt H k (fz (spAt H k).S)) (fun _ => 0) (roomN size) }) := by
        unfold allocH; rw [if_pos hc]; simp only [hk]
      obtain ⟨x, hx, _, hfit⟩ := findIdx_find hk
      have ex := spAt_eq hx
      have hlk := (List.getElem?_eq_some_iff.1 hx).1
      unfold fitS at hfit
      simp only [Bool.and_eq_true, decide_eq_true_eq] at hfit
      obtain ⟨z1, _, _⟩ := fz_spec hfit.2 (fun y hy => ((h.ok x (List.mem_of_getElem? hx)).sz y hy).1)
      rw [e]
      refine ⟨k, fz x.S, tkS x size tag, ?_, ?_, ?_⟩
      · simp only [ex]; simp [hlk]
      · simp [tkS, z1]
      · simp only [adrAt, ex]; rfl
    | none =>
      cases hi : hole H.R (pgN size) with
      | none =>
        have e : allocH H size tag = (0, 7, H) := by unfold allocH; rw [if_pos hc]; simp only [hk, hi]
        rw [e] at he; simp at he
      | some i =>
        have e : allocH H size tag = (((((rnAt H.R i).s + 1) * 256 : Nat) : Int), 0, ⟨H.P, takeL H.R i (pgN size), insS H.sp (insK H.R i) (tkS (newS (rnAt H.R i).s (pgN size) (roomN size)) size tag), put H.B (((rnAt H.R i).s + 1) * 256) (fun _ => 0) (roomN size)⟩) := by
          unfold allocH; rw [if_pos hc]; simp only [hk, hi]
        rw [e]
        obtain ⟨_, f0, l1⟩ := new_ok hc.1 hc.2 (rnAt H.R i).s
        obtain ⟨k, hk2⟩ := List.getElem?_of_mem ((mem_insS (L := H.sp) (k := insK H.R i) (x := tkS (newS (rnAt H.R i).s (pgN size) (roomN size)) size tag)).2 (.inl rfl))
        refine ⟨k, 0, _, hk2, ?_, ?_⟩
        · simp only [tkS, f0]
          have : 0 < (newS (rnAt H.R i).s (pgN size) (roomN size)).S.length := by simp only [newS, List.length_replicate]; omega
          simp [this]
        · simp [adr, tkS, newS]
  · have e : allocH H size tag = (0, 2, H) := by unfold allocH; rw [if_neg hc]
    rw [e] at he; simp at he

/-- A byte of the new object is found there. -/
theorem found_at {H : Hs} (h : Hv H) {k j : Nat} {x : Spn} {y : Slot} {a : Int} (hx : H.sp[k]? = some x) (hy : x.S[j]? = some y) (ha : (adr x j : Int) = a) {b : Int} (h1 : a ≤ b) (h2 : b < a + y.1) : fnd H b = some (k, j) ∧ (adrAt H k j : Int) = a ∧ slotAt H k j = y := by
  refine ⟨h.fnd_iff.2 ⟨x, y, hx, hy, by omega, by omega⟩, ?_, ?_⟩
  · unfold adrAt; rw [spAt_eq hx]; exact ha
  · unfold slotAt; rw [spAt_eq hx]; simp [List.getD, hy]

theorem fnd_bytes (H : Hs) (B : List Int) (a : Int) : fnd { H with B := B } a = fnd H a := rfl
theorem witE_bytes (H : Hs) (B : List Int) (a n : Int) : witE { H with B := B } a n = witE H a n := rfl
theorem witE_put (H : Hs) (b m : Int) (f : Nat → Int) (a n : Int) : witE (putH H b m f) a n = witE H a n := by
  unfold putH; split
  · rfl
  · rfl
theorem fnd_put (H : Hs) (b m : Int) (f : Nat → Int) (a : Int) : fnd (putH H b m f) a = fnd H a := by
  unfold putH; split <;> rfl
theorem infV_put (H : Hs) (b m : Int) (f : Nat → Int) (a : Int) (q : Option (Nat × Nat)) : infV (putH H b m f) a q = infV H a q := by
  unfold putH; split <;> rfl
theorem baV_put (H : Hs) (b m : Int) (f : Nat → Int) (q : Option (Nat × Nat)) : baV (putH H b m f) q = baV H q := by
  unfold putH; split <;> rfl

/-- A number that was stored. -/
theorem numAt_put {L : List Int} {i n : Nat} {v : Int} (h : i + n ≤ L.length) (_hn : n ≤ 8) (_hv : 0 ≤ v) : numAt (put L i (byteOf v) n) i n = v % 2 ^ (8 * n) := by
  unfold numAt
  have e : ∀ j, j < n → (put L i (byteOf v) n).getD (i + j) 0 = byteOf v j := fun j hj => by
    rw [getD_put L i _ n h, if_pos (by omega)]; congr 1; omega
  have cong : ∀ m, m ≤ n → numTo (fun j => (put L i (byteOf v) n).getD (i + j) 0) m = numTo (byteOf v) m := by
    intro m
    induction m with
    | zero => intro _; rfl
    | succ m ih => intro hm; simp only [numTo]; rw [ih (by omega), e m (by omega)]
  rw [cong n (Nat.le_refl _)]
  exact numTo_bytes v n
theorem numAt_cut {L : List Int} {i n : Nat} : numAt (cut L i n) 0 n = numAt L i n := by
  unfold numAt
  have cong : ∀ m, m ≤ n → numTo (fun j => (cut L i n).getD (0 + j) 0) m = numTo (fun j => L.getD (i + j) 0) m := by
    intro m
    induction m with
    | zero => intro _; rfl
    | succ m ih => intro hm; simp only [numTo]; rw [ih (by omega), Nat.zero_add, getD_cut L i n m (by omega)]
  exact cong n (Nat.le_refl _)

end Go.Proofs.YtlajjcboahflbaaDoor

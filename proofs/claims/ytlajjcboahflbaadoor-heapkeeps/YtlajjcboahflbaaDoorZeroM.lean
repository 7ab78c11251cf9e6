/-
  Objects as a set: what comes with a new one, and what stays; plain facts; no statement is proved here.
-/
import Derived.Test.YtlajjcboahflbaaDoorWBack
namespace Go.Proofs.YtlajjcboahflbaaDoor

/-- An object at b, of size s and tag t. -/
def Ob3 (H : Hs) (b s t : Int) : Prop := ∃ x ∈ H.sp, ∃ j : Nat, x.S[j]? = some (s, t) ∧ 0 < s ∧ (adr x j : Int) = b

/-- What Info tells of the size. -/
def szO (H : Hs) (b : Int) : Int := match fnd H b with
  | some (k, j) => if (adrAt H k j : Int) = b then (slotAt H k j).1 else 0
  | none => 0
/-- What is read of the object at b, or nothing. -/
def rdO (H : Hs) (b : Int) : List Int := rdX H b (szO H b)

theorem infV_sz (H : Hs) (b : Int) : ∃ A T E : Int, infV H b (fnd H b) = .tuple #[.agg #[.int .i64 A, .int .i64 (szO H b), .int .i64 T, .slice none 0 0], .int .i64 E] := by
  unfold szO infV
  cases fnd H b with
  | none => exact ⟨_, _, _, rfl⟩
  | some q =>
    obtain ⟨k, j⟩ := q
    simp only
    split
    · exact ⟨_, _, _, rfl⟩
    · exact ⟨_, _, _, rfl⟩

theorem Ob3.found {H : Hs} (h : Hv H) {b s t : Int} (ho : Ob3 H b s t) : ∃ k j, fnd H b = some (k, j) ∧ (adrAt H k j : Int) = b ∧ slotAt H k j = (s, t) := by
  obtain ⟨x, hx, j, hj, h0, rfl⟩ := ho
  obtain ⟨k, hk⟩ := List.getElem?_of_mem hx
  exact ⟨k, j, found_at h hk hj rfl (Int.le_refl _) (by omega)⟩
theorem rdO_ob {H : Hs} (h : Hv H) {b s t : Int} (ho : Ob3 H b s t) : szO H b = s ∧ rdO H b = cut H.B b.toNat s.toNat := by
  obtain ⟨k, j, h1, h2, h3⟩ := ho.found h
  have hs : szO H b = s := by unfold szO; rw [h1]; simp only; rw [if_pos h2, h3]
  obtain ⟨_, _, _, _, h0, _⟩ := ho
  refine ⟨hs, ?_⟩
  unfold rdO rdX
  rw [hs, if_pos]
  unfold witE
  rw [if_neg (by omega), h1]
  simp only
  rw [if_neg (by rw [h2, h3]; simp only; omega)]
theorem rdO_no {H : Hs} (h : Hv H) {b : Int} (ho : ∀ s t, ¬ Ob3 H b s t) : szO H b = 0 ∧ rdO H b = [] := by
  have hs : szO H b = 0 := by
    unfold szO
    cases hf : fnd H b with
    | none => rfl
    | some q =>
      obtain ⟨k, j⟩ := q
      simp only
      split
      · rename_i he
        obtain ⟨hs, h1, h2⟩ := h.hit hf
        refine absurd ⟨spAt H k, hs.mem, j, ?_, (by omega : 0 < (slotAt H k j).1), he⟩ (ho (slotAt H k j).1 (slotAt H k j).2)
        unfold slotAt
        rw [List.getD_eq_getElem?_getD, List.getElem?_eq_getElem hs.jl]; rfl
      · rfl
  refine ⟨hs, ?_⟩
  unfold rdO rdX
  rw [hs]
  split
  · rfl
  · rfl

/-- Two slots lie apart. -/
theorem Hv.slots {H : Hs} (h : Hv H) {x y : Spn} (hx : x ∈ H.sp) (hy : y ∈ H.sp) {i j : Nat} (hi : i < x.S.length) (hj : j < y.S.length) : (x = y ∧ i = j) ∨ adr x i + x.rm ≤ adr y j ∨ adr y j + y.rm ≤ adr x i := by
  have ox := h.ok x hx
  have oy := h.ok y hy
  obtain ⟨k, hk⟩ := List.getElem?_of_mem hx
  obtain ⟨l, hl⟩ := List.getElem?_of_mem hy
  have s1 := ox.slot hi
  have s2 := oy.slot hj
  rw [Nat.add_mul] at s1 s2
  obtain ⟨hk1, rfl⟩ := List.getElem?_eq_some_iff.1 hk
  obtain ⟨hl1, rfl⟩ := List.getElem?_eq_some_iff.1 hl
  have hs := List.pairwise_iff_getElem.1 h.sorted
  unfold adr
  rcases Nat.lt_trichotomy k l with q | q | q
  · have := hs k l hk1 hl1 q; omega
  · subst q
    rcases Nat.lt_trichotomy i j with r | r | r
    · have : (i + 1) * (H.sp[k]).rm ≤ j * (H.sp[k]).rm := Nat.mul_le_mul_right _ r
      rw [Nat.add_mul] at this; omega
    · exact .inl ⟨rfl, r⟩
    · have : (j + 1) * (H.sp[k]).rm ≤ i * (H.sp[k]).rm := Nat.mul_le_mul_right _ r
      rw [Nat.add_mul] at this; omega
  · have := hs l k hl1 hk1 q; omega

/-- What a new object changes. -/
structure Came (H H1 : Hs) (a size tag : Int) : Prop where
  ok : Ok size
  tg : 0 ≤ tag ∧ tag ≤ 2147483647
  fits : fitsH H size = true
  obj : ∀ b s t, b ≠ a → (Ob3 H1 b s t ↔ Ob3 H b s t)
  new : ∃ x ∈ H1.sp, ∃ j : Nat, x.S[j]? = some (size, tag) ∧ (adr x j : Int) = a ∧ x.rm = roomN size
  byt : H1.B = put H.B a.toNat (fun _ => 0) (roomN size)
  lim : a.toNat + roomN size ≤ H.B.length

theorem ob3_set {x : Spn} {j : Nat} {y : Slot} {i : Nat} (_hj : j < x.S.length) (s t : Int) (h : (x.S.set j y)[i]? = some (s, t)) : i = j ∨ x.S[i]? = some (s, t) := by
  rw [List.getElem?_set] at h
  by_cases q : j = i
  · exact .inl q.symm
  · rw [if_neg q] at h; exact .inr h

theorem came {H : Hs} (h : Hv H) {size tag : Int} (he : (allocH H size tag).2.1 = 0) : Came H (allocH H size tag).2.2 (allocH H size tag).1 size tag := by
  have hc : Ok size ∧ 0 ≤ tag ∧ tag ≤ 2147483647 := by
    obtain ⟨q1, q2, _⟩ := alloc_found h he; exact ⟨q1, q2⟩
  obtain ⟨_, _, p1, p2, r8, r1, r2, sr, rp, kd⟩ := room_ok hc.1
  cases hk : H.sp.findIdx? (fitS (roomN size)) with
  | some k =>
    have e : allocH H size tag = ((adrAt H k (fz (spAt H k).S) : Int), 0, { H with sp := H.sp.set k (tkS (spAt H k) size tag), B := put H.B (adrAt H k (fz (spAt H k).S)) (fun _ => 0) (roomN size) }) := by
      unfold allocH; rw [if_pos hc]; simp only [hk]
    obtain ⟨x, hx, _, hfit⟩ := findIdx_find hk
    have ex := spAt_eq hx
    have hlk := (List.getElem?_eq_some_iff.1 hx).1
    unfold fitS at hfit
    simp only [Bool.and_eq_true, decide_eq_true_eq] at hfit
    have hm := List.mem_of_getElem? hx
    have hox := h.ok x hm
    obtain ⟨z1, z2, _⟩ := fz_spec hfit.2 (fun y hy => (hox.sz y hy).1)
    have hs0 := h.slt hlk (j := fz x.S) (by rw [ex]; exact z1)
    have ea : (adrAt H k (fz x.S)) = adr x (fz x.S) := by unfold adrAt; rw [ex]
    have hhi := hs0.hi
    rw [e, ex, ea]
    rw [ea, ex, hfit.1] at hhi
    have hbl := h.bl
    have hset : ∀ y, y ∈ H.sp.set k (tkS x size tag) → y = tkS x size tag ∨ y ∈ H.sp := fun y hy => (List.mem_or_eq_of_mem_set hy).symm
    refine ⟨hc.1, hc.2, ?_, fun b s t hb => ⟨?_, ?_⟩, ⟨tkS x size tag, ?_, fz x.S, ?_, rfl, hfit.1⟩, rfl, ?_⟩
    · unfold fitsH; rw [hk]; simp [hc.1]
    · rintro ⟨y, hy, j, hj, h0, rfl⟩
      rcases hset y hy with rfl | hy
      · rcases ob3_set z1 s t hj with rfl | hj
        · exact absurd rfl hb
        · exact ⟨x, hm, j, hj, h0, rfl⟩
      · exact ⟨y, hy, j, hj, h0, rfl⟩
    · rintro ⟨y, hy, j, hj, h0, rfl⟩
      obtain ⟨l, hl⟩ := List.getElem?_of_mem hy
      by_cases q : l = k
      · subst q
        rw [hx] at hl; cases hl
        refine ⟨tkS x size tag, List.mem_iff_getElem?.2 ⟨l, by simp [hlk]⟩, j, ?_, h0, rfl⟩
        simp only [tkS, List.getElem?_set]
        rw [if_neg]
        · exact hj
        · rintro rfl; exact hb rfl
      · exact ⟨y, List.mem_iff_getElem?.2 ⟨l, by rw [List.getElem?_set, if_neg (fun r => q r.symm)]; exact hl⟩, j, hj, h0, rfl⟩
    · exact List.mem_iff_getElem?.2 ⟨k, by simp [hlk]⟩
    · simp [tkS, z1]
    · simp only [Int.toNat_natCast]; omega
  | none =>
    cases hi : hole H.R (pgN size) with
    | none =>
      have e : allocH H size tag = (0, 7, H) := by unfold allocH; rw [if_pos hc]; simp only [hk, hi]
      rw [e] at he; simp at he
    | some i =>
      have e : allocH H size tag = (((((rnAt H.R i).s + 1) * 256 : Nat) : Int), 0, ⟨H.P, takeL H.R i (pgN size), insS H.sp (insK H.R i) (tkS (newS (rnAt H.R i).s (pgN size) (roomN size)) size tag), put H.B (((rnAt H.R i).s + 1) * 256) (fun _ => 0) (roomN size)⟩) := by
        unfold allocH; rw [if_pos hc]; simp only [hk, hi]
      obtain ⟨_, f0, l1⟩ := new_ok hc.1 hc.2 (rnAt H.R i).s
      obtain ⟨i1, i2, i3, _⟩ := hole_some hi
      have hb := h.inv.mem _ (rnAt_mem i1)
      have hbl := h.bl
      rw [e]
      refine ⟨hc.1, hc.2, ?_, fun b s t hb => ⟨?_, ?_⟩, ⟨_, mem_insS.2 (.inl rfl), 0, ?_, ?_, rfl⟩, rfl, ?_⟩
      · unfold fitsH; rw [← big_hole _ _ p1, hi]; simp [hc.1]
      · rintro ⟨y, hy, j, hj, h0, rfl⟩
        rcases mem_insS.1 hy with rfl | hy
        · simp only [tkS, f0] at hj
          rcases ob3_set (x := newS (rnAt H.R i).s (pgN size) (roomN size)) (by simp only [newS, List.length_replicate]; omega) s t hj with rfl | hj
          · exact absurd (by simp [adr, tkS, newS]) hb
          · simp only [newS, List.getElem?_replicate] at hj
            split at hj
            · simp at hj; omega
            · cases hj
        · exact ⟨y, hy, j, hj, h0, rfl⟩
      · rintro ⟨y, hy, j, hj, h0, rfl⟩
        exact ⟨y, mem_insS.2 (.inr hy), j, hj, h0, rfl⟩
      · simp only [tkS, f0]
        exact List.getElem?_set_self (by simp only [newS, List.length_replicate]; omega)
      · simp [adr, tkS, newS]
      · simp only [Int.toNat_natCast]; omega

theorem alloc_nofit {H : Hs} {size tag : Int} (he : (allocH H size tag).2.1 ≠ 0) : fitsH H size = false ∨ tag < 0 ∨ 2147483647 < tag := by
  by_cases ht : 0 ≤ tag ∧ tag ≤ 2147483647
  · left
    by_cases hO : Ok size
    · unfold allocH at he
      rw [if_pos ⟨hO, ht⟩] at he
      unfold fitsH
      cases hk : H.sp.findIdx? (fitS (roomN size)) with
      | some k => rw [hk] at he; simp at he
      | none =>
        rw [hk] at he
        simp only at he
        rw [← big_hole _ _ (room_ok hO).2.2.1]
        cases hi : hole H.R (pgN size) with
        | none => simp
        | some i => rw [hi] at he; simp at he
    · unfold fitsH; simp [hO]
  · right; omega

theorem cut_put {L : List Int} {A n b s : Nat} {f : Nat → Int} (h : A + n ≤ L.length) (hd : b + s ≤ A ∨ A + n ≤ b) : cut (put L A f n) b s = cut L b s := by
  unfold cut
  apply List.map_congr_left
  intro j hj
  rw [List.mem_range] at hj
  rw [getD_put L A f n h, if_neg (by omega)]

theorem Ob3.put {H : Hs} {a n b s t : Int} {f : Nat → Int} : Ob3 (putH H a n f) b s t ↔ Ob3 H b s t := by
  unfold putH; split <;> exact Iff.rfl

/-- What is written into the new object is in no other. -/
theorem Came.same {H H1 : Hs} {a size tag : Int} (hC : Came H H1 a size tag) (h : Hv H) (h1 : Hv H1) (n : Int) (f : Nat → Int) (h2 : Hv (putH H1 a n f)) {b : Int} (hb : b ≠ a) : rdO (putH H1 a n f) b = rdO H b := by
  obtain ⟨x, hx, i, hi, hia, hrm⟩ := hC.new
  have hO := hC.ok
  obtain ⟨_, _, _, _, _, _, _, sr, _, _⟩ := room_ok hO
  by_cases hq : ∃ s t, Ob3 H b s t
  · obtain ⟨s, t, hs⟩ := hq
    have hs1 := (hC.obj b s t hb).2 hs
    rw [(rdO_ob h hs).2, (rdO_ob h2 (Ob3.put.2 hs1)).2]
    obtain ⟨y, hy, j, hj, h0, rfl⟩ := hs1
    have hlen := hC.lim
    have hyr := ((h1.ok y hy).sz _ (List.mem_of_getElem? hj)).2
    have hd : (adr y j) + s.toNat ≤ a.toNat ∨ a.toNat + roomN size ≤ adr y j := by
      rcases h1.slots hx hy (List.getElem?_eq_some_iff.1 hi).1 (List.getElem?_eq_some_iff.1 hj).1 with ⟨rfl, rfl⟩ | q | q
      · exact absurd hia hb
      · right; rw [← hrm]; omega
      · left; simp only at hyr; omega
    have e1 : cut H1.B (adr y j) s.toNat = cut H.B (adr y j) s.toNat := by rw [hC.byt]; exact cut_put hlen hd
    simp only [Int.toNat_natCast]
    rw [← e1]
    unfold putH
    split
    · rename_i hw
      obtain ⟨hn, k, l, hf, hle⟩ := witE_ok hw
      obtain ⟨k0, hk0⟩ := List.getElem?_of_mem hx
      obtain ⟨g1, g2, g3⟩ := found_at h1 hk0 hi hia (b := a) (Int.le_refl _) (by have := hO.1; simp only; omega)
      rw [g1] at hf
      cases hf
      rw [g2, g3] at hle
      simp only at hle
      have hl1 : H1.B.length = H.B.length := by rw [hC.byt, length_put]
      exact cut_put (by omega) (by omega)
    · rfl
  · have hs : ∀ s t, ¬ Ob3 H b s t := fun s t q => hq ⟨s, t, q⟩
    rw [(rdO_no h hs).2, (rdO_no h2 (fun s t q => hs s t ((hC.obj b s t hb).1 (Ob3.put.1 q)))).2]

/-- A new object is all zero. -/
theorem Came.zero {H H1 : Hs} {a size tag : Int} (hC : Came H H1 a size tag) (h1 : Hv H1) : witE H1 a size = 0 ∧ rdX H1 a size = List.replicate size.toNat 0 := by
  obtain ⟨x, hx, i, hi, hia, hrm⟩ := hC.new
  have hO := hC.ok
  obtain ⟨_, _, _, _, _, _, _, sr, _, _⟩ := room_ok hO
  have hs := hO.1
  obtain ⟨k, hk⟩ := List.getElem?_of_mem hx
  obtain ⟨g1, g2, g3⟩ := found_at h1 hk hi hia (b := a) (Int.le_refl _) (by simp only; omega)
  have hw : witE H1 a size = 0 := by
    unfold witE
    rw [if_neg (by omega), g1]
    simp only
    rw [if_neg (by rw [g2, g3]; simp only; omega)]
  refine ⟨hw, ?_⟩
  unfold rdX
  rw [if_pos hw, hC.byt]
  apply List.ext_getElem?
  intro j
  unfold cut
  rw [List.getElem?_map, List.getElem?_replicate]
  by_cases hj : j < size.toNat
  · rw [List.getElem?_range hj, if_pos hj]
    simp only [Option.map_some]
    rw [getD_put _ _ _ _ hC.lim, if_pos (by omega)]
  · rw [if_neg hj]; simp; omega

/-- The bytes' ends. -/
theorem Came.ends {H H1 : Hs} {a size tag : Int} (hC : Came H H1 a size tag) (h1 : Hv H1) :
    baV H1 (fnd H1 (a + size - 1)) = .tuple #[.int .i64 a, .int .i64 0] ∧ (fnd H1 (a + size) = none ∨ ∃ k j, fnd H1 (a + size) = some (k, j) ∧ (adrAt H1 k j : Int) = a + size) := by
  obtain ⟨x, hx, i, hi, hia, hrm⟩ := hC.new
  have hO := hC.ok
  obtain ⟨_, _, _, _, _, _, _, sr, _, _⟩ := room_ok hO
  have hs := hO.1
  obtain ⟨k, hk⟩ := List.getElem?_of_mem hx
  obtain ⟨g1, g2, g3⟩ := found_at h1 hk hi hia (b := a + size - 1) (by omega) (by simp only; omega)
  refine ⟨by rw [g1]; simp only [baV, g2], ?_⟩
  cases hf : fnd H1 (a + size) with
  | none => exact .inl rfl
  | some q =>
    obtain ⟨l, j⟩ := q
    refine .inr ⟨l, j, rfl, ?_⟩
    obtain ⟨hs2, q1, q2⟩ := h1.hit hf
    have hsz := hs2.sz.2
    rcases h1.slots hx hs2.mem (List.getElem?_eq_some_iff.1 hi).1 hs2.jl with ⟨e1, rfl⟩ | r | r
    · exfalso
      have : slotAt H1 l i = (size, tag) := by unfold slotAt; rw [← e1, List.getD_eq_getElem?_getD, hi]; rfl
      have h3 : (adrAt H1 l i : Int) = a := by unfold adrAt; rw [← e1]; exact hia
      rw [this, h3] at q2
      simp only at q2
      omega
    · unfold adrAt at q1 ⊢; omega
    · exfalso; unfold adrAt at q2; omega

end Go.Proofs.YtlajjcboahflbaaDoor

/-
  MFul: joined by program; no statement is proved here.
-/
import Derived.Test.YtjbbomokgpoilaaGreatDoorZVC
/-
  What an allocation answers: plain facts; no statement is proved here.
-/
namespace Go.Proofs.YtjbbomokgpoilaaGreatDoor

theorem nodup_sub : ∀ (l L : List Int), l.Nodup → (∀ x ∈ l, x ∈ L) → l.length ≤ L.length
  | [], _, _, _ => Nat.zero_le _
  | a :: l, L, hn, hs => by
    obtain ⟨h1, h2⟩ := List.nodup_cons.1 hn
    have ha := hs a (by simp)
    have ih := nodup_sub l (L.erase a) h2 (fun x hx => (List.mem_erase_of_ne (fun e => by rw [e] at hx; exact h1 hx)).2 (hs x (by simp [hx])))
    rw [List.length_erase_of_mem ha] at ih
    have := List.length_pos_of_mem ha
    simp only [List.length_cons]
    omega
/-- There is always a free number: objects are fewer. -/
theorem fr_room {M : Ms} (h : Jd M []) : Co.fr M.G ≠ 65536 := by
  intro e
  have hle := h.iv.le
  have hall : ∀ i : Nat, i < 65536 → (Co.ndAt M.G.ns i).c ≠ 0 := fun i hi => by
    by_cases q : i < M.G.le
    · exact h.iv.les i q
    · exact Co.fr_lo (by omega) (by omega)
  have hx : ∀ i : Nat, i < 65536 → ∃ a o, M.ad (i : Int) = some a ∧ M.ob a = some o ∧ o.nd = (i : Int) := fun i hi => by
    obtain ⟨a, ha⟩ := h.lv i (hall i hi)
    obtain ⟨o, h1, h2⟩ := h.ad _ _ ha
    exact ⟨a, o, ha, h1, h2⟩
  have hn : ((List.range 65536).map (fun i => adrM M ((i : Nat) : Int))).Nodup := by
    unfold List.Nodup
    rw [List.pairwise_map]
    refine List.Pairwise.imp_of_mem ?_ List.pairwise_lt_range
    intro i j hi hj hij q
    obtain ⟨a, o, a1, a2, a3⟩ := hx i (List.mem_range.1 hi)
    obtain ⟨b, o', b1, b2, b3⟩ := hx j (List.mem_range.1 hj)
    unfold adrM at q
    rw [a1, b1] at q
    simp only [Option.getD_some] at q
    subst q
    rw [a2] at b2
    cases b2
    omega
  have hs : ∀ x ∈ (List.range 65536).map (fun i => adrM M ((i : Nat) : Int)), x ∈ (objs M.H.sp).map (fun q : Ob => q.1) := fun x hx2 => by
    obtain ⟨i, hi, rfl⟩ := List.mem_map.1 hx2
    obtain ⟨a, o, a1, a2, a3⟩ := hx i (List.mem_range.1 hi)
    obtain ⟨t, q⟩ := h.o3 a o a2
    have hm : ((a, (8 * o.sl.length : Int), t) : Ob) ∈ objs M.H.sp := objs_ob3.2 q
    have e2 : adrM M (i : Int) = a := by unfold adrM; rw [a1]; rfl
    rw [e2]
    exact List.mem_map.2 ⟨_, hm, rfl⟩
  have h1 := nodup_sub _ _ hn hs
  have h2 := h.hv.few
  simp only [List.length_map, List.length_range] at h1
  omega
/-- An object that is placed. -/
theorem place_new {M : Ms} (h : Jd M []) (ps : List Bool) (tag : Int) (hl : 1 ≤ ps.length ∧ ps.length ≤ 8192) (ht : 0 ≤ tag ∧ tag ≤ 2147483647) (hf : fitsM M ps.length = true) :
    (placeM M ps tag).2.2 = 0 ∧ ∃ o, fndM (placeM M ps tag).1 (placeM M ps tag).2.1 = some o ∧ o.sl.length = ps.length ∧ refsM (placeM M ps tag).1 o.nd = [] ∧ tagM (placeM M ps tag).1 (placeM M ps tag).2.1 = tag := by
  have hJ := h.place ps tag hl ht hf
  have hm8 : cntT ps ≤ 8192 := by have := cntT_le ps; omega
  have he := fits_alloc hf ht
  have hfr := fr_room h
  have hle := h.iv.le
  have hno : Co.node M.G (cntT ps : Int) = (Co.nodeG M.G (cntT ps), (Co.fr M.G : Int), 0) := by
    unfold Co.node
    rw [if_neg (by omega), Int.toNat_natCast, if_neg hfr]
  have hC := came h.hv he
  have hat := Co.node_at hle hfr (cntT ps) (Co.fr M.G)
  have hlv := (Co.node_lv hle hfr (cntT ps) (Co.fr M.G)).2 (.inl rfl)
  have hsr : (ps.length * 8 : Int) ≤ roomN (ps.length * 8) := (room_ok hC.ok).2.2.2.2.2.2.2.1
  obtain ⟨xn, hxn, jn, hjn, han, hrm⟩ := hC.new
  have e : placeM M ps tag = ({ M with
      G := Co.nodeG M.G (cntT ps)
      H := (allocH M.H (ps.length * 8) tag).2.2
      ob := updO M.ob (allocH M.H (ps.length * 8) tag).1 (some ⟨(Co.fr M.G : Int), slotsF ps 0⟩)
      ad := updO M.ad (Co.fr M.G : Int) (some (allocH M.H (ps.length * 8) tag).1)
      sn := M.sn + ps.length
      cn := M.cn + 1 }, (allocH M.H (ps.length * 8) tag).1, 0) := by
    unfold placeM
    rw [hno]
    simp only
    rw [if_neg (by simp), if_neg (by rw [he]; simp)]
  rw [e] at hJ ⊢
  simp only at hJ ⊢
  generalize (allocH M.H (ps.length * 8) tag).2.2 = H1 at *
  generalize (allocH M.H (ps.length * 8) tag).1 = a at *
  refine ⟨trivial, ⟨(Co.fr M.G : Int), slotsF ps 0⟩, fndM_iff.2 ⟨by simp [updO], ?_⟩, slotsF_len ps 0, ?_, ?_⟩
  · rw [Co.lvB_nat]; simpa using hlv
  · have hb : Co.lvB (Co.nodeG M.G (cntT ps)) (Co.fr M.G : Int) = true := by rw [Co.lvB_nat]; simpa using hlv
    unfold refsM refsF Co.slV
    simp only
    rw [if_pos hb, Int.toNat_natCast, hat, if_pos rfl]
    simp
  · have hO : Ob3 H1 a (ps.length * 8) tag := ⟨xn, hxn, jn, hjn, by omega, han⟩
    obtain ⟨k, j, g1, g2, g3⟩ := hO.found hJ.hv
    unfold tagM
    simp only at g1 ⊢
    rw [g1]
    simp only
    rw [g3]
/-- The three answers of an allocation with live roots. -/
theorem alloc_three {M : Ms} (hJ : Jd M []) {R l : List Int} (hl : nodesM M R = some l) (hlv : ∀ x ∈ l, Co.lvB M.G x = true) (ps : List Bool) :
    ((ps.length < 1 ∨ 8192 < ps.length) ∧ (allocM M ps 1 R).2.2 = 2) ∨
    ((1 ≤ ps.length ∧ ps.length ≤ 8192) ∧ (allocM M ps 1 R).2.2 = 7 ∧ fitsM (allocM M ps 1 R).1 ps.length = false ∧ Left M l (allocM M ps 1 R).1) ∨
    ((1 ≤ ps.length ∧ ps.length ≤ 8192) ∧ (allocM M ps 1 R).2.2 = 0 ∧ ∃ o, fndM (allocM M ps 1 R).1 (allocM M ps 1 R).2.1 = some o ∧ o.sl.length = ps.length ∧ refsM (allocM M ps 1 R).1 o.nd = [] ∧ tagM (allocM M ps 1 R).1 (allocM M ps 1 R).2.1 = 1) := by
  by_cases hc : ps.length < 1 ∨ 8192 < ps.length
  · left
    refine ⟨hc, ?_⟩
    unfold allocM
    rw [if_pos (by omega)]
  · right
    have hp : 1 ≤ ps.length ∧ ps.length ≤ 8192 := by omega
    have h1 := ((hJ.hold l).begM l).room ps.length l
    cases hf : fitsM (roomM (begM (holdM M l) l) ps.length l) ps.length with
    | false =>
      left
      have e : allocM M ps 1 R = (roomM (begM (holdM M l) l) ps.length l, 0, 7) := by
        unfold allocM
        rw [if_neg (by omega), hl]
        simp only
        rw [if_neg (by rw [hf]; decide)]
      rw [e]
      exact ⟨hp, rfl, hf, full_left hJ hlv hf⟩
    | true =>
      right
      have e : allocM M ps 1 R = placeM (roomM (begM (holdM M l) l) ps.length l) ps 1 := by
        unfold allocM
        rw [if_neg (by omega), hl]
        simp only
        rw [if_pos hf]
      rw [e]
      obtain ⟨p1, p2⟩ := place_new h1 ps 1 hp (by omega) hf
      exact ⟨hp, p1, p2⟩
end Go.Proofs.YtjbbomokgpoilaaGreatDoor

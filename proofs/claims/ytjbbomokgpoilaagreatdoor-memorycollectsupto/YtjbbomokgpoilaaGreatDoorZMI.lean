/-
  MInv, MGone, MPut, MKeep: joined by program; no statement is proved here.
-/
import Derived.Test.YtjbbomokgpoilaaGreatDoorZMH
/-
  What always holds of a memory: its objects lie in the heap, each has a node, and a node's slots hold what the object's pointers name; no statement is proved here.
-/
namespace Go.Proofs.YtjbbomokgpoilaaGreatDoor

/-! ### steps of a graph that change no slot -/

structure Gst (G G' : Co.Gs) : Prop where
  z : ∀ n, (Co.ndAt G'.ns n).c = 0 ↔ (Co.ndAt G.ns n).c = 0
  l : ∀ n, Co.lvN G' n → Co.lvN G n ∧ (Co.ndAt G'.ns n).s = (Co.ndAt G.ns n).s

theorem Gst.refl (G : Co.Gs) : Gst G G := ⟨fun _ => Iff.rfl, fun _ h => ⟨h, rfl⟩⟩
theorem Gst.trans {A B C : Co.Gs} (h : Gst A B) (k : Gst B C) : Gst A C :=
  ⟨fun n => (k.z n).trans (h.z n), fun n hn => ⟨(h.l n (k.l n hn).1).1, (k.l n hn).2.trans (h.l n (k.l n hn).1).2⟩⟩
theorem Gst.sh (G : Co.Gs) (x : Int) : Gst G (Co.sh G x) := by
  refine ⟨fun n => ?_, fun n hn => ⟨(Co.sh_lv G x n).1 hn, Co.sh_s G x n⟩⟩
  rcases Co.sh_at G x n with e | ⟨e1, e2⟩
  · rw [e]
  · rw [e2, e1]; simp
theorem Gst.shs (R : List Int) : ∀ G : Co.Gs, Gst G (R.foldl Co.sh G) := by
  induction R with
  | nil => intro G; exact Gst.refl G
  | cons x R ih => intro G; exact (Gst.sh G x).trans (ih _)
theorem Gst.shade (G : Co.Gs) (x : Int) : Gst G (Co.shade G x).1 := by
  unfold Co.shade
  split
  · exact Gst.refl G
  · exact Gst.sh G x
theorem Gst.shades (R : List Int) : ∀ G : Co.Gs, Gst G (R.foldl (fun G n => (Co.shade G n).1) G) := by
  induction R with
  | nil => intro G; exact Gst.refl G
  | cons x R ih => intro G; exact (Gst.shade G x).trans (ih _)
theorem Gst.start (G : Co.Gs) (R : List Int) : Gst G (Co.start G R).1 := by
  unfold Co.start
  split
  · exact Gst.refl G
  · split
    · exact Gst.refl G
    · refine Gst.trans (B := { G with ph := 1, ns := G.ns.map Co.wh }) ⟨fun n => ?_, fun n hn => ⟨(Co.wh_lv n).1 hn, ?_⟩⟩ (Gst.shs R _)
      · simp only [Co.wh_at, Co.wh_c]
        split
        · rename_i q; simp [q.1]
        · exact Iff.rfl
      · simp only [Co.wh_at]; exact (Co.wh_s _).1

theorem unit_st {G : Co.Gs} (h : Co.Iv G) (h0 : G.ph ≠ 0) : (Gst G (Co.unit G).1 ∧ (Co.unit G).2 = []) ∨ ∃ n, (Co.unit G).2 = [n] ∧ (Co.ndAt G.ns n).c = 4 ∧ ∀ j, Co.ndAt (Co.unit G).1.ns j = if j = n then Co.nz else Co.ndAt G.ns j := by
  unfold Co.unit
  split
  · left
    refine ⟨?_, rfl⟩
    unfold Co.mark
    split
    · refine ⟨fun n => ?_, fun n hn => ?_⟩
      · simp only [Co.die_at]
        unfold Co.die
        split
        · rename_i q; simp [q]
        · exact Iff.rfl
      · unfold Co.lvN at hn
        simp only [Co.die_at] at hn ⊢
        unfold Co.die at hn ⊢
        split at hn
        · exact absurd rfl hn.2
        · rename_i q; rw [if_neg q]; exact ⟨hn, rfl⟩
    · rename_i x t hl
      have hx2 : (Co.ndAt G.ns x).c = 2 := (h.grey x).2 (by rw [hl]; simp)
      have hxl : x < G.ns.length := Co.lvN_lt (G := G) ⟨by rw [hx2]; decide, by rw [hx2]; decide⟩
      have key : ∀ (y : Co.Nd) (G' : Co.Gs), G'.ns = G.ns.set x y → y.c ≠ 0 → y.s = (Co.ndAt G.ns x).s → Gst G G' := fun y G' e hc hs => by
        refine ⟨fun n => ?_, fun n hn => ?_⟩
        · rw [e, Co.ndAt_set hxl]
          split
          · rename_i q; subst q; rw [hx2]; simp [hc]
          · exact Iff.rfl
        · unfold Co.lvN at hn ⊢
          rw [e, Co.ndAt_set hxl] at hn
          rw [e, Co.ndAt_set hxl]
          split at hn
          · rename_i q; subst q; rw [if_pos rfl, hx2]; exact ⟨by decide, hs⟩
          · rename_i q; rw [if_neg q]; exact ⟨hn, rfl⟩
      split
      · exact key _ _ rfl (by simp) rfl
      · exact (key ⟨(Co.ndAt G.ns x).c, (Co.ndAt G.ns x).s, (Co.ndAt G.ns x).k + 1⟩ { G with ns := G.ns.set x ⟨(Co.ndAt G.ns x).c, (Co.ndAt G.ns x).s, (Co.ndAt G.ns x).k + 1⟩ } rfl (by simp only; rw [hx2]; decide) rfl).trans (Gst.sh _ _)
  · rename_i h1
    have h2 : G.ph = 2 := by have := h.ph; omega
    have hp := h.pe h2
    unfold Co.sweep
    split
    · exact .inl ⟨⟨fun _ => Iff.rfl, fun _ hn => ⟨hn, rfl⟩⟩, rfl⟩
    · split
      · rename_i q1 q2
        right
        refine ⟨G.pl, rfl, q2, fun j => ?_⟩
        simp only
        rw [Co.ndAt_set (by omega)]
      · exact .inl ⟨⟨fun _ => Iff.rfl, fun _ hn => ⟨hn, rfl⟩⟩, rfl⟩

/-! ### the invariant -/

/-- A word of the arena. -/
def wd (H : Hs) (a : Int) : Int := numAt H.B a.toNat 8
/-- What a slot's node is as a word. -/
def nameW (M : Ms) (x : Int) : Int := if x = -1 then 0 else adrM M x

/-- D: nodes that were swept, whose objects are not freed yet. -/
structure Jd (M : Ms) (D : List Int) : Prop where
  hv : Hv M.H
  iv : Co.Iv M.G
  o3 : ∀ a o, M.ob a = some o → ∃ t, Ob3 M.H a (8 * o.sl.length) t
  al : ∀ b s t, Ob3 M.H b s t → ∃ o, M.ob b = some o
  sl : ∀ a o, M.ob a = some o → ∃ ps : List Bool, o.sl = slotsF ps 0 ∧ 1 ≤ ps.length ∧ ps.length ≤ 8192 ∧ (Co.lvN M.G o.nd.toNat → (Co.ndAt M.G.ns o.nd.toNat).s.length = cntT ps)
  nd : ∀ a o, M.ob a = some o → 0 ≤ o.nd ∧ M.ad o.nd = some a ∧ ((Co.ndAt M.G.ns o.nd.toNat).c ≠ 0 ∨ o.nd ∈ D)
  ad : ∀ n a, M.ad n = some a → ∃ o, M.ob a = some o ∧ o.nd = n
  lv : ∀ n : Nat, (Co.ndAt M.G.ns n).c ≠ 0 → ∃ a, M.ad n = some a
  dd : ∀ n ∈ D, 0 ≤ n ∧ (Co.ndAt M.G.ns n.toNat).c = 0 ∧ ∃ a, M.ad n = some a
  un : D.Nodup
  wo : ∀ a o, M.ob a = some o → Co.lvN M.G o.nd.toNat → ∀ k, k < o.sl.length → o.sl.getD k 0 ≠ -1 → wd M.H (a + 8 * (k : Int)) = nameW M ((Co.ndAt M.G.ns o.nd.toNat).s.getD (o.sl.getD k 0).toNat 0)

theorem Jd.graph {M : Ms} {D : List Int} (h : Jd M D) {G' : Co.Gs} (hI : Co.Iv G') (g : Gst M.G G') : Jd { M with G := G' } D := by
  refine ⟨h.hv, hI, h.o3, h.al, fun a o ho => ?_, fun a o ho => ?_, h.ad, fun n hn => h.lv n (fun e => hn ((g.z n).2 e)), fun n hn => ⟨(h.dd n hn).1, (g.z _).2 (h.dd n hn).2.1, (h.dd n hn).2.2⟩, h.un, fun a o ho hl k hk hs => ?_⟩
  · obtain ⟨ps, h1, h2, h3, h4⟩ := h.sl a o ho
    exact ⟨ps, h1, h2, h3, fun hl => by have := g.l _ hl; rw [this.2]; exact h4 this.1⟩
  · obtain ⟨h1, h2, h3⟩ := h.nd a o ho
    exact ⟨h1, h2, h3.imp (fun q e => q ((g.z _).1 e)) id⟩
  · have := g.l _ hl
    rw [h.wo a o ho this.1 k hk hs]
    simp only
    rw [this.2]
    rfl
theorem Jd.same {M : Ms} {D : List Int} (h : Jd M D) (pc sn : Int) (cn : Nat) : Jd { M with pc := pc, sn := sn, cn := cn } D := ⟨h.hv, h.iv, h.o3, h.al, h.sl, h.nd, h.ad, h.lv, h.dd, h.un, h.wo⟩

/-- A node that is swept. -/
theorem Jd.swept {M : Ms} {D : List Int} (h : Jd M D) {G' : Co.Gs} (hI : Co.Iv G') {n : Nat} (h4 : (Co.ndAt M.G.ns n).c = 4) (hn : ∀ j, Co.ndAt G'.ns j = if j = n then Co.nz else Co.ndAt M.G.ns j) : Jd { M with G := G' } (D ++ [(n : Int)]) := by
  have hlv : ∀ j, Co.lvN G' j → j ≠ n ∧ Co.lvN M.G j ∧ Co.ndAt G'.ns j = Co.ndAt M.G.ns j := fun j hj => by
    by_cases e : j = n
    · unfold Co.lvN at hj; rw [hn j, if_pos e] at hj; exact absurd rfl hj.1
    · refine ⟨e, ?_, by rw [hn j, if_neg e]⟩
      unfold Co.lvN at hj ⊢; rw [hn j, if_neg e] at hj; exact hj
  have hnD : (n : Int) ∉ D := fun q => by have := (h.dd _ q).2.1; simp only [Int.toNat_natCast] at this; rw [h4] at this; cases this
  refine ⟨h.hv, hI, h.o3, h.al, fun a o ho => ?_, fun a o ho => ?_, h.ad, fun j hj => ?_, fun x hx => ?_, ?_, fun a o ho hl k hk hs => ?_⟩
  · obtain ⟨ps, h1, h2, h3, h5⟩ := h.sl a o ho
    exact ⟨ps, h1, h2, h3, fun hl => by have := hlv _ hl; simp only; rw [this.2.2]; exact h5 this.2.1⟩
  · obtain ⟨h1, h2, h3⟩ := h.nd a o ho
    refine ⟨h1, h2, ?_⟩
    by_cases e : o.nd.toNat = n
    · right; simp; right; omega
    · simp only; rw [hn, if_neg e]
      exact h3.imp id (fun q => by simp [q])
  · simp only at hj
    rw [hn] at hj
    split at hj
    · exact absurd rfl hj
    · exact h.lv j hj
  · rcases List.mem_append.1 hx with q | q
    · obtain ⟨d1, d2, d3⟩ := h.dd x q
      refine ⟨d1, ?_, d3⟩
      simp only; rw [hn]
      split
      · rfl
      · exact d2
    · simp at q; subst q
      refine ⟨by omega, ?_, h.lv n (by rw [h4]; decide)⟩
      simp only [Int.toNat_natCast]; rw [hn, if_pos rfl]; rfl
  · rw [List.nodup_append]
    exact ⟨h.un, by simp, fun x hx y hy e => by simp at hy; subst hy; subst e; exact hnD hx⟩
  · have := hlv _ hl
    rw [h.wo a o ho this.2.1 k hk hs]
    simp only
    rw [this.2.2]
    rfl

theorem work_jd : ∀ (u : Nat) {M : Ms} {D : List Int}, Jd M D → Jd { M with G := (Co.work u M.G).2.2 } (D ++ natI (Co.work u M.G).2.1)
  | 0, M, D, h => by simpa [Co.work, natI] using h
  | u + 1, M, D, h => by
    by_cases h0 : M.G.ph = 0
    · rw [Co.work_idle h0]; simpa [natI] using h
    · have hI := Co.iv_unit h.iv h0
      simp only [Co.work, if_neg h0]
      rcases unit_st h.iv h0 with ⟨g, e⟩ | ⟨n, e, h4, hn⟩
      · have := work_jd u (h.graph hI g)
        rw [e]
        simpa using this
      · have := work_jd u (h.swept hI h4 hn)
        rw [e]
        simpa [natI] using this

end Go.Proofs.YtjbbomokgpoilaaGreatDoor

/-
  What an object that goes leaves; no statement is proved here.
-/
namespace Go.Proofs.YtjbbomokgpoilaaGreatDoor

theorem Hv.at_same {H : Hs} (h : Hv H) {k l : Nat} {x : Spn} (hx : H.sp[k]? = some x) (hy : H.sp[l]? = some x) : k = l := by
  have hn := (h.ok x (List.mem_of_getElem? hx)).n1
  exact h.same hx hy (i := x.st) ⟨Nat.le_refl _, by omega⟩ ⟨Nat.le_refl _, by omega⟩

theorem gone {H : Hs} (h : Hv H) {a s t : Int} (ho : Ob3 H a s t) : (freeH H a).2.B = H.B ∧ ∀ b u v, Ob3 (freeH H a).2 b u v ↔ Ob3 H b u v ∧ b ≠ a := by
  have ho0 := ho
  obtain ⟨k, j, hf, hadr, hsl⟩ := ho.found h
  obtain ⟨hs, _, _⟩ := h.hit hf
  have hX := spAt_get hs.kl
  have hXm := List.mem_of_getElem? hX
  have hok := hs.ok
  have hrm := hok.rm1
  have ha : (adr (spAt H k) j : Int) = a := hadr
  have hjl := hs.jl
  -- who lies at a is slot j of span k
  have huq : ∀ i x jj, H.sp[i]? = some x → jj < x.S.length → (adr x jj : Int) = a → i = k ∧ jj = j := fun i x jj hx hjj he => by
    rcases h.slots (List.mem_of_getElem? hx) hXm hjj hjl with ⟨e1, e2⟩ | q | q
    · subst e1; exact ⟨h.at_same hx hX, e2⟩
    · have := (h.ok x (List.mem_of_getElem? hx)).rm1; omega
    · omega
  have hlt : ∀ {x : Spn} {jj : Nat} {y : Slot}, x.S[jj]? = some y → jj < x.S.length := fun hy => (List.getElem?_eq_some_iff.1 hy).1
  unfold freeH
  rw [hf]
  simp only
  rw [if_pos hadr]
  split
  · rename_i hu
    refine ⟨rfl, fun b u v => ⟨?_, ?_⟩⟩
    · rintro ⟨x, hx, jj, hjj, h0, hb⟩
      obtain ⟨i, hi, hxi⟩ := List.mem_iff_getElem.1 hx
      simp only [List.length_set] at hi
      rw [List.getElem_set] at hxi
      split at hxi
      · subst hxi
        simp only [dpS] at hjj hb
        rw [List.getElem?_set] at hjj
        split at hjj
        · simp at hjj
          omega
        · rename_i hne
          refine ⟨⟨spAt H k, hXm, jj, hjj, h0, hb⟩, fun e => ?_⟩
          have := huq k _ jj hX (hlt hjj) (hb.trans e)
          omega
      · rename_i hne
        have hxg : H.sp[i]? = some x := by rw [List.getElem?_eq_getElem hi, hxi]
        refine ⟨⟨x, List.mem_of_getElem? hxg, jj, hjj, h0, hb⟩, fun e => ?_⟩
        have := huq i x jj hxg (hlt hjj) (hb.trans e)
        omega
    · rintro ⟨⟨x, hx, jj, hjj, h0, hb⟩, hba⟩
      obtain ⟨i, hi⟩ := List.getElem?_of_mem hx
      have hil := (List.getElem?_eq_some_iff.1 hi).1
      by_cases e : i = k
      · subst e
        have hxX : x = spAt H i := by rw [hX] at hi; exact (Option.some.inj hi).symm
        subst hxX
        have hjne : j ≠ jj := fun e => by subst e; exact hba (hb.symm.trans ha)
        refine ⟨dpS (spAt H i) j, ?_, jj, ?_, h0, hb⟩
        · exact List.mem_of_getElem? (i := i) (by simp [hil])
        · simp only [dpS]; rw [List.getElem?_set_ne hjne]; exact hjj
      · refine ⟨x, ?_, jj, hjj, h0, hb⟩
        exact List.mem_of_getElem? (i := i) (by rw [List.getElem?_set_ne (Ne.symm e)]; exact hi)
  · rename_i hu
    have hz : ∀ jj y, jj ≠ j → (spAt H k).S[jj]? = some y → ¬ 0 < y.1 := fun jj y hne hy h0 => by
      apply hu
      unfold us
      rw [List.countP_pos_iff]
      refine ⟨y, ?_, by simpa using h0⟩
      exact List.mem_of_getElem? (i := jj) (by rw [List.getElem?_set_ne (Ne.symm hne)]; exact hy)
    refine ⟨rfl, fun b u v => ⟨?_, ?_⟩⟩
    · rintro ⟨x, hx, jj, hjj, h0, hb⟩
      obtain ⟨i, hi, hne, hxi⟩ := List.mem_eraseIdx_iff_getElem.1 hx
      have hxg : H.sp[i]? = some x := by rw [List.getElem?_eq_getElem hi, hxi]
      refine ⟨⟨x, List.mem_of_getElem? hxg, jj, hjj, h0, hb⟩, fun e => ?_⟩
      have := huq i x jj hxg (hlt hjj) (hb.trans e)
      omega
    · rintro ⟨⟨x, hx, jj, hjj, h0, hb⟩, hba⟩
      obtain ⟨i, hi⟩ := List.getElem?_of_mem hx
      have hil := (List.getElem?_eq_some_iff.1 hi).1
      refine ⟨x, List.mem_eraseIdx_iff_getElem.2 ⟨i, hil, fun e => ?_, (List.getElem?_eq_some_iff.1 hi).2⟩, jj, hjj, h0, hb⟩
      subst e
      have hxX : x = spAt H i := by rw [hX] at hi; exact (Option.some.inj hi).symm
      subst hxX
      have hjne : jj ≠ j := fun e => by subst e; exact hba (hb.symm.trans ha)
      exact hz jj _ hjne hjj h0

theorem slotsF_val (ps : List Bool) : ∀ (c k : Nat), k < ps.length → ((slotsF ps c).getD k 0 = -1 ∧ ps.getD k false = false) ∨ (ps.getD k false = true ∧ (c : Int) ≤ (slotsF ps c).getD k 0 ∧ (slotsF ps c).getD k 0 < c + cntT ps) := by
  induction ps with
  | nil => intro c k h; simp at h
  | cons b t ih =>
    intro c k h
    cases k with
    | zero => cases b <;> simp [slotsF, cntT] <;> omega
    | succ k =>
      have hk : k < t.length := by simpa using h
      cases b
      · rcases ih c k hk with q | q
        · left; simpa [slotsF] using q
        · right
          have : cntT (false :: t) = cntT t := by simp [cntT]
          simp only [slotsF, List.getD_cons_succ]; rw [this]; exact q
      · rcases ih (c + 1) k hk with q | q
        · left; simpa [slotsF] using q
        · right
          have : cntT (true :: t) = cntT t + 1 := by simp [cntT]
          simp only [slotsF, List.getD_cons_succ]; rw [this]
          exact ⟨q.1, by omega, by omega⟩

/-- A pointer's slot is one of the node's. -/
theorem Jd.slot {M : Ms} {D : List Int} (h : Jd M D) {a : Int} {o : Mo} (ho : M.ob a = some o) (hl : Co.lvN M.G o.nd.toNat) {k : Nat} (hk : k < o.sl.length) (hs : o.sl.getD k 0 ≠ -1) : 0 ≤ o.sl.getD k 0 ∧ (o.sl.getD k 0).toNat < (Co.ndAt M.G.ns o.nd.toNat).s.length := by
  obtain ⟨ps, h1, h2, h3, h4⟩ := h.sl a o ho
  rw [h1, slotsF_len] at hk
  rw [h1] at hs ⊢
  rw [h4 hl]
  rcases slotsF_val ps 0 k hk with q | q
  · exact absurd q.1 hs
  · omega

theorem Jd.free {M : Ms} {D : List Int} {n : Int} (h : Jd M (n :: D)) : Jd (freeM M n) D := by
  obtain ⟨hn0, hc0, a, had⟩ := h.dd n (by simp)
  obtain ⟨o0, ho0, hnd0⟩ := h.ad n a had
  obtain ⟨t0, h3⟩ := h.o3 a o0 ho0
  obtain ⟨hB, hO⟩ := gone h.hv h3
  have hadr : adrM M n = a := by unfold adrM; rw [had]; rfl
  have hnD : n ∉ D := (List.nodup_cons.1 h.un).1
  have hob : ∀ b o, (freeM M n).ob b = some o → b ≠ a ∧ M.ob b = some o := fun b o e => by
    simp only [freeM, updO, hadr] at e
    split at e
    · cases e
    · rename_i q; exact ⟨q, e⟩
  have hnn : ∀ b o, b ≠ a → M.ob b = some o → o.nd ≠ n := fun b o hb ho e => by
    have := (h.nd b o ho).2.1
    rw [e, had] at this
    exact hb (Option.some.inj this).symm
  refine ⟨?_, h.iv, fun b o e => ?_, fun b s t hb => ?_, fun b o e => h.sl b o (hob b o e).2, fun b o e => ?_, fun m b e => ?_, fun m hm => ?_, fun m hm => ?_, (List.nodup_cons.1 h.un).2, fun b o e hl k hk hs => ?_⟩
  · exact hv_free h.hv _
  · obtain ⟨q1, q2⟩ := hob b o e
    obtain ⟨t, ht⟩ := h.o3 b o q2
    refine ⟨t, ?_⟩
    simp only [freeM, hadr]
    exact (hO b _ t).2 ⟨ht, q1⟩
  · simp only [freeM, hadr] at hb
    have := (hO b s t).1 hb
    obtain ⟨o, ho⟩ := h.al b s t this.1
    exact ⟨o, by simp only [freeM, updO, hadr]; rw [if_neg this.2]; exact ho⟩
  · obtain ⟨q1, q2⟩ := hob b o e
    obtain ⟨h1, h2, h3⟩ := h.nd b o q2
    have hne := hnn b o q1 q2
    refine ⟨h1, by simp only [freeM, updO]; rw [if_neg hne]; exact h2, h3.imp id (fun q => ?_)⟩
    rcases List.mem_cons.1 q with r | r
    · exact absurd r hne
    · exact r
  · simp only [freeM, updO] at e
    split at e
    · cases e
    · rename_i hmn
      obtain ⟨o, ho, hno⟩ := h.ad m b e
      refine ⟨o, ?_, hno⟩
      simp only [freeM, updO, hadr]
      rw [if_neg (fun q => hmn ?_)]
      · exact ho
      · subst q; rw [ho0] at ho; cases ho; rw [← hno, hnd0]
  · obtain ⟨b, hb⟩ := h.lv m hm
    refine ⟨b, ?_⟩
    simp only [freeM, updO]
    rw [if_neg (fun q => hm ?_)]
    · exact hb
    · simp only [freeM]; have : n.toNat = m := by omega
      rw [← this]; exact hc0
  · obtain ⟨d1, d2, b, hb⟩ := h.dd m (by simp [hm])
    refine ⟨d1, d2, b, ?_⟩
    simp only [freeM, updO]
    rw [if_neg (fun (q : m = n) => hnD (by rw [← q]; exact hm))]
    exact hb
  · obtain ⟨q1, q2⟩ := hob b o e
    have hw := h.wo b o q2 hl k hk hs
    have e1 : wd (freeM M n).H (b + 8 * (k : Int)) = wd M.H (b + 8 * (k : Int)) := by
      unfold wd; simp only [freeM, hadr]; rw [hB]
    rw [e1, hw]
    obtain ⟨hs0, hlt⟩ := h.slot q2 hl hk hs
    generalize hg : (o.sl.getD k 0).toNat = sx at *
    have hm : (Co.ndAt M.G.ns o.nd.toNat).s.getD sx 0 ∈ (Co.ndAt M.G.ns o.nd.toNat).s := by simp [List.getD, hlt]
    show nameW M _ = nameW (freeM M n) ((Co.ndAt M.G.ns o.nd.toNat).s.getD sx 0)
    have hcl := h.iv.cl _ hl _ hm
    generalize (Co.ndAt M.G.ns o.nd.toNat).s.getD sx 0 = x at *
    unfold nameW
    by_cases hx : x = -1
    · rw [if_pos hx, if_pos hx]
    · rw [if_neg hx, if_neg hx]
      have hx1 : x ≠ n := fun e => by
        rcases hcl with r | r
        · exact hx r
        · rw [e] at r
          exact (Co.lvB_iff.1 r).2.1 hc0
      unfold adrM
      simp only [freeM, updO]
      rw [if_neg hx1]

theorem Jd.frees {l : List Int} : ∀ {M : Ms}, Jd M l → Jd (l.foldl freeM M) [] := by
  induction l with
  | nil => intro M h; exact h
  | cons x l ih => intro M h; exact ih h.free
theorem Jd.work {M : Ms} (h : Jd M []) (u : Nat) : Jd (workM M u) [] := by
  have := work_jd u h
  rw [List.nil_append] at this
  exact this.frees
theorem Jd.hold {M : Ms} (h : Jd M []) (l : List Int) : Jd (holdM M l) [] := h.graph (iv_hold l _ h.iv) (Gst.shades l _)
theorem Jd.begin {M : Ms} (h : Jd M []) (l : List Int) : Jd (beginM M l) [] := (h.graph (Co.iv_start h.iv l) (Gst.start M.G l)).same M.pc _ M.cn
theorem Jd.cycle {M : Ms} (h : Jd M []) (l : List Int) : Jd (cycleM M l) [] := (h.begin l).work _
theorem Jd.begin9 {M : Ms} (h : Jd M []) (R : List Int) : Jd (begin9 M R).1 [] := by
  unfold Go.Proofs.YtjbbomokgpoilaaGreatDoor.begin9
  split
  · exact h
  · split
    · exact h
    · exact h.begin _
theorem Jd.collect {M : Ms} (h : Jd M []) (R : List Int) : Jd (collectM M R).1 [] := by
  unfold collectM
  split
  · exact h
  · exact ((h.hold _).work _).cycle _
theorem Jd.room {M : Ms} (h : Jd M []) (n : Int) (l : List Int) : Jd (roomM M n l) [] := by
  have h1 : Jd (room1 M n) [] := by
    unfold room1
    split
    · exact h
    · exact h.work _
  unfold roomM
  split
  · exact h1
  · exact h1.cycle l
theorem Jd.begM {M : Ms} (h : Jd M []) (l : List Int) : Jd (begM M l) [] := by
  unfold Go.Proofs.YtjbbomokgpoilaaGreatDoor.begM
  split
  · exact h.begin l
  · exact h

end Go.Proofs.YtjbbomokgpoilaaGreatDoor

/-
  A new object and a word that is written keep what always holds; no statement is proved here.
-/
namespace Go.Proofs.YtjbbomokgpoilaaGreatDoor

theorem hv_alloc {H : Hs} (h : Hv H) (size tag : Int) : Hv (allocH H size tag).2.2 := by
  by_cases hc : Ok size ∧ 0 ≤ tag ∧ tag ≤ 2147483647
  · obtain ⟨_, _, p1, p2, r8, r1, r2, sr, rp, kd⟩ := room_ok hc.1
    cases hk : H.sp.findIdx? (fitS (roomN size)) with
    | some k =>
      have e : allocH H size tag = ((adrAt H k (fz (spAt H k).S) : Int), 0, { H with sp := H.sp.set k (tkS (spAt H k) size tag), B := put H.B (adrAt H k (fz (spAt H k).S)) (fun _ => 0) (roomN size) }) := by
        unfold allocH; rw [if_pos hc]; simp only [hk]
      obtain ⟨x, hx, _, hfit⟩ := findIdx_find hk
      have ex := spAt_eq hx
      have hlk := (List.getElem?_eq_some_iff.1 hx).1
      unfold fitS at hfit
      simp only [Bool.and_eq_true, decide_eq_true_eq] at hfit
      have hm := List.mem_of_getElem? hx
      have hox := h.ok x hm
      obtain ⟨z1, z2, _⟩ := fz_spec hfit.2 (fun y hy => (hox.sz y hy).1)
      have hs0 := h.slt hlk (j := fz x.S) (by rw [ex]; exact z1)
      have hhi := hs0.hi
      have ea : (adrAt H k (fz x.S)) = adr x (fz x.S) := by unfold adrAt; rw [ex]
      rw [ea, ex, hfit.1] at hhi
      have hbl := h.bl
      have hs1 := hc.1.1
      have hu := us_set z1 (size, tag)
      have hlim : adr x (fz x.S) + roomN size ≤ H.B.length := by omega
      rw [e, ex, ea]
      refine h.set (x' := tkS x size tag) hx rfl rfl (hox.set ⟨by omega, by rw [hfit.1]; omega⟩ hc.2 ?_) (length_put _ _ _ _) (Bts.put h.bt _ _ _ hlim (by simp))
      rw [if_neg (by omega), if_pos (show 0 < ((size, tag) : Int × Int).1 by simp only; omega)] at hu
      omega
    | none =>
      cases hi : hole H.R (pgN size) with
      | none =>
        have e : allocH H size tag = (0, 7, H) := by unfold allocH; rw [if_pos hc]; simp only [hk, hi]
        rw [e]; exact h
      | some i =>
        have e : allocH H size tag = (((((rnAt H.R i).s + 1) * 256 : Nat) : Int), 0, ⟨H.P, takeL H.R i (pgN size), insS H.sp (insK H.R i) (tkS (newS (rnAt H.R i).s (pgN size) (roomN size)) size tag), put H.B (((rnAt H.R i).s + 1) * 256) (fun _ => 0) (roomN size)⟩) := by
          unfold allocH; rw [if_pos hc]; simp only [hk, hi]
        obtain ⟨o1, f0, l1⟩ := new_ok hc.1 hc.2 (rnAt H.R i).s
        obtain ⟨i1, i2, i3, _⟩ := hole_some hi
        have hb := h.inv.mem _ (rnAt_mem i1)
        have hbl := h.bl
        have hlim : ((rnAt H.R i).s + 1) * 256 + roomN size ≤ H.B.length := by omega
        rw [e]
        exact h.ins i1 i2 p1 i3 rfl rfl o1 (length_put _ _ _ _) (Bts.put h.bt _ _ _ hlim (by simp))
  · have e : allocH H size tag = (0, 2, H) := by unfold allocH; rw [if_neg hc]
    rw [e]; exact h

/-- Where a new object comes none was. -/
theorem alloc_fresh {H : Hs} (h : Hv H) {size tag : Int} (he : (allocH H size tag).2.1 = 0) (h1 : Hv (allocH H size tag).2.2) (s t : Int) : ¬ Ob3 H (allocH H size tag).1 s t := by
  have hc : Ok size ∧ 0 ≤ tag ∧ tag ≤ 2147483647 := by
    obtain ⟨q1, q2, _⟩ := alloc_found h he; exact ⟨q1, q2⟩
  rintro ⟨y, hy, j, hj, h0, hb⟩
  have hjl := (List.getElem?_eq_some_iff.1 hj).1
  have hyr := (h.ok y hy).rm1
  cases hk : H.sp.findIdx? (fitS (roomN size)) with
  | some k =>
    have e : allocH H size tag = ((adrAt H k (fz (spAt H k).S) : Int), 0, { H with sp := H.sp.set k (tkS (spAt H k) size tag), B := put H.B (adrAt H k (fz (spAt H k).S)) (fun _ => 0) (roomN size) }) := by
      unfold allocH; rw [if_pos hc]; simp only [hk]
    obtain ⟨x, hx, _, hfit⟩ := findIdx_find hk
    have ex := spAt_eq hx
    unfold fitS at hfit
    simp only [Bool.and_eq_true, decide_eq_true_eq] at hfit
    have hm := List.mem_of_getElem? hx
    have hox := h.ok x hm
    obtain ⟨z1, z2, _⟩ := fz_spec hfit.2 (fun y hy => (hox.sz y hy).1)
    have ea : (adrAt H k (fz x.S)) = adr x (fz x.S) := by unfold adrAt; rw [ex]
    rw [e, ex, ea] at hb
    simp only at hb
    have hxr := hox.rm1
    rcases h.slots hy hm hjl z1 with ⟨e1, e2⟩ | q | q
    · subst e1; subst e2
      rw [List.getD_eq_getElem?_getD, hj] at z2
      simp at z2
      omega
    · omega
    · omega
  | none =>
    cases hi : hole H.R (pgN size) with
    | none =>
      have e : allocH H size tag = (0, 7, H) := by unfold allocH; rw [if_pos hc]; simp only [hk, hi]
      rw [e] at he; simp at he
    | some i =>
      have e : allocH H size tag = (((((rnAt H.R i).s + 1) * 256 : Nat) : Int), 0, ⟨H.P, takeL H.R i (pgN size), insS H.sp (insK H.R i) (tkS (newS (rnAt H.R i).s (pgN size) (roomN size)) size tag), put H.B (((rnAt H.R i).s + 1) * 256) (fun _ => 0) (roomN size)⟩) := by
        unfold allocH; rw [if_pos hc]; simp only [hk, hi]
      obtain ⟨_, f0, l1⟩ := new_ok hc.1 hc.2 (rnAt H.R i).s
      rw [e] at hb h1
      simp only at hb
      have hxm : tkS (newS (rnAt H.R i).s (pgN size) (roomN size)) size tag ∈ insS H.sp (insK H.R i) (tkS (newS (rnAt H.R i).s (pgN size) (roomN size)) size tag) := mem_insS.2 (.inl rfl)
      have hym : y ∈ insS H.sp (insK H.R i) (tkS (newS (rnAt H.R i).s (pgN size) (roomN size)) size tag) := mem_insS.2 (.inr hy)
      have hox := h1.ok _ hxm
      have hxr := hox.rm1
      have hxa : adr (tkS (newS (rnAt H.R i).s (pgN size) (roomN size)) size tag) 0 = ((rnAt H.R i).s + 1) * 256 := by simp [adr, tkS, newS]
      have hx0 : 0 < (tkS (newS (rnAt H.R i).s (pgN size) (roomN size)) size tag).S.length := by
        have := hox.len1; omega
      rcases h1.slots hym hxm hjl hx0 with ⟨e1, _⟩ | q | q
      · have hs := h1.sorted
        simp only at hs
        unfold insS at hs
        rw [List.pairwise_append] at hs
        have hn := hox.n1
        have hyy : y ∈ H.sp.take (insK H.R i) ∨ y ∈ H.sp.drop (insK H.R i) := by
          rw [← List.mem_append, List.take_append_drop]; exact hy
        rcases hyy with r | r
        · have := hs.2.2 y r _ (by simp : tkS (newS (rnAt H.R i).s (pgN size) (roomN size)) size tag ∈ _)
          rw [e1] at this; omega
        · have := (List.pairwise_cons.1 hs.2.1).1 y r
          rw [e1] at this; omega
      · rw [hxa] at q; omega
      · rw [hxa] at q; omega

/-! ### words -/

theorem numAt_other {L : List Int} {A n b : Nat} {f : Nat → Int} (h : A + n ≤ L.length) (hd : b + 8 ≤ A ∨ A + n ≤ b) : numAt (put L A f n) b 8 = numAt L b 8 := by
  rw [← numAt_cut, cut_put h hd, numAt_cut]
theorem numTo_zero (f : Nat → Int) : ∀ n, (∀ j, j < n → f j = 0) → numTo f n = 0 := by
  intro n
  induction n with
  | zero => intro _; rfl
  | succ n ih =>
    intro h
    unfold numTo
    rw [ih (fun j hj => h j (by omega)), h n (by omega)]
    simp
theorem Ob3.lim {H : Hs} (h : Hv H) {b s t : Int} (ho : Ob3 H b s t) : 0 ≤ b ∧ b + s ≤ H.B.length ∧ 0 < s := by
  obtain ⟨k, j, hf, h1, h2⟩ := ho.found h
  obtain ⟨hs, _, _⟩ := h.hit hf
  obtain ⟨x, hx, jj, hjj, h0, hb⟩ := ho
  have hhi := hs.hi
  have hbl := h.bl
  have hsz := hs.sz.2
  rw [h2] at hsz
  simp only at hsz
  refine ⟨by omega, by omega, h0⟩

theorem fits_alloc {M : Ms} {ps : List Bool} {tag : Int} (hf : fitsM M ps.length = true) (ht : 0 ≤ tag ∧ tag ≤ 2147483647) : (allocH M.H (ps.length * 8) tag).2.1 = 0 := by
  by_cases e : (allocH M.H (ps.length * 8) tag).2.1 = 0
  · exact e
  · unfold fitsM at hf
    simp only [Bool.and_eq_true] at hf
    rcases alloc_nofit e with q | q | q
    · rw [hf.2] at q; cases q
    · omega
    · omega

theorem Jd.place {M : Ms} (h : Jd M []) (ps : List Bool) (tag : Int) (hl : 1 ≤ ps.length ∧ ps.length ≤ 8192) (ht : 0 ≤ tag ∧ tag ≤ 2147483647) (hf : fitsM M ps.length = true) : Jd (placeM M ps tag).1 [] := by
  have hm8 : cntT ps ≤ 8192 := by have := cntT_le ps; omega
  have he := fits_alloc hf ht
  have hI := Co.iv_node h.iv (cntT ps : Int)
  have hno : Co.node M.G (cntT ps : Int) = if Co.fr M.G = 65536 then (Co.nodeG M.G (cntT ps), 0, 7) else (Co.nodeG M.G (cntT ps), (Co.fr M.G : Int), 0) := by
    unfold Co.node
    rw [if_neg (by omega)]
    simp
  unfold placeM
  by_cases hfr : Co.fr M.G = 65536
  · rw [if_pos hfr] at hno
    rw [hno] at hI ⊢
    rw [if_pos (by simp)]
    refine h.graph hI ?_
    have : (Co.nodeG M.G (cntT ps)).ns = M.G.ns := by unfold Co.nodeG; rw [if_pos hfr]
    refine ⟨fun n => by rw [this], fun n hn => ?_⟩
    unfold Co.lvN at hn ⊢
    rw [this] at hn
    rw [this]
    exact ⟨hn, rfl⟩
  · rw [if_neg hfr] at hno
    rw [hno] at hI ⊢
    rw [if_neg (by simp), if_neg (by rw [he]; simp)]
    have hC := came h.hv he
    have hv1 := hv_alloc h.hv (ps.length * 8) tag
    have hfresh := alloc_fresh h.hv he hv1
    have hle := h.iv.le
    have hat := fun j => Co.node_at hle hfr (cntT ps) j
    have hlv := fun j => Co.node_lv hle hfr (cntT ps) j
    have hfree : (Co.ndAt M.G.ns (Co.fr M.G)).c = 0 := Co.fr_free
    generalize Co.fr M.G = f at *
    generalize hH1 : (allocH M.H (ps.length * 8) tag).2.2 = H1 at *
    generalize (allocH M.H (ps.length * 8) tag).1 = a at *
    -- the new address and the new node are new
    have hoa : M.ob a = none := by
      cases e : M.ob a with
      | none => rfl
      | some o => obtain ⟨t, q⟩ := h.o3 a o e; exact absurd q (hfresh _ t)
    have hadf : M.ad (f : Int) = none := by
      cases e : M.ad (f : Int) with
      | none => rfl
      | some b =>
        obtain ⟨o, q1, q2⟩ := h.ad _ b e
        rcases (h.nd b o q1).2.2 with r | r
        · rw [q2] at r; simp only [Int.toNat_natCast] at r; exact absurd hfree r
        · simp at r
    have hob : ∀ b o, updO M.ob a (some ⟨(f : Int), slotsF ps 0⟩) b = some o → (b = a ∧ o = ⟨(f : Int), slotsF ps 0⟩) ∨ (b ≠ a ∧ M.ob b = some o) := fun b o e => by
      simp only [updO] at e
      split at e
      · rename_i q; cases e; exact .inl ⟨q, rfl⟩
      · rename_i q; exact .inr ⟨q, e⟩
    have hnf : ∀ b o, M.ob b = some o → o.nd ≠ (f : Int) := fun b o ho e => by
      have := (h.nd b o ho).2.1
      rw [e, hadf] at this; cases this
    have hnft : ∀ b o, M.ob b = some o → o.nd.toNat ≠ f := fun b o ho e => hnf b o ho (by have := (h.nd b o ho).1; omega)
    obtain ⟨xn, hxn, jn, hjn, han, hrm⟩ := hC.new
    have hjnl := (List.getElem?_eq_some_iff.1 hjn).1
    have hsr : (ps.length * 8 : Int) ≤ roomN (ps.length * 8) := (room_ok hC.ok).2.2.2.2.2.2.2.1
    have hO3n : Ob3 H1 a (ps.length * 8) tag := ⟨xn, hxn, jn, hjn, by omega, han⟩
    -- other objects' words stay
    have hwd : ∀ b s t, b ≠ a → Ob3 M.H b s t → ∀ k : Nat, (8 * (k : Int) + 8 ≤ s) → wd H1 (b + 8 * (k : Int)) = wd M.H (b + 8 * (k : Int)) := fun b s t hb ho k hk => by
      have ho1 := (hC.obj b s t hb).2 ho
      obtain ⟨y, hy, jy, hjy, h0, hby⟩ := ho1
      have hjyl := (List.getElem?_eq_some_iff.1 hjy).1
      have hsy := ((hv1.ok y hy).sz _ (List.mem_of_getElem? hjy)).2
      simp only at hsy
      unfold wd
      rw [hC.byt]
      refine numAt_other hC.lim ?_
      rcases hv1.slots hy hxn hjyl hjnl with ⟨e1, e2⟩ | q | q
      · subst e1; subst e2; exact absurd (hby.symm.trans han) hb
      · left; omega
      · right; rw [hrm] at q; omega
    have hadr : ∀ x : Int, x ≠ (f : Int) → adrM { M with G := Co.nodeG M.G (cntT ps), H := H1, ob := updO M.ob a (some ⟨(f : Int), slotsF ps 0⟩), ad := updO M.ad (f : Int) (some a), sn := M.sn + ps.length, cn := M.cn + 1 } x = adrM M x := fun x hx => by
      unfold adrM; simp only [updO]; rw [if_neg hx]
    refine ⟨hv1, hI, fun b o e => ?_, fun b s t hb => ?_, fun b o e => ?_, fun b o e => ?_, fun m b e => ?_, fun m hm => ?_, by simp, by simp, fun b o e hl2 k hk hs => ?_⟩
    · rcases hob b o e with ⟨rfl, rfl⟩ | ⟨q1, q2⟩
      · refine ⟨tag, ?_⟩
        simp only [slotsF_len]
        rw [Int.mul_comm]; exact hO3n
      · obtain ⟨t, q⟩ := h.o3 b o q2
        exact ⟨t, (hC.obj b _ t q1).2 q⟩
    · simp only at hb ⊢
      by_cases q : b = a
      · subst q; exact ⟨⟨(f : Int), slotsF ps 0⟩, by simp [updO]⟩
      · obtain ⟨o, ho⟩ := h.al b s t ((hC.obj b s t q).1 hb)
        exact ⟨o, by simp only [updO]; rw [if_neg q]; exact ho⟩
    · rcases hob b o e with ⟨rfl, rfl⟩ | ⟨q1, q2⟩
      · refine ⟨ps, rfl, hl.1, hl.2, fun _ => ?_⟩
        simp only [Int.toNat_natCast]
        rw [hat, if_pos rfl]; simp
      · obtain ⟨qs, h1, h2, h3, h4⟩ := h.sl b o q2
        refine ⟨qs, h1, h2, h3, fun hl3 => ?_⟩
        have hne := hnft b o q2
        simp only
        rw [hat, if_neg hne]
        rcases (hlv _).1 hl3 with r | r
        · exact absurd r hne
        · exact h4 r
    · rcases hob b o e with ⟨rfl, rfl⟩ | ⟨q1, q2⟩
      · refine ⟨by simp, by simp [updO], .inl ?_⟩
        simp only [Int.toNat_natCast]
        rw [hat, if_pos rfl]; simp
      · obtain ⟨h1, h2, h3⟩ := h.nd b o q2
        refine ⟨h1, by simp only [updO]; rw [if_neg (hnf b o q2)]; exact h2, .inl ?_⟩
        simp only
        rw [hat, if_neg (hnft b o q2)]
        rcases h3 with r | r
        · exact r
        · simp at r
    · simp only [updO] at e
      split at e
      · rename_i q; cases e
        exact ⟨⟨(f : Int), slotsF ps 0⟩, by simp [updO], q.symm⟩
      · obtain ⟨o, ho, hno⟩ := h.ad m b e
        refine ⟨o, ?_, hno⟩
        simp only [updO]
        rw [if_neg (fun q => ?_)]
        · exact ho
        · subst q; rw [hoa] at ho; cases ho
    · simp only at hm
      rw [hat] at hm
      simp only [updO]
      by_cases q : m = f
      · subst q; exact ⟨a, by rw [if_pos rfl]⟩
      · rw [if_neg q] at hm
        obtain ⟨b, hb⟩ := h.lv m hm
        exact ⟨b, by rw [if_neg (by omega)]; exact hb⟩
    · rcases hob b o e with ⟨rfl, rfl⟩ | ⟨q1, q2⟩
      · -- the new object
        simp only [slotsF_len] at hk
        have hz : wd H1 (b + 8 * (k : Int)) = 0 := by
          have ha0 := (hO3n.lim hv1).1
          unfold wd numAt
          apply numTo_zero
          intro j hj
          rw [hC.byt, getD_put _ _ _ _ hC.lim, if_pos (by omega)]
        have hx : (Co.ndAt (Co.nodeG M.G (cntT ps)).ns ((f : Int)).toNat).s.getD ((slotsF ps 0).getD k 0).toNat 0 = -1 := by
          rw [Int.toNat_natCast, hat, if_pos rfl]
          rcases slotsF_val ps 0 k hk with r | r
          · exact absurd r.1 hs
          · simp only
            rw [List.getD_eq_getElem?_getD, List.getElem?_replicate, if_pos (by omega)]; rfl
        simp only
        rw [hz]
        unfold nameW
        rw [if_pos hx]
      · have hne := hnft b o q2
        have hl3 : Co.lvN M.G o.nd.toNat := by
          rcases (hlv _).1 hl2 with r | r
          · exact absurd r hne
          · exact r
        obtain ⟨t, q⟩ := h.o3 b o q2
        simp only
        rw [hwd b _ t q1 q k (by omega), h.wo b o q2 hl3 k hk hs, hat, if_neg hne]
        obtain ⟨hs0, hlt⟩ := h.slot q2 hl3 hk hs
        have hmm : (Co.ndAt M.G.ns o.nd.toNat).s.getD (o.sl.getD k 0).toNat 0 ∈ (Co.ndAt M.G.ns o.nd.toNat).s := by
          generalize (o.sl.getD k 0).toNat = sx at *
          simp [List.getD, hlt]
        have hcl := h.iv.cl _ hl3 _ hmm
        generalize (Co.ndAt M.G.ns o.nd.toNat).s.getD (o.sl.getD k 0).toNat 0 = x at *
        unfold nameW
        by_cases hx : x = -1
        · rw [if_pos hx, if_pos hx]
        · rw [if_neg hx, if_neg hx, hadr x (fun e => ?_)]
          rcases hcl with r | r
          · exact hx r
          · rw [e] at r
            have := (Co.lvB_iff.1 r).2.1
            simp only [Int.toNat_natCast] at this
            exact this hfree

end Go.Proofs.YtjbbomokgpoilaaGreatDoor

/-
  Whatever a script does keeps what always holds of a memory; no statement is proved here.
-/
namespace Go.Proofs.YtjbbomokgpoilaaGreatDoor

theorem Jd.alloc {M : Ms} (h : Jd M []) (ps : List Bool) (tag : Int) (R : List Int) : Jd (allocM M ps tag R).1 [] := by
  unfold allocM
  split
  · exact h
  · rename_i hc
    split
    · exact h
    · rename_i l _
      have h1 := ((h.hold l).begM l).room ps.length l
      split
      · rename_i hf
        exact h1.place ps tag (by omega) (by omega) hf
      · exact h1

theorem slotsF_inj (ps : List Bool) : ∀ (c k m : Nat), k < ps.length → m < ps.length → (slotsF ps c).getD k 0 ≠ -1 → (slotsF ps c).getD k 0 = (slotsF ps c).getD m 0 → k = m := by
  induction ps with
  | nil => intro c k m h; simp at h
  | cons b t ih =>
    intro c k m hk hm hne he
    cases b
    · cases k with
      | zero => simp [slotsF] at hne
      | succ k =>
        cases m with
        | zero => simp only [slotsF, List.getD_cons_succ, List.getD_cons_zero] at hne he; exact absurd he hne
        | succ m =>
          simp only [slotsF, List.getD_cons_succ] at hne he
          rw [ih c k m (by simpa using hk) (by simpa using hm) hne he]
    · cases k with
      | zero =>
        cases m with
        | zero => rfl
        | succ m =>
          simp only [slotsF, List.getD_cons_succ, List.getD_cons_zero] at hne he
          rcases slotsF_val t (c + 1) m (by simpa using hm) with q | q
          · rw [q.1] at he; exact absurd he hne
          · omega
      | succ k =>
        cases m with
        | zero =>
          simp only [slotsF, List.getD_cons_succ, List.getD_cons_zero] at hne he
          rcases slotsF_val t (c + 1) k (by simpa using hk) with q | q
          · exact absurd q.1 hne
          · omega
        | succ m =>
          simp only [slotsF, List.getD_cons_succ] at hne he
          rw [ih (c + 1) k m (by simpa using hk) (by simpa using hm) hne he]

/-- A word of an object may be read and written. -/
theorem Ob3.wit {H : Hs} (h : Hv H) {a s t : Int} (ho : Ob3 H a s t) {i : Nat} (hi : 8 * (i : Int) + 8 ≤ s) : witE H (a + (i : Int) * 8) 8 = 0 := by
  obtain ⟨x, hx, j, hj, h0, ha⟩ := ho
  obtain ⟨k, hk⟩ := List.getElem?_of_mem hx
  obtain ⟨g1, g2, g3⟩ := found_at h hk hj ha (b := a + (i : Int) * 8) (by omega) (by simp only; omega)
  unfold witE
  rw [if_neg (by omega), g1]
  simp only
  rw [if_neg (by rw [g2, g3]; simp only; omega)]

theorem Ob3.apart {H : Hs} (h : Hv H) {a s t b u v : Int} (ha : Ob3 H a s t) (hb : Ob3 H b u v) (hne : a ≠ b) : a + s ≤ b ∨ b + u ≤ a := by
  obtain ⟨x, hx, i, hi, _, h1⟩ := ha
  obtain ⟨y, hy, j, hj, _, h2⟩ := hb
  have s1 := ((h.ok x hx).sz _ (List.mem_of_getElem? hi)).2
  have s2 := ((h.ok y hy).sz _ (List.mem_of_getElem? hj)).2
  simp only at s1 s2
  rcases h.slots hx hy (List.getElem?_eq_some_iff.1 hi).1 (List.getElem?_eq_some_iff.1 hj).1 with ⟨e1, e2⟩ | q | q
  · subst e1; subst e2; omega
  · left; omega
  · right; omega

/-- A word of the heap is another. -/
theorem wd_put {H : Hs} (h : Hv H) {a s t : Int} (ho : Ob3 H a s t) {i : Nat} (hi : 8 * (i : Int) + 8 ≤ s) {v : Int} (hv : 0 ≤ v ∧ v < 18446744073709551616) :
    wd (putH H (a + (i : Int) * 8) 8 (byteOf v)) (a + 8 * (i : Int)) = v ∧ ∀ b : Int, 0 ≤ b → (b + 8 ≤ a + 8 * (i : Int) ∨ a + 8 * (i : Int) + 8 ≤ b) → wd (putH H (a + (i : Int) * 8) 8 (byteOf v)) b = wd H b := by
  have hw := ho.wit h hi
  have hl := ho.lim h
  have he : putH H (a + (i : Int) * 8) 8 (byteOf v) = { H with B := put H.B (a + 8 * (i : Int)).toNat (byteOf v) 8 } := by
    unfold putH; rw [if_pos hw, show a + (i : Int) * 8 = a + 8 * (i : Int) by omega]; rfl
  rw [he]
  unfold wd
  simp only
  refine ⟨?_, fun b hb0 hb => numAt_other (by omega) (by omega)⟩
  rw [numAt_put (by omega) (by omega) hv.1]
  omega
theorem hv_put {H : Hs} (h : Hv H) (a : Int) {v : Int} : Hv (putH H a 8 (byteOf v)) := by
  unfold putH
  split
  · rename_i hw
    obtain ⟨A, N, h1, h2, h3⟩ := h.wit hw
    refine h.bytes (length_put _ _ _ _) (Bts.put h.bt _ _ _ (by omega) (fun j _ => ?_))
    unfold byteOf; omega
  · exact h
theorem ob3_put (H : Hs) (a n : Int) (f : Nat → Int) (b s t : Int) : Ob3 (putH H a n f) b s t ↔ Ob3 H b s t := Ob3.put

/-- A word that is no pointer is another. -/
theorem Jd.plain {M : Ms} (h : Jd M []) {a : Int} {o : Mo} (ho : M.ob a = some o) {i : Nat} (hi : i < o.sl.length) (hs : o.sl.getD i 0 = -1) {v : Int} (hv : 0 ≤ v ∧ v < 18446744073709551616) : Jd { M with H := putH M.H (a + (i : Int) * 8) 8 (byteOf v) } [] := by
  obtain ⟨t, h3⟩ := h.o3 a o ho
  have hw := wd_put h.hv h3 (i := i) (by omega) hv
  refine ⟨hv_put h.hv _, h.iv, fun b p e => ?_, fun b s t hb => h.al b s t ((ob3_put _ _ _ _ _ _ _).1 hb), h.sl, h.nd, h.ad, h.lv, h.dd, h.un, fun b p e hl k hk hs2 => ?_⟩
  · obtain ⟨t', q⟩ := h.o3 b p e
    exact ⟨t', (ob3_put _ _ _ _ _ _ _).2 q⟩
  · have e1 := h.wo b p e hl k hk hs2
    have e2 : wd (putH M.H (a + (i : Int) * 8) 8 (byteOf v)) (b + 8 * (k : Int)) = wd M.H (b + 8 * (k : Int)) := by
      obtain ⟨t', q⟩ := h.o3 b p e
      have hb0 := (q.lim h.hv).1
      refine hw.2 _ (by omega) ?_
      by_cases hab : a = b
      · subst hab
        rw [ho] at e; cases e
        have : k ≠ i := fun e => by subst e; exact hs2 hs
        omega
      · rcases Ob3.apart h.hv h3 q hab with r | r
        · omega
        · omega
    simp only
    rw [e2, e1]
    rfl

theorem setG_at {G : Co.Gs} {n : Nat} (hn : Co.lvN G n) (j : Nat) (x : Int) (m : Nat) : (Co.ndAt (Co.setG G n j x).ns m).s = (if m = n then (Co.ndAt G.ns m).s.set j x else (Co.ndAt G.ns m).s) ∧ (Co.lvN (Co.setG G n j x) m ↔ Co.lvN G m) ∧ ((Co.ndAt (Co.setG G n j x).ns m).c = 0 ↔ (Co.ndAt G.ns m).c = 0) := by
  have g := (Gst.sh G ((Co.ndAt G.ns n).s.getD j 0)).trans (Gst.sh (Co.sh G ((Co.ndAt G.ns n).s.getD j 0)) x)
  have gs : ∀ m, (Co.ndAt (Co.sh (Co.sh G ((Co.ndAt G.ns n).s.getD j 0)) x).ns m).s = (Co.ndAt G.ns m).s := fun m => by rw [Co.sh_s, Co.sh_s]
  have gl : ∀ m, Co.lvN (Co.sh (Co.sh G ((Co.ndAt G.ns n).s.getD j 0)) x) m ↔ Co.lvN G m := fun m => by rw [Co.sh_lv, Co.sh_lv]
  have hlen : (Co.sh (Co.sh G ((Co.ndAt G.ns n).s.getD j 0)) x).ns.length = G.ns.length := by rw [Co.sh_len, Co.sh_len]
  have hnl := Co.lvN_lt hn
  have hl2 := gl m
  have hz2 := g.z m
  have hs2 := gs m
  unfold Co.setG Co.putS Co.lvN at *
  generalize Co.sh (Co.sh G ((Co.ndAt G.ns n).s.getD j 0)) x = K at *
  simp only
  rw [Co.ndAt_set (by omega)]
  by_cases e : m = n
  · subst e
    rw [if_pos rfl, if_pos rfl]
    exact ⟨by simp only; rw [hs2], hl2, hz2⟩
  · rw [if_neg e, if_neg e]
    exact ⟨hs2, hl2, hz2⟩

/-- A pointer names another object, or nothing. -/
theorem Jd.pointer {M : Ms} (h : Jd M []) {a : Int} {o : Mo} (ho : M.ob a = some o) (hl : Co.lvN M.G o.nd.toNat) {i : Nat} (hi : i < o.sl.length) (hs : o.sl.getD i 0 ≠ -1) {v x : Int} (hv : 0 ≤ v ∧ v < 18446744073709551616) (hx : x = -1 ∨ Co.lvB M.G x = true) (hn : nameW M x = v) :
    Jd { M with G := Co.setG M.G o.nd.toNat (o.sl.getD i 0).toNat x, H := putH M.H (a + (i : Int) * 8) 8 (byteOf v) } [] := by
  obtain ⟨t, h3⟩ := h.o3 a o ho
  have hw := wd_put h.hv h3 (i := i) (by omega) hv
  have hat := setG_at hl (o.sl.getD i 0).toNat x
  have hI := Co.iv_setG h.iv o.nd.toNat (o.sl.getD i 0).toNat x hl hx
  obtain ⟨hs0, hslt⟩ := h.slot ho hl hi hs
  -- two objects have two nodes
  have hnd : ∀ b p, M.ob b = some p → p.nd.toNat = o.nd.toNat → b = a := fun b p e q => by
    obtain ⟨p0, p1, _⟩ := h.nd b p e
    obtain ⟨o0, o1, _⟩ := h.nd a o ho
    have : p.nd = o.nd := by omega
    rw [this, o1] at p1
    exact (Option.some.inj p1).symm
  refine ⟨hv_put h.hv _, hI, fun b p e => ?_, fun b s t hb => h.al b s t ((ob3_put _ _ _ _ _ _ _).1 hb), fun b p e => ?_, fun b p e => ?_, h.ad, fun n hc => h.lv n (fun q => hc ((hat n).2.2.2 q)), by simp, by simp, fun b p e hl2 k hk hs2 => ?_⟩
  · obtain ⟨t', q⟩ := h.o3 b p e
    exact ⟨t', (ob3_put _ _ _ _ _ _ _).2 q⟩
  · obtain ⟨ps, h1, h2, h3, h4⟩ := h.sl b p e
    refine ⟨ps, h1, h2, h3, fun q => ?_⟩
    have := h4 ((hat _).2.1.1 q)
    simp only
    rw [(hat _).1]
    split
    · rw [List.length_set]; exact this
    · exact this
  · obtain ⟨p0, p1, p2⟩ := h.nd b p e
    exact ⟨p0, p1, p2.imp (fun q r => q ((hat _).2.2.1 r)) id⟩
  · have hl3 := (hat _).2.1.1 hl2
    have e1 := h.wo b p e hl3 k hk hs2
    obtain ⟨t', q⟩ := h.o3 b p e
    have hb0 := (q.lim h.hv).1
    simp only
    rw [(hat _).1]
    have hnm : ∀ y, nameW { M with G := Co.setG M.G o.nd.toNat (o.sl.getD i 0).toNat x, H := putH M.H (a + (i : Int) * 8) 8 (byteOf v) } y = nameW M y := fun y => rfl
    rw [hnm]
    by_cases hab : b = a
    · subst hab
      rw [ho] at e; cases e
      rw [if_pos rfl]
      by_cases hki : k = i
      · subst hki
        rw [hw.1]
        have : ((Co.ndAt M.G.ns o.nd.toNat).s.set (o.sl.getD k 0).toNat x).getD (o.sl.getD k 0).toNat 0 = x := by
          generalize (o.sl.getD k 0).toNat = sx at *
          simp [List.getD, hslt]
        rw [this, hn]
      · rw [hw.2 _ (by omega) (by omega), e1]
        have hne : (o.sl.getD i 0).toNat ≠ (o.sl.getD k 0).toNat := fun q => by
          obtain ⟨k0, _⟩ := h.slot ho hl hk hs2
          obtain ⟨ps, h1, _⟩ := h.sl b o ho
          rw [h1] at hs hs2 hs0 k0 q hi hk
          rw [slotsF_len] at hi hk
          exact hki (slotsF_inj ps 0 k i hk hi hs2 (by omega))
        congr 1
        generalize (o.sl.getD i 0).toNat = sx at *
        generalize (o.sl.getD k 0).toNat = sy at *
        rw [List.getD_eq_getElem?_getD, List.getD_eq_getElem?_getD, List.getElem?_set_ne hne]
    · rw [if_neg (fun q => hab (hnd b p e q)), ← e1]
      refine hw.2 _ (by omega) ?_
      rcases Ob3.apart h.hv h3 q (Ne.symm hab) with r | r
      · omega
      · omega

/-- Set keeps what always holds. -/
theorem Jd.set {M : Ms} (h : Jd M []) (a i v : Int) (hv : 0 ≤ v ∧ v < 18446744073709551616) : Jd (setM M a i v).1 [] := by
  unfold setM
  split
  · exact h
  · rename_i o hf
    have hfo : M.ob a = some o ∧ Co.lvB M.G o.nd = true := by
      unfold fndM at hf
      split at hf
      · split at hf
        · cases hf; exact ⟨by assumption, by assumption⟩
        · cases hf
      · cases hf
    have hl := (Co.lvB_iff.1 hfo.2).2
    split
    · exact h
    · rename_i hi
      obtain ⟨j, rfl⟩ : ∃ j : Nat, i = j := ⟨i.toNat, by omega⟩
      have hj : j < o.sl.length := by omega
      simp only [Int.toNat_natCast]
      split
      · rename_i hs
        exact h.plain hfo.1 hj hs hv
      · rename_i hs
        obtain ⟨s0, slt⟩ := h.slot hfo.1 hl hj hs
        have hset : ∀ x, x = -1 ∨ Co.lvB M.G x = true → Co.set M.G o.nd (o.sl.getD j 0) x = (Co.setG M.G o.nd.toNat (o.sl.getD j 0).toNat x, 0) := fun x hx => by
          unfold Co.set
          rw [if_neg (by rw [hfo.2]; simp), if_neg (by rcases hx with q | q; simp [q]; simp [q]), if_neg (by omega)]
        unfold pointM
        split
        · rename_i hv0
          rw [hset (-1) (.inl rfl)]
          simp only
          rw [if_neg (by simp)]
          exact h.pointer hfo.1 hl hj hs hv (.inl rfl) (by unfold nameW; rw [if_pos rfl, hv0])
        · split
          · rw [if_pos (by simp)]; exact h
          · split
            · rw [if_pos (by simp)]; exact h
            · rename_i t ht
              have hto : M.ob v = some t ∧ Co.lvB M.G t.nd = true := by
                unfold fndM at ht
                split at ht
                · split at ht
                  · cases ht; exact ⟨by assumption, by assumption⟩
                  · cases ht
                · cases ht
              rw [hset t.nd (.inr hto.2)]
              simp only
              rw [if_neg (by simp)]
              refine h.pointer hfo.1 hl hj hs hv (.inr hto.2) ?_
              obtain ⟨n0, n1, _⟩ := h.nd v t hto.1
              unfold nameW adrM
              rw [if_neg (by omega), n1]; rfl

theorem Jd.do {M : Ms} {L : List Int} (h : Jd M []) (q : Oq) (hq : 0 ≤ q.V ∧ q.V < 18446744073709551616) : Jd (doM M L q).1 [] := by
  unfold doM
  split
  · exact h.set _ _ _ (wordF_u64 L hq)
  · split
    · exact h.begin9 _
    · split
      · exact h.work _
      · split
        · exact h.collect _
        · split
          · exact h
          · exact h.alloc _ _ _
theorem jd_new {k : Nat} (hk : k ≤ 1024) (pc : Int) : Jd (newM k pc x0) [] := by
  have hz : ∀ i, Co.ndAt ([] : List Co.Nd) i = Co.nz := fun i => Co.ndAt_out (by simp)
  refine ⟨newH_ok hk, Co.iv_new _, fun a o e => (by cases e), fun b s t hb => ?_, fun a o e => (by cases e), fun a o e => (by cases e), fun n a e => (by cases e), fun n hn => ?_, by simp, by simp, fun a o e => (by cases e)⟩
  · obtain ⟨x, hx, _⟩ := hb
    simp [newM, newH] at hx
  · simp only [newM] at hn
    rw [hz] at hn
    exact absurd rfl hn
theorem grow_jd (S : List Oq) (hS : ∀ q ∈ S, 0 ≤ q.V ∧ q.V < 18446744073709551616) : ∀ {s : Ms × List Int}, Jd s.1 [] → Jd (growM s S).1 [] := by
  induction S with
  | nil => intro s h; exact h
  | cons q S ih => intro s h; exact ih (fun r hr => hS r (by simp [hr])) (h.do q (hS q (by simp)))

end Go.Proofs.YtjbbomokgpoilaaGreatDoor

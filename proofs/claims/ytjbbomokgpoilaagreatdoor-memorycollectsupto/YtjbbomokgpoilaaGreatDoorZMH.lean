/-
  MGrow, AMath, ZeroM: joined by program; no statement is proved here.
-/
import Derived.Test.YtjbbomokgpoilaaGreatDoorZMG
import Derived.Test.YtjbbomokgpoilaaGreatDoorZHE
/-
  A memory on which a script was carried out; no statement is proved here.
-/
namespace Go.Proofs.YtjbbomokgpoilaaGreatDoor
open Go.RowKit

/-! ### what the calls keep -/

theorem Mk.place {M : Ms} {b : Nat} (h : Mk M b) (hv : Hv M.H) (ps : List Bool) (tag : Int) (hs : M.sn + ps.length < 4000000000000000000) : Mk (placeM M ps tag).1 b ∧ 0 ≤ (placeM M ps tag).2.1 ∧ (placeM M ps tag).2.1 ≤ 262400 := by
  have hi := Co.iv_node h.iv (cntT ps : Int)
  have hc := Co.node_cy M.G (cntT ps : Int)
  have hg := alloc_gok hv (ps.length * 8) tag
  have hcy := h.cy
  have hsn := h.sn
  unfold placeM
  split
  · exact ⟨⟨hi, h.ad, by simp only; omega, h.sn, h.ob⟩, by simp, by simp⟩
  · split
    · exact ⟨⟨hi, h.ad, by simp only; omega, h.sn, h.ob⟩, by simp, by simp⟩
    · refine ⟨⟨hi, fun n a e => ?_, by simp only; omega, by simp only; omega, fun a o e => ?_⟩, hg.1, hg.2⟩
      · simp only [updO] at e
        split at e
        · cases e; unfold I64; omega
        · exact h.ad n a e
      · simp only [updO] at e
        split at e
        · rename_i q; rw [q]; exact hg
        · exact h.ob a o e
theorem room_sn {M : Ms} {n : Int} {l : List Int} (h : 0 ≤ M.sn) : (roomM M n l).sn ≤ M.sn := by
  have h1 : (room1 M n).sn = M.sn := by
    unfold room1
    split
    · rfl
    · exact workM_sn _ _
  unfold roomM
  split
  · omega
  · show (finishM (beginM (room1 M n) l)).sn ≤ M.sn
    have : (finishM (beginM (room1 M n) l)).sn = (beginM (room1 M n) l).sn := workM_sn _ _
    rw [this]
    simp only [beginM]
    split
    · exact h
    · omega
theorem begM_sn {M : Ms} {l : List Int} (h : 0 ≤ M.sn) : (begM M l).sn ≤ M.sn := by
  unfold begM
  split
  · simp only [beginM]
    split
    · exact h
    · omega
  · omega
theorem place_sn (M : Ms) (ps : List Bool) (tag : Int) : (placeM M ps tag).1.sn ≤ M.sn + ps.length ∧ (placeM M ps tag).1.cn ≤ M.cn + 1 := by
  unfold placeM
  split
  · simp only; omega
  · split
    · simp only; omega
    · simp only; omega

/-- The heaps of the states between are sound. -/
theorem hv_free {H : Hs} (h : Hv H) (a : Int) : Hv (freeH H a).2 := by
  unfold freeH
  split
  · exact h
  · rename_i k j hf
    obtain ⟨hs, _, _⟩ := h.hit hf
    split
    · split
      · rename_i hu
        exact h.set (x' := dpS (spAt H k) j) (spAt_get hs.kl) rfl rfl (hs.ok.set (by simp) (by simp) hu) rfl h.bt
      · exact h.del (spAt_get hs.kl)
    · exact h
theorem hv_frees (l : List Int) : ∀ {M : Ms}, Hv M.H → Hv (l.foldl freeM M).H := by
  induction l with
  | nil => intro M h; exact h
  | cons x l ih => intro M h; exact ih (hv_free h _)
theorem hv_work {M : Ms} (h : Hv M.H) (u : Nat) : Hv (workM M u).H := hv_frees _ (M := { M with G := (Co.work u M.G).2.2 }) h
theorem hv_room {M : Ms} (h : Hv M.H) (n : Int) (l : List Int) : Hv (roomM M n l).H := by
  have h1 : Hv (room1 M n).H := by
    unfold room1
    split
    · exact h
    · exact hv_work h _
  unfold roomM
  split
  · exact h1
  · exact hv_work (M := beginM (room1 M n) l) h1 _
theorem hv_beg {M : Ms} (h : Hv M.H) (l : List Int) : Hv (begM M l).H := by
  unfold begM
  split
  · exact h
  · exact h

theorem alloc_mk {M : Ms} {b : Nat} (h : Mk M (b + 2)) (hv : Hv M.H) (ps : List Bool) (tag : Int) (R : List Int) (hs : M.sn + 8192 < 4000000000000000000) :
    Mk (allocM M ps tag R).1 b ∧ (0 ≤ (allocM M ps tag R).2.1 ∧ (allocM M ps tag R).2.1 ≤ 262400) ∧ (allocM M ps tag R).1.sn ≤ M.sn + 8192 ∧ (allocM M ps tag R).1.cn ≤ M.cn + 1 := by
  have hsn := h.sn
  unfold allocM
  split
  · exact ⟨h.le (by omega), by simp, by simp only; omega, by simp only; omega⟩
  · rename_i hc
    split
    · exact ⟨h.le (by omega), by simp, by simp only; omega, by simp only; omega⟩
    · rename_i l hl
      have hl8 : ps.length ≤ 8192 := by omega
      have k1 := (h.hold l).begM l
      have k2 := k1.room (ps.length : Int) l
      have s1 : (begM (holdM M l) l).sn ≤ M.sn := begM_sn (M := holdM M l) hsn.1
      have s2 : (roomM (begM (holdM M l) l) ps.length l).sn ≤ M.sn := Int.le_trans (room_sn k1.sn.1) s1
      have c2 : (roomM (begM (holdM M l) l) ps.length l).cn = M.cn := by rw [roomM_cn, begM_cn]; rfl
      have v2 : Hv (roomM (begM (holdM M l) l) ps.length l).H := hv_room (hv_beg (M := holdM M l) hv l) _ _
      split
      · have := Mk.place k2 v2 ps tag (by omega)
        have q := place_sn (roomM (begM (holdM M l) l) ps.length l) ps tag
        exact ⟨this.1, this.2, by omega, by omega⟩
      · exact ⟨k2, by simp, by simp only; omega, by simp only; omega⟩
theorem Mk.point {M : Ms} {b : Nat} (h : Mk M b) (nd s v : Int) : Mk (pointM M nd s v).1 b ∧ (pointM M nd s v).1.sn = M.sn ∧ (pointM M nd s v).1.cn = M.cn := by
  have hc := fun x => Co.set_cy M.G nd s x
  have hcy := h.cy
  unfold pointM
  split
  · exact ⟨⟨Co.iv_set h.iv _ _ _, h.ad, by simp only; rw [hc]; omega, h.sn, h.ob⟩, rfl, rfl⟩
  · split
    · exact ⟨h, rfl, rfl⟩
    · split
      · exact ⟨h, rfl, rfl⟩
      · exact ⟨⟨Co.iv_set h.iv _ _ _, h.ad, by simp only; rw [hc]; omega, h.sn, h.ob⟩, rfl, rfl⟩
theorem Mk.heap {M : Ms} {b : Nat} (h : Mk M b) (H : Hs) : Mk { M with H := H } b := ⟨h.iv, h.ad, h.cy, h.sn, h.ob⟩
theorem Mk.set {M : Ms} {b : Nat} (h : Mk M b) (a i v : Int) : Mk (setM M a i v).1 b ∧ (setM M a i v).1.sn = M.sn ∧ (setM M a i v).1.cn = M.cn := by
  unfold setM
  split
  · exact ⟨h, rfl, rfl⟩
  · split
    · exact ⟨h, rfl, rfl⟩
    · split
      · exact ⟨h.heap _, rfl, rfl⟩
      · have hp := fun nd s => h.point nd s v
        split
        · exact hp _ _
        · exact ⟨(hp _ _).1.heap _, (hp _ _).2⟩

theorem Mk.begin9 {M : Ms} {b : Nat} (h : Mk M b) (R : List Int) : Mk (begin9 M R).1 b ∧ (begin9 M R).1.sn ≤ M.sn ∧ (begin9 M R).1.cn = M.cn := by
  have hsn := h.sn
  unfold Go.Proofs.YtjbbomokgpoilaaGreatDoor.begin9
  split
  · exact ⟨h, Int.le_refl _, rfl⟩
  · split
    · exact ⟨h, Int.le_refl _, rfl⟩
    · refine ⟨h.begin _, ?_, rfl⟩
      simp only [beginM]
      split
      · exact hsn.1
      · exact Int.le_refl _
theorem Mk.collect {M : Ms} {b : Nat} (h : Mk M (b + 2)) (R : List Int) : Mk (collectM M R).1 b ∧ (collectM M R).1.sn ≤ M.sn ∧ (collectM M R).1.cn = M.cn := by
  have hsn := h.sn
  unfold collectM
  split
  · exact ⟨h.le (by omega), Int.le_refl _, rfl⟩
  · rename_i l _
    have k1 : Mk (finishM (holdM M l)) (b + 1) := (h.hold l).work _
    have s1 : (finishM (holdM M l)).sn = M.sn := workM_sn _ _
    have c1 : (finishM (holdM M l)).cn = M.cn := workM_cn _ _
    have s2 : (cycleM (finishM (holdM M l)) l).sn = (beginM (finishM (holdM M l)) l).sn := workM_sn _ _
    have c2 : (cycleM (finishM (holdM M l)) l).cn = (beginM (finishM (holdM M l)) l).cn := workM_cn _ _
    refine ⟨(k1.begin l).work _, ?_, by rw [c2]; exact c1⟩
    simp only
    rw [s2]
    simp only [beginM]
    split
    · exact hsn.1
    · omega

theorem mk_new9 {k : Nat} (_h : k ≤ 1024) (pc : Int) (b : Nat) (hb : b < 900000000000000000) : Mk (newM k pc x0) b := ⟨Co.iv_new _, fun _ _ e => (by cases e), (by simp only [newM]; omega), (by simp [newM]), fun _ _ e => (by cases e)⟩

/-- What a script keeps. -/
structure Gi (s : Ms × List Int) (b i : Nat) : Prop where
  km : Mk s.1 b
  sn : s.1.sn ≤ 8192 * i
  cn : s.1.cn ≤ i
  ln : s.2.length ≤ i
  ok : Gok s.2

theorem do_gi {M : Ms} {L : List Int} {b i : Nat} (h : Gi (M, L) (b + 2) i) (hv : Hv M.H) (hi : i ≤ 10000000000000) (q : Oq) : Gi (doM M L q) b (i + 1) := by
  have hk := h.km
  have hs := h.sn
  have hc := h.cn
  have hl := h.ln
  have ho := h.ok
  simp only at hk hs hc hl ho
  unfold doM
  split
  · have := hk.set (adrF L q.A) q.I (wordF L q.V q.to)
    exact ⟨this.1.le (by omega), by simp only; omega, by simp only; omega, by simp only; omega, ho⟩
  · split
    · have := hk.begin9 (adrsF L q.R)
      exact ⟨this.1.le (by omega), by simp only; omega, by simp only; omega, by simp only; omega, ho⟩
    · split
      · have hw : Mk (workM M (min q.I 100000).toNat) (b + 1) := hk.work _
        exact ⟨hw.le (by omega), by simp only [workM_sn]; omega, by simp only [workM_cn]; omega, by simp only; omega, ho⟩
      · split
        · have := hk.collect (adrsF L q.R)
          exact ⟨this.1, by simp only; omega, by simp only; omega, by simp only; omega, ho⟩
        · split
          · exact ⟨hk.le (by omega), by simp only; omega, by simp only; omega, by simp only; omega, ho⟩
          · have := alloc_mk hk hv q.ps q.tag (adrsF L q.R) (by omega)
            refine ⟨this.1, by simp only; omega, by simp only; omega, ?_, ?_⟩
            · simp only
              split
              · simp; omega
              · omega
            · simp only
              split
              · intro x hx
                rcases List.mem_append.1 hx with e | e
                · exact ho x e
                · simp at e; rw [e]; exact this.2.1
              · exact ho

def growM (s : Ms × List Int) (S : List Oq) : Ms × List Int := S.foldl (fun s q => doM s.1 s.2 q) s

/-- A script in memory. -/
structure Scr (w : World) (a : Option Addr) (S : List Oq) : Prop where
  at_ : S = [] ∨ ∃ b o, a = some ⟨b, o, none⟩ ∧ ∀ i, ∀ hi : i < S.length, ∃ pa pn pc ra rn rc, Opm w (S[i]) pa pn pc ra rn rc ∧ w.cell? ⟨b, o + i * 8, none⟩ = some (.int .i64 (S[i]).kd) ∧ w.cell? ⟨b, o + i * 8 + 1, none⟩ = some (.int .i64 (S[i]).A) ∧ w.cell? ⟨b, o + i * 8 + 2, none⟩ = some (.int .i64 (S[i]).I) ∧ w.cell? ⟨b, o + i * 8 + 3, none⟩ = some (.int .i64 (S[i]).to) ∧ w.cell? ⟨b, o + i * 8 + 4, none⟩ = some (.int .i64 (S[i]).tag) ∧ w.cell? ⟨b, o + i * 8 + 5, none⟩ = some (.int .u64 (S[i]).V) ∧ w.cell? ⟨b, o + i * 8 + 6, none⟩ = some (.slice pa pn pc) ∧ w.cell? ⟨b, o + i * 8 + 7, none⟩ = some (.slice ra rn rc)
  len : S.length ≤ 2000000000000

/-- What grown answers. -/
def pgF (x : Int) : Nat := if x < 0 ∨ 1024 < x then 2 else x.toNat
def grownM (x pc : Int) (S : List Oq) : Ms × List Int := growM (newM (pgF x) pc x0, []) S
def Gr9Post (w : World) (R : Ms × List Int) (e : Ending) (w' : World) : Prop := ∃ p v, e = .returned (.tuple #[.pointer (some ⟨p, 0, none⟩), v]) ∧ Gd w w' p R.1 R.2 v ∧ ∃ n, n ≤ 2000000000000 ∧ Gi R 2 n

set_option maxRecDepth 100000 in
set_option maxHeartbeats 2000000 in
theorem grown_any (w : World) (hG : Gl w) (x pc : Int) (a : Option Addr) (n c : Nat) (S : List Oq) (hS : Scr w a S) (hn : S.length = n) : Calls Tryz.prog 22 #[.int .i64 x, .int .i64 pc, .slice a n c] w (Gr9Post w (grownM x pc S)) := by
  have hpg : pgF x ≤ 1024 := by unfold pgF; split <;> omega
  have K := mnew_ok (pgF x) pc w hpg
  have hnb : n ≤ 2000000000000 := by have := hS.len; omega
  have HG0 : Hid (Gi (newM (pgF x) pc x0, []) (2 * n + 2) 0) := ⟨mk_new9 hpg pc _ (by omega), by simp [newM], by simp [newM], by simp, fun y hy => by cases hy⟩
  have HS : Hid (S ≠ [] → ∃ b o, a = some ⟨b, o, none⟩ ∧ ∀ i, ∀ hi : i < S.length, ∃ pa pn pc ra rn rc, Opm w (S[i]) pa pn pc ra rn rc ∧ w.cell? ⟨b, o + i * 8, none⟩ = some (.int .i64 (S[i]).kd) ∧ w.cell? ⟨b, o + i * 8 + 1, none⟩ = some (.int .i64 (S[i]).A) ∧ w.cell? ⟨b, o + i * 8 + 2, none⟩ = some (.int .i64 (S[i]).I) ∧ w.cell? ⟨b, o + i * 8 + 3, none⟩ = some (.int .i64 (S[i]).to) ∧ w.cell? ⟨b, o + i * 8 + 4, none⟩ = some (.int .i64 (S[i]).tag) ∧ w.cell? ⟨b, o + i * 8 + 5, none⟩ = some (.int .u64 (S[i]).V) ∧ w.cell? ⟨b, o + i * 8 + 6, none⟩ = some (.slice pa pn pc) ∧ w.cell? ⟨b, o + i * 8 + 7, none⟩ = some (.slice ra rn rc)) := fun h0 => by
    rcases hS.at_ with e | e
    · exact absurd e h0
    · exact e
  have HGl := hid hG
  have HN := hid hn
  unfold grownM
  clear hS hn hG hpg
  have hpx : (pgF x : Int) = if x < 0 ∨ 1024 < x then 2 else x := by unfold pgF; split <;> omega
  rw [hpx] at K
  clear hpx
  by_cases h1 : x < 0
  · have d1 : decide (x < 0) = true := by simpa using h1
    rw [if_pos (.inl h1)] at K
    go_enter Tryz.func22, Tryz.ntmps22
    go_wp2_with fail
    refine K.mono ?_
    clear K
    rintro e w1 ⟨p, rfl, hm, hE⟩
    have HM1 : Hid (Gd w w1 p (newM (pgF x) pc x0) [] (.slice none 0 0)) := ⟨_, hm, fun k hk => ⟨hk, by simp [Value.ownBlock]⟩, own_nil _ _ _ _, hE⟩
    clear hm hE
    go_wp2_with fail
    go_loopw [10, 11] (fun v q wr => ∃ (k : Nat), q = .int .i64 k ∧ k ≤ n ∧ (∃ ad m d, v = .slice ad m d) ∧ Gd w wr p (growM (newM (pgF x) pc x0, []) (S.take k)).1 (growM (newM (pgF x) pc x0, []) (S.take k)).2 v ∧ Gi (growM (newM (pgF x) pc x0, []) (S.take k)) (2 * (n - k) + 2) k) (fun _ q _ => (n - (intOf q)).toNat)
    case atStart => exact ⟨0, rfl, Nat.zero_le _, ⟨_, _, _, rfl⟩, HM1.out, by simpa [growM] using HG0.out⟩
    case round =>
      obtain ⟨k, rfl, hk, ⟨ad, m, d, rfl⟩, hg, hi⟩ := hrel
      have HGd := hid hg
      have HGi := hid hi
      by_cases hlt : k < n
      · have hkl : k < S.length := by have := HN.out; omega
        obtain ⟨b, o, rfl, hsc⟩ := HS.out (by intro e; rw [e] at hkl; simp at hkl)
        obtain ⟨pa, pn, pc', ra, rn, rc, hop, c0, c1, c2, c3, c4, c5, c6, c7⟩ := hsc k hkl
        have hE := (show Ext [] w wr from by obtain ⟨_, _, _, _, hE⟩ := hg; exact hE)
        have c0 := hE.cell c0 (by simp)
        have c1 := hE.cell c1 (by simp)
        have c2 := hE.cell c2 (by simp)
        have c3 := hE.cell c3 (by simp)
        have c4 := hE.cell c4 (by simp)
        have c5 := hE.cell c5 (by simp)
        have c6 := hE.cell c6 (by simp)
        have c7 := hE.cell c7 (by simp)
        have hhv : Hv (growM (newM (pgF x) pc x0, []) (S.take k)).1.H := by
          obtain ⟨Z, hmz, _⟩ := hg
          exact hmz.hv
        have hi' : Gi ((growM (newM (pgF x) pc x0, []) (S.take k)).1, (growM (newM (pgF x) pc x0, []) (S.take k)).2) (2 * (n - (k + 1)) + 2 + 2) k := by rw [show 2 * (n - (k + 1)) + 2 + 2 = 2 * (n - k) + 2 by omega]; exact hi
        have K := do_any hg (b := 2 * (n - (k + 1)) + 2) hi'.km HGl.out hi'.ok (by have := hi'.ln; simp only at this; omega) (by have := hi'.cn; simp only at this; omega) (S[k]) pa ra pn pc' rn rc hop
        have hstep : growM (newM (pgF x) pc x0, []) (S.take (k + 1)) = doM (growM (newM (pgF x) pc x0, []) (S.take k)).1 (growM (newM (pgF x) pc x0, []) (S.take k)).2 (S[k]) := by
          unfold growM
          rw [List.take_add_one, List.foldl_append, List.getElem?_eq_getElem hkl]
          rfl
        have hgi := do_gi hi' hhv (by omega) (S[k])
        rw [← hstep] at K hgi
        have HGi2 := hid hgi
        clear hg hi hi' hhv hop hstep hgi hsc hE HGd HGi
        generalize (S[k]).kd = kd at *
        generalize (S[k]).A = qA at *
        generalize (S[k]).I = qI at *
        generalize (S[k]).to = qto at *
        generalize (S[k]).tag = qtag at *
        generalize (S[k]).V = qV at *
        clear hkl
        go_wp2_with fail
        refine K.mono ?_
        clear K
        rintro e w2 ⟨v2, rfl, hg2⟩
        have hsl : ∃ ad m d, v2 = .slice ad m d := by
          obtain ⟨_, _, _, hv2, _⟩ := hg2
          obtain ⟨a2, c2, e2, _⟩ := own_slice hv2
          exact ⟨_, _, _, e2⟩
        obtain ⟨ad2, m2, d2, rfl⟩ := hsl
        have HG2 := hid hg2
        clear hg2
        go_wp2_with fail
        go_roundw
        case rel => exact ⟨k + 1, by go_num, by omega, ⟨_, _, _, rfl⟩, HG2.out, HGi2.out⟩
        case measure => simp [intOf]; omega
      · obtain rfl : k = n := by omega
        clear hg hi
        go_wp2_with fail
        go_ret2
        have := HGd.out
        rw [List.take_of_length_le (by have := HN.out; omega)] at this
        have h2 := HGi.out
        rw [List.take_of_length_le (by have := HN.out; omega), show 2 * (k - k) + 2 = 2 by omega] at h2
        exact ⟨p, _, rfl, this, k, by omega, h2⟩
  · have d1 : decide (x < 0) = false := by simpa using h1
    by_cases h2 : 1024 < x
    · have d2 : decide (x > 1024) = true := by simpa using h2
      rw [if_pos (.inr h2)] at K
      go_enter Tryz.func22, Tryz.ntmps22
      go_wp2_with fail
      refine K.mono ?_
      clear K
      rintro e w1 ⟨p, rfl, hm, hE⟩
      have HM1 : Hid (Gd w w1 p (newM (pgF x) pc x0) [] (.slice none 0 0)) := ⟨_, hm, fun k hk => ⟨hk, by simp [Value.ownBlock]⟩, own_nil _ _ _ _, hE⟩
      clear hm hE
      go_wp2_with fail
      go_loopw [10, 11] (fun v q wr => ∃ (k : Nat), q = .int .i64 k ∧ k ≤ n ∧ (∃ ad m d, v = .slice ad m d) ∧ Gd w wr p (growM (newM (pgF x) pc x0, []) (S.take k)).1 (growM (newM (pgF x) pc x0, []) (S.take k)).2 v ∧ Gi (growM (newM (pgF x) pc x0, []) (S.take k)) (2 * (n - k) + 2) k) (fun _ q _ => (n - (intOf q)).toNat)
      case atStart => exact ⟨0, rfl, Nat.zero_le _, ⟨_, _, _, rfl⟩, HM1.out, by simpa [growM] using HG0.out⟩
      case round =>
        obtain ⟨k, rfl, hk, ⟨ad, m, d, rfl⟩, hg, hi⟩ := hrel
        have HGd := hid hg
        have HGi := hid hi
        by_cases hlt : k < n
        · have hkl : k < S.length := by have := HN.out; omega
          obtain ⟨b, o, rfl, hsc⟩ := HS.out (by intro e; rw [e] at hkl; simp at hkl)
          obtain ⟨pa, pn, pc', ra, rn, rc, hop, c0, c1, c2, c3, c4, c5, c6, c7⟩ := hsc k hkl
          have hE := (show Ext [] w wr from by obtain ⟨_, _, _, _, hE⟩ := hg; exact hE)
          have c0 := hE.cell c0 (by simp)
          have c1 := hE.cell c1 (by simp)
          have c2 := hE.cell c2 (by simp)
          have c3 := hE.cell c3 (by simp)
          have c4 := hE.cell c4 (by simp)
          have c5 := hE.cell c5 (by simp)
          have c6 := hE.cell c6 (by simp)
          have c7 := hE.cell c7 (by simp)
          have hhv : Hv (growM (newM (pgF x) pc x0, []) (S.take k)).1.H := by
            obtain ⟨Z, hmz, _⟩ := hg
            exact hmz.hv
          have hi' : Gi ((growM (newM (pgF x) pc x0, []) (S.take k)).1, (growM (newM (pgF x) pc x0, []) (S.take k)).2) (2 * (n - (k + 1)) + 2 + 2) k := by rw [show 2 * (n - (k + 1)) + 2 + 2 = 2 * (n - k) + 2 by omega]; exact hi
          have K := do_any hg (b := 2 * (n - (k + 1)) + 2) hi'.km HGl.out hi'.ok (by have := hi'.ln; simp only at this; omega) (by have := hi'.cn; simp only at this; omega) (S[k]) pa ra pn pc' rn rc hop
          have hstep : growM (newM (pgF x) pc x0, []) (S.take (k + 1)) = doM (growM (newM (pgF x) pc x0, []) (S.take k)).1 (growM (newM (pgF x) pc x0, []) (S.take k)).2 (S[k]) := by
            unfold growM
            rw [List.take_add_one, List.foldl_append, List.getElem?_eq_getElem hkl]
            rfl
          have hgi := do_gi hi' hhv (by omega) (S[k])
          rw [← hstep] at K hgi
          have HGi2 := hid hgi
          clear hg hi hi' hhv hop hstep hgi hsc hE HGd HGi
          generalize (S[k]).kd = kd at *
          generalize (S[k]).A = qA at *
          generalize (S[k]).I = qI at *
          generalize (S[k]).to = qto at *
          generalize (S[k]).tag = qtag at *
          generalize (S[k]).V = qV at *
          clear hkl
          go_wp2_with fail
          refine K.mono ?_
          clear K
          rintro e w2 ⟨v2, rfl, hg2⟩
          have hsl : ∃ ad m d, v2 = .slice ad m d := by
            obtain ⟨_, _, _, hv2, _⟩ := hg2
            obtain ⟨a2, c2, e2, _⟩ := own_slice hv2
            exact ⟨_, _, _, e2⟩
          obtain ⟨ad2, m2, d2, rfl⟩ := hsl
          have HG2 := hid hg2
          clear hg2
          go_wp2_with fail
          go_roundw
          case rel => exact ⟨k + 1, by go_num, by omega, ⟨_, _, _, rfl⟩, HG2.out, HGi2.out⟩
          case measure => simp [intOf]; omega
        · obtain rfl : k = n := by omega
          clear hg hi
          go_wp2_with fail
          go_ret2
          have := HGd.out
          rw [List.take_of_length_le (by have := HN.out; omega)] at this
          have h2 := HGi.out
          rw [List.take_of_length_le (by have := HN.out; omega), show 2 * (k - k) + 2 = 2 by omega] at h2
          exact ⟨p, _, rfl, this, k, by omega, h2⟩
    · have d2 : decide (x > 1024) = false := by simpa using h2
      rw [if_neg (by omega)] at K
      go_enter Tryz.func22, Tryz.ntmps22
      go_wp2_with fail
      refine K.mono ?_
      clear K
      rintro e w1 ⟨p, rfl, hm, hE⟩
      have HM1 : Hid (Gd w w1 p (newM (pgF x) pc x0) [] (.slice none 0 0)) := ⟨_, hm, fun k hk => ⟨hk, by simp [Value.ownBlock]⟩, own_nil _ _ _ _, hE⟩
      clear hm hE
      go_wp2_with fail
      go_loopw [10, 11] (fun v q wr => ∃ (k : Nat), q = .int .i64 k ∧ k ≤ n ∧ (∃ ad m d, v = .slice ad m d) ∧ Gd w wr p (growM (newM (pgF x) pc x0, []) (S.take k)).1 (growM (newM (pgF x) pc x0, []) (S.take k)).2 v ∧ Gi (growM (newM (pgF x) pc x0, []) (S.take k)) (2 * (n - k) + 2) k) (fun _ q _ => (n - (intOf q)).toNat)
      case atStart => exact ⟨0, rfl, Nat.zero_le _, ⟨_, _, _, rfl⟩, HM1.out, by simpa [growM] using HG0.out⟩
      case round =>
        obtain ⟨k, rfl, hk, ⟨ad, m, d, rfl⟩, hg, hi⟩ := hrel
        have HGd := hid hg
        have HGi := hid hi
        by_cases hlt : k < n
        · have hkl : k < S.length := by have := HN.out; omega
          obtain ⟨b, o, rfl, hsc⟩ := HS.out (by intro e; rw [e] at hkl; simp at hkl)
          obtain ⟨pa, pn, pc', ra, rn, rc, hop, c0, c1, c2, c3, c4, c5, c6, c7⟩ := hsc k hkl
          have hE := (show Ext [] w wr from by obtain ⟨_, _, _, _, hE⟩ := hg; exact hE)
          have c0 := hE.cell c0 (by simp)
          have c1 := hE.cell c1 (by simp)
          have c2 := hE.cell c2 (by simp)
          have c3 := hE.cell c3 (by simp)
          have c4 := hE.cell c4 (by simp)
          have c5 := hE.cell c5 (by simp)
          have c6 := hE.cell c6 (by simp)
          have c7 := hE.cell c7 (by simp)
          have hhv : Hv (growM (newM (pgF x) pc x0, []) (S.take k)).1.H := by
            obtain ⟨Z, hmz, _⟩ := hg
            exact hmz.hv
          have hi' : Gi ((growM (newM (pgF x) pc x0, []) (S.take k)).1, (growM (newM (pgF x) pc x0, []) (S.take k)).2) (2 * (n - (k + 1)) + 2 + 2) k := by rw [show 2 * (n - (k + 1)) + 2 + 2 = 2 * (n - k) + 2 by omega]; exact hi
          have K := do_any hg (b := 2 * (n - (k + 1)) + 2) hi'.km HGl.out hi'.ok (by have := hi'.ln; simp only at this; omega) (by have := hi'.cn; simp only at this; omega) (S[k]) pa ra pn pc' rn rc hop
          have hstep : growM (newM (pgF x) pc x0, []) (S.take (k + 1)) = doM (growM (newM (pgF x) pc x0, []) (S.take k)).1 (growM (newM (pgF x) pc x0, []) (S.take k)).2 (S[k]) := by
            unfold growM
            rw [List.take_add_one, List.foldl_append, List.getElem?_eq_getElem hkl]
            rfl
          have hgi := do_gi hi' hhv (by omega) (S[k])
          rw [← hstep] at K hgi
          have HGi2 := hid hgi
          clear hg hi hi' hhv hop hstep hgi hsc hE HGd HGi
          generalize (S[k]).kd = kd at *
          generalize (S[k]).A = qA at *
          generalize (S[k]).I = qI at *
          generalize (S[k]).to = qto at *
          generalize (S[k]).tag = qtag at *
          generalize (S[k]).V = qV at *
          clear hkl
          go_wp2_with fail
          refine K.mono ?_
          clear K
          rintro e w2 ⟨v2, rfl, hg2⟩
          have hsl : ∃ ad m d, v2 = .slice ad m d := by
            obtain ⟨_, _, _, hv2, _⟩ := hg2
            obtain ⟨a2, c2, e2, _⟩ := own_slice hv2
            exact ⟨_, _, _, e2⟩
          obtain ⟨ad2, m2, d2, rfl⟩ := hsl
          have HG2 := hid hg2
          clear hg2
          go_wp2_with fail
          go_roundw
          case rel => exact ⟨k + 1, by go_num, by omega, ⟨_, _, _, rfl⟩, HG2.out, HGi2.out⟩
          case measure => simp [intOf]; omega
        · obtain rfl : k = n := by omega
          clear hg hi
          go_wp2_with fail
          go_ret2
          have := HGd.out
          rw [List.take_of_length_le (by have := HN.out; omega)] at this
          have h2 := HGi.out
          rw [List.take_of_length_le (by have := HN.out; omega), show 2 * (k - k) + 2 = 2 by omega] at h2
          exact ⟨p, _, rfl, this, k, by omega, h2⟩

end Go.Proofs.YtjbbomokgpoilaaGreatDoor

/-
  Plain facts of an object that has come; no statement is proved here.
-/
namespace Go.Proofs.YtjbbomokgpoilaaGreatDoor

theorem alloc_zero (H : Hs) (size tag : Int) (h : (allocH H size tag).2.1 ≠ 0) : (allocH H size tag).1 = 0 ∧ (allocH H size tag).2.2 = H := by
  unfold allocH at h ⊢
  split
  · rename_i hc
    rw [if_pos hc] at h
    split
    · rename_i k hk; rw [hk] at h; simp at h
    · rename_i hk
      rw [hk] at h
      split
      · exact ⟨rfl, rfl⟩
      · rename_i i hi; simp only [hi] at h; simp at h
  · exact ⟨rfl, rfl⟩

/-- Where the new object lies. -/
theorem alloc_found {H : Hs} (h : Hv H) {size tag : Int} (he : (allocH H size tag).2.1 = 0) :
    Ok size ∧ (0 ≤ tag ∧ tag ≤ 2147483647) ∧ ∃ (k j : Nat) (x : Spn), (allocH H size tag).2.2.sp[k]? = some x ∧ x.S[j]? = some (size, tag) ∧ (adr x j : Int) = (allocH H size tag).1 := by
  by_cases hc : Ok size ∧ 0 ≤ tag ∧ tag ≤ 2147483647
  · refine ⟨hc.1, hc.2, ?_⟩
    cases hk : H.sp.findIdx? (fitS (roomN size)) with
    | some k =>
      have e : allocH H size tag = ((adrAt H k (fz (spAt H k).S) : Int), 0, { H with sp := H.sp.set k (tkS (spAt H k) size tag), B := put H.B (adrAt H k (fz (spAt H k).S)) (fun _ => 0) (roomN size) }) := by
        unfold allocH; rw [if_pos hc]; simp only [hk]
      obtain ⟨x, hx, _, hfit⟩ := findIdx_find hk
      have ex := spAt_eq hx
      have hlk := (List.getElem?_eq_some_iff.1 hx).1
      unfold fitS at hfit
      simp only [Bool.and_eq_true, decide_eq_true_eq] at hfit
      obtain ⟨z1, _, _⟩ := fz_spec hfit.2 (fun y hy => ((h.ok x (List.mem_of_getElem? hx)).sz y hy).1)
      rw [e]
      refine ⟨k, fz x.S, tkS x size tag, ?_, ?_, ?_⟩
      · simp only [ex]; simp [hlk]
      · simp [tkS, z1]
      · simp only [adrAt, ex]; rfl
    | none =>
      cases hi : hole H.R (pgN size) with
      | none =>
        have e : allocH H size tag = (0, 7, H) := by unfold allocH; rw [if_pos hc]; simp only [hk, hi]
        rw [e] at he; simp at he
      | some i =>
        have e : allocH H size tag = (((((rnAt H.R i).s + 1) * 256 : Nat) : Int), 0, ⟨H.P, takeL H.R i (pgN size), insS H.sp (insK H.R i) (tkS (newS (rnAt H.R i).s (pgN size) (roomN size)) size tag), put H.B (((rnAt H.R i).s + 1) * 256) (fun _ => 0) (roomN size)⟩) := by
          unfold allocH; rw [if_pos hc]; simp only [hk, hi]
        rw [e]
        obtain ⟨_, f0, l1⟩ := new_ok hc.1 hc.2 (rnAt H.R i).s
        obtain ⟨k, hk2⟩ := List.getElem?_of_mem ((mem_insS (L := H.sp) (k := insK H.R i) (x := tkS (newS (rnAt H.R i).s (pgN size) (roomN size)) size tag)).2 (.inl rfl))
        refine ⟨k, 0, _, hk2, ?_, ?_⟩
        · simp only [tkS, f0]
          have : 0 < (newS (rnAt H.R i).s (pgN size) (roomN size)).S.length := by simp only [newS, List.length_replicate]; omega
          simp [this]
        · simp [adr, tkS, newS]
  · have e : allocH H size tag = (0, 2, H) := by unfold allocH; rw [if_neg hc]
    rw [e] at he; simp at he

/-- A byte of the new object is found there. -/
theorem found_at {H : Hs} (h : Hv H) {k j : Nat} {x : Spn} {y : Slot} {a : Int} (hx : H.sp[k]? = some x) (hy : x.S[j]? = some y) (ha : (adr x j : Int) = a) {b : Int} (h1 : a ≤ b) (h2 : b < a + y.1) : fnd H b = some (k, j) ∧ (adrAt H k j : Int) = a ∧ slotAt H k j = y := by
  refine ⟨h.fnd_iff.2 ⟨x, y, hx, hy, by omega, by omega⟩, ?_, ?_⟩
  · unfold adrAt; rw [spAt_eq hx]; exact ha
  · unfold slotAt; rw [spAt_eq hx]; simp [List.getD, hy]

theorem fnd_bytes (H : Hs) (B : List Int) (a : Int) : fnd { H with B := B } a = fnd H a := rfl
theorem witE_bytes (H : Hs) (B : List Int) (a n : Int) : witE { H with B := B } a n = witE H a n := rfl
theorem witE_put (H : Hs) (b m : Int) (f : Nat → Int) (a n : Int) : witE (putH H b m f) a n = witE H a n := by
  unfold putH; split
  · rfl
  · rfl
theorem fnd_put (H : Hs) (b m : Int) (f : Nat → Int) (a : Int) : fnd (putH H b m f) a = fnd H a := by
  unfold putH; split <;> rfl
theorem infV_put (H : Hs) (b m : Int) (f : Nat → Int) (a : Int) (q : Option (Nat × Nat)) : infV (putH H b m f) a q = infV H a q := by
  unfold putH; split <;> rfl
theorem baV_put (H : Hs) (b m : Int) (f : Nat → Int) (q : Option (Nat × Nat)) : baV (putH H b m f) q = baV H q := by
  unfold putH; split <;> rfl

/-- A number that was stored. -/
theorem numAt_put {L : List Int} {i n : Nat} {v : Int} (h : i + n ≤ L.length) (_hn : n ≤ 8) (_hv : 0 ≤ v) : numAt (put L i (byteOf v) n) i n = v % 2 ^ (8 * n) := by
  unfold numAt
  have e : ∀ j, j < n → (put L i (byteOf v) n).getD (i + j) 0 = byteOf v j := fun j hj => by
    rw [getD_put L i _ n h, if_pos (by omega)]; congr 1; omega
  have cong : ∀ m, m ≤ n → numTo (fun j => (put L i (byteOf v) n).getD (i + j) 0) m = numTo (byteOf v) m := by
    intro m
    induction m with
    | zero => intro _; rfl
    | succ m ih => intro hm; simp only [numTo]; rw [ih (by omega), e m (by omega)]
  rw [cong n (Nat.le_refl _)]
  exact numTo_bytes v n
theorem numAt_cut {L : List Int} {i n : Nat} : numAt (cut L i n) 0 n = numAt L i n := by
  unfold numAt
  have cong : ∀ m, m ≤ n → numTo (fun j => (cut L i n).getD (0 + j) 0) m = numTo (fun j => L.getD (i + j) 0) m := by
    intro m
    induction m with
    | zero => intro _; rfl
    | succ m ih => intro hm; simp only [numTo]; rw [ih (by omega), Nat.zero_add, getD_cut L i n m (by omega)]
  exact cong n (Nat.le_refl _)

end Go.Proofs.YtjbbomokgpoilaaGreatDoor

/-
  Objects as a set: what comes with a new one, and what stays; plain facts; no statement is proved here.
-/
namespace Go.Proofs.YtjbbomokgpoilaaGreatDoor

/-- An object at b, of size s and tag t. -/
def Ob3 (H : Hs) (b s t : Int) : Prop := ∃ x ∈ H.sp, ∃ j : Nat, x.S[j]? = some (s, t) ∧ 0 < s ∧ (adr x j : Int) = b

/-- What Info tells of the size. -/
def szO (H : Hs) (b : Int) : Int := match fnd H b with
  | some (k, j) => if (adrAt H k j : Int) = b then (slotAt H k j).1 else 0
  | none => 0
/-- What is read of the object at b, or nothing. -/
def rdO (H : Hs) (b : Int) : List Int := rdX H b (szO H b)

theorem infV_sz (H : Hs) (b : Int) : ∃ A T E : Int, infV H b (fnd H b) = .tuple #[.agg #[.int .i64 A, .int .i64 (szO H b), .int .i64 T, .slice none 0 0], .int .i64 E] := by
  unfold szO infV
  cases fnd H b with
  | none => exact ⟨_, _, _, rfl⟩
  | some q =>
    obtain ⟨k, j⟩ := q
    simp only
    split
    · exact ⟨_, _, _, rfl⟩
    · exact ⟨_, _, _, rfl⟩

theorem Ob3.found {H : Hs} (h : Hv H) {b s t : Int} (ho : Ob3 H b s t) : ∃ k j, fnd H b = some (k, j) ∧ (adrAt H k j : Int) = b ∧ slotAt H k j = (s, t) := by
  obtain ⟨x, hx, j, hj, h0, rfl⟩ := ho
  obtain ⟨k, hk⟩ := List.getElem?_of_mem hx
  exact ⟨k, j, found_at h hk hj rfl (Int.le_refl _) (by omega)⟩
theorem rdO_ob {H : Hs} (h : Hv H) {b s t : Int} (ho : Ob3 H b s t) : szO H b = s ∧ rdO H b = cut H.B b.toNat s.toNat := by
  obtain ⟨k, j, h1, h2, h3⟩ := ho.found h
  have hs : szO H b = s := by unfold szO; rw [h1]; simp only; rw [if_pos h2, h3]
  obtain ⟨_, _, _, _, h0, _⟩ := ho
  refine ⟨hs, ?_⟩
  unfold rdO rdX
  rw [hs, if_pos]
  unfold witE
  rw [if_neg (by omega), h1]
  simp only
  rw [if_neg (by rw [h2, h3]; simp only; omega)]
theorem rdO_no {H : Hs} (h : Hv H) {b : Int} (ho : ∀ s t, ¬ Ob3 H b s t) : szO H b = 0 ∧ rdO H b = [] := by
  have hs : szO H b = 0 := by
    unfold szO
    cases hf : fnd H b with
    | none => rfl
    | some q =>
      obtain ⟨k, j⟩ := q
      simp only
      split
      · rename_i he
        obtain ⟨hs, h1, h2⟩ := h.hit hf
        refine absurd ⟨spAt H k, hs.mem, j, ?_, (by omega : 0 < (slotAt H k j).1), he⟩ (ho (slotAt H k j).1 (slotAt H k j).2)
        unfold slotAt
        rw [List.getD_eq_getElem?_getD, List.getElem?_eq_getElem hs.jl]; rfl
      · rfl
  refine ⟨hs, ?_⟩
  unfold rdO rdX
  rw [hs]
  split
  · rfl
  · rfl

/-- Two slots lie apart. -/
theorem Hv.slots {H : Hs} (h : Hv H) {x y : Spn} (hx : x ∈ H.sp) (hy : y ∈ H.sp) {i j : Nat} (hi : i < x.S.length) (hj : j < y.S.length) : (x = y ∧ i = j) ∨ adr x i + x.rm ≤ adr y j ∨ adr y j + y.rm ≤ adr x i := by
  have ox := h.ok x hx
  have oy := h.ok y hy
  obtain ⟨k, hk⟩ := List.getElem?_of_mem hx
  obtain ⟨l, hl⟩ := List.getElem?_of_mem hy
  have s1 := ox.slot hi
  have s2 := oy.slot hj
  rw [Nat.add_mul] at s1 s2
  obtain ⟨hk1, rfl⟩ := List.getElem?_eq_some_iff.1 hk
  obtain ⟨hl1, rfl⟩ := List.getElem?_eq_some_iff.1 hl
  have hs := List.pairwise_iff_getElem.1 h.sorted
  unfold adr
  rcases Nat.lt_trichotomy k l with q | q | q
  · have := hs k l hk1 hl1 q; omega
  · subst q
    rcases Nat.lt_trichotomy i j with r | r | r
    · have : (i + 1) * (H.sp[k]).rm ≤ j * (H.sp[k]).rm := Nat.mul_le_mul_right _ r
      rw [Nat.add_mul] at this; omega
    · exact .inl ⟨rfl, r⟩
    · have : (j + 1) * (H.sp[k]).rm ≤ i * (H.sp[k]).rm := Nat.mul_le_mul_right _ r
      rw [Nat.add_mul] at this; omega
  · have := hs l k hl1 hk1 q; omega

/-- What a new object changes. -/
structure Came (H H1 : Hs) (a size tag : Int) : Prop where
  ok : Ok size
  tg : 0 ≤ tag ∧ tag ≤ 2147483647
  fits : fitsH H size = true
  obj : ∀ b s t, b ≠ a → (Ob3 H1 b s t ↔ Ob3 H b s t)
  new : ∃ x ∈ H1.sp, ∃ j : Nat, x.S[j]? = some (size, tag) ∧ (adr x j : Int) = a ∧ x.rm = roomN size
  byt : H1.B = put H.B a.toNat (fun _ => 0) (roomN size)
  lim : a.toNat + roomN size ≤ H.B.length

theorem ob3_set {x : Spn} {j : Nat} {y : Slot} {i : Nat} (_hj : j < x.S.length) (s t : Int) (h : (x.S.set j y)[i]? = some (s, t)) : i = j ∨ x.S[i]? = some (s, t) := by
  rw [List.getElem?_set] at h
  by_cases q : j = i
  · exact .inl q.symm
  · rw [if_neg q] at h; exact .inr h

theorem came {H : Hs} (h : Hv H) {size tag : Int} (he : (allocH H size tag).2.1 = 0) : Came H (allocH H size tag).2.2 (allocH H size tag).1 size tag := by
  have hc : Ok size ∧ 0 ≤ tag ∧ tag ≤ 2147483647 := by
    obtain ⟨q1, q2, _⟩ := alloc_found h he; exact ⟨q1, q2⟩
  obtain ⟨_, _, p1, p2, r8, r1, r2, sr, rp, kd⟩ := room_ok hc.1
  cases hk : H.sp.findIdx? (fitS (roomN size)) with
  | some k =>
    have e : allocH H size tag = ((adrAt H k (fz (spAt H k).S) : Int), 0, { H with sp := H.sp.set k (tkS (spAt H k) size tag), B := put H.B (adrAt H k (fz (spAt H k).S)) (fun _ => 0) (roomN size) }) := by
      unfold allocH; rw [if_pos hc]; simp only [hk]
    obtain ⟨x, hx, _, hfit⟩ := findIdx_find hk
    have ex := spAt_eq hx
    have hlk := (List.getElem?_eq_some_iff.1 hx).1
    unfold fitS at hfit
    simp only [Bool.and_eq_true, decide_eq_true_eq] at hfit
    have hm := List.mem_of_getElem? hx
    have hox := h.ok x hm
    obtain ⟨z1, z2, _⟩ := fz_spec hfit.2 (fun y hy => (hox.sz y hy).1)
    have hs0 := h.slt hlk (j := fz x.S) (by rw [ex]; exact z1)
    have ea : (adrAt H k (fz x.S)) = adr x (fz x.S) := by unfold adrAt; rw [ex]
    have hhi := hs0.hi
    rw [e, ex, ea]
    rw [ea, ex, hfit.1] at hhi
    have hbl := h.bl
    have hset : ∀ y, y ∈ H.sp.set k (tkS x size tag) → y = tkS x size tag ∨ y ∈ H.sp := fun y hy => (List.mem_or_eq_of_mem_set hy).symm
    refine ⟨hc.1, hc.2, ?_, fun b s t hb => ⟨?_, ?_⟩, ⟨tkS x size tag, ?_, fz x.S, ?_, rfl, hfit.1⟩, rfl, ?_⟩
    · unfold fitsH; rw [hk]; simp [hc.1]
    · rintro ⟨y, hy, j, hj, h0, rfl⟩
      rcases hset y hy with rfl | hy
      · rcases ob3_set z1 s t hj with rfl | hj
        · exact absurd rfl hb
        · exact ⟨x, hm, j, hj, h0, rfl⟩
      · exact ⟨y, hy, j, hj, h0, rfl⟩
    · rintro ⟨y, hy, j, hj, h0, rfl⟩
      obtain ⟨l, hl⟩ := List.getElem?_of_mem hy
      by_cases q : l = k
      · subst q
        rw [hx] at hl; cases hl
        refine ⟨tkS x size tag, List.mem_iff_getElem?.2 ⟨l, by simp [hlk]⟩, j, ?_, h0, rfl⟩
        simp only [tkS, List.getElem?_set]
        rw [if_neg]
        · exact hj
        · rintro rfl; exact hb rfl
      · exact ⟨y, List.mem_iff_getElem?.2 ⟨l, by rw [List.getElem?_set, if_neg (fun r => q r.symm)]; exact hl⟩, j, hj, h0, rfl⟩
    · exact List.mem_iff_getElem?.2 ⟨k, by simp [hlk]⟩
    · simp [tkS, z1]
    · simp only [Int.toNat_natCast]; omega
  | none =>
    cases hi : hole H.R (pgN size) with
    | none =>
      have e : allocH H size tag = (0, 7, H) := by unfold allocH; rw [if_pos hc]; simp only [hk, hi]
      rw [e] at he; simp at he
    | some i =>
      have e : allocH H size tag = (((((rnAt H.R i).s + 1) * 256 : Nat) : Int), 0, ⟨H.P, takeL H.R i (pgN size), insS H.sp (insK H.R i) (tkS (newS (rnAt H.R i).s (pgN size) (roomN size)) size tag), put H.B (((rnAt H.R i).s + 1) * 256) (fun _ => 0) (roomN size)⟩) := by
        unfold allocH; rw [if_pos hc]; simp only [hk, hi]
      obtain ⟨_, f0, l1⟩ := new_ok hc.1 hc.2 (rnAt H.R i).s
      obtain ⟨i1, i2, i3, _⟩ := hole_some hi
      have hb := h.inv.mem _ (rnAt_mem i1)
      have hbl := h.bl
      rw [e]
      refine ⟨hc.1, hc.2, ?_, fun b s t hb => ⟨?_, ?_⟩, ⟨_, mem_insS.2 (.inl rfl), 0, ?_, ?_, rfl⟩, rfl, ?_⟩
      · unfold fitsH; rw [← big_hole _ _ p1, hi]; simp [hc.1]
      · rintro ⟨y, hy, j, hj, h0, rfl⟩
        rcases mem_insS.1 hy with rfl | hy
        · simp only [tkS, f0] at hj
          rcases ob3_set (x := newS (rnAt H.R i).s (pgN size) (roomN size)) (by simp only [newS, List.length_replicate]; omega) s t hj with rfl | hj
          · exact absurd (by simp [adr, tkS, newS]) hb
          · simp only [newS, List.getElem?_replicate] at hj
            split at hj
            · simp at hj; omega
            · cases hj
        · exact ⟨y, hy, j, hj, h0, rfl⟩
      · rintro ⟨y, hy, j, hj, h0, rfl⟩
        exact ⟨y, mem_insS.2 (.inr hy), j, hj, h0, rfl⟩
      · simp only [tkS, f0]
        exact List.getElem?_set_self (by simp only [newS, List.length_replicate]; omega)
      · simp [adr, tkS, newS]
      · simp only [Int.toNat_natCast]; omega

theorem alloc_nofit {H : Hs} {size tag : Int} (he : (allocH H size tag).2.1 ≠ 0) : fitsH H size = false ∨ tag < 0 ∨ 2147483647 < tag := by
  by_cases ht : 0 ≤ tag ∧ tag ≤ 2147483647
  · left
    by_cases hO : Ok size
    · unfold allocH at he
      rw [if_pos ⟨hO, ht⟩] at he
      unfold fitsH
      cases hk : H.sp.findIdx? (fitS (roomN size)) with
      | some k => rw [hk] at he; simp at he
      | none =>
        rw [hk] at he
        simp only at he
        rw [← big_hole _ _ (room_ok hO).2.2.1]
        cases hi : hole H.R (pgN size) with
        | none => simp
        | some i => rw [hi] at he; simp at he
    · unfold fitsH; simp [hO]
  · right; omega

theorem cut_put {L : List Int} {A n b s : Nat} {f : Nat → Int} (h : A + n ≤ L.length) (hd : b + s ≤ A ∨ A + n ≤ b) : cut (put L A f n) b s = cut L b s := by
  unfold cut
  apply List.map_congr_left
  intro j hj
  rw [List.mem_range] at hj
  rw [getD_put L A f n h, if_neg (by omega)]

theorem Ob3.put {H : Hs} {a n b s t : Int} {f : Nat → Int} : Ob3 (putH H a n f) b s t ↔ Ob3 H b s t := by
  unfold putH; split <;> exact Iff.rfl

/-- What is written into the new object is in no other. -/
theorem Came.same {H H1 : Hs} {a size tag : Int} (hC : Came H H1 a size tag) (h : Hv H) (h1 : Hv H1) (n : Int) (f : Nat → Int) (h2 : Hv (putH H1 a n f)) {b : Int} (hb : b ≠ a) : rdO (putH H1 a n f) b = rdO H b := by
  obtain ⟨x, hx, i, hi, hia, hrm⟩ := hC.new
  have hO := hC.ok
  obtain ⟨_, _, _, _, _, _, _, sr, _, _⟩ := room_ok hO
  by_cases hq : ∃ s t, Ob3 H b s t
  · obtain ⟨s, t, hs⟩ := hq
    have hs1 := (hC.obj b s t hb).2 hs
    rw [(rdO_ob h hs).2, (rdO_ob h2 (Ob3.put.2 hs1)).2]
    obtain ⟨y, hy, j, hj, h0, rfl⟩ := hs1
    have hlen := hC.lim
    have hyr := ((h1.ok y hy).sz _ (List.mem_of_getElem? hj)).2
    have hd : (adr y j) + s.toNat ≤ a.toNat ∨ a.toNat + roomN size ≤ adr y j := by
      rcases h1.slots hx hy (List.getElem?_eq_some_iff.1 hi).1 (List.getElem?_eq_some_iff.1 hj).1 with ⟨rfl, rfl⟩ | q | q
      · exact absurd hia hb
      · right; rw [← hrm]; omega
      · left; simp only at hyr; omega
    have e1 : cut H1.B (adr y j) s.toNat = cut H.B (adr y j) s.toNat := by rw [hC.byt]; exact cut_put hlen hd
    simp only [Int.toNat_natCast]
    rw [← e1]
    unfold putH
    split
    · rename_i hw
      obtain ⟨hn, k, l, hf, hle⟩ := witE_ok hw
      obtain ⟨k0, hk0⟩ := List.getElem?_of_mem hx
      obtain ⟨g1, g2, g3⟩ := found_at h1 hk0 hi hia (b := a) (Int.le_refl _) (by have := hO.1; simp only; omega)
      rw [g1] at hf
      cases hf
      rw [g2, g3] at hle
      simp only at hle
      have hl1 : H1.B.length = H.B.length := by rw [hC.byt, length_put]
      exact cut_put (by omega) (by omega)
    · rfl
  · have hs : ∀ s t, ¬ Ob3 H b s t := fun s t q => hq ⟨s, t, q⟩
    rw [(rdO_no h hs).2, (rdO_no h2 (fun s t q => hs s t ((hC.obj b s t hb).1 (Ob3.put.1 q)))).2]

/-- A new object is all zero. -/
theorem Came.zero {H H1 : Hs} {a size tag : Int} (hC : Came H H1 a size tag) (h1 : Hv H1) : witE H1 a size = 0 ∧ rdX H1 a size = List.replicate size.toNat 0 := by
  obtain ⟨x, hx, i, hi, hia, hrm⟩ := hC.new
  have hO := hC.ok
  obtain ⟨_, _, _, _, _, _, _, sr, _, _⟩ := room_ok hO
  have hs := hO.1
  obtain ⟨k, hk⟩ := List.getElem?_of_mem hx
  obtain ⟨g1, g2, g3⟩ := found_at h1 hk hi hia (b := a) (Int.le_refl _) (by simp only; omega)
  have hw : witE H1 a size = 0 := by
    unfold witE
    rw [if_neg (by omega), g1]
    simp only
    rw [if_neg (by rw [g2, g3]; simp only; omega)]
  refine ⟨hw, ?_⟩
  unfold rdX
  rw [if_pos hw, hC.byt]
  apply List.ext_getElem?
  intro j
  unfold cut
  rw [List.getElem?_map, List.getElem?_replicate]
  by_cases hj : j < size.toNat
  · rw [List.getElem?_range hj, if_pos hj]
    simp only [Option.map_some]
    rw [getD_put _ _ _ _ hC.lim, if_pos (by omega)]
  · rw [if_neg hj]; simp; omega

/-- The bytes' ends. -/
theorem Came.ends {H H1 : Hs} {a size tag : Int} (hC : Came H H1 a size tag) (h1 : Hv H1) :
    baV H1 (fnd H1 (a + size - 1)) = .tuple #[.int .i64 a, .int .i64 0] ∧ (fnd H1 (a + size) = none ∨ ∃ k j, fnd H1 (a + size) = some (k, j) ∧ (adrAt H1 k j : Int) = a + size) := by
  obtain ⟨x, hx, i, hi, hia, hrm⟩ := hC.new
  have hO := hC.ok
  obtain ⟨_, _, _, _, _, _, _, sr, _, _⟩ := room_ok hO
  have hs := hO.1
  obtain ⟨k, hk⟩ := List.getElem?_of_mem hx
  obtain ⟨g1, g2, g3⟩ := found_at h1 hk hi hia (b := a + size - 1) (by omega) (by simp only; omega)
  refine ⟨by rw [g1]; simp only [baV, g2], ?_⟩
  cases hf : fnd H1 (a + size) with
  | none => exact .inl rfl
  | some q =>
    obtain ⟨l, j⟩ := q
    refine .inr ⟨l, j, rfl, ?_⟩
    obtain ⟨hs2, q1, q2⟩ := h1.hit hf
    have hsz := hs2.sz.2
    rcases h1.slots hx hs2.mem (List.getElem?_eq_some_iff.1 hi).1 hs2.jl with ⟨e1, rfl⟩ | r | r
    · exfalso
      have : slotAt H1 l i = (size, tag) := by unfold slotAt; rw [← e1, List.getD_eq_getElem?_getD, hi]; rfl
      have h3 : (adrAt H1 l i : Int) = a := by unfold adrAt; rw [← e1]; exact hia
      rw [this, h3] at q2
      simp only at q2
      omega
    · unfold adrAt at q1 ⊢; omega
    · exfalso; unfold adrAt at q2; omega

end Go.Proofs.YtjbbomokgpoilaaGreatDoor

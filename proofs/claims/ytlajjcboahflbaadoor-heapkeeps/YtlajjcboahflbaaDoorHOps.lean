/-
  How a heap turns, as plain data: a slot taken or dropped, a span that comes or goes; no statement is proved here.
-/
import Derived.Test.YtlajjcboahflbaaDoorFind
namespace Go.Proofs.YtlajjcboahflbaaDoor

/-! ### slots -/

/-- The lowest free slot. -/
def fz (S : List Slot) : Nat := S.findIdx fun y => decide (y.1 = 0)
theorem fz_spec {S : List Slot} (h : us S < S.length) (hz : ∀ y ∈ S, 0 ≤ y.1) : fz S < S.length ∧ (S.getD (fz S) (0, 0)).1 = 0 ∧ ∀ j, j < fz S → 0 < (S.getD j (0, 0)).1 := by
  have h1 : fz S < S.length := by
    unfold fz
    rw [List.findIdx_lt_length]
    have : ¬ ∀ y ∈ S, decide (0 < y.1) = true := fun q => by
      have := List.countP_eq_length.2 q
      unfold us at h; omega
    simp only [Classical.not_forall] at this
    obtain ⟨y, hy, hp⟩ := this
    exact ⟨y, hy, by have := hz y hy; simp at hp; simp; omega⟩
  refine ⟨h1, ?_, fun j hj => ?_⟩
  · have := List.findIdx_getElem (xs := S) (p := fun (y : Slot) => decide (y.1 = 0)) (w := h1)
    simp at this
    rw [List.getD_eq_getElem?_getD, List.getElem?_eq_getElem h1]
    exact this
  · have hjl : j < S.length := by omega
    have := List.not_of_lt_findIdx hj
    simp at this
    rw [List.getD_eq_getElem?_getD, List.getElem?_eq_getElem hjl]
    have := hz S[j] (List.getElem_mem hjl)
    simp; omega
theorem us_le (S : List Slot) : us S ≤ S.length := List.countP_le_length
theorem us_set {S : List Slot} {k : Nat} (hk : k < S.length) (y : Slot) : us (S.set k y) + (if 0 < (S.getD k (0, 0)).1 then 1 else 0) = us S + (if 0 < y.1 then 1 else 0) := by
  unfold us
  rw [List.countP_set hk]
  have e : S.getD k (0, 0) = S[k] := by simp [List.getD, hk]
  rw [e]
  have : 0 < S[k].1 → 1 ≤ S.countP fun y => decide (0 < y.1) := fun h => List.countP_pos_iff.2 ⟨S[k], List.getElem_mem hk, by simpa using h⟩
  by_cases h1 : 0 < S[k].1 <;> by_cases h2 : 0 < y.1 <;> simp [h1, h2] <;> (try have := this h1) <;> omega
theorem us_rep (n : Nat) : us (List.replicate n (0, 0)) = 0 := by
  unfold us; rw [List.countP_eq_zero]; intro y hy; rw [List.mem_replicate] at hy; rw [hy.2]; simp
theorem fz_rep {n : Nat} (_h : 1 ≤ n) : fz (List.replicate n (0, 0)) = 0 := by
  obtain ⟨m, rfl⟩ : ∃ m, n = m + 1 := ⟨n - 1, by omega⟩
  simp [fz, List.replicate_succ, List.findIdx_cons]

def tkS (x : Spn) (size tag : Int) : Spn := { x with S := x.S.set (fz x.S) (size, tag) }
def dpS (x : Spn) (j : Nat) : Spn := { x with S := x.S.set j (0, 0) }
def newS (st n rm : Nat) : Spn := ⟨st, n, rm, List.replicate (n * 256 / rm) (0, 0)⟩

/-! ### rooms -/

def roomN (size : Int) : Nat := (rmV size).toNat
def pgN (size : Int) : Nat := (pgV size).toNat
theorem room_ok {size : Int} (h : Ok size) : (rmV size = roomN size) ∧ (pgV size = pgN size) ∧ 1 ≤ pgN size ∧ pgN size ≤ 256 ∧ roomN size % 8 = 0 ∧ 8 ≤ roomN size ∧ roomN size ≤ 65536 ∧ size ≤ roomN size ∧ roomN size ≤ pgN size * 256 ∧ ((roomN size ≤ 128 ∧ pgN size = 1 ∧ ∃ c, c < 8 ∧ (roomN size : Int) = sz c) ∨ roomN size = pgN size * 256) := by
  have e1 : pgV size = (size + 255) / 256 := by unfold pgV; rw [if_pos h]
  have e2 : rmV size = (if size ≤ 128 then sz (clsN size) else (size + 255) / 256 * 256) := by unfold rmV; rw [if_pos h]
  have hs := h.1
  have hs2 := h.2
  have e3 : (pgN size : Int) = (size + 255) / 256 := by unfold pgN; rw [e1]; omega
  by_cases h128 : size ≤ 128
  · rw [if_pos h128] at e2
    have hc := clsN_lt size
    have hq : size ≤ sz (clsN size) ∧ sz (clsN size) % 8 = 0 := by
      unfold clsN
      repeat' split
      all_goals simp [sz]; try omega
    have h1 := sz_le hc
    have e4 : (roomN size : Int) = sz (clsN size) := by unfold roomN; rw [e2]; omega
    refine ⟨by unfold roomN; omega, by unfold pgN; omega, by omega, by omega, by omega, by omega, by omega, by omega, by omega, .inl ⟨by omega, by omega, clsN size, hc, e4⟩⟩
  · rw [if_neg h128] at e2
    have e4 : (roomN size : Int) = (size + 255) / 256 * 256 := by unfold roomN; rw [e2]; omega
    refine ⟨by unfold roomN; omega, by unfold pgN; omega, by omega, by omega, by omega, by omega, by omega, by omega, by omega, .inr (by omega)⟩

/-! ### pages' owners -/

theorem ownL_get (O : List (Option Nat)) (st : Nat) (x : Option Nat) : ∀ (n i : Nat), i < O.length → (ownL O st x n).getD i none = if st ≤ i ∧ i < st + n then x else O.getD i none
  | 0, i, _ => by rw [if_neg (by omega)]; rfl
  | n + 1, i, h => by
    have ih := ownL_get O st x n i h
    rw [ownL, List.getD_eq_getElem?_getD, List.getElem?_set]
    by_cases e : st + n = i
    · rw [if_pos e, if_pos (by rw [ownL_len]; omega), if_pos (by omega)]; rfl
    · rw [if_neg e, ← List.getD_eq_getElem?_getD, ih]
      by_cases hc : st ≤ i ∧ i < st + n
      · rw [if_pos hc, if_pos (by omega)]
      · rw [if_neg hc, if_neg (by omega)]

theorem spanAt_run (L : List Spn) (i : Nat) : (spanAt L i).map Spn.st = ((L.map Spn.run).find? fun r => decide (r.s ≤ i) && decide (i < r.s + r.n)).map Rn.s := by
  unfold spanAt
  rw [List.find?_map]
  cases h : L.find? ((fun r => decide (r.s ≤ i) && decide (i < r.s + r.n)) ∘ Spn.run) with
  | none =>
    have : (L.find? fun x => decide (x.st ≤ i) && decide (i < x.st + x.n)) = none := h
    rw [this]; rfl
  | some y =>
    have : (L.find? fun x => decide (x.st ≤ i) && decide (i < x.st + x.n)) = some y := h
    rw [this]; rfl
theorem spanAt_same {L L' : List Spn} (h : L'.map Spn.run = L.map Spn.run) (sb : Nat → Nat × Nat) (i : Nat) : (spanAt L' i).map (fun x => (sb x.st).1) = (spanAt L i).map (fun x => (sb x.st).1) := by
  have := spanAt_run L' i
  rw [h, ← spanAt_run L i] at this
  have h2 := congrArg (Option.map fun s => (sb s).1) this
  simpa [Option.map_map, Function.comp_def] using h2

/-! ### a slot is written -/

theorem map_run_set {L : List Spn} {k : Nat} {x x' : Spn} (hx : L[k]? = some x) (h1 : x'.st = x.st) (h2 : x'.n = x.n) : (L.set k x').map Spn.run = L.map Spn.run := by
  rw [List.map_set]
  have : x'.run = x.run := by unfold Spn.run; rw [h1, h2]
  rw [this]
  apply List.ext_getElem?
  intro i
  rw [List.getElem?_set]
  split
  · rename_i e; subst e
    rw [List.getElem?_map, hx]
    simp [(List.getElem?_eq_some_iff.1 hx).1]
  · rfl

theorem Spn.Ok.set {x : Spn} (h : x.Ok) {j : Nat} {y : Slot} (hy : 0 ≤ y.1 ∧ y.1 ≤ x.rm) (ht : 0 ≤ y.2 ∧ y.2 ≤ 2147483647) (hu : 1 ≤ Go.Proofs.YtlajjcboahflbaaDoor.us (x.S.set j y)) : ({ x with S := x.S.set j y } : Spn).Ok := by
  refine ⟨h.n1, h.rm8, h.rm1, h.rm2, h.kd, by simpa using h.len, fun z hz => ?_, fun z hz => ?_, hu⟩
  · rcases List.mem_or_eq_of_mem_set hz with q | rfl
    · exact h.sz z q
    · exact hy
  · rcases List.mem_or_eq_of_mem_set hz with q | rfl
    · exact h.tg z q
    · exact ht

theorem Hv.set {H : Hs} (h : Hv H) {k : Nat} {x x' : Spn} (hx : H.sp[k]? = some x) (h1 : x'.st = x.st) (h2 : x'.n = x.n) (ho : x'.Ok) {B' : List Int} (hb : B'.length = H.B.length) (ht : Bts B') : Hv { H with sp := H.sp.set k x', B := B' } := by
  refine ⟨h.inv, ?_, fun y hy => ?_, by rw [hb]; exact h.bl, ht⟩
  · rw [map_run_set hx h1 h2]; exact h.run
  · rcases List.mem_or_eq_of_mem_set hy with q | rfl
    · exact h.ok y q
    · exact ho

theorem Hv.bytes {H : Hs} (h : Hv H) {B' : List Int} (hb : B'.length = H.B.length) (ht : Bts B') : Hv { H with B := B' } := ⟨h.inv, h.run, h.ok, by rw [hb]; exact h.bl, ht⟩

/-! ### a span that comes -/

/-- The place of a new span among the spans, where run i is taken. -/
def insK (R : List Rn) (i : Nat) : Nat := (used (R.take i)).length
def insS (L : List Spn) (k : Nat) (x : Spn) : List Spn := L.take k ++ x :: L.drop k
theorem mem_insS {L : List Spn} {k : Nat} {x y : Spn} : y ∈ insS L k x ↔ y = x ∨ y ∈ L := by
  unfold insS
  rw [List.mem_append, List.mem_cons]
  have : y ∈ L ↔ y ∈ L.take k ∨ y ∈ L.drop k := by
    conv => lhs; rw [← List.take_append_drop k L, List.mem_append]
  rw [this]
  constructor
  · rintro (h | h | h)
    · exact .inr (.inl h)
    · exact .inl h
    · exact .inr (.inr h)
  · rintro (h | h | h)
    · exact .inr (.inl h)
    · exact .inl h
    · exact .inr (.inr h)

/-- The first free run of n pages. -/
def hole (R : List Rn) (n : Nat) : Option Nat := R.findIdx? fun r => !r.u && decide (n ≤ r.n)
theorem hole_some {R : List Rn} {n i : Nat} (h : hole R n = some i) : i < R.length ∧ (rnAt R i).u = false ∧ n ≤ (rnAt R i).n ∧ ∀ j, j < i → (rnAt R j).u = true ∨ (rnAt R j).n < n := by
  unfold hole at h
  rw [List.findIdx?_eq_some_iff_getElem] at h
  obtain ⟨hi, h1, h2⟩ := h
  have e : ∀ j, (hj : j < R.length) → rnAt R j = R[j] := fun j hj => by simp [rnAt, List.getD, hj]
  simp at h1
  refine ⟨hi, by rw [e i hi]; exact h1.1, by rw [e i hi]; exact h1.2, fun j hj => ?_⟩
  have := h2 j hj
  rw [e j (by omega)]
  simp at this
  cases hu : R[j].u
  · right; exact this hu
  · left; rfl
theorem hole_none {R : List Rn} {n : Nat} (h : hole R n = none) : ∀ j, j < R.length → (rnAt R j).u = true ∨ (rnAt R j).n < n := by
  unfold hole at h
  rw [List.findIdx?_eq_none_iff] at h
  intro j hj
  have := h _ (rnAt_mem hj)
  simp at this
  cases hu : (rnAt R j).u
  · right; exact this hu
  · left; rfl

theorem Hv.ins {H : Hs} (h : Hv H) {i n : Nat} (hi : i < H.R.length) (hu : (rnAt H.R i).u = false) (h1 : 1 ≤ n) (hn : n ≤ (rnAt H.R i).n) {x : Spn} (hx : x.st = (rnAt H.R i).s) (hxn : x.n = n) (ho : x.Ok) {B' : List Int} (hb : B'.length = H.B.length) (ht : Bts B') :
    Hv ⟨H.P, takeL H.R i n, insS H.sp (insK H.R i) x, B'⟩ := by
  have hs := split_at H.R i hi
  generalize hA : H.R.take i = A at *
  generalize hB : H.R.drop (i + 1) = Bq at *
  generalize hy : rnAt H.R i = y at *
  have hAl : A.length = i := by rw [← hA]; simp; omega
  refine ⟨?_, ?_, fun z hz => ?_, by rw [hb]; exact h.bl, ht⟩
  · have := inv_take (A := A) (B := Bq) (x := y) (n := n) (by rw [← hs]; exact h.inv) hu h1 hn
    rw [← hs, hAl] at this
    exact this
  · have hr := h.run
    rw [hs, used_append, used_cons_f _ hu] at hr
    have hk : insK H.R i = (used A).length := by unfold insK; rw [hA]
    have ht := used_take (A := A) (B := Bq) (x := y) (n := n) hu
    rw [← hs, hAl] at ht
    show (insS H.sp (insK H.R i) x).map Spn.run = used (takeL H.R i n)
    rw [ht, hk]
    unfold insS
    rw [List.map_append, List.map_cons, List.map_take, List.map_drop, hr, List.take_left, List.drop_left]
    congr 2
    unfold Spn.run
    rw [hx, hxn]
  · rcases mem_insS.1 hz with rfl | hz
    · exact ho
    · exact h.ok z hz

theorem new_ok {size tag : Int} (h : Ok size) (ht : 0 ≤ tag ∧ tag ≤ 2147483647) (st : Nat) : (tkS (newS st (pgN size) (roomN size)) size tag).Ok ∧ fz (newS st (pgN size) (roomN size)).S = 0 ∧ 1 ≤ pgN size * 256 / roomN size := by
  obtain ⟨_, _, p1, p2, r8, r1, r2, sr, rp, kd⟩ := room_ok h
  have hl : 1 ≤ pgN size * 256 / roomN size := (Nat.le_div_iff_mul_le (by omega)).2 (by omega)
  have hf : fz (newS st (pgN size) (roomN size)).S = 0 := fz_rep hl
  have hu := us_set (S := List.replicate (pgN size * 256 / roomN size) ((0 : Int), (0 : Int))) (k := 0) (by rw [List.length_replicate]; omega) (size, tag)
  rw [getD_rep, us_rep, if_neg (by simp), if_pos (by simpa using (show 0 < size by have := h.1; omega))] at hu
  refine ⟨⟨p1, r8, r1, r2, kd, by simp [tkS, newS], fun y hy => ?_, fun y hy => ?_, ?_⟩, hf, hl⟩
  · simp only [tkS] at hy
    rcases List.mem_or_eq_of_mem_set hy with q | rfl
    · rw [newS, List.mem_replicate] at q; rw [q.2]; simp
    · exact ⟨by have := h.1; simp only; omega, sr⟩
  · simp only [tkS] at hy
    rcases List.mem_or_eq_of_mem_set hy with q | rfl
    · rw [newS, List.mem_replicate] at q; rw [q.2]; simp
    · exact ht
  · simp only [tkS, hf]
    simp only [newS]; omega

/-! ### a span that goes -/

theorem Hv.run_at {H : Hs} (h : Hv H) {x : Spn} (hx : x ∈ H.sp) : ∃ i, i < H.R.length ∧ (rnAt H.R i).u = true ∧ (rnAt H.R i).s = x.st ∧ (rnAt H.R i).n = x.n ∧ ∀ j, j < H.R.length → (rnAt H.R j).s = x.st → j = i := by
  have h1 : x.run ∈ used H.R := by rw [← h.run]; exact List.mem_map_of_mem hx
  obtain ⟨i, hi⟩ := List.getElem?_of_mem (List.mem_filter.1 h1).1
  have hil := (List.getElem?_eq_some_iff.1 hi).1
  have e : rnAt H.R i = x.run := by simp [rnAt, List.getD, hi]
  refine ⟨i, hil, by rw [e]; rfl, by rw [e]; rfl, by rw [e]; rfl, fun j hj hs => ?_⟩
  have a1 := Tl_at h.inv.tl hj
  have a2 := Tl_at h.inv.tl hil
  rw [e] at a2
  have mono : ∀ k d, k + d < H.R.length → endAt 0 (H.R.take k) + d ≤ endAt 0 (H.R.take (k + d)) := by
    intro k d
    induction d with
    | zero => intro _; exact Nat.le_refl _
    | succ d ih =>
      intro hk
      have := ih (by omega)
      have b := (Tl_at h.inv.tl (k := k + d) (by omega)).2.1
      rw [show k + (d + 1) = (k + d) + 1 by omega, List.take_add_one, rnAt_get (by omega), endAt_append]
      simp only [Option.toList, endAt]
      omega
  rcases Nat.lt_trichotomy j i with q | q | q
  · have := mono j (i - j) (by omega)
    rw [show j + (i - j) = i by omega] at this
    have : x.run.s = x.st := rfl
    omega
  · exact q
  · have := mono i (j - i) (by omega)
    rw [show i + (j - i) = j by omega] at this
    have : x.run.s = x.st := rfl
    omega

/-- The run of a span. -/
def runK (R : List Rn) (st : Nat) : Nat := R.findIdx fun r => r.u && decide (r.s = st)
theorem Hv.runK {H : Hs} (h : Hv H) {x : Spn} (hx : x ∈ H.sp) : runK H.R x.st < H.R.length ∧ (rnAt H.R (runK H.R x.st)).u = true ∧ (rnAt H.R (runK H.R x.st)).s = x.st ∧ (rnAt H.R (runK H.R x.st)).n = x.n ∧ ∀ j, j < runK H.R x.st → (rnAt H.R j).u = false ∨ (rnAt H.R j).s ≠ x.st := by
  obtain ⟨i, hi, h1, h2, h3, h4⟩ := h.run_at hx
  have e : ∀ j, (hj : j < H.R.length) → rnAt H.R j = H.R[j] := fun j hj => by simp [rnAt, List.getD, hj]
  have hk : Go.Proofs.YtlajjcboahflbaaDoor.runK H.R x.st < H.R.length := by
    unfold Go.Proofs.YtlajjcboahflbaaDoor.runK
    rw [List.findIdx_lt_length]
    exact ⟨rnAt H.R i, rnAt_mem hi, by simp [h1, h2]⟩
  have hp := List.findIdx_getElem (xs := H.R) (p := fun (r : Rn) => r.u && decide (r.s = x.st)) (w := hk)
  simp at hp
  have hki : Go.Proofs.YtlajjcboahflbaaDoor.runK H.R x.st = i := h4 _ hk (by rw [e _ hk]; exact hp.2)
  refine ⟨hk, by rw [e _ hk]; exact hp.1, by rw [e _ hk]; exact hp.2, by rw [hki]; exact h3, fun j hj => ?_⟩
  have := List.not_of_lt_findIdx (xs := H.R) (p := fun (r : Rn) => r.u && decide (r.s = x.st)) hj
  rw [e j (by omega)]
  simp at this
  cases hu : H.R[j].u
  · left; rfl
  · right; exact this hu

theorem Hv.del {H : Hs} (h : Hv H) {k : Nat} {x : Spn} (hx : H.sp[k]? = some x) : Hv ⟨H.P, relL H.R (Go.Proofs.YtlajjcboahflbaaDoor.runK H.R x.st), H.sp.eraseIdx k, H.B⟩ := by
  have hm := List.mem_of_getElem? hx
  obtain ⟨hi, h1, h2, h3, _⟩ := h.runK hm
  generalize hq : Go.Proofs.YtlajjcboahflbaaDoor.runK H.R x.st = i at *
  refine ⟨inv_rel h.inv hi, ?_, fun z hz => h.ok z (List.mem_of_mem_eraseIdx hz), h.bl, h.bt⟩
  show (H.sp.eraseIdx k).map Spn.run = used (relL H.R i)
  rw [used_rel hi]
  have hs := split_at H.R i hi
  have hr := h.run
  conv at hr => rhs; rw [hs, used_append, used_cons_t _ h1]
  -- the place k is that of the run
  have hkl := (List.getElem?_eq_some_iff.1 hx).1
  have hxr : (H.sp.map Spn.run)[k]? = some x.run := by rw [List.getElem?_map, hx]; rfl
  have hlen : (used (H.R.take i)).length = k := by
    have hs2 := List.pairwise_iff_getElem.1 h.sorted
    have hkk : (used (H.R.take i)).length < H.sp.length := by
      have := congrArg List.length hr
      simp at this; omega
    have hget : (H.sp.map Spn.run)[(used (H.R.take i)).length]? = some (rnAt H.R i) := by
      rw [hr, List.getElem?_append_right (Nat.le_refl _), Nat.sub_self]; rfl
    rw [List.getElem?_map, List.getElem?_eq_getElem hkk] at hget
    simp only [Option.map_some, Option.some.injEq] at hget
    have hst : H.sp[(used (H.R.take i)).length].st = x.st := by
      have := congrArg Rn.s hget
      rw [h2] at this; exact this
    refine h.same (List.getElem?_eq_getElem hkk) hx (i := x.st) ⟨by omega, ?_⟩ ⟨Nat.le_refl _, by have := (h.ok x hm).n1; omega⟩
    have := (h.ok _ (List.getElem_mem hkk)).n1
    omega
  rw [List.eraseIdx_eq_take_drop_succ, List.map_append, List.map_take, List.map_drop, hr, ← hlen, List.take_left]
  congr 1
  rw [show used (H.R.take i) ++ rnAt H.R i :: used (H.R.drop (i + 1)) = (used (H.R.take i) ++ [rnAt H.R i]) ++ used (H.R.drop (i + 1)) by simp, List.drop_left' (by simp)]

theorem mem_del {H : Hs} (h : Hv H) {k : Nat} {x : Spn} (hx : H.sp[k]? = some x) {y : Spn} : y ∈ H.sp.eraseIdx k ↔ y ∈ H.sp ∧ y.st ≠ x.st := by
  have hxm := List.mem_of_getElem? hx
  constructor
  · intro hy
    refine ⟨List.mem_of_mem_eraseIdx hy, fun e => ?_⟩
    rw [List.mem_eraseIdx_iff_getElem?] at hy
    obtain ⟨l, hl, hyl⟩ := hy
    have hn := (h.ok x hxm).n1
    have hn2 := (h.ok y (List.mem_of_getElem? hyl)).n1
    have := h.same hyl hx (i := x.st) ⟨by omega, by omega⟩ ⟨Nat.le_refl _, by omega⟩
    omega
  · rintro ⟨hy, hne⟩
    obtain ⟨l, hl⟩ := List.getElem?_of_mem hy
    rw [List.mem_eraseIdx_iff_getElem?]
    refine ⟨l, ?_, hl⟩
    rintro rfl
    rw [hx] at hl; cases hl
    exact hne rfl

end Go.Proofs.YtlajjcboahflbaaDoor

/-
  grown: a heap on which a script was carried out; no statement is proved here.
-/
import Derived.Test.YtlajjcboahflbaaDoorGwI
namespace Go.Proofs.YtlajjcboahflbaaDoor
open Go.RowKit

def pgsOf (pages : Int) : Nat := if pages < 0 ∨ 1024 < pages then 4 else pages.toNat
theorem pgsOf_le (pages : Int) : pgsOf pages ≤ 1024 := by unfold pgsOf; split <;> omega
def GwPost (w : World) (P : Nat) (S : List Oq) (e : Ending) (w' : World) : Prop :=
  ∃ p cs F v, e = .returned (.tuple #[.pointer (some ⟨p, 0, none⟩), v]) ∧ GwI w w' p cs (growH (newH P) [] S).1 v (growH (newH P) [] S).2 F

theorem growH_ok {P : Nat} (_h : P ≤ 1024) (S : List Oq) : (growH (newH P) [] S).2.length ≤ S.length := by
  have key : ∀ (S : List Oq) (H : Hs) (L : List Int), (growH H L S).2.length ≤ L.length + S.length := by
    intro S
    induction S with
    | nil => intro H L; simp [growH]
    | cons q S ih =>
      intro H L
      have := ih (opH H L q).1 (opH H L q).2
      have := opH_len H L q
      simp only [growH, List.length_cons]; omega
  have := key S (newH P) []
  simpa using this

/-- What holds between two calls of the script. -/
def GwR (w wr : World) (P k : Nat) (S : List Oq) (p : Nat) (cs : Array Value) (v : Value) : Prop := ∃ F, GwI w wr p cs (growH (newH P) [] (S.take k)).1 v (growH (newH P) [] (S.take k)).2 F

theorem take_snoc {S : List Oq} {k : Nat} (h : k < S.length) : S.take (k + 1) = S.take k ++ [oqAt S k] := by
  rw [List.take_add_one, List.getElem?_eq_getElem h]
  simp [oqAt, h]
theorem GwR.next {w w2 : World} {P k : Nat} {S : List Oq} {p : Nat} {cs : Array Value} {v : Value} {F : Nat → Prop} (hk : k < S.length) (h : GwI w w2 p cs (opH (growH (newH P) [] (S.take k)).1 (growH (newH P) [] (S.take k)).2 (oqAt S k)).1 v (opH (growH (newH P) [] (S.take k)).1 (growH (newH P) [] (S.take k)).2 (oqAt S k)).2 F) : GwR w w2 P (k + 1) S p cs v := by
  refine ⟨F, ?_⟩
  rw [take_snoc hk, growH_snoc]
  exact h
theorem opH1 {H : Hs} {L : List Int} {q : Oq} (h : q.kd = 1) : opH H L q = ((freeH H (addrQ L q)).2, L) := by unfold opH; rw [if_pos h]
theorem opH5 {H : Hs} {L : List Int} {q : Oq} (h : q.kd = 5) : opH H L q = (putH H (addrQ L q) 8 (byteOf q.v), L) := by unfold opH; rw [if_neg (by omega), if_pos h]
theorem opH7 {H : Hs} {L : List Int} {q : Oq} (h : q.kd = 7) : opH H L q = (putH H (addrQ L q) q.b.length (fun j => q.b.getD j 0), L) := by unfold opH; rw [if_neg (by omega), if_neg (by omega), if_pos h]
theorem opH0 {H : Hs} {L : List Int} {q : Oq} (h : q.kd = 2 ∨ q.kd = 3 ∨ q.kd = 4 ∨ q.kd = 6 ∨ q.kd = 8) : opH H L q = (H, L) := by unfold opH; rw [if_neg (by omega), if_neg (by omega), if_neg (by omega), if_pos h]
theorem opHa {H : Hs} {L : List Int} {q : Oq} (h : q.kd ≠ 1 ∧ q.kd ≠ 5 ∧ q.kd ≠ 7 ∧ ¬ (q.kd = 2 ∨ q.kd = 3 ∨ q.kd = 4 ∨ q.kd = 6 ∨ q.kd = 8)) : opH H L q = ((allocH H q.n q.tag).2.2, if (allocH H q.n q.tag).2.1 = 0 then L ++ [(allocH H q.n q.tag).1] else L) := by unfold opH; rw [if_neg h.1, if_neg h.2.1, if_neg h.2.2.1, if_neg h.2.2.2]

theorem hstore_w {p ox : Nat} {T : TypeId} {cs : Array Value} {F : Nat → Prop} {H : Hs} (a v : Int) (hv : 0 ≤ v ∧ v < 18446744073709551616) (w : World) (hH : Hw w p ox T cs F H) : Calls Tryd.prog 24 #[.pointer (some ⟨p, ox, none⟩), .int .i64 a, .int .u64 v] w (HPost w p ox T cs F (putH H a 8 (byteOf v)) (.int .i64 (witE H a 8))) := by
  obtain ⟨_, _, _, _, _, h⟩ := hH; exact hstore_any a v hv w h
theorem hwrite_w {p ox : Nat} {T : TypeId} {cs : Array Value} {F : Nat → Prop} {H : Hs} (a : Int) (sa : Option Addr) (n c : Nat) (xs : List Int) (w : World) (hs : Sl w sa xs) (hn : xs.length = n) (hH : Hw w p ox T cs F H) : Calls Tryd.prog 16 #[.pointer (some ⟨p, ox, none⟩), .int .i64 a, .slice sa n c] w (HPost w p ox T cs F (putH H a n (fun j => xs.getD j 0)) (.int .i64 (witE H a n))) := by
  obtain ⟨_, _, _, _, _, h⟩ := hH; exact hwrite_any a sa n c xs w hs hn h

set_option maxRecDepth 100000 in
set_option maxHeartbeats 16000000 in
theorem grown_any (pages : Int) (sa : Option Addr) (c : Nat) (S : List Oq) (w : World) (hG : Gl w) (hS : Sc w sa S) :
    Calls Tryd.prog 9 #[.int .i64 pages, .slice sa S.length c] w (GwPost w (pgsOf pages) S) := by
  have hP := pgsOf_le pages
  have HGP : Hid ((pages < 0 ∨ 1024 < pages → (4 : Int) = pgsOf pages) ∧ (¬ (pages < 0 ∨ 1024 < pages) → pages = (pgsOf pages : Int))) := by
    unfold pgsOf
    refine ⟨fun h => by rw [if_pos h]; rfl, fun h => by rw [if_neg h]; omega⟩
  generalize pgsOf pages = P at *
  have K1 := hnew_ok P w hP
  have HG := hid hG
  have HS := hid hS
  have hn := hS.len
  have HN := hid (growH_ok hP)
  clear hG hS
  generalize hnS : S.length = n at *
  have HNS := hid hnS
  clear hnS
  go_enter Tryd.func9, Tryd.ntmps9
  go_upto_region 1 with fail
  go_cut [18] from 13 (fun q wc => q = .bool (decide (pages < 0 ∨ 1024 < pages)) ∧ wc = w)
  case first =>
    by_cases h1 : pages < 0
    · have HT : Hid (decide (pages < 0 ∨ 1024 < pages) = true) := by
        show _ = _
        simp [h1]
      go_wp2_with fail
      go_meet
      exact ⟨by rw [HT.out], rfl⟩
    · by_cases h2 : 1024 < pages
      · have HT : Hid (decide (pages < 0 ∨ 1024 < pages) = true) := by
          show _ = _
          simp [h2]
        go_wp2_with fail
        go_meet
        exact ⟨by rw [HT.out], rfl⟩
      · have HT : Hid (decide (pages < 0 ∨ 1024 < pages) = false) := by
          show _ = _
          simp [h1, h2]
        go_wp2_with fail
        go_meet
        exact ⟨by rw [HT.out], rfl⟩
  case rest =>
    obtain ⟨rfl, rfl⟩ := hcut
    have HG1 : Hid ((decide (pages < 0 ∨ 1024 < pages) = true → (4 : Int) = P) ∧ (decide (pages < 0 ∨ 1024 < pages) = false → pages = (P : Int))) :=
      ⟨fun h => HGP.out.1 (of_decide_eq_true h), fun h => HGP.out.2 (of_decide_eq_false h)⟩
    generalize decide (pages < 0 ∨ 1024 < pages) = bb1 at *
    go_upto_if 18 with fail
    go_cut [0] from 13 (fun q wd => q = .int .i64 (P : Nat) ∧ wd = wc)
    case first =>
      cases bb1
      · have h := HG1.out.2 rfl
        have H := hid h
        clear h
        go_wp2_with fail
        go_meet
        exact ⟨by rw [← H.out], rfl⟩
      · have h := HG1.out.1 rfl
        have H := hid h
        clear h
        go_wp2_with fail
        go_meet
        exact ⟨by rw [← H.out], rfl⟩
    case rest =>
      obtain ⟨rfl, rfl⟩ := hcut
      clear HGP HG1
      go_wp2_with (first | (go_at_call 28; refine K1.mono ?_; clear K1; rintro e w1 ⟨p, cs, F, rfl, hh, hp, hF, _, hE1⟩; have H0 : Hid (GwR wc w1 P 0 S p cs (.slice none 0 0)) := ⟨_, hh.there, fun b hb => ⟨hF b hb.1, hb.2⟩, gv_nil _, (by intro x hx; simp [growH] at hx), (by simp [Value.ownBlock]), hp, hE1⟩; clear hh hp hF hE1) | fail "no arm")
      go_loopw [8, 9] (fun v q wr => ∃ k : Nat, q = .int .i64 k ∧ k ≤ n ∧ GwR wc wr P k S p cs v) (fun _ q _ => (n - (intOf q)).toNat)
      case atStart => exact ⟨0, rfl, Nat.zero_le _, H0.out⟩
      case round =>
        clear H0
        obtain ⟨k, rfl, hk, F, hI⟩ := hrel
        have HI := hid hI
        have hlL := HN.out (S.take k)
        obtain ⟨va, vc, rfl, _⟩ := hI.gv.slice
        generalize hLL : (growH (newH P) [] (S.take k)).2 = L at *
        generalize hHH : (growH (newH P) [] (S.take k)).1 = H at *
        have hLk : L.length ≤ k := by simp only [List.length_take] at hlL; omega
        clear hI hlL
        have HX : Hid (∀ w2 v' F', GwI wc w2 p cs (opH H L (oqAt S k)).1 v' (opH H L (oqAt S k)).2 F' → k < n → GwR wc w2 P (k + 1) S p cs v') := fun w2 v' F' h2 hkn => by
          refine GwR.next (F := F') (by rw [HNS.out]; exact hkn) ?_
          rw [hLL, hHH]; exact h2
        have HD : Hid (k = n → GwPost wc P S (.returned (.tuple #[.pointer (some ⟨p, 0, none⟩), .slice va L.length vc])) wr) := fun e => by
          refine ⟨p, cs, F, _, rfl, ?_⟩
          have e2 : S.take k = S := List.take_of_length_le (by rw [HNS.out]; omega)
          rw [← hLL, ← hHH, e2] at HI
          rw [← hLL, e2]
          exact HI.out
        clear hLL hHH
        by_cases hkn : k < n
        · have hkni : (k : Int) < n := by omega
          obtain ⟨b, o, rfl, sa2, sc2, hop⟩ : ∃ b o, sa = some ⟨b, o, none⟩ ∧ ∃ sa2 sc2, OqAt wc b (o + k * 7) (oqAt S k) sa2 sc2 := by
            rcases HS.out.at_ with h | ⟨b, o, rfl, h⟩
            · rw [h] at HNS; have := HNS.out; simp at this; omega
            · exact ⟨b, o, rfl, h k (by rw [HNS.out]; exact hkn)⟩
          have hop2 := hop.keep0 HI.out.ext
          have c0 := hop2.c0
          have c1 := hop2.c1
          have c2 := hop2.c2
          have c3 := hop2.c3
          have c4 := hop2.c4
          have c5 := hop2.c5
          have c6 := hop2.c6
          have HOP := hid hop2
          clear hop hop2
          generalize hq : oqAt S k = q at *
          clear hq HD
          obtain ⟨oc, hoc⟩ : ∃ oc : Obj, oc = .cells #[.int .i64 q.kd, .int .i64 q.at_, .int .i64 q.off, .int .i64 q.n, .int .i64 q.tag, .int .u64 q.v, .slice sa2 q.b.length sc2] 77 := ⟨_, rfl⟩
          have HEa := hid (Ext.alloc [] wr oc)
          have hzb : (wr.alloc oc).heap[wr.heap.size]? = some oc := heap_alloc_new wr oc
          rw [hoc] at hzb
          have z0 : (wr.alloc oc).cell? ⟨wr.heap.size, 0, none⟩ = some (.int .i64 q.kd) := by rw [hoc]; rw [cell_of_row _ _ _ _ _ _ (heap_alloc_new wr _)]; rfl
          have z1 : (wr.alloc oc).cell? ⟨wr.heap.size, 1, none⟩ = some (.int .i64 q.at_) := by rw [hoc]; rw [cell_of_row _ _ _ _ _ _ (heap_alloc_new wr _)]; rfl
          have z2 : (wr.alloc oc).cell? ⟨wr.heap.size, 2, none⟩ = some (.int .i64 q.off) := by rw [hoc]; rw [cell_of_row _ _ _ _ _ _ (heap_alloc_new wr _)]; rfl
          have z3 : (wr.alloc oc).cell? ⟨wr.heap.size, 3, none⟩ = some (.int .i64 q.n) := by rw [hoc]; rw [cell_of_row _ _ _ _ _ _ (heap_alloc_new wr _)]; rfl
          have z4 : (wr.alloc oc).cell? ⟨wr.heap.size, 4, none⟩ = some (.int .i64 q.tag) := by rw [hoc]; rw [cell_of_row _ _ _ _ _ _ (heap_alloc_new wr _)]; rfl
          have z5 : (wr.alloc oc).cell? ⟨wr.heap.size, 5, none⟩ = some (.int .u64 q.v) := by rw [hoc]; rw [cell_of_row _ _ _ _ _ _ (heap_alloc_new wr _)]; rfl
          have z6 : (wr.alloc oc).cell? ⟨wr.heap.size, 6, none⟩ = some (.slice sa2 q.b.length sc2) := by rw [hoc]; rw [cell_of_row _ _ _ _ _ _ (heap_alloc_new wr _)]; rfl
          have HIa := hid (HI.out.ext0 HEa.out)
          have HOPa := hid (HOP.out.keep0 HEa.out)
          have KA : Hid (∀ u, Ext [] (wr.alloc oc) u → Calls Tryd.prog 29 #[.slice va L.length vc, .agg #[.int .i64 q.kd, .int .i64 q.at_, .int .i64 q.off, .int .i64 q.n, .int .i64 q.tag, .int .u64 q.v, .slice sa2 q.b.length sc2]] u (SayPost u (.int .i64 (addrQ L q)))) := fun u hu =>
            address_any L _ q _ u (HIa.out.gv.keep0 hu) HI.out.gok HOP.out.off ⟨_, _, _, rfl⟩
          have HZ : Hid (∀ u w2 H', HPost u p 0 97 cs F H' (.tuple #[]) (.returned (.tuple #[])) w2 → ∀ i v, u.cell? ⟨wr.heap.size, i, none⟩ = some v → w2.cell? ⟨wr.heap.size, i, none⟩ = some v) := fun u w2 H' h i v hv => by
            obtain ⟨_, F', _, hx, _⟩ := h
            refine hx.cell hv (fun q => ?_)
            rcases q with q | q
            · have := HI.out.hw.lt; simp only at q; omega
            · have := (HI.out.fn _ q).2; simp only at this; omega
          clear hzb HEa HI HOP
          generalize hwa : wr.alloc oc = wa at *
          go_upto_region 9 with fail
          rw [← hoc, hwa]
          clear hoc c0 c1 c2 c3 c4 c5 c6
          generalize wr.heap.size = z at *
          clear hwa
          generalize hLn : L.length = ln at *
          by_cases h1 : q.kd = 1
          · have HX1 : Hid (∀ u w2, Ext [] wa u → HPost u p 0 97 cs F (freeH H (addrQ L q)).2 (.tuple #[]) (.returned (.tuple #[])) w2 → GwR wc w2 P (k + 1) S p cs (.slice va ln vc)) := fun u w2 hu h => by
              obtain ⟨F', h2⟩ := (HIa.out.ext0 hu).op h
              exact HX.out w2 _ F' (by rw [opH1 h1]; exact h2) hkn
            have KF : Hid (∀ u, Ext [] wa u → Calls Tryd.prog 19 #[.pointer (some ⟨p, 0, none⟩), .int .i64 (addrQ L q)] u (HPost u p 0 97 cs F (freeH H (addrQ L q)).2 (.int .i64 (freeH H (addrQ L q)).1))) := fun u hu => hfree_any _ u (HIa.out.hw.keep0 hu)
            have hb1 : (q.kd == 1) = true := by simp [h1]
            have KA1 := KA.out wa (Ext.refl _ _)
            clear h1 KA HOPa HX HIa
            generalize addrQ L q = aq at *
            generalize q.b.length = bl at *
            generalize q.kd = kd at *
            go_wp2_with (first | (go_at_call 29; refine KA1.mono ?_; clear KA1; rintro e u ⟨rfl, hu⟩; have KF1 := KF.out u hu; replace hu := hid hu) | (go_at_call 19; refine KF1.mono ?_; clear KF1; rintro e w2 ⟨rfl, h2⟩; replace h2 := hid h2) | fail "no arm")
            go_roundw
            case rel => exact ⟨k + 1, by go_num, by omega, HX1.out u w2 hu.out ⟨rfl, h2.out⟩⟩
            case measure => simp [intOf]; omega
          have b1 : (q.kd == 1) = false := by simpa using h1
          by_cases h5 : q.kd = 5
          · have KF : Hid (∀ u, Ext [] wa u → Calls Tryd.prog 24 #[.pointer (some ⟨p, 0, none⟩), .int .i64 (addrQ L q), .int .u64 q.v] u (fun e w2 => (∃ x, e = .returned (.int .i64 x)) ∧ GwR wc w2 P (k + 1) S p cs (.slice va ln vc) ∧ HPost u p 0 97 cs F (putH H (addrQ L q) 8 (byteOf q.v)) (.tuple #[]) (.returned (.tuple #[])) w2)) := fun u hu => (hstore_w _ q.v HOPa.out.v u (HIa.out.hw.keep0 hu)).mono (by
              rintro e w2 ⟨rfl, h⟩
              obtain ⟨F', h2⟩ := (HIa.out.ext0 hu).op (r := .tuple #[]) (e := .returned (.tuple #[])) ⟨rfl, h⟩
              exact ⟨⟨_, rfl⟩, HX.out w2 _ F' (by rw [opH5 h5]; exact h2) hkn, rfl, h⟩)
            have b5 : (q.kd == 5) = true := by simp [h5]
            have KA1 := KA.out wa.drew (Ext.drew _ _)
            clear h1 h5 KA HOPa HX HIa
            generalize addrQ L q = aq at *
            generalize q.b.length = bl at *
            generalize q.kd = kd at *
            generalize q.v = qv at *
            go_upto_region 16 with fail
            go_region_held3 (fun wc' => wc'.cell? ⟨z, 0, none⟩ = some (.int .i64 kd) ∧ wc'.cell? ⟨z, 1, none⟩ = some (.int .i64 q.at_) ∧ wc'.cell? ⟨z, 2, none⟩ = some (.int .i64 q.off) ∧ wc'.cell? ⟨z, 3, none⟩ = some (.int .i64 q.n) ∧ wc'.cell? ⟨z, 4, none⟩ = some (.int .i64 q.tag) ∧ wc'.cell? ⟨z, 5, none⟩ = some (.int .u64 qv) ∧ wc'.cell? ⟨z, 6, none⟩ = some (.slice sa2 bl sc2))
              (first | go_keep | exact ⟨hu.cell z0 (by simp), hu.cell z1 (by simp), hu.cell z2 (by simp), hu.cell z3 (by simp), hu.cell z4 (by simp), hu.cell z5 (by simp), hu.cell z6 (by simp)⟩ | exact ⟨HZ.out _ _ _ h2.2 _ _ (hu.cell z0 (by simp)), HZ.out _ _ _ h2.2 _ _ (hu.cell z1 (by simp)), HZ.out _ _ _ h2.2 _ _ (hu.cell z2 (by simp)), HZ.out _ _ _ h2.2 _ _ (hu.cell z3 (by simp)), HZ.out _ _ _ h2.2 _ _ (hu.cell z4 (by simp)), HZ.out _ _ _ h2.2 _ _ (hu.cell z5 (by simp)), HZ.out _ _ _ h2.2 _ _ (hu.cell z6 (by simp))⟩)
              (first | (go_at_call 29; refine KA1.mono ?_; rintro e u ⟨rfl, hu⟩) | (go_at_call 24; refine (KF.out u ((Ext.drew [] _).trans hu)).mono ?_; rintro e w2 ⟨⟨x, rfl⟩, h2⟩) | fail "no arm")
            have H2 := hid h2.1
            clear h2 hu KA1 KF HZ
            go_wp2_with fail
            go_roundw
            case rel => exact ⟨k + 1, by go_num, by omega, H2.out⟩
            case measure => simp [intOf]; omega
          have b5 : (q.kd == 5) = false := by simpa using h5
          by_cases h7 : q.kd = 7
          · have KW : Hid (∀ U a5 c5, Ext [] wa U → Sl U a5 q.b → Calls Tryd.prog 16 #[.pointer (some ⟨p, 0, none⟩), .int .i64 (addrQ L q), .slice a5 q.b.length c5] U (fun e w2 => (∃ x, e = .returned (.int .i64 x)) ∧ GwR wc w2 P (k + 1) S p cs (.slice va ln vc))) := fun U a5 c5 hU hs => (hwrite_w _ a5 _ c5 q.b U hs rfl (HIa.out.hw.keep0 hU)).mono (by
              rintro e w2 ⟨rfl, h⟩
              obtain ⟨F', h2⟩ := (HIa.out.ext0 hU).op (r := .tuple #[]) (e := .returned (.tuple #[])) ⟨rfl, h⟩
              exact ⟨⟨_, rfl⟩, HX.out w2 _ F' (by rw [opH7 h7]; exact h2) hkn⟩)
            have HCa : Hid (∀ u2, Ext [] (wa.alloc (.cells #[] 5)) u2 → ∃ v' wc', (Builtin.append_ #[40, 40] 40 #[.slice (some ⟨wa.heap.size, 0, none⟩) 0 0, .slice sa2 q.b.length sc2]).run Tryd.prog u2 = .ok v' wc' ∧ ∃ a c, v' = .slice a q.b.length c ∧ Sl wc' a q.b ∧ Ext [] wa wc') := fun u2 hu2 => by
              obtain ⟨v', wc', hr, a, c, h1, h2, h3, h4⟩ := copy_bytes wa sa2 sc2 q.b HOPa.out.sl HOPa.out.len u2 hu2 40
              exact ⟨v', wc', hr, a, c, h1, h2, h4⟩
            have HCb : Hid (∀ u, Ext [] wa u → ∃ v' wc', (Builtin.append_ #[40, 40] 40 #[.slice (some ⟨u.heap.size, 0, none⟩) 0 0, .slice sa2 q.b.length sc2]).run Tryd.prog (u.alloc (.cells #[] 5)) = .ok v' wc' ∧ ∃ a c, v' = .slice a q.b.length c ∧ Sl wc' a q.b ∧ Ext [] wa wc') := fun u hu => by
              obtain ⟨v', wc', hr, a, c, h1, h2, h3, h4⟩ := copy_bytes u sa2 sc2 q.b (HOPa.out.sl.keep hu (by simp)) HOPa.out.len _ (Ext.refl _ _) 40
              exact ⟨v', wc', hr, a, c, h1, h2, hu.trans h4⟩
            have HY : Hid (∀ u, Ext [] wa u → u.cell? ⟨z, 0, none⟩ = some (.int .i64 q.kd) ∧ u.cell? ⟨z, 1, none⟩ = some (.int .i64 q.at_) ∧ u.cell? ⟨z, 2, none⟩ = some (.int .i64 q.off) ∧ u.cell? ⟨z, 3, none⟩ = some (.int .i64 q.n) ∧ u.cell? ⟨z, 4, none⟩ = some (.int .i64 q.tag) ∧ u.cell? ⟨z, 5, none⟩ = some (.int .u64 q.v) ∧ u.cell? ⟨z, 6, none⟩ = some (.slice sa2 q.b.length sc2)) := fun u hu =>
              ⟨hu.cell z0 (by simp), hu.cell z1 (by simp), hu.cell z2 (by simp), hu.cell z3 (by simp), hu.cell z4 (by simp), hu.cell z5 (by simp), hu.cell z6 (by simp)⟩
            have y1 := HY.out ((wa.alloc (.cells #[] 5)).drew) ((Ext.alloc _ _ _).trans (Ext.drew _ _))
            have b7 : (q.kd == 7) = true := by simp [h7]
            clear h1 h5 h7 HOPa HX HIa HZ
            generalize addrQ L q = aq at *
            generalize hbl : q.b.length = bl at *
            generalize q.kd = kd at *
            clear hbl
            go_upto_region 18 with fail
            go_region_law (first
              | (refine step_append_own rfl _ _ 40 rfl (.slice (some ⟨wa.heap.size, 0, none⟩) 0 0) (.slice sa2 bl sc2) (by rfl) (by rfl) (HCa.out _ (Ext.drew _ _)) ?_; rintro v5 w5 ⟨a5, c5, rfl, hS5, hE5⟩; have y5 := HY.out w5 hE5)
              | (refine step_append_own rfl _ _ 40 rfl (.slice (some ⟨wa.heap.size, 0, none⟩) 0 0) (.slice sa2 bl sc2) (by rfl) (by rfl) (HCa.out _ ((Ext.drew _ _).trans hu)) ?_; rintro v5 w5 ⟨a5, c5, rfl, hS5, hE5⟩; have y5 := HY.out w5 hE5)
              | (refine step_append_own rfl _ _ 40 rfl (.slice (some ⟨u.heap.size, 0, none⟩) 0 0) (.slice sa2 bl sc2) (by rfl) (by rfl) (HCb.out u ((Ext.drew _ _).trans hu)) ?_; rintro v5 w5 ⟨a5, c5, rfl, hS5, hE5⟩; have y5 := HY.out w5 hE5)
              | (go_simp; go_wp2_with (first
                  | (go_at_call 29; refine (KA.out _ (Ext.drew _ _)).mono ?_; rintro e u ⟨rfl, hu⟩; have y6 := HY.out u ((Ext.drew _ _).trans hu); have y7 := HY.out (u.alloc (.cells #[] 5)) (((Ext.drew _ _).trans hu).trans (Ext.alloc _ _ _)))
                  | (go_at_call 29; refine (KA.out _ ((Ext.alloc _ _ _).trans (Ext.drew _ _))).mono ?_; rintro e u ⟨rfl, hu⟩; have y6 := HY.out u (((Ext.alloc _ _ _).trans (Ext.drew _ _)).trans hu))
                  | (go_at_call 29; refine (KA.out _ hE5).mono ?_; rintro e u ⟨rfl, hu⟩; have y6 := HY.out u (hE5.trans hu))
                  | (go_at_call 16; refine (KW.out _ _ _ hE5 hS5).mono ?_; rintro e w2 ⟨⟨x, rfl⟩, h2⟩)
                  | (go_at_call 16; refine (KW.out _ _ _ (hE5.trans hu) (hS5.keep hu (by simp))).mono ?_; rintro e w2 ⟨⟨x, rfl⟩, h2⟩)
                  | fail "no arm"))
              | fail "no arm")
            all_goals
              have H2 := hid h2
              clear h2 hu y6 y5 HY KA KW HCa HCb
              go_wp2_with fail
              go_roundw
              case rel => exact ⟨k + 1, by go_num, by omega, H2.out⟩
              case measure => simp [intOf]; omega
          have b7 : (q.kd == 7) = false := by simpa using h7
          by_cases h0 : q.kd = 2 ∨ q.kd = 3 ∨ q.kd = 4 ∨ q.kd = 6 ∨ q.kd = 8
          · have H2 : Hid (GwR wc wa P (k + 1) S p cs (.slice va ln vc)) := HX.out wa _ F (by rw [opH0 h0]; exact HIa.out) hkn
            clear h1 h5 h7 KA HOPa HX HIa HZ
            generalize q.b.length = bl at *
            generalize q.kd = kd at *
            rcases h0 with rfl | rfl | rfl | rfl | rfl
            all_goals
              go_wp2_with fail
              go_roundw
              case rel => exact ⟨k + 1, by go_num, by omega, H2.out⟩
              case measure => simp [intOf]; omega
          have b2 : (q.kd == 2) = false := by simp; omega
          have b3 : (q.kd == 3) = false := by simp; omega
          have b4 : (q.kd == 4) = false := by simp; omega
          have b6 : (q.kd == 6) = false := by simp; omega
          have b8 : (q.kd == 8) = false := by simp; omega
          have hopa := opHa (H := H) (L := L) (q := q) ⟨h1, h5, h7, h0⟩
          have hag := alloc_gok HIa.out.hw.ok q.n q.tag
          have K15 : Calls Tryd.prog 15 #[.pointer (some ⟨p, 0, none⟩), .int .i64 q.n, .int .i64 q.tag] wa (fun e w2 => e = .returned (.tuple #[.int .i64 (allocH H q.n q.tag).1, .int .i64 (allocH H q.n q.tag).2.1]) ∧ Hid (∃ F', GwI wc w2 p cs (allocH H q.n q.tag).2.2 (.slice va ln vc) L F')) := (halloc_any q.n q.tag wa (HG.out.keep0 HIa.out.ext) HIa.out.hw).mono (by
            rintro e w2 ⟨rfl, h⟩
            exact ⟨rfl, HIa.out.op (r := .tuple #[]) (e := .returned (.tuple #[])) ⟨rfl, h⟩⟩)
          rw [hopa] at HX
          clear hopa h1 h5 h7 h0 KA HOPa HIa HZ
          generalize (allocH H q.n q.tag).2.2 = H' at *
          generalize (allocH H q.n q.tag).2.1 = er at *
          generalize (allocH H q.n q.tag).1 = ad at *
          generalize q.b.length = bl at *
          generalize q.kd = kd at *
          by_cases her : er = 0
          · subst her
            simp only [if_true] at HX
            go_upto_region 12 with (first | (go_at_call 15; refine K15.mono ?_; clear K15; rintro e w2 ⟨rfl, h2⟩) | fail "no arm")
            obtain ⟨F', h2'⟩ := h2.out
            obtain ⟨v5, w5, hr5, h5⟩ := (h2'.ext0 (Ext.alloc [] w2 (.cells #[.int .i64 ad] 3))).push ⟨w2.heap.size, 0, none⟩ ad (by rw [cell_of_row _ _ _ _ _ _ (heap_alloc_new w2 _)]; rfl) (by omega) hag 24
            have H5 := hid (HX.out w5 v5 F' h5 hkn)
            clear h2 h2' h5 HX
            go_wp2_with (at_builtin; refine wpList_append_run rfl _ _ 24 rfl _ _ _ rfl rfl hr5 ?_)
            go_roundw
            case rel => exact ⟨k + 1, by go_num, by omega, H5.out⟩
            case measure => simp [intOf]; omega
          · have hb : (er == 0) = false := by simpa using her
            simp only [her, if_false] at HX
            clear her
            go_wp2_with (first | (go_at_call 15; refine K15.mono ?_; clear K15; rintro e w2 ⟨rfl, h2⟩) | fail "no arm")
            go_roundw
            case rel =>
              obtain ⟨F', h2'⟩ := h2.out
              exact ⟨k + 1, by go_num, by omega, HX.out w2 _ F' h2' hkn⟩
            case measure => simp [intOf]; omega
        · obtain rfl : k = n := by omega
          have hd := HD.out rfl
          clear HD HX HI
          have HD := hid hd
          clear hd
          generalize L.length = ln at *
          go_wp2_with fail
          go_ret2
          exact HD.out

end Go.Proofs.YtlajjcboahflbaaDoor

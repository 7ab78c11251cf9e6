/-
  All measures of a table at once: which tables are sound; no statement is proved here.
-/
import Derived.Test.YtfabhhmeanpmhaaDoorArr
namespace Go.Proofs.YtfabhhmeanpmhaaDoor
open Go.RowKit

def SurvPost (w : World) (ts : List Ty) (e : Ending) (w' : World) : Prop :=
  ∃ F r, e = .returned (.tuple #[.agg (flat F).toArray, .bool r]) ∧ F.length = 64 ∧ Ext [] w w' ∧ (r = true ↔ Sound ts) ∧ (r = true → ∀ i : Nat, i < ts.length → at' F i = M ts i)

theorem Arr.again {w : World} {b : Nat} {F : List Me} (h : Arr w b F) : Arr (w.setCells b 0 (flat F)) b F :=
  ⟨World.rangeAt_setCells_same w b 0 (flat F) (by rw [length_flat, h.l]; exact h.t), World.there_setCells h.t _ _ _, h.l⟩

theorem flat_all (F : List Me) : (flat F).toArray.all (·.oneCell') = true := all_oneCell_toArray (flat_one F)

theorem Arr.load {w : World} {b : Nat} {F : List Me} (h : Arr w b F) : (loadVar 99 ⟨b, 0, none⟩).run Tryd.prog w = .ok (.agg (flat F).toArray) w :=
  run_loadVar_mid w b 0 99 (flat F) _ h.r Tryd.underlying99 rfl (by rw [length_flat, h.l]; exact (zero_of_info info99).2)

theorem Arr.sz {w : World} {b : Nat} {F : List Me} (h : Arr w b F) : (flat F).toArray.size = 192 := by
  rw [List.size_toArray, length_flat, h.l]
theorem Arr.th {w : World} {b : Nat} {F : List Me} (h : Arr w b F) : w.there b 0 (flat F).toArray.size := by rw [h.sz]; exact h.t
theorem Arr.si {w : World} {b : Nat} {F : List Me} (h : Arr w b F) : (Tryd.prog.info? 99).map (·.size) = some (flat F).toArray.size := by rw [h.sz]; exact (zero_of_info info99).2
theorem Arr.sl {w : World} {b : Nat} {F : List Me} (h : Arr w b F) : (Tryd.prog.info? 99).map (·.size) = some (flat F).length := by rw [length_flat, h.l]; exact (zero_of_info info99).2

theorem run_head (b k : Nat) (hk : k ≤ 64) (W : World) : (Instr.sliceAt 99 (.pointer (some ⟨b, 0, none⟩)) none (some (.int .i64 (k : Int))) none).run Tryd.prog W = .ok (.slice (some ⟨b, 0, none⟩) k 64) W := by
  have ha : Tryd.prog.arrayLen 99 = 64 := by kernel_rfl
  have he : Tryd.prog.elem 99 = 79 := by kernel_rfl
  have hs : (Tryd.prog.info? 79).map (·.size) = some 3 := by kernel_rfl
  have hs2 : ∀ W, (sizeOf 79).run Tryd.prog W = .ok 3 W := fun W => by
    cases hq : Tryd.prog.info? 79 with
    | none => simp [hq] at hs
    | some i =>
      have : i.size = 3 := by simpa [hq] using hs
      simp [sizeOf, typeInfo, hq, this]
  rw [run_sliceAt_array_h W 99 ⟨b, 0, none⟩ (by rw [ha, he]; kernel_rfl) .i64 k (by omega) (by rw [ha]; omega), he, hs2, ha]
  simp [slicedAt, Addr.add]

theorem Arr.spots {w : World} {b : Nat} {F : List Me} (h : Arr w b F) (k : Nat) (hk : (k : Int) < 64) : w.cell? ⟨b, k * 3, none⟩ = some (.int .i64 (at' F k).width) ∧ w.cell? ⟨b, k * 3 + 1, none⟩ = some (.int .i64 (at' F k).words) ∧ w.cell? ⟨b, k * 3 + 2, none⟩ = some (.bool (at' F k).cmp) ∧
    w.frozen? ⟨b, k * 3, none⟩ = false ∧ w.frozen? ⟨b, k * 3 + 1, none⟩ = false ∧ w.frozen? ⟨b, k * 3 + 2, none⟩ = false := by
  obtain ⟨s0, s1, s2⟩ := h.mss F (fun i hi => ⟨by rw [← h.l]; exact hi, rfl⟩) k (by rw [h.l]; omega)
  simp only [Nat.zero_add] at s0 s1 s2
  have sf : ∀ i, i < 192 → w.frozen? ⟨b, i, none⟩ = false := fun i hi => by simpa using (h.t i hi).2
  exact ⟨s0, s1, s2, sf _ (by omega), sf _ (by omega), sf _ (by omega)⟩

theorem ext3 (w : World) (b o : Nat) (v0 v1 v2 : Value) : Ext [b] w (((w.setCell ⟨b, o, none⟩ v0).setCell ⟨b, o + 1, none⟩ v1).setCell ⟨b, o + 2, none⟩ v2) :=
  ((Ext.setCell _ _ _ _ (by simp)).trans (Ext.setCell _ _ _ _ (by simp))).trans (Ext.setCell _ _ _ _ (by simp))
theorem Ext.five {S : List Nat} {w w' : World} {b : Nat} {v0 v1 v2 v3 v4 : Value} (e : Ext S w w') (hs : b ∉ S) (h : w.cell? ⟨b, 0, none⟩ = some v0 ∧ w.cell? ⟨b, 1, none⟩ = some v1 ∧ w.cell? ⟨b, 2, none⟩ = some v2 ∧ w.cell? ⟨b, 3, none⟩ = some v3 ∧ w.cell? ⟨b, 4, none⟩ = some v4) :
    w'.cell? ⟨b, 0, none⟩ = some v0 ∧ w'.cell? ⟨b, 1, none⟩ = some v1 ∧ w'.cell? ⟨b, 2, none⟩ = some v2 ∧ w'.cell? ⟨b, 3, none⟩ = some v3 ∧ w'.cell? ⟨b, 4, none⟩ = some v4 :=
  ⟨e.cell h.1 hs, e.cell h.2.1 hs, e.cell h.2.2.1 hs, e.cell h.2.2.2.1 hs, e.cell h.2.2.2.2 hs⟩

theorem Arr.ops {w : World} {b : Nat} {F : List Me} (h : Arr w b F) : (flat F).length = 192 ∧ (storeCells ⟨b, 0, none⟩ (flat F)).run Tryd.prog w = .ok () (w.setCells b 0 (flat F)) := by
  refine ⟨by rw [length_flat, h.l], ?_⟩
  have hl : (flat F).length = 192 := by rw [length_flat, h.l]
  have := run_storeCells_cells (P := Tryd.prog) b 0 (flat F) 0 w (fun j hj => by simpa using (h.t j (by omega)).1) (fun j hj => by simpa using (h.t j (by omega)).2) (flat_one F)
  simpa using this

/-- What is known of the first types when all of them are in order. -/
theorem mild_of {ts : List Ty} {k : Nat} (hk : k ≤ ts.length) (h : ∀ i, i < k → OkAt ts i) : Mild (ms (ts.take k)) := by
  intro i hi
  rw [length_ms, List.length_take] at hi
  rw [at_take ts k hk i (by omega) (by omega)]
  have f := fit_of ts (i + 1) i (by omega) (by omega) (fun j hj => (h j (by omega)).1)
  have := f.w0; have := f.d0; have := f.dw; have := (h i (by omega)).2
  omega

theorem mss_of {w : World} {b k : Nat} {F : List Me} {ts : List Ty} (h : Arr w b F) (hk : k ≤ ts.length) (hk2 : k ≤ 64) (hF : ∀ i : Nat, i < k → at' F i = M ts i) : Mss w b 0 (ms (ts.take k)) :=
  h.mss _ fun i hi => by
    rw [length_ms, List.length_take] at hi
    exact ⟨by omega, by rw [at_take ts k hk i (by omega) (by omega), hF i (by omega)]⟩

theorem set_eq {F : List Me} {ts : List Ty} {k : Nat} (hl : F.length = 64) (hk : k < 64) (hF : ∀ i : Nat, i < k → at' F i = M ts i) : ∀ i : Nat, i < k + 1 → at' (F.set k (M ts k)) i = M ts i := fun i hi => by
  by_cases e : i = k
  · subst e; simp [at', List.getD, hl, hk]
  · have : at' (F.set k (M ts k)) i = at' F i := by
      simp only [at', List.getD, Int.toNat_natCast]
      rw [List.getElem?_set_ne (fun x => e x.symm)]
    rw [this, hF i (by omega)]

set_option maxRecDepth 100000 in
set_option maxHeartbeats 4000000 in
theorem survey_any (a : Option Addr) (ts : List Ty) (n c : Nat) (w : World) (hT : Tab w a ts) (hn : ts.length = n) (hc : n ≤ c) (hG : Gl w) :
    Calls Tryd.prog 67 #[.slice a n c] w (SurvPost w ts) := by
  obtain ⟨hz, hsz⟩ := zero_of_info info99
  have HT := hid hT
  have HN := hid hn
  have HG := hid hG
  have hl := hT.len
  rw [hn] at hl
  obtain ⟨Z, hZ⟩ : ∃ Z, Z = (flat (List.replicate 64 zeroMe)).toArray := ⟨_, rfl⟩
  have hA0 := Arr.new w
  rw [← hZ] at hz hA0
  generalize List.replicate 64 zeroMe = F0 at *
  have HA0 := hid hA0
  have HS := hid hsz
  clear hT hn hG hsz hZ hA0
  by_cases hn64 : n ≤ 64
  · have hd64 : decide (64 < (n : Int)) = false := decide_eq_false (by omega)
    go_enter Tryd.func67, Tryd.ntmps67
    go_wp2_with fail
    clear hz
    go_loopw [4, 5, 12] (fun _ _ u wr => ∃ k : Nat, ∃ F : List Me, u = .int .i64 k ∧ k ≤ n ∧ Arr wr w.heap.size F ∧ Ext [] w wr ∧ (∀ i : Nat, i < k → at' F i = M ts i) ∧ ∀ i, i < k → OkAt ts i) (fun _ _ u _ => (n - (intOf u)).toNat)
    case atStart => exact ⟨0, _, rfl, Nat.zero_le _, HA0.out, Ext.alloc _ _ _, fun i hi => by omega, fun i hi => by omega⟩
    case round =>
      obtain ⟨k, F, rfl, hkn, hA, hE, hF, hok⟩ := hrel
      have HA := hid hA
      have HE := hid hE
      have HF := hid hF
      have HO := hid hok
      clear hA hE hF hok
      by_cases hlt : k < n
      · obtain ⟨b, o, rfl, hta⟩ := (HT.out.keep0 HE.out).addr (by rw [HN.out]; omega)
        obtain ⟨fa, fc, c0, c1, c2, c3, c4, hfo⟩ := hta k (by rw [HN.out]; omega)
        have hE1 := Ext.alloc [] wr (.cells #[.int .i64 (tyAt ts k).kind, .int .i64 (tyAt ts k).elem, .int .i64 (tyAt ts k).key, .int .i64 (tyAt ts k).len, .slice fa (tyAt ts k).fields.length fc] 45)
        have HB := hid (Boxed.new wr (tyAt ts k) fa fc)
        have K1 := formed_any (some ⟨b, o, none⟩) ts n c k _ ((HT.out.keep0 HE.out).keep0 hE1) HN.out hc hlt ((HG.out.keep0 HE.out).keep0 hE1)
        have HFO := hid (hfo.keep0 hE1)
        have hlt2 : w.heap.size < wr.heap.size := by
          have := HA.out.t 0 (by omega)
          obtain ⟨v, hv⟩ := Option.isSome_iff_exists.1 this.1
          exact block_lt_of_cell hv
        clear hfo hta
        have HE1 := hid hE1
        clear hE1
        go_wp2_with fail
        refine K1.mono ?_
        clear K1 c0 c1 c2 c3 c4
        rintro e w2 ⟨r, rfl, hE2, hr⟩
        have hB2 := HB.out.keep0 hE2
        have HFO2 := hid (HFO.out.keep0 hE2)
        have HE2 := hid ((HE.out.trans HE1.out).trans hE2)
        have HA2 := hid ((HA.out.keep HE1.out (by simp)).keep hE2 (by simp))
        have hsz2 : wr.heap.size < w2.heap.size := block_lt_of_cell hB2.c0
        clear hE2 HB HE1 HFO
        cases r with
        | false =>
          have HR : Hid (¬ Sound ts) := fun h => by
            have := hr.2 (h.2.1 k (by rw [HN.out]; exact hlt)).1
            cases this
          clear hr hB2
          obtain ⟨g1, g2⟩ := HA2.out.ops
          have hld := (HA2.out.again).load
          go_wp2_with fail
          refine wp_load_mid 99 (.tmp 2) rfl w.heap.size 0 rfl (flat F) _ HA2.out.r Tryd.underlying99 rfl HA2.out.sl ?_
          go_wp2_with fail
          refine bodyPost_ret (v := .tuple #[.agg (flat F).toArray, .bool false]) ?_ rfl ⟨F, false, rfl, HA2.out.l, ?_, ?_, ?_⟩
          · rw [results_cell_tmp rfl]; simp [asAddr, Result.andThen, hld]
          · exact HE2.out.on (Ext.setCells _ _ _ _) (by simp)
          · exact ⟨by simp, fun h => absurd h HR.out⟩
          · simp
        | true =>
          have HR := hid (hr.1 rfl)
          obtain ⟨d0, d1, d2, d3, d4⟩ := hB2
          have hE0 : (ms (ts.take k)).length = k := by rw [length_ms, List.length_take]; have := HN.out; omega
          have HM0 := hid (mild_of (k := k) (by rw [HN.out]; omega) HO.out)
          have hME : meas (tyAt ts k) (ms (ts.take k)) = M ts k := (M_take ts k (by rw [HN.out]; exact hlt)).symm
          have KM := fun W (hW : Ext [] w2 W) => measured_any ts k (tyAt ts k) rfl fa fc w.heap.size 0 64 (ms (ts.take k)) W HR.out (HFO2.out.keep0 hW) (mss_of (HA2.out.keep hW (by simp)) (by rw [HN.out]; omega) (by omega) HF.out) hE0 HM0.out (by omega) (by have := hW.size; omega)
          rw [hME] at KM
          unfold tyVal at KM
          have hk64' : (k : Int) < 64 := by omega
          have hsl := run_head w.heap.size k (by omega)
          have hsz3 : w.heap.size < w2.heap.size := by omega
          clear hr hE0 hME
          have HKM := hid KM
          clear KM
          go_wp2_with fail
          go_region_held3 (fun w' => w'.cell? ⟨wr.heap.size, 0, none⟩ = some (.int .i64 (tyAt ts k).kind) ∧ w'.cell? ⟨wr.heap.size, 1, none⟩ = some (.int .i64 (tyAt ts k).elem) ∧ w'.cell? ⟨wr.heap.size, 2, none⟩ = some (.int .i64 (tyAt ts k).key) ∧ w'.cell? ⟨wr.heap.size, 3, none⟩ = some (.int .i64 (tyAt ts k).len) ∧ w'.cell? ⟨wr.heap.size, 4, none⟩ = some (.slice fa (tyAt ts k).fields.length fc))
            (first | exact hE4.five (by simp) (Ext.five (Ext.drew [] _) (by simp) ⟨d0, d1, d2, d3, d4⟩) | exact (ext3 _ _ _ _ _ _).five (by simp; omega) (hE4.five (by simp) (Ext.five (Ext.drew [] _) (by simp) ⟨d0, d1, d2, d3, d4⟩)) | go_keep)
            (first | (go_at_call 78; refine (HKM.out _ (Ext.drew [] _)).mono ?_; rintro e w4 ⟨rfl, hE4⟩; unfold meVal; have hA4 := Arr.keep (HA2.out.keep (Ext.drew [] _) (by simp)) hE4 (by simp); obtain ⟨s0, s1, s2, f0, f1, f2⟩ := hA4.spots k hk64'; have HA4 := hid hA4; clear hA4))
          clear d0 d1 d2 d3 d4
          have HA5 := hid (HA4.out.set k (by omega) (M ts k))
          have HE5 := hid ((HE2.out.trans (Ext.drew [] _)).trans hE4)
          have q0 := (HA5.out.spots k hk64').1
          have hat : at' (F.set k (M ts k)) k = M ts k := by simp [at', List.getD, HA4.out.l, (by omega : k < 64)]
          rw [hat] at q0
          have HE6 := hid (HE5.out.on (ext3 w4 w.heap.size (k * 3) (.int .i64 (M ts k).width) (.int .i64 (M ts k).words) (.bool (M ts k).cmp)) (by simp))
          have HSE := hid (set_eq HA4.out.l (by omega) HF.out)
          clear hat s0 s1 s2 f0 f1 f2 hsl
          generalize (((w4.setCell ⟨w.heap.size, k * 3, none⟩ (.int .i64 (M ts k).width)).setCell ⟨w.heap.size, k * 3 + 1, none⟩ (.int .i64 (M ts k).words)).setCell ⟨w.heap.size, k * 3 + 2, none⟩ (.bool (M ts k).cmp)) = w5 at *
          generalize F.set k (M ts k) = F1 at *
          by_cases h16 : (M ts k).width ≤ 16
          · have HOK : Hid (OkAt ts k) := ⟨HR.out, h16⟩
            have hd16 : decide (16 < (M ts k).width) = false := decide_eq_false (by omega)
            generalize (M ts k).width = mw at *
            go_wp2_with fail
            go_roundw
            case rel => exact ⟨k + 1, F1, by go_num, by omega, HA5.out, HE6.out, HSE.out, fun i hi => by
              rcases (by omega : i < k ∨ i = k) with h | rfl
              · exact HO.out i h
              · exact HOK.out⟩
            case measure => simp [intOf]; omega
          · have HR2 : Hid (¬ Sound ts) := fun h => h16 (h.2.1 k (by rw [HN.out]; exact hlt)).2
            have hd16 : decide (16 < (M ts k).width) = true := decide_eq_true (by omega)
            obtain ⟨g1, g2⟩ := HA5.out.ops
            have hld := (HA5.out.again).load
            generalize (M ts k).width = mw at *
            go_wp2_with fail
            refine wp_load_mid 99 (.tmp 2) rfl w.heap.size 0 rfl (flat F1) _ HA5.out.r Tryd.underlying99 rfl HA5.out.sl ?_
            go_wp2_with fail
            refine bodyPost_ret (v := .tuple #[.agg (flat F1).toArray, .bool false]) ?_ rfl ⟨F1, false, rfl, HA5.out.l, ?_, ?_, ?_⟩
            · rw [results_cell_tmp rfl]; simp [asAddr, Result.andThen, hld]
            · exact HE6.out.on (Ext.setCells _ _ _ _) (by simp)
            · exact ⟨by simp, fun h => absurd h HR2.out⟩
            · simp
      · obtain rfl : k = n := by omega
        have hlN : ts.take k = ts := by rw [← HN.out, List.take_length]
        have hMs := mss_of HA.out (k := k) (ts := ts) (by rw [HN.out]; omega) hn64 HF.out
        rw [hlN] at hMs
        have KK := fun W (hW : Ext [] wr W) => keys_any a ts k c w.heap.size 64 (ms ts) W ((HT.out.keep0 HE.out).keep0 hW) HN.out (.inr (hMs.keep hW (by simp))) (by rw [length_ms]; exact HN.out) (fun i hi h6 => by
          have := ((HO.out i hi).1.2.2.1 h6).1
          exact ⟨this.1, by have := this.2.1; rw [HN.out] at this; exact this⟩)
        have HKK := hid KK
        have hsl := run_head w.heap.size k hn64
        have h1 := flat_one F
        have hl9 := (HA.out.ops).1
        have hi := HA.out.sl
        have hu := Tryd.underlying99
        clear KK hMs hlN
        have hra := HA.out.r
        have hta := HA.out.t
        go_wp2_with fail
        go_region_held3 (fun w' => w'.rangeAt w.heap.size 0 (flat F) ∧ w'.there w.heap.size 0 192)
            (first | exact ⟨fun j v hv => hE4.cell ((Ext.drew [] _).cell (hra j v hv) (by simp)) (by simp), there_keep (there_keep hta (Ext.drew [] _) (by simp)) hE4 (by simp)⟩ | exact ⟨World.rangeAt_setCells_same _ _ _ _ (by rw [hl9]; exact there_keep (there_keep hta (Ext.drew [] _) (by simp)) hE4 (by simp)), World.there_setCells (there_keep (there_keep hta (Ext.drew [] _) (by simp)) hE4 (by simp)) _ _ _⟩ | go_keep_ranges)
            (first | (go_at_call 79; refine (HKK.out _ (Ext.drew [] _)).mono ?_; rintro e w4 ⟨r, rfl, hE4, hr⟩))
        have hA4 := (HA.out.keep (Ext.drew [] wr) (by simp)).keep hE4 (by simp)
        have hld := hA4.again.load
        go_wp2_with fail
        refine bodyPost_ret (v := .tuple #[.agg (flat F).toArray, .bool r]) ?_ rfl ⟨F, r, rfl, HA.out.l, ?_, ?_, ?_⟩
        · rw [results_cell_tmp rfl]; simp [asAddr, Result.andThen, hld]
        · exact ((HE.out.trans (Ext.drew [] _)).trans hE4).on (Ext.setCells _ _ _ _) (by simp)
        · refine hr.trans ⟨fun h => ⟨by rw [HN.out]; exact hn64, fun i hi => HO.out i (by have := HN.out; omega), fun i hi => h i (by have := HN.out; omega)⟩, fun h i hi => h.2.2 i (by have := HN.out; omega)⟩
        · intro _ i hi
          exact HF.out i (by have := HN.out; omega)
  · have HR : Hid (¬ Sound ts) := fun h => hn64 (by rw [← HN.out]; exact h.1)
    obtain ⟨g1, g2⟩ := HA0.out.ops
    have hld := (HA0.out.again).load
    go_enter Tryd.func67, Tryd.ntmps67
    go_wp2_with fail
    refine wp_load_mid 99 (.tmp 2) rfl w.heap.size 0 rfl (flat F0) _ HA0.out.r Tryd.underlying99 rfl HA0.out.sl ?_
    go_wp2_with fail
    refine bodyPost_ret (v := .tuple #[.agg (flat F0).toArray, .bool false]) ?_ rfl ⟨F0, false, rfl, HA0.out.l, ?_, ?_, ?_⟩
    · rw [results_cell_tmp rfl]; simp [asAddr, Result.andThen, hld]
    · exact (Ext.alloc [] _ _).on (Ext.setCells _ _ _ _) (by simp)
    · exact ⟨by simp, fun h => absurd h HR.out⟩
    · simp
end Go.Proofs.YtfabhhmeanpmhaaDoor

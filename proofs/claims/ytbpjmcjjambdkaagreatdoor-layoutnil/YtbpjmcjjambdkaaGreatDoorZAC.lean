/-
  TSurv, TCheck, LNil, TOwn, TCopy: joined by program; no statement is proved here.
-/
import Derived.Test.YtbpjmcjjambdkaaGreatDoorZAB
import Derived.Test.YtbpjmcjjambdkaaGreatDoorZAA
/-
  All measures of a table at once: which tables are sound; no statement is proved here.
-/
namespace Go.Proofs.YtbpjmcjjambdkaaGreatDoor.Ty
open Go.RowKit

def SurvPost (w : World) (ts : List Ty) (e : Ending) (w' : World) : Prop :=
  ∃ F r, e = .returned (.tuple #[.agg (flat F).toArray, .bool r]) ∧ F.length = 64 ∧ Ext [] w w' ∧ (r = true ↔ Sound ts) ∧ (r = true → ∀ i : Nat, i < ts.length → at' F i = M ts i)

theorem Arr.again {w : World} {b : Nat} {F : List Me} (h : Arr w b F) : Arr (w.setCells b 0 (flat F)) b F :=
  ⟨World.rangeAt_setCells_same w b 0 (flat F) (by rw [length_flat, h.l]; exact h.t), World.there_setCells h.t _ _ _, h.l⟩

theorem flat_all (F : List Me) : (flat F).toArray.all (·.oneCell') = true := all_oneCell_toArray (flat_one F)

theorem Arr.load {w : World} {b : Nat} {F : List Me} (h : Arr w b F) : (loadVar 225 ⟨b, 0, none⟩).run Tryz.prog w = .ok (.agg (flat F).toArray) w :=
  run_loadVar_mid w b 0 225 (flat F) _ h.r Tryz.underlying225 rfl (by rw [length_flat, h.l]; exact (zero_of_info info225).2)

theorem Arr.sz {w : World} {b : Nat} {F : List Me} (h : Arr w b F) : (flat F).toArray.size = 192 := by
  rw [List.size_toArray, length_flat, h.l]
theorem Arr.th {w : World} {b : Nat} {F : List Me} (h : Arr w b F) : w.there b 0 (flat F).toArray.size := by rw [h.sz]; exact h.t
theorem Arr.si {w : World} {b : Nat} {F : List Me} (h : Arr w b F) : (Tryz.prog.info? 225).map (·.size) = some (flat F).toArray.size := by rw [h.sz]; exact (zero_of_info info225).2
theorem Arr.sl {w : World} {b : Nat} {F : List Me} (h : Arr w b F) : (Tryz.prog.info? 225).map (·.size) = some (flat F).length := by rw [length_flat, h.l]; exact (zero_of_info info225).2

theorem run_head (b k : Nat) (hk : k ≤ 64) (W : World) : (Instr.sliceAt 225 (.pointer (some ⟨b, 0, none⟩)) none (some (.int .i64 (k : Int))) none).run Tryz.prog W = .ok (.slice (some ⟨b, 0, none⟩) k 64) W := by
  have ha : Tryz.prog.arrayLen 225 = 64 := by kernel_rfl
  have he : Tryz.prog.elem 225 = 172 := by kernel_rfl
  have hs : (Tryz.prog.info? 172).map (·.size) = some 3 := by kernel_rfl
  have hs2 : ∀ W, (sizeOf 172).run Tryz.prog W = .ok 3 W := fun W => by
    cases hq : Tryz.prog.info? 172 with
    | none => simp [hq] at hs
    | some i =>
      have : i.size = 3 := by simpa [hq] using hs
      simp [sizeOf, typeInfo, hq, this]
  rw [run_sliceAt_array_h W 225 ⟨b, 0, none⟩ (by rw [ha, he]; kernel_rfl) .i64 k (by omega) (by rw [ha]; omega), he, hs2, ha]
  simp [slicedAt, Addr.add]

theorem Arr.spots {w : World} {b : Nat} {F : List Me} (h : Arr w b F) (k : Nat) (hk : (k : Int) < 64) : w.cell? ⟨b, k * 3, none⟩ = some (.int .i64 (at' F k).width) ∧ w.cell? ⟨b, k * 3 + 1, none⟩ = some (.int .i64 (at' F k).words) ∧ w.cell? ⟨b, k * 3 + 2, none⟩ = some (.bool (at' F k).cmp) ∧
    w.frozen? ⟨b, k * 3, none⟩ = false ∧ w.frozen? ⟨b, k * 3 + 1, none⟩ = false ∧ w.frozen? ⟨b, k * 3 + 2, none⟩ = false := by
  obtain ⟨s0, s1, s2⟩ := h.mss F (fun i hi => ⟨by rw [← h.l]; exact hi, rfl⟩) k (by rw [h.l]; omega)
  simp only [Nat.zero_add] at s0 s1 s2
  have sf : ∀ i, i < 192 → w.frozen? ⟨b, i, none⟩ = false := fun i hi => by simpa using (h.t i hi).2
  exact ⟨s0, s1, s2, sf _ (by omega), sf _ (by omega), sf _ (by omega)⟩

theorem ext3 (w : World) (b o : Nat) (v0 v1 v2 : Value) : Ext [b] w (((w.setCell ⟨b, o, none⟩ v0).setCell ⟨b, o + 1, none⟩ v1).setCell ⟨b, o + 2, none⟩ v2) :=
  ((Ext.setCell _ _ _ _ (by simp)).trans (Ext.setCell _ _ _ _ (by simp))).trans (Ext.setCell _ _ _ _ (by simp))
theorem Ext.five {S : List Nat} {w w' : World} {b : Nat} {v0 v1 v2 v3 v4 : Value} (e : Ext S w w') (hs : b ∉ S) (h : w.cell? ⟨b, 0, none⟩ = some v0 ∧ w.cell? ⟨b, 1, none⟩ = some v1 ∧ w.cell? ⟨b, 2, none⟩ = some v2 ∧ w.cell? ⟨b, 3, none⟩ = some v3 ∧ w.cell? ⟨b, 4, none⟩ = some v4) :
    w'.cell? ⟨b, 0, none⟩ = some v0 ∧ w'.cell? ⟨b, 1, none⟩ = some v1 ∧ w'.cell? ⟨b, 2, none⟩ = some v2 ∧ w'.cell? ⟨b, 3, none⟩ = some v3 ∧ w'.cell? ⟨b, 4, none⟩ = some v4 :=
  ⟨e.cell h.1 hs, e.cell h.2.1 hs, e.cell h.2.2.1 hs, e.cell h.2.2.2.1 hs, e.cell h.2.2.2.2 hs⟩

theorem Arr.ops {w : World} {b : Nat} {F : List Me} (h : Arr w b F) : (flat F).length = 192 ∧ (storeCells ⟨b, 0, none⟩ (flat F)).run Tryz.prog w = .ok () (w.setCells b 0 (flat F)) := by
  refine ⟨by rw [length_flat, h.l], ?_⟩
  have hl : (flat F).length = 192 := by rw [length_flat, h.l]
  have := run_storeCells_cells (P := Tryz.prog) b 0 (flat F) 0 w (fun j hj => by simpa using (h.t j (by omega)).1) (fun j hj => by simpa using (h.t j (by omega)).2) (flat_one F)
  simpa using this

/-- What is known of the first types when all of them are in order. -/
theorem mild_of {ts : List Ty} {k : Nat} (hk : k ≤ ts.length) (h : ∀ i, i < k → OkAt ts i) : Mild (ms (ts.take k)) := by
  intro i hi
  rw [length_ms, List.length_take] at hi
  rw [at_take ts k hk i (by omega) (by omega)]
  have f := fit_of ts (i + 1) i (by omega) (by omega) (fun j hj => (h j (by omega)).1)
  have := f.w0; have := f.d0; have := f.dw; have := (h i (by omega)).2
  omega

theorem mss_of {w : World} {b k : Nat} {F : List Me} {ts : List Ty} (h : Arr w b F) (hk : k ≤ ts.length) (hk2 : k ≤ 64) (hF : ∀ i : Nat, i < k → at' F i = M ts i) : Mss w b 0 (ms (ts.take k)) :=
  h.mss _ fun i hi => by
    rw [length_ms, List.length_take] at hi
    exact ⟨by omega, by rw [at_take ts k hk i (by omega) (by omega), hF i (by omega)]⟩

theorem set_eq {F : List Me} {ts : List Ty} {k : Nat} (hl : F.length = 64) (hk : k < 64) (hF : ∀ i : Nat, i < k → at' F i = M ts i) : ∀ i : Nat, i < k + 1 → at' (F.set k (M ts k)) i = M ts i := fun i hi => by
  by_cases e : i = k
  · subst e; simp [at', List.getD, hl, hk]
  · have : at' (F.set k (M ts k)) i = at' F i := by
      simp only [at', List.getD, Int.toNat_natCast]
      rw [List.getElem?_set_ne (fun x => e x.symm)]
    rw [this, hF i (by omega)]

set_option maxRecDepth 100000 in
set_option maxHeartbeats 4000000 in
theorem survey_any (a : Option Addr) (ts : List Ty) (n c : Nat) (w : World) (hT : Tab w a ts) (hn : ts.length = n) (hc : n ≤ c) (hG : Gl w) :
    Calls Tryz.prog 142 #[.slice a n c] w (SurvPost w ts) := by
  obtain ⟨hz, hsz⟩ := zero_of_info info225
  have HT := hid hT
  have HN := hid hn
  have HG := hid hG
  have hl := hT.len
  rw [hn] at hl
  obtain ⟨Z, hZ⟩ : ∃ Z, Z = (flat (List.replicate 64 zeroMe)).toArray := ⟨_, rfl⟩
  have hA0 := Arr.new w
  rw [← hZ] at hz hA0
  generalize List.replicate 64 zeroMe = F0 at *
  have HA0 := hid hA0
  have HS := hid hsz
  clear hT hn hG hsz hZ hA0
  by_cases hn64 : n ≤ 64
  · have hd64 : decide (64 < (n : Int)) = false := decide_eq_false (by omega)
    go_enter Tryz.func142, Tryz.ntmps142
    go_wp2_with fail
    clear hz
    go_loopw [4, 5, 12] (fun _ _ u wr => ∃ k : Nat, ∃ F : List Me, u = .int .i64 k ∧ k ≤ n ∧ Arr wr w.heap.size F ∧ Ext [] w wr ∧ (∀ i : Nat, i < k → at' F i = M ts i) ∧ ∀ i, i < k → OkAt ts i) (fun _ _ u _ => (n - (intOf u)).toNat)
    case atStart => exact ⟨0, _, rfl, Nat.zero_le _, HA0.out, Ext.alloc _ _ _, fun i hi => by omega, fun i hi => by omega⟩
    case round =>
      obtain ⟨k, F, rfl, hkn, hA, hE, hF, hok⟩ := hrel
      have HA := hid hA
      have HE := hid hE
      have HF := hid hF
      have HO := hid hok
      clear hA hE hF hok
      by_cases hlt : k < n
      · obtain ⟨b, o, rfl, hta⟩ := (HT.out.keep0 HE.out).addr (by rw [HN.out]; omega)
        obtain ⟨fa, fc, c0, c1, c2, c3, c4, hfo⟩ := hta k (by rw [HN.out]; omega)
        have hE1 := Ext.alloc [] wr (.cells #[.int .i64 (tyAt ts k).kind, .int .i64 (tyAt ts k).elem, .int .i64 (tyAt ts k).key, .int .i64 (tyAt ts k).len, .slice fa (tyAt ts k).fields.length fc] 56)
        have HB := hid (Boxed.new wr (tyAt ts k) fa fc)
        have K1 := formed_any (some ⟨b, o, none⟩) ts n c k _ ((HT.out.keep0 HE.out).keep0 hE1) HN.out hc hlt ((HG.out.keep0 HE.out).keep0 hE1)
        have HFO := hid (hfo.keep0 hE1)
        have hlt2 : w.heap.size < wr.heap.size := by
          have := HA.out.t 0 (by omega)
          obtain ⟨v, hv⟩ := Option.isSome_iff_exists.1 this.1
          exact block_lt_of_cell hv
        clear hfo hta
        have HE1 := hid hE1
        clear hE1
        go_wp2_with fail
        refine K1.mono ?_
        clear K1 c0 c1 c2 c3 c4
        rintro e w2 ⟨r, rfl, hE2, hr⟩
        have hB2 := HB.out.keep0 hE2
        have HFO2 := hid (HFO.out.keep0 hE2)
        have HE2 := hid ((HE.out.trans HE1.out).trans hE2)
        have HA2 := hid ((HA.out.keep HE1.out (by simp)).keep hE2 (by simp))
        have hsz2 : wr.heap.size < w2.heap.size := block_lt_of_cell hB2.c0
        clear hE2 HB HE1 HFO
        cases r with
        | false =>
          have HR : Hid (¬ Sound ts) := fun h => by
            have := hr.2 (h.2.1 k (by rw [HN.out]; exact hlt)).1
            cases this
          clear hr hB2
          obtain ⟨g1, g2⟩ := HA2.out.ops
          have hld := (HA2.out.again).load
          go_wp2_with fail
          refine wp_load_mid 225 (.tmp 2) rfl w.heap.size 0 rfl (flat F) _ HA2.out.r Tryz.underlying225 rfl HA2.out.sl ?_
          go_wp2_with fail
          refine bodyPost_ret (v := .tuple #[.agg (flat F).toArray, .bool false]) ?_ rfl ⟨F, false, rfl, HA2.out.l, ?_, ?_, ?_⟩
          · rw [results_cell_tmp rfl]; simp [asAddr, Result.andThen, hld]
          · exact HE2.out.on (Ext.setCells _ _ _ _) (by simp)
          · exact ⟨by simp, fun h => absurd h HR.out⟩
          · simp
        | true =>
          have HR := hid (hr.1 rfl)
          obtain ⟨d0, d1, d2, d3, d4⟩ := hB2
          have hE0 : (ms (ts.take k)).length = k := by rw [length_ms, List.length_take]; have := HN.out; omega
          have HM0 := hid (mild_of (k := k) (by rw [HN.out]; omega) HO.out)
          have hME : meas (tyAt ts k) (ms (ts.take k)) = M ts k := (M_take ts k (by rw [HN.out]; exact hlt)).symm
          have KM := fun W (hW : Ext [] w2 W) => measured_any ts k (tyAt ts k) rfl fa fc w.heap.size 0 64 (ms (ts.take k)) W HR.out (HFO2.out.keep0 hW) (mss_of (HA2.out.keep hW (by simp)) (by rw [HN.out]; omega) (by omega) HF.out) hE0 HM0.out (by omega) (by have := hW.size; omega)
          rw [hME] at KM
          unfold tyVal at KM
          have hk64' : (k : Int) < 64 := by omega
          have hsl := run_head w.heap.size k (by omega)
          have hsz3 : w.heap.size < w2.heap.size := by omega
          clear hr hE0 hME
          have HKM := hid KM
          clear KM
          go_wp2_with fail
          go_region_held3 (fun w' => w'.cell? ⟨wr.heap.size, 0, none⟩ = some (.int .i64 (tyAt ts k).kind) ∧ w'.cell? ⟨wr.heap.size, 1, none⟩ = some (.int .i64 (tyAt ts k).elem) ∧ w'.cell? ⟨wr.heap.size, 2, none⟩ = some (.int .i64 (tyAt ts k).key) ∧ w'.cell? ⟨wr.heap.size, 3, none⟩ = some (.int .i64 (tyAt ts k).len) ∧ w'.cell? ⟨wr.heap.size, 4, none⟩ = some (.slice fa (tyAt ts k).fields.length fc))
            (first | exact hE4.five (by simp) (Ext.five (Ext.drew [] _) (by simp) ⟨d0, d1, d2, d3, d4⟩) | exact (ext3 _ _ _ _ _ _).five (by simp; omega) (hE4.five (by simp) (Ext.five (Ext.drew [] _) (by simp) ⟨d0, d1, d2, d3, d4⟩)) | go_keep)
            (first | (go_at_call 183; refine (HKM.out _ (Ext.drew [] _)).mono ?_; rintro e w4 ⟨rfl, hE4⟩; unfold meVal; have hA4 := Arr.keep (HA2.out.keep (Ext.drew [] _) (by simp)) hE4 (by simp); obtain ⟨s0, s1, s2, f0, f1, f2⟩ := hA4.spots k hk64'; have HA4 := hid hA4; clear hA4))
          clear d0 d1 d2 d3 d4
          have HA5 := hid (HA4.out.set k (by omega) (M ts k))
          have HE5 := hid ((HE2.out.trans (Ext.drew [] _)).trans hE4)
          have q0 := (HA5.out.spots k hk64').1
          have hat : at' (F.set k (M ts k)) k = M ts k := by simp [at', List.getD, HA4.out.l, (by omega : k < 64)]
          rw [hat] at q0
          have HE6 := hid (HE5.out.on (ext3 w4 w.heap.size (k * 3) (.int .i64 (M ts k).width) (.int .i64 (M ts k).words) (.bool (M ts k).cmp)) (by simp))
          have HSE := hid (set_eq HA4.out.l (by omega) HF.out)
          clear hat s0 s1 s2 f0 f1 f2 hsl
          generalize (((w4.setCell ⟨w.heap.size, k * 3, none⟩ (.int .i64 (M ts k).width)).setCell ⟨w.heap.size, k * 3 + 1, none⟩ (.int .i64 (M ts k).words)).setCell ⟨w.heap.size, k * 3 + 2, none⟩ (.bool (M ts k).cmp)) = w5 at *
          generalize F.set k (M ts k) = F1 at *
          by_cases h16 : (M ts k).width ≤ 16
          · have HOK : Hid (OkAt ts k) := ⟨HR.out, h16⟩
            have hd16 : decide (16 < (M ts k).width) = false := decide_eq_false (by omega)
            generalize (M ts k).width = mw at *
            go_wp2_with fail
            go_roundw
            case rel => exact ⟨k + 1, F1, by go_num, by omega, HA5.out, HE6.out, HSE.out, fun i hi => by
              rcases (by omega : i < k ∨ i = k) with h | rfl
              · exact HO.out i h
              · exact HOK.out⟩
            case measure => simp [intOf]; omega
          · have HR2 : Hid (¬ Sound ts) := fun h => h16 (h.2.1 k (by rw [HN.out]; exact hlt)).2
            have hd16 : decide (16 < (M ts k).width) = true := decide_eq_true (by omega)
            obtain ⟨g1, g2⟩ := HA5.out.ops
            have hld := (HA5.out.again).load
            generalize (M ts k).width = mw at *
            go_wp2_with fail
            refine wp_load_mid 225 (.tmp 2) rfl w.heap.size 0 rfl (flat F1) _ HA5.out.r Tryz.underlying225 rfl HA5.out.sl ?_
            go_wp2_with fail
            refine bodyPost_ret (v := .tuple #[.agg (flat F1).toArray, .bool false]) ?_ rfl ⟨F1, false, rfl, HA5.out.l, ?_, ?_, ?_⟩
            · rw [results_cell_tmp rfl]; simp [asAddr, Result.andThen, hld]
            · exact HE6.out.on (Ext.setCells _ _ _ _) (by simp)
            · exact ⟨by simp, fun h => absurd h HR2.out⟩
            · simp
      · obtain rfl : k = n := by omega
        have hlN : ts.take k = ts := by rw [← HN.out, List.take_length]
        have hMs := mss_of HA.out (k := k) (ts := ts) (by rw [HN.out]; omega) hn64 HF.out
        rw [hlN] at hMs
        have KK := fun W (hW : Ext [] wr W) => keys_any a ts k c w.heap.size 64 (ms ts) W ((HT.out.keep0 HE.out).keep0 hW) HN.out (.inr (hMs.keep hW (by simp))) (by rw [length_ms]; exact HN.out) (fun i hi h6 => by
          have := ((HO.out i hi).1.2.2.1 h6).1
          exact ⟨this.1, by have := this.2.1; rw [HN.out] at this; exact this⟩)
        have HKK := hid KK
        have hsl := run_head w.heap.size k hn64
        have h1 := flat_one F
        have hl9 := (HA.out.ops).1
        have hi := HA.out.sl
        have hu := Tryz.underlying225
        clear KK hMs hlN
        have hra := HA.out.r
        have hta := HA.out.t
        go_wp2_with fail
        go_region_held3 (fun w' => w'.rangeAt w.heap.size 0 (flat F) ∧ w'.there w.heap.size 0 192)
            (first | exact ⟨fun j v hv => hE4.cell ((Ext.drew [] _).cell (hra j v hv) (by simp)) (by simp), there_keep (there_keep hta (Ext.drew [] _) (by simp)) hE4 (by simp)⟩ | exact ⟨World.rangeAt_setCells_same _ _ _ _ (by rw [hl9]; exact there_keep (there_keep hta (Ext.drew [] _) (by simp)) hE4 (by simp)), World.there_setCells (there_keep (there_keep hta (Ext.drew [] _) (by simp)) hE4 (by simp)) _ _ _⟩ | go_keep_ranges)
            (first | (go_at_call 184; refine (HKK.out _ (Ext.drew [] _)).mono ?_; rintro e w4 ⟨r, rfl, hE4, hr⟩))
        have hA4 := (HA.out.keep (Ext.drew [] wr) (by simp)).keep hE4 (by simp)
        have hld := hA4.again.load
        go_wp2_with fail
        refine bodyPost_ret (v := .tuple #[.agg (flat F).toArray, .bool r]) ?_ rfl ⟨F, r, rfl, HA.out.l, ?_, ?_, ?_⟩
        · rw [results_cell_tmp rfl]; simp [asAddr, Result.andThen, hld]
        · exact ((HE.out.trans (Ext.drew [] _)).trans hE4).on (Ext.setCells _ _ _ _) (by simp)
        · refine hr.trans ⟨fun h => ⟨by rw [HN.out]; exact hn64, fun i hi => HO.out i (by have := HN.out; omega), fun i hi => h i (by have := HN.out; omega)⟩, fun h i hi => h.2.2 i (by have := HN.out; omega)⟩
        · intro _ i hi
          exact HF.out i (by have := HN.out; omega)
  · have HR : Hid (¬ Sound ts) := fun h => hn64 (by rw [← HN.out]; exact h.1)
    obtain ⟨g1, g2⟩ := HA0.out.ops
    have hld := (HA0.out.again).load
    go_enter Tryz.func142, Tryz.ntmps142
    go_wp2_with fail
    refine wp_load_mid 225 (.tmp 2) rfl w.heap.size 0 rfl (flat F0) _ HA0.out.r Tryz.underlying225 rfl HA0.out.sl ?_
    go_wp2_with fail
    refine bodyPost_ret (v := .tuple #[.agg (flat F0).toArray, .bool false]) ?_ rfl ⟨F0, false, rfl, HA0.out.l, ?_, ?_, ?_⟩
    · rw [results_cell_tmp rfl]; simp [asAddr, Result.andThen, hld]
    · exact (Ext.alloc [] _ _).on (Ext.setCells _ _ _ _) (by simp)
    · exact ⟨by simp, fun h => absurd h HR.out⟩
    · simp
end Go.Proofs.YtbpjmcjjambdkaaGreatDoor.Ty

/-
  What the program answers of a table and of a type of it; no statement is proved here.
-/
namespace Go.Proofs.YtbpjmcjjambdkaaGreatDoor.Ty
open Go.RowKit

theorem Arr.put {w : World} {b : Nat} {F0 F : List Me} (h : Arr w b F0) (hl : F.length = 64) : (flat F).length = 192 ∧ (storeCells ⟨b, 0, none⟩ (flat F)).run Tryz.prog w = .ok () (w.setCells b 0 (flat F)) ∧ Arr (w.setCells b 0 (flat F)) b F := by
  have hlen : (flat F).length = 192 := by rw [length_flat, hl]
  refine ⟨hlen, ?_, ⟨World.rangeAt_setCells_same w b 0 (flat F) (by rw [hlen]; exact h.t), World.there_setCells h.t _ _ _, hl⟩⟩
  have := run_storeCells_cells (P := Tryz.prog) b 0 (flat F) 0 w (fun j hj => by simpa using (h.t j (by omega)).1) (fun j hj => by simpa using (h.t j (by omega)).2) (flat_one F)
  simpa using this

open Classical in
/-- The error of a table. -/
noncomputable def chk (ts : List Ty) : Int := if Sound ts then 0 else 1
open Classical in
/-- The error of a table and a type. -/
noncomputable def bad (ts : List Ty) (t : Int) : Int := if Sound ts then (if 0 ≤ t ∧ t < ts.length then 0 else 2) else 1

theorem chk_yes {ts : List Ty} (h : Sound ts) : chk ts = 0 := by unfold chk; rw [if_pos h]
theorem chk_no {ts : List Ty} (h : ¬ Sound ts) : chk ts = 1 := by unfold chk; rw [if_neg h]

theorem bad_form {ts : List Ty} {t : Int} (h : ¬ Sound ts) : bad ts t = 1 := by unfold bad; rw [if_neg h]
theorem bad_arg {ts : List Ty} {t : Int} (h : Sound ts) (h2 : ¬ (0 ≤ t ∧ t < ts.length)) : bad ts t = 2 := by unfold bad; rw [if_pos h, if_neg h2]
theorem bad_ok {ts : List Ty} {t : Int} (h : Sound ts) (h2 : 0 ≤ t ∧ t < ts.length) : bad ts t = 0 := by unfold bad; rw [if_pos h, if_pos h2]

open Classical in
/-- The measure of a type of a table, or none. -/
noncomputable def mo (ts : List Ty) (t : Int) : Me := if bad ts t = 0 then M ts t else zeroMe
theorem mo_ok {ts : List Ty} {t : Int} (h : bad ts t = 0) : mo ts t = M ts t := by unfold mo; rw [if_pos h]
theorem mo_no {ts : List Ty} {t : Int} (h : bad ts t ≠ 0) : mo ts t = zeroMe := by unfold mo; rw [if_neg h]

def MoPost (w : World) (m : Me) (x : Int) (e : Ending) (w' : World) : Prop := e = .returned (.tuple #[.agg #[.int .i64 m.width, .int .i64 m.words, .bool m.cmp], .int .i64 x]) ∧ Ext [] w w'

set_option maxRecDepth 100000 in
set_option maxHeartbeats 1000000 in
theorem measureOf_any (a : Option Addr) (ts : List Ty) (n c : Nat) (t : Int) (w : World) (hT : Tab w a ts) (hn : ts.length = n) (hc : n ≤ c) (hG : Gl w) :
    Calls Tryz.prog 93 #[.slice a n c, .int .i64 t] w (MoPost w (mo ts t) (bad ts t)) := by
  obtain ⟨hz, _⟩ := zero_of_info info225
  obtain ⟨Z, hZ⟩ : ∃ Z, Z = (flat (List.replicate 64 zeroMe)).toArray := ⟨_, rfl⟩
  have hA0 := fun w => Arr.new w
  rw [← hZ] at hz hA0
  generalize List.replicate 64 zeroMe = F0 at *
  have HA0 := hid hA0
  have HN := hid hn
  have hE0 := Ext.alloc [] w (.cells #[.int .i64 0, .int .i64 0, .bool false] 172)
  have K := survey_any a ts n c _ (hT.keep0 hE0) hn hc (hG.keep0 hE0)
  have hb0 := heap_alloc_new w (.cells #[.int .i64 0, .int .i64 0, .bool false] 172)
  have HB0 := hid hb0
  have HE0 := hid hE0
  clear hZ hA0 hT hn hG hb0 hE0
  go_enter Tryz.func93, Tryz.ntmps93
  go_wp2_with fail
  refine K.mono ?_
  clear K
  rintro e w1 ⟨F, r, rfl, hl, hE, hr, hF⟩
  obtain ⟨g1, g2, hA⟩ := (HA0.out w1).put hl
  have HR := hid hr
  have HFF := hid hF
  have hE2 := Ext.alloc [] w1 (.cells Z 225)
  have hb2 := (hE2.keep (hE.keep HB0.out (by simp)) (by simp))
  have hlt : w.heap.size < w1.heap.size := by have := hE.size; simp at this; omega
  have hb3 := (Ext.setCells w1.heap.size (flat F) 0 (w1.alloc (.cells Z 225))).keep hb2 (by simp; omega)
  have HE3 := hid ((HE0.out.trans (hE.trans hE2)).on (Ext.setCells w1.heap.size (flat F) 0 (w1.alloc (.cells Z 225))) (by simp; omega))
  clear hr hF hE hl hb2 hE2
  have r0 : ((w1.alloc (.cells Z 225)).setCells w1.heap.size 0 (flat F)).cell? ⟨w.heap.size, 0, none⟩ = some (.int .i64 0) := by rw [cell_of_row _ _ _ _ _ _ hb3]; rfl
  have r1 : ((w1.alloc (.cells Z 225)).setCells w1.heap.size 0 (flat F)).cell? ⟨w.heap.size, 1, none⟩ = some (.int .i64 0) := by rw [cell_of_row _ _ _ _ _ _ hb3]; rfl
  have r2 : ((w1.alloc (.cells Z 225)).setCells w1.heap.size 0 (flat F)).cell? ⟨w.heap.size, 2, none⟩ = some (.bool false) := by rw [cell_of_row _ _ _ _ _ _ hb3]; rfl
  have rf : ∀ i, ((w1.alloc (.cells Z 225)).setCells w1.heap.size 0 (flat F)).frozen? ⟨w.heap.size, i, none⟩ = false := fun i => frozen_of_row _ _ i _ _ hb3
  clear hb3
  cases r
  · have HX : Hid (bad ts t = 1) := bad_form fun h => by have := HR.out.2 h; cases this
    clear HR HFF
    go_wp2_with fail
    have hx2 : mo ts t = zeroMe := mo_no (by rw [HX.out]; omega)
    refine bodyPost_ret (v := .tuple #[.agg #[.int .i64 0, .int .i64 0, .bool false], .int .i64 1]) (by rw [results_cell_tmp rfl]; simp [go_sem, r0, r1, r2]) rfl ⟨by rw [HX.out, hx2]; rfl, ?_⟩
    exact HE3.out.on (((Ext.setCell [w.heap.size] _ _ _ (by simp)).trans (Ext.setCell _ _ _ _ (by simp))).trans (Ext.setCell _ _ _ _ (by simp))) (by simp)
  · have HSo := hid (HR.out.1 rfl)
    have HFF2 := hid (HFF.out rfl)
    clear HR HFF
    by_cases ht : 0 ≤ t ∧ t < n
    · have HX : Hid (bad ts t = 0) := bad_ok HSo.out (by rw [HN.out]; exact ht)
      have K2 := inside_yes a n c t ((w1.alloc (.cells Z 225)).setCells w1.heap.size 0 (flat F)) ht
      obtain ⟨j, rfl⟩ : ∃ j : Nat, t = j := ⟨t.toNat, by omega⟩
      have hj : (j : Int) < 64 := by have := HSo.out.1; have := HN.out; omega
      obtain ⟨s0, s1, s2, _, _, _⟩ := hA.spots j hj
      rw [HFF2.out j (by have := HN.out; omega)] at s0 s1 s2
      have HM := hid (mo_ok HX.out)
      obtain ⟨ht0, ht1⟩ := ht
      generalize M ts j = m at *
      clear hA
      go_wp2_with (go_at_call 143; refine met K2 ?_)
      refine bodyPost_ret (v := .tuple #[.agg #[.int .i64 m.width, .int .i64 m.words, .bool m.cmp], .int .i64 0]) (by rw [results_cell_tmp rfl]; simp [go_sem, r0, r1, r2]) rfl ⟨by rw [HX.out, HM.out], ?_⟩
      exact HE3.out.on (((Ext.setCell [w.heap.size] _ _ _ (by simp)).trans (Ext.setCell _ _ _ _ (by simp))).trans (Ext.setCell _ _ _ _ (by simp))) (by simp)
    · have HX : Hid (bad ts t = 2) := bad_arg HSo.out (by rw [HN.out]; exact ht)
      have K2 := inside_no a n c t ((w1.alloc (.cells Z 225)).setCells w1.heap.size 0 (flat F)) ht
      clear ht hA
      go_wp2_with (go_at_call 143; refine met K2 ?_)
      have hx2 : mo ts t = zeroMe := mo_no (by rw [HX.out]; omega)
      refine bodyPost_ret (v := .tuple #[.agg #[.int .i64 0, .int .i64 0, .bool false], .int .i64 2]) (by rw [results_cell_tmp rfl]; simp [go_sem, r0, r1, r2]) rfl ⟨by rw [HX.out, hx2]; rfl, ?_⟩
      exact HE3.out.on (((Ext.setCell [w.heap.size] _ _ _ (by simp)).trans (Ext.setCell _ _ _ _ (by simp))).trans (Ext.setCell _ _ _ _ (by simp))) (by simp)

theorem width_any (a : Option Addr) (ts : List Ty) (n c : Nat) (t : Int) (w : World) (hT : Tab w a ts) (hn : ts.length = n) (hc : n ≤ c) (hG : Gl w) :
    Calls Tryz.prog 132 #[.slice a n c, .int .i64 t] w (SayPost w (.tuple #[.int .i64 (mo ts t).width, .int .i64 (bad ts t)])) := by
  have K := measureOf_any a ts n c t w hT hn hc hG
  clear hT hn hG
  generalize mo ts t = m at *
  generalize bad ts t = x at *
  go_enter Tryz.func132, Tryz.ntmps132
  go_wp2_with fail
  refine K.mono ?_
  rintro e w1 ⟨rfl, hE⟩
  have HE := hid hE
  clear hE K
  go_wp2_with fail
  go_ret2
  exact ⟨rfl, HE.out.trans (Ext.alloc _ _ _)⟩

end Go.Proofs.YtbpjmcjjambdkaaGreatDoor.Ty

/-
  A nil memory: what the calls of layout answer; no statement is proved here.
-/
namespace Go.Proofs.YtbpjmcjjambdkaaGreatDoor.Ty
open Go.RowKit

theorem words_any (a : Option Addr) (ts : List Ty) (n c : Nat) (t : Int) (w : World) (hT : Tab w a ts) (hn : ts.length = n) (hc : n ≤ c) (hG : Gl w) :
    Calls Tryz.prog 71 #[.slice a n c, .int .i64 t] w (SayPost w (.tuple #[.int .i64 (mo ts t).words, .int .i64 (bad ts t)])) := by
  have K := measureOf_any a ts n c t w hT hn hc hG
  clear hT hn hG
  generalize mo ts t = m at *
  generalize bad ts t = x at *
  go_enter Tryz.func71, Tryz.ntmps71
  go_wp2_with fail
  refine K.mono ?_
  rintro e w1 ⟨rfl, hE⟩
  have HE := hid hE
  clear hE K
  go_wp2_with fail
  go_ret2
  exact ⟨rfl, HE.out.trans (Ext.alloc _ _ _)⟩
/-- The error where the memory is nil. -/
noncomputable def nile (ts : List Ty) : Int := if chk ts = 0 then 2 else 1
theorem nile_of {ts : List Ty} {t : Int} : (bad ts t = 0 ∧ nile ts = 2) ∨ (bad ts t ≠ 0 ∧ nile ts = bad ts t) := by
  unfold nile
  by_cases h : Sound ts
  · rw [chk_yes h, if_pos rfl]
    by_cases h2 : 0 ≤ t ∧ t < ts.length
    · exact .inl ⟨bad_ok h h2, rfl⟩
    · rw [bad_arg h h2]; exact .inr ⟨by omega, rfl⟩
  · rw [chk_no h, if_neg (by omega), bad_form h]; exact .inr ⟨by omega, rfl⟩
theorem nile_ne (ts : List Ty) : (nile ts != 0) = true := by
  unfold nile
  split <;> rfl
set_option maxRecDepth 100000 in
theorem check_nil (a : Option Addr) (ts : List Ty) (n c : Nat) (t : Int) (w : World) (hT : Tab w a ts) (hn : ts.length = n) (hc : n ≤ c) (hG : Gl w) :
    Calls Tryz.prog 48 #[.pointer none, .slice a n c, .int .i64 t] w (SayPost w (.int .i64 (nile ts))) := by
  have K := words_any a ts n c t w hT hn hc hG
  rcases nile_of (ts := ts) (t := t) with ⟨hb, hx⟩ | ⟨hb, hx⟩
  · rw [hb] at K
    rw [hx]
    generalize (mo ts t).words = m at *
    clear hT hn hG hb hx
    go_enter Tryz.func48, Tryz.ntmps48
    go_wp2_with fail
    refine K.mono ?_
    rintro e w1 ⟨rfl, hE⟩
    have HE := hid hE
    clear hE K
    go_wp2_with fail
    go_ret
    exact ⟨rfl, HE.out⟩
  · rw [hx]
    have hb2 : (bad ts t != 0) = true := by simpa using hb
    generalize (mo ts t).words = m at *
    generalize bad ts t = x at *
    clear hT hn hG hb hx
    go_enter Tryz.func48, Tryz.ntmps48
    go_wp2_with fail
    refine K.mono ?_
    rintro e w1 ⟨rfl, hE⟩
    have HE := hid hE
    clear hE K
    go_wp2_with fail
    go_ret
    exact ⟨rfl, HE.out⟩
theorem checkValue_nil (a : Option Addr) (ts : List Ty) (n c : Nat) (t : Int) (v : Value) (w : World) (hT : Tab w a ts) (hn : ts.length = n) (hc : n ≤ c) (hG : Gl w) :
    Calls Tryz.prog 42 #[.pointer none, .slice a n c, .int .i64 t, v] w (SayPost w (.int .i64 (nile ts))) := by
  have K := check_nil a ts n c t w hT hn hc hG
  have hx := nile_ne ts
  generalize nile ts = x at *
  clear hT hn hG
  go_enter Tryz.func42, Tryz.ntmps42
  go_wp2_with fail
  refine K.mono ?_
  rintro e w1 ⟨rfl, hE⟩
  have HE := hid hE
  clear hE K
  go_wp2_with fail
  go_ret
  exact ⟨rfl, HE.out⟩
theorem save_nil (a : Option Addr) (ts : List Ty) (n c : Nat) (t : Int) (v r : Value) (w : World) (hT : Tab w a ts) (hn : ts.length = n) (hc : n ≤ c) (hG : Gl w) :
    Calls Tryz.prog 12 #[.pointer none, .slice a n c, .int .i64 t, v, r] w (SayPost w (.tuple #[.slice none 0 0, .int .i64 (nile ts)])) := by
  have K := checkValue_nil a ts n c t v w hT hn hc hG
  have hx := nile_ne ts
  generalize nile ts = x at *
  clear hT hn hG
  go_enter Tryz.func12, Tryz.ntmps12
  go_wp2_with fail
  refine K.mono ?_
  rintro e w1 ⟨rfl, hE⟩
  have HE := hid hE
  clear hE K
  go_wp2_with fail
  go_ret2
  exact ⟨rfl, HE.out⟩
theorem load_nil (a : Option Addr) (ts : List Ty) (n c : Nat) (t : Int) (v : Value) (w : World) (hT : Tab w a ts) (hn : ts.length = n) (hc : n ≤ c) (hG : Gl w) :
    Calls Tryz.prog 19 #[.pointer none, .slice a n c, .int .i64 t, v] w (SayPost w (.tuple #[.slice none 0 0, .int .i64 (nile ts)])) := by
  have K := check_nil a ts n c t w hT hn hc hG
  have hx := nile_ne ts
  generalize nile ts = x at *
  clear hT hn hG
  go_enter Tryz.func19, Tryz.ntmps19
  go_wp2_with fail
  refine K.mono ?_
  rintro e w1 ⟨rfl, hE⟩
  have HE := hid hE
  clear hE K
  go_wp2_with fail
  go_ret2
  exact ⟨rfl, HE.out⟩
theorem make_nil (a : Option Addr) (ts : List Ty) (n c : Nat) (t : Int) (v : Value) (w : World) (hT : Tab w a ts) (hn : ts.length = n) (hc : n ≤ c) (hG : Gl w) :
    Calls Tryz.prog 22 #[.pointer none, .slice a n c, .int .i64 t, v] w (SayPost w (.tuple #[.int .i64 0, .int .i64 (nile ts)])) := by
  have K := check_nil a ts n c t w hT hn hc hG
  have hx := nile_ne ts
  generalize nile ts = x at *
  clear hT hn hG
  go_enter Tryz.func22, Tryz.ntmps22
  go_wp2_with fail
  refine K.mono ?_
  rintro e w1 ⟨rfl, hE⟩
  have HE := hid hE
  clear hE K
  go_wp2_with fail
  go_ret2
  exact ⟨rfl, HE.out⟩
theorem fetch_nil (a : Option Addr) (ts : List Ty) (n c : Nat) (t : Int) (v : Value) (w : World) (hT : Tab w a ts) (hn : ts.length = n) (hc : n ≤ c) (hG : Gl w) :
    Calls Tryz.prog 24 #[.pointer none, .slice a n c, .int .i64 t, v] w (SayPost w (.tuple #[.slice none 0 0, .int .i64 (nile ts)])) := by
  have K := check_nil a ts n c t w hT hn hc hG
  have hx := nile_ne ts
  generalize nile ts = x at *
  clear hT hn hG
  go_enter Tryz.func24, Tryz.ntmps24
  go_wp2_with fail
  refine K.mono ?_
  rintro e w1 ⟨rfl, hE⟩
  have HE := hid hE
  clear hE K
  go_wp2_with fail
  go_ret2
  exact ⟨rfl, HE.out⟩
theorem keep_nil (a : Option Addr) (ts : List Ty) (n c : Nat) (t : Int) (ad v r : Value) (w : World) (hT : Tab w a ts) (hn : ts.length = n) (hc : n ≤ c) (hG : Gl w) :
    Calls Tryz.prog 27 #[.pointer none, .slice a n c, .int .i64 t, ad, v, r] w (SayPost w (.int .i64 (nile ts))) := by
  have K := checkValue_nil a ts n c t v w hT hn hc hG
  have hx := nile_ne ts
  generalize nile ts = x at *
  clear hT hn hG
  go_enter Tryz.func27, Tryz.ntmps27
  go_wp2_with fail
  refine K.mono ?_
  rintro e w1 ⟨rfl, hE⟩
  have HE := hid hE
  clear hE K
  go_wp2_with fail
  go_ret
  exact ⟨rfl, HE.out⟩
end Go.Proofs.YtbpjmcjjambdkaaGreatDoor.Ty

/-
  Slices that a call has for its own, and what append makes of them; no statement is proved here.
-/
namespace Go.Proofs.YtbpjmcjjambdkaaGreatDoor.Ty
open Go.RowKit

theorem own_keep {S : List Nat} {w w' : World} {base : Nat} {e : TypeId} {s : Nat} {v : Value} {n : Nat} {xs : List Value} (h : w.ownsRow base e s v n xs) (x : Ext S w w') (hs : ∀ b ∈ S, v.ownBlock ≠ some b) : w'.ownsRow base e s v n xs := by
  refine ⟨h.1, ?_⟩
  rcases h.2 with h | ⟨g, cap, cur, rfl, h1, h2, h3⟩
  · exact .inl h
  · exact .inr ⟨g, cap, cur, rfl, h1, x.keep h2 (fun hg => hs g hg rfl), h3⟩
theorem own_keep0 {w w' : World} {base : Nat} {e : TypeId} {s : Nat} {v : Value} {n : Nat} {xs : List Value} (h : w.ownsRow base e s v n xs) (x : Ext [] w w') : w'.ownsRow base e s v n xs := own_keep h x (by simp)
theorem own_base {w : World} {base base' : Nat} {e : TypeId} {s : Nat} {v : Value} {n : Nat} {xs : List Value} (h : w.ownsRow base e s v n xs) (hb : base' ≤ base) : w.ownsRow base' e s v n xs := by
  refine ⟨h.1, ?_⟩
  rcases h.2 with h | ⟨g, cap, cur, h0, h1, h2⟩
  · exact .inl h
  · exact .inr ⟨g, cap, cur, h0, by omega, h2⟩
theorem own_nil (w : World) (base : Nat) (e : TypeId) (s : Nat) : w.ownsRow base e s (.slice none 0 0) 0 [] := ⟨by simp, .inl ⟨rfl, rfl⟩⟩

/-- The value is a slice. -/
theorem own_slice {w : World} {base : Nat} {e : TypeId} {s : Nat} {v : Value} {n : Nat} {xs : List Value} (h : w.ownsRow base e s v n xs) : ∃ a c, v = .slice a n c ∧ n ≤ c := by
  rcases h.2 with ⟨rfl, rfl⟩ | ⟨g, cap, cur, rfl, h1, h2, h3, _⟩
  · exact ⟨none, 0, rfl, Nat.le_refl _⟩
  · exact ⟨_, _, rfl, h3⟩
theorem own_vs {w : World} {base : Nat} {e : TypeId} {a : Option Addr} {m n c : Nat} {xs : List Value} (h : w.ownsRow base e 1 (.slice a m c) n xs) : Vs w a xs := by
  have hl := h.1
  rcases h.2 with ⟨h1, h2⟩ | ⟨g, cap, cur, h0, h1, h2, h3, h4, h5, h6⟩
  · left
    exact List.length_eq_zero_iff.1 (by omega)
  · right
    cases h0
    refine ⟨g, 0, rfl, fun j hj => ?_⟩
    rw [Nat.zero_add, cell_of_row w g j _ _ _ h2]
    have : (cur.toList.take (m * 1))[j]? = cur[j]? := by
      rw [List.getElem?_take, if_pos (by omega)]; simp
    rw [← this, h6]
theorem own_lt {w : World} {base : Nat} {e : TypeId} {s n : Nat} {v : Value} {xs : List Value} (h : w.ownsRow base e s v n xs) : ∀ g, v.ownBlock = some g → base ≤ g ∧ g < w.heap.size := by
  intro g hg
  rcases h.2 with ⟨rfl, _⟩ | ⟨g', cap, cur, rfl, h1, h2, _⟩
  · simp [Value.ownBlock] at hg
  · simp [Value.ownBlock] at hg
    subst hg
    exact ⟨h1, lt_of_heap h2⟩

theorem info_parts {P : Program} {t : TypeId} {z : Value} {s b : Nat} (h : (P.info? t).map (fun i => (i.zero, i.size, i.bytes)) = some (some z, s, b)) : ∃ i, P.info? t = some i ∧ i.zero = some z ∧ i.size = s ∧ i.bytes = b := by
  cases hq : P.info? t with
  | none => simp [hq] at h
  | some i =>
    simp [hq] at h
    exact ⟨i, rfl, h.1, h.2.1, h.2.2⟩
theorem info3 : (Tryz.prog.info? 3).map (fun i => (i.zero, i.size, i.bytes)) = some (some (.int .i64 0), 1, 8) := by kernel_rfl
theorem info4 : (Tryz.prog.info? 4).map (fun i => (i.zero, i.size, i.bytes)) = some (some (.bool false), 1, 1) := by kernel_rfl
theorem info5 : (Tryz.prog.info? 5).map (fun i => (i.zero, i.size, i.bytes)) = some (some (.int .u8 0), 1, 1) := by kernel_rfl
theorem info56 : (Tryz.prog.info? 56).map (fun i => (i.zero, i.size, i.bytes)) = some (some (.agg #[.int .i64 0, .int .i64 0, .int .i64 0, .int .i64 0, .slice none 0 0]), 5, 56) := by kernel_rfl

/-- append, met by what its run is known to be. -/
theorem wpList_append_run {P : Program} {w w' : World} {ops : Array Oper} {rest : List Oper} {o : Oper} {a : Act} {Q : Exit → Act → World → Prop} (hgd : o.guard = none) (s x : Operand) (t : TypeId)
    (ho : o.op = .call { callee := .builtin .append, args := #[s, x], argTypes := #[t, t] }) (vs vx v' : Value) (hs : a.eval s = vs) (hx : a.eval x = vx)
    (hr : (Builtin.append_ #[t, t] o.type #[vs, vx]).run P w = .ok v' w') (h : wpList P ops Q rest (a.put o.dst v') w') : wpList P ops Q (o :: rest) a w := by
  refine wpList_plain hgd fun K hK => ?_
  unfold Oper.wp execOp
  simp only [ho, resolve, invoke, builtin, Sem.run_bind, Sem.run_pure, Result.andThen_ok, List.map_toArray, List.map_cons, List.map_nil, hs, hx, hr]
  exact hK _ _ h

theorem run_append_none {P : Program} (w : World) (base : Nat) (t ty e : TypeId) (i : TypeInfo) (size : Nat) (ht : P.underlying t = some (.slice e)) (hi : P.info? e = some i)
    (v : Value) (n : Nat) (xs : List Value) (hown : w.ownsRow base e size v n xs) (c : Nat) : (Builtin.append_ #[t, t] ty #[v, .slice none 0 c]).run P w = .ok v w := by
  rcases hown.2 with ⟨rfl, rfl⟩ | ⟨g, cap, cur, rfl, _, _, hnc, _⟩
  · simp [Builtin.append_, run_underlying ht, sizeOf, typeInfo, hi, Builtin.lenOf, Builtin.firstCells]
  · simp [Builtin.append_, run_underlying ht, sizeOf, typeInfo, hi, Builtin.lenOf, Builtin.firstCells, hnc, storeCells]

/-- append of elements of one cell each onto a slice of one's own: only what is new since w0 turns. -/
theorem app_own (w0 w : World) (hE : Ext [] w0 w) (t ty e : TypeId) (z : Value) (B : Nat) (ht : Tryz.prog.underlying t = some (.slice e)) (hi : (Tryz.prog.info? e).map (fun i => (i.zero, i.size, i.bytes)) = some (some z, 1, B)) (hzs : z.cells.size = 1) (hB : 1 ≤ B)
    (v : Value) (n : Nat) (xs : List Value) (hown : w.ownsRow w0.heap.size e 1 v n xs) (a : Option Addr) (m c : Nat) (ys : List Value) (hm : ys.length = m) (hys : Vs w a ys) (h1 : ∀ u ∈ ys, u.oneCell' = true) (hb : (n + m) * B ≤ 140737488355328) :
    ∃ v' w', (Builtin.append_ #[t, t] ty #[v, .slice a m c]).run Tryz.prog w = .ok v' w' ∧ w'.ownsRow w0.heap.size e 1 v' (n + m) (xs ++ ys) ∧ Ext [] w0 w' ∧ Ext v.ownBlock.toList w w' := by
  obtain ⟨i, hi0, hz0, hz1, hz2⟩ := info_parts hi
  have hnm : n + m ≤ 140737488355328 := Nat.le_trans (Nat.le_mul_of_pos_right _ (by omega)) hb
  have hlt := own_lt hown
  have fin : ∀ w', w.grownBy w' v.ownBlock → Ext [] w0 w' ∧ Ext v.ownBlock.toList w w' := fun w' hg => by
    have h2 := Ext.grown (S := v.ownBlock.toList) hg (by intro k hk; simp [hk])
    exact ⟨hE.on h2 (fun x hx => (hlt x (by simpa using hx)).1), h2⟩
  rcases hys with rfl | ⟨b, o, rfl, hc⟩
  · simp only [List.length_nil] at hm
    subst hm
    cases a with
    | none =>
      refine ⟨v, w, run_append_none w w0.heap.size t ty e i 1 ht hi0 v n xs hown c, by simpa using hown, hE, Ext.refl _ _⟩
    | some ad =>
      obtain ⟨v', w', hr, ho, hg, _⟩ := run_append_own (P := Tryz.prog) w w0.heap.size t ty e i z 1 B ht hi0 hz0 hz1 hz2 hzs (by decide) v n xs hown ad 0 c [] (by simp) (by simp) (by simp) (by unfold maxLen; omega) hb hE.size
      exact ⟨v', w', hr, ho, fin w' hg⟩
  · obtain ⟨v', w', hr, ho, hg, _⟩ := run_append_own (P := Tryz.prog) w w0.heap.size t ty e i z 1 B ht hi0 hz0 hz1 hz2 hzs (by decide) v n xs hown ⟨b, o, none⟩ m c ys (by omega) (fun j u hu => by
        have hj : j < ys.length := (List.getElem?_eq_some_iff.1 hu).1
        rw [Addr.add_lit, hc j hj, hu]) h1 (by unfold maxLen; omega) hb hE.size
    exact ⟨v', w', hr, ho, fin w' hg⟩

/-- A new slice of a literal's own. -/
theorem vs_new (w : World) (e : TypeId) (ys : List Value) : Vs (w.alloc (.cells ys.toArray e)) (some ⟨w.heap.size, 0, none⟩) ys := by
  right
  refine ⟨_, 0, rfl, fun j hj => ?_⟩
  rw [cell_of_row _ _ _ _ _ _ (heap_alloc_new w _)]
  simp

end Go.Proofs.YtbpjmcjjambdkaaGreatDoor.Ty

/-
  Copies of tables, which the statements make; no statement is proved here.
-/
namespace Go.Proofs.YtbpjmcjjambdkaaGreatDoor.Ty
open Go.RowKit

/-- A type's cells. -/
def tyRow (t : Ty) (g : Option Addr × Nat) : List Value := [.int .i64 t.kind, .int .i64 t.elem, .int .i64 t.key, .int .i64 t.len, .slice g.1 t.fields.length g.2]
def rows (ts : List Ty) (G : Nat → Option Addr × Nat) : Nat → List Value
  | 0 => []
  | k + 1 => rows ts G k ++ tyRow (tyAt ts k) (G k)

theorem length_rows (ts : List Ty) (G : Nat → Option Addr × Nat) : ∀ k, (rows ts G k).length = k * 5
  | 0 => rfl
  | k + 1 => by rw [rows, List.length_append, length_rows ts G k]; simp [tyRow]; omega
theorem rows_cong {ts : List Ty} {G H : Nat → Option Addr × Nat} : ∀ k, (∀ i, i < k → G i = H i) → rows ts G k = rows ts H k
  | 0, _ => rfl
  | k + 1, h => by rw [rows, rows, rows_cong k (fun i hi => h i (by omega)), h k (by omega)]
theorem rows_get (ts : List Ty) (G : Nat → Option Addr × Nat) : ∀ (n i j : Nat), i < n → j < 5 → (rows ts G n)[i * 5 + j]? = (tyRow (tyAt ts i) (G i))[j]?
  | 0, _, _, h, _ => by omega
  | n + 1, i, j, h, hj => by
    rw [rows]
    by_cases e : i = n
    · subst e
      rw [List.getElem?_append_right (by rw [length_rows]; omega), length_rows]
      congr 1; omega
    · rw [List.getElem?_append_left (by rw [length_rows]; omega)]
      exact rows_get ts G n i j (by omega) hj

/-- Each type's fields in a row of its own. -/
def Fs (w0 w : World) (ts : List Ty) (G : Nat → Option Addr × Nat) (k : Nat) : Prop := ∀ i, i < k → w.ownsRow w0.heap.size 3 1 (.slice (G i).1 (tyAt ts i).fields.length (G i).2) (tyAt ts i).fields.length ((tyAt ts i).fields.map (Value.int .i64))

/-- A copy. -/
structure Cp (w0 w : World) (a : Option Addr) (n c : Nat) (ts : List Ty) (G : Nat → Option Addr × Nat) : Prop where
  own : w.ownsRow w0.heap.size 56 5 (.slice a n c) n (rows ts G n)
  fs : Fs w0 w ts G n

theorem Cp.tab {w0 w : World} {a : Option Addr} {n c : Nat} {ts : List Ty} {G : Nat → Option Addr × Nat} (h : Cp w0 w a n c ts G) (hn : ts.length = n) (hl : n ≤ 2513169434843) (hf : ∀ i, i < n → (tyAt ts i).fields.length ≤ 17592186044416) : Tab w a ts := by
  subst hn
  refine ⟨?_, hl⟩
  rcases h.own.2 with ⟨h1, h2⟩ | ⟨g, cap, cur, h0, h1, h2, h3, h4, h5, h6⟩
  · left; exact List.length_eq_zero_iff.1 h2
  · right
    cases h0
    refine ⟨g, 0, rfl, fun i hi => ⟨(G i).1, (G i).2, ?_⟩⟩
    have key : ∀ j v, j < 5 → (tyRow (tyAt ts i) (G i))[j]? = some v → w.cell? ⟨g, 0 + i * 5 + j, none⟩ = some v := fun j v hj hv => by
      rw [Nat.zero_add, cell_of_row w g _ _ _ _ h2]
      have : (cur.toList.take (ts.length * 5))[i * 5 + j]? = cur[i * 5 + j]? := by
        rw [List.getElem?_take, if_pos (by omega)]; simp
      rw [← this, h6, rows_get ts G _ i j hi hj, hv]
    exact ⟨key 0 _ (by omega) rfl, key 1 _ (by omega) rfl, key 2 _ (by omega) rfl, key 3 _ (by omega) rfl, key 4 _ (by omega) rfl, own_vs (h.fs i hi), hf i hi⟩

theorem Cp.keep0 {w0 w w' : World} {a : Option Addr} {n c : Nat} {ts : List Ty} {G : Nat → Option Addr × Nat} (h : Cp w0 w a n c ts G) (e : Ext [] w w') : Cp w0 w' a n c ts G :=
  ⟨own_keep0 h.own e, fun i hi => own_keep0 (h.fs i hi) e⟩

theorem own_at {w : World} {base : Nat} {e : TypeId} {s n : Nat} {v : Value} {xs : List Value} (h : w.ownsRow base e s v n xs) {q : Nat} (hq : v.ownBlock = some q) : ∃ cur, w.heap[q]? = some (.cells cur e (0, 0)) := by
  rcases h.2 with ⟨rfl, _⟩ | ⟨g, cap, cur, rfl, h1, h2, _⟩
  · simp [Value.ownBlock] at hq
  · simp [Value.ownBlock] at hq
    subst hq
    exact ⟨cur, h2⟩
theorem own_ne {w : World} {base : Nat} {e T : TypeId} {s n : Nat} {v : Value} {xs : List Value} {cs : Array Value} {q : Nat} (h : w.ownsRow base e s v n xs) (hq : w.heap[q]? = some (.cells cs T (0, 0))) (hne : T ≠ e) : v.ownBlock ≠ some q := fun hv => by
  obtain ⟨cur, h2⟩ := own_at h hv
  rw [h2] at hq
  simp only [Option.some.injEq, Obj.cells.injEq] at hq
  exact hne hq.2.1.symm
theorem own_apart {w : World} {base base' : Nat} {e e' : TypeId} {s s' n n' : Nat} {v v' : Value} {xs xs' : List Value} (h : w.ownsRow base e s v n xs) (h' : w.ownsRow base' e' s' v' n' xs') (hne : e' ≠ e) : ∀ q ∈ v'.ownBlock.toList, v.ownBlock ≠ some q := fun q hq => by
  obtain ⟨cur, h2⟩ := own_at h' (by simpa using hq)
  exact own_ne h h2 hne

def CopyPost (w : World) (ts : List Ty) (n : Nat) (e : Ending) (w' : World) : Prop :=
  ∃ a c G, e = .returned (.slice a n c) ∧ n ≤ c ∧ Cp w w' a n c ts G ∧ Tab w' a ts ∧ Ext [] w w'

theorem set5 {w : World} {q : Nat} {T : TypeId} {a b c d e e' : Value} (h : w.heap[q]? = some (.cells #[a, b, c, d, e] T (0, 0))) : (w.setCell ⟨q, 4, none⟩ e').heap[q]? = some (.cells #[a, b, c, d, e'] T (0, 0)) := by
  rw [heap_setCell_same w q 4 _ _ _ h]; rfl

set_option maxRecDepth 100000 in
set_option maxHeartbeats 2000000 in
theorem copy_any (a : Option Addr) (ts : List Ty) (n c : Nat) (w : World) (hT : Tab w a ts) (hn : ts.length = n) : Calls Tryz.prog 13 #[.slice a n c] w (CopyPost w ts n) := by
  have HT := hid hT
  have HN := hid hn
  have hl := hT.len
  rw [hn] at hl
  have HFL : Hid (∀ i, i < n → (tyAt ts i).fields.length ≤ 17592186044416) := fun i hi => by
    obtain ⟨b, o, _, h2⟩ := hT.addr (by omega)
    obtain ⟨fa, fc, h3⟩ := h2 i (by omega)
    exact h3.f.2
  clear hT hn
  go_enter Tryz.func13, Tryz.ntmps13
  go_wp2_with fail
  go_loopw [3, 4] (fun lv u wr => ∃ k : Nat, ∃ G, u = .int .i64 k ∧ k ≤ n ∧ wr.ownsRow w.heap.size 56 5 lv k (rows ts G k) ∧ Fs w wr ts G k ∧ Ext [] w wr) (fun _ u _ => (n - (intOf u)).toNat)
  case atStart => exact ⟨0, fun _ => (none, 0), rfl, Nat.zero_le _, own_nil _ _ _ _, fun i hi => by omega, Ext.refl _ _⟩
  case round =>
    obtain ⟨k, G, rfl, hkn, hO, hFs, hE⟩ := hrel
    have HO := hid hO
    have HFs := hid hFs
    have HE := hid hE
    clear hO hFs hE
    by_cases hlt : k < n
    · obtain ⟨b, o, rfl, hta⟩ := (HT.out.keep0 HE.out).addr (by rw [HN.out]; omega)
      obtain ⟨fa, fc, htt⟩ := hta k (by rw [HN.out]; omega)
      obtain ⟨c0, c1, c2, c3, c4, hfo⟩ := htt
      clear hta
      have hE1 := (Ext.alloc [] wr (.cells #[.int .i64 (tyAt ts k).kind, .int .i64 (tyAt ts k).elem, .int .i64 (tyAt ts k).key, .int .i64 (tyAt ts k).len, .slice fa (tyAt ts k).fields.length fc] 56)).trans (Ext.alloc [] _ (.cells #[] 3))
      have hb1 : ((wr.alloc (.cells #[.int .i64 (tyAt ts k).kind, .int .i64 (tyAt ts k).elem, .int .i64 (tyAt ts k).key, .int .i64 (tyAt ts k).len, .slice fa (tyAt ts k).fields.length fc] 56)).alloc (.cells #[] 3)).heap[wr.heap.size]? = some (.cells #[.int .i64 (tyAt ts k).kind, .int .i64 (tyAt ts k).elem, .int .i64 (tyAt ts k).key, .int .i64 (tyAt ts k).len, .slice fa (tyAt ts k).fields.length fc] 56 (0, 0)) :=
        (Ext.alloc [] _ _).keep (heap_alloc_new wr _) (by simp)
      have hw0 : ((wr.alloc (.cells #[.int .i64 (tyAt ts k).kind, .int .i64 (tyAt ts k).elem, .int .i64 (tyAt ts k).key, .int .i64 (tyAt ts k).len, .slice fa (tyAt ts k).fields.length fc] 56)).alloc (.cells #[] 3)).ownsRow w.heap.size 3 1 (.slice (some ⟨wr.heap.size + 1, 0, none⟩) 0 0) 0 [] := by
        have := World.ownsRow_lit (base := w.heap.size) (e := 3) (size := 1) (wr.alloc (.cells #[.int .i64 (tyAt ts k).kind, .int .i64 (tyAt ts k).elem, .int .i64 (tyAt ts k).key, .int .i64 (tyAt ts k).len, .slice fa (tyAt ts k).fields.length fc] 56)) #[] 0 (by have := HE.out.size; simp; omega) (by unfold maxLen; omega) rfl
        simpa using this
      obtain ⟨v1, w2, hr1, hO1, hE2, hX1⟩ := app_own w _ (HE.out.trans hE1) 29 29 3 _ 8 Tryz.underlying29 info3 rfl (by omega) _ 0 [] hw0 fa (tyAt ts k).fields.length fc ((tyAt ts k).fields.map (Value.int .i64)) (by simp) (hfo.1.keep0 hE1) (fun u hu => by obtain ⟨x, _, rfl⟩ := List.mem_map.1 hu; rfl) (by have := hfo.2; omega)
      simp only [Nat.zero_add, List.nil_append, Value.ownBlock, Option.toList_some] at hO1 hX1
      have hb2 := hX1.keep hb1 (by simp)
      have hlt1 : wr.heap.size + 1 < w2.heap.size + 1 := by have := hX1.size; simp at this; omega
      obtain ⟨a1, q1, rfl, _⟩ := own_slice hO1
      have HO1 := hid hO1
      have HE2 := hid hE2
      have HX : Hid (Ext [wr.heap.size, wr.heap.size + 1] wr w2) := (hE1.mono (by simp)).trans (hX1.mono (by simp))
      have e0 : w2.cell? ⟨wr.heap.size, 0, none⟩ = some (.int .i64 (tyAt ts k).kind) := by rw [cell_of_row _ _ _ _ _ _ hb2]; rfl
      have e1 : w2.cell? ⟨wr.heap.size, 1, none⟩ = some (.int .i64 (tyAt ts k).elem) := by rw [cell_of_row _ _ _ _ _ _ hb2]; rfl
      have e2 : w2.cell? ⟨wr.heap.size, 2, none⟩ = some (.int .i64 (tyAt ts k).key) := by rw [cell_of_row _ _ _ _ _ _ hb2]; rfl
      have e3 : w2.cell? ⟨wr.heap.size, 3, none⟩ = some (.int .i64 (tyAt ts k).len) := by rw [cell_of_row _ _ _ _ _ _ hb2]; rfl
      have e4 : w2.cell? ⟨wr.heap.size, 4, none⟩ = some (.slice fa (tyAt ts k).fields.length fc) := by rw [cell_of_row _ _ _ _ _ _ hb2]; rfl
      have ef : ∀ i, w2.frozen? ⟨wr.heap.size, i, none⟩ = false := fun i => frozen_of_row _ _ i _ _ hb2
      have hE3' := Ext.setCell [wr.heap.size] w2 ⟨wr.heap.size, 4, none⟩ (.slice a1 (tyAt ts k).fields.length q1) (by simp)
      have HNE := hid (own_ne hO1 hb2 (by decide))
      clear hb1 hb2 hO1 hE2 hX1 hw0 hE1 hfo hE3'
      have hE3 := (Ext.setCell [wr.heap.size] w2 ⟨wr.heap.size, 4, none⟩ (.slice a1 (tyAt ts k).fields.length q1) (by simp)).trans (Ext.alloc [wr.heap.size] _ (.cells #[.int .i64 (tyAt ts k).kind, .int .i64 (tyAt ts k).elem, .int .i64 (tyAt ts k).key, .int .i64 (tyAt ts k).len, .slice a1 (tyAt ts k).fields.length q1] 56))
      have hEw := HE2.out.on hE3 (by simp; exact HE.out.size)
      have holt := own_lt HO.out
      have hOw := own_keep (own_keep HO.out HX.out (by simp; exact ⟨fun h => by have := holt _ h; omega, fun h => by have := holt _ h; omega⟩)) hE3 (by simp; exact fun h => by have := holt _ h; omega)
      obtain ⟨v2, w4, hr2, hO2, hg2, _⟩ := run_append_own (P := Tryz.prog) _ w.heap.size 25 25 56 _ _ 5 56 Tryz.underlying25 (info_parts info56).choose_spec.1 (info_parts info56).choose_spec.2.1 (info_parts info56).choose_spec.2.2.1 (info_parts info56).choose_spec.2.2.2 rfl (by decide) _ k _ hOw ⟨w2.heap.size, 0, none⟩ 1 1 (tyRow (tyAt ts k) (a1, q1)) rfl (fun j u hu => by
        rw [Addr.add_lit, cell_of_row _ _ _ _ _ _ (show (World.alloc _ _).heap[w2.heap.size]? = _ from by have := heap_alloc_new (w2.setCell ⟨wr.heap.size, 4, none⟩ (.slice a1 (tyAt ts k).fields.length q1)) (.cells #[.int .i64 (tyAt ts k).kind, .int .i64 (tyAt ts k).elem, .int .i64 (tyAt ts k).key, .int .i64 (tyAt ts k).len, .slice a1 (tyAt ts k).fields.length q1] 56); simpa using this)]
        rw [Nat.zero_add, ← hu]; simp [tyRow]) (by simp [tyRow, Value.oneCell']) (by unfold maxLen; omega) (by omega) hEw.size
      have hX2 : Ext (Value.ownBlock u3).toList _ w4 := Ext.grown hg2 (by intro q hq; simp [hq])
      have HO2 := hid hO2
      have HE4 := hid (hEw.on hX2 (fun x hx => (holt x (by simpa using hx)).1))
      have HF4 : Hid (Fs w w4 ts (fun i => if i = k then (a1, q1) else G i) (k + 1)) := by
        intro i hi
        by_cases e : i = k
        · subst e
          simp only [if_true]
          have h3 := own_keep HO1.out hE3 (by simpa using HNE.out)
          exact own_keep h3 hX2 (own_apart h3 hOw (by decide))
        · simp only [e, if_false]
          have hf := HFs.out i (by omega)
          have hlt2 := own_lt hf
          have h3 := own_keep (own_keep hf HX.out (by simp; exact ⟨fun h => by have := hlt2 _ h; omega, fun h => by have := hlt2 _ h; omega⟩)) hE3 (by simp; exact fun h => by have := hlt2 _ h; omega)
          exact own_keep h3 hX2 (own_apart h3 hOw (by decide))
      have HRW : Hid (rows ts G k ++ tyRow (tyAt ts k) (a1, q1) = rows ts (fun i => if i = k then (a1, q1) else G i) (k + 1)) := by
        show _ = _
        rw [rows, rows_cong k (H := fun i => if i = k then (a1, q1) else G i) (fun i hi => by simp [Nat.ne_of_lt hi])]
        simp
      clear hEw hE3 hOw hX2 hO2 hg2 holt
      go_wp2_with (first | (at_builtin; refine wpList_append_run rfl _ _ 29 rfl _ _ _ rfl rfl hr1 ?_) | (at_builtin; refine wpList_append_run rfl _ _ 25 rfl _ _ _ rfl rfl hr2 ?_))
      go_roundw
      case rel => exact ⟨k + 1, fun i => if i = k then (a1, q1) else G i, by go_num, by omega, by rw [← HRW.out]; exact HO2.out, HF4.out, HE4.out⟩
      case measure => simp [intOf]; omega
    · obtain rfl : k = n := by omega
      obtain ⟨a', c', rfl, hac⟩ := own_slice HO.out
      go_wp2_with fail
      go_ret
      have hcp : Cp w wr a' k c' ts G := ⟨HO.out, HFs.out⟩
      exact ⟨a', c', G, rfl, hac, hcp, hcp.tab HN.out hl HFL.out, HE.out⟩

end Go.Proofs.YtbpjmcjjambdkaaGreatDoor.Ty

/-
  RfV: joined by program; no statement is proved here.
-/
import Derived.Test.YtkknadkcpndnaaaDoorZWC
import Derived.Test.YtkknadkcpndnaaaDoorZN
import Derived.Test.YtkknadkcpndnaaaDoorZWB
/-
  The document's table of words; no statement is proved here.
-/
namespace Go.Proofs.YtkknadkcpndnaaaDoor.Rf
open Go.RowKit Go.Shelf
open Pr (Gp GpI sq pl)
attribute [local go_sem] Oper.semAt_some run_store_func

/-- The first k slots. -/
def fsl (T : List Nat) (k : Nat) : List (Nat × Nat × Nat) := (List.range k).map (sT T)
theorem fsl_succ (T : List Nat) (k : Nat) : fsl T (k + 1) = fsl T k ++ [sT T k] := by simp [fsl, List.range_succ]
theorem fsl_len (T : List Nat) (k : Nat) : (fsl T k).length = k := by simp [fsl]
/-- What Of answers of words that have a table's shape. -/
def OfPost (w : World) (T : List Nat) (G : Nat) (e : Ending) (w' : World) : Prop := Ext [] w w' ∧ ((Sd T G ∧ ∃ p q c, e = .returned (.pointer (some ⟨p, 0, none⟩)) ∧ Rt w' p q c G T ∧ w.heap.size ≤ p ∧ w.heap.size ≤ q) ∨ (¬ Sd T G ∧ e = .returned (.pointer none)))
theorem rof_short (a : Option Addr) (n c : Nat) (T : List Nat) (hN : Ntb T n) (hno : ∀ G, ¬ Shp T G) (w : World) (hT : Wd w a T) :
    Calls Tryd.prog 10 #[.slice a n c] w fun e w' => e = .returned (.pointer none) ∧ w' = w := by
  have hnb := hN.le
  have hn := hN.len
  by_cases h3 : n < 3
  · have h3' : (n : Int) < 3 := by omega
    clear hno hT hN hn
    go_enter Tryd.func10, Tryd.ntmps10
    go_wp2
    go_ret
    exact ⟨rfl, rfl⟩
  · have h3' : ¬ (n : Int) < 3 := by omega
    obtain ⟨b, o, rfl, hc⟩ := hT.at_ (by rintro rfl; simp at hn; omega)
    have c0 := hc 0 (by omega)
    rw [Nat.add_zero] at c0
    have ht64 := getD_lt64 hN.lt 0
    by_cases h4 : 4096 < T.getD 0 0
    · have h4' : (4096 : Int) < (T.getD 0 0 : Nat) := by omega
      generalize T.getD 0 0 = t0 at *
      clear hno hT hN hn hc
      go_enter Tryd.func10, Tryd.ntmps10
      go_wp2
      go_ret
      exact ⟨rfl, rfl⟩
    · have h4' : ¬ (4096 : Int) < (T.getD 0 0 : Nat) := by omega
      by_cases hg : Gp (T.getD 0 0)
      · have hl : ((n : Nat) : Int) ≠ 3 + 17 * ((T.getD 0 0 : Nat) : Int) := fun q => hno _ ⟨hg, rfl, by omega, hN.lt⟩
        have hl' : (((n : Nat) : Int) != 3 + 17 * ((T.getD 0 0 : Nat) : Int)) = true := by simpa using hl
        have K2 := fun u => Pr.groups_any ((T.getD 0 0 : Nat) : Int) true (by simpa using Pr.gpI_nat.2 hg) u
        clear hno hT hN hn hc hg hl
        generalize T.getD 0 0 = t0 at *
        go_enter Tryd.func10, Tryd.ntmps10
        go_wp2_with (first | (go_at_call 31; refine met (K2 _) ?_))
        go_ret
        exact ⟨rfl, rfl⟩
      · have K2 := fun u => Pr.groups_any ((T.getD 0 0 : Nat) : Int) false (by simpa using fun q => hg (Pr.gpI_nat.1 q)) u
        clear hno hT hN hn hc hg
        generalize T.getD 0 0 = t0 at *
        go_enter Tryd.func10, Tryd.ntmps10
        go_wp2_with (first | (go_at_call 31; refine met (K2 _) ?_))
        go_ret
        exact ⟨rfl, rfl⟩
theorem app_slot2 (w : World) (B : Nat) (hB : B ≤ w.heap.size) (v : Value) (n : Nat) (xs : List Value) (hown : w.ownsRow B 80 3 v n xs) (a : Nat) (x y z : Nat) (hn : n ≤ 1000000) (hrow : w.heap[a]? = some (.cells #[.int .u8 (x : Nat), .int .u64 (y : Nat), .int .u64 (z : Nat)] 80 (0, 0))) :
    ∃ v' w', (Builtin.append_ #[44, 44] 44 #[v, .slice (some ⟨a, 0, none⟩) 1 1]).run Tryd.prog w = .ok v' w' ∧ w'.ownsRow B 80 3 v' (n + 1) (xs ++ [.int .u8 (x : Nat), .int .u64 (y : Nat), .int .u64 (z : Nat)]) ∧ Ext v.ownBlock.toList w w' := by
  obtain ⟨i, hi0, hz0, hz1, hz2⟩ := info_parts info80
  obtain ⟨v', w', hr, ho, hg, _⟩ := run_append_own (P := Tryd.prog) w B 44 44 80 i _ 3 24 Tryd.underlying44 hi0 hz0 hz1 hz2 rfl (by decide) v n xs hown ⟨a, 0, none⟩ 1 1 [.int .u8 (x : Nat), .int .u64 (y : Nat), .int .u64 (z : Nat)] rfl (fun j u hu => by
    rw [Addr.add_lit, Nat.zero_add, cell_of_row _ _ _ _ _ _ hrow]
    simpa using hu) (by simp [Value.oneCell']) (by unfold maxLen; omega) (by omega) hB
  exact ⟨v', w', hr, ho, Ext.grown (S := v.ownBlock.toList) hg (by intro k hk; simp [hk])⟩
theorem scl_get {L : List (Nat × Nat × Nat)} : ∀ {i : Nat} {x y z : Nat}, L[i]? = some (x, y, z) → (scl L)[i * 3]? = some (.int .u8 (x : Nat)) ∧ (scl L)[i * 3 + 1]? = some (.int .u64 (y : Nat)) ∧ (scl L)[i * 3 + 2]? = some (.int .u64 (z : Nat)) := by
  induction L with
  | nil => intro i x y z hi; simp at hi
  | cons s L ih =>
    intro i x y z hi
    have e : scl (s :: L) = [.int .u8 (s.1 : Nat), .int .u64 (s.2.1 : Nat), .int .u64 (s.2.2 : Nat)] ++ scl L := rfl
    cases i with
    | zero =>
      simp at hi
      subst hi
      rw [e]
      exact ⟨rfl, rfl, rfl⟩
    | succ i =>
      have := ih (i := i) (by simpa using hi)
      rw [e, show (i + 1) * 3 = 3 + i * 3 by omega, show 3 + i * 3 + 1 = 3 + (i * 3 + 1) by omega, show 3 + i * 3 + 2 = 3 + (i * 3 + 2) by omega, List.getElem?_append_right (by simp), List.getElem?_append_right (by simp), List.getElem?_append_right (by simp)]
      simpa using this
/-- The document's table while its slots are laid. -/
def Lay (w wr : World) (p G k : Nat) (T : List Nat) (v : Value) : Prop := wr.heap[p]? = some (.cells #[.int .i64 (G : Nat), v] 77 (0, 0)) ∧ wr.ownsRow (p + 1) 80 3 v k (scl (fsl T k)) ∧ Ext [] w wr
theorem lay_rt {w wr : World} {p G : Nat} {T : List Nat} {v : Value} (h : Lay w wr p G (8 * G) T v) (hG : 0 < G) : ∃ q c, v = .slice (some ⟨q, 0, none⟩) (8 * G) c ∧ p < q ∧ Rt wr p q c G T := by
  obtain ⟨h1, h2, _⟩ := h
  rcases h2.2 with ⟨_, e⟩ | ⟨q, c, cur, rfl, hb, hg, _, _, _, ht⟩
  · omega
  · refine ⟨q, c, rfl, by omega, h1, cur, hg, fun k hk => ?_⟩
    have hf : (fsl T (8 * G))[k]? = some ((sT T k).1, (sT T k).2.1, (sT T k).2.2) := by unfold fsl; rw [List.getElem?_map, List.getElem?_range hk]; rfl
    obtain ⟨a0, a1, a2⟩ := scl_get hf
    rw [← ht, List.getElem?_take, if_pos (by omega), Array.getElem?_toList] at a0
    rw [← ht, List.getElem?_take, if_pos (by omega), Array.getElem?_toList] at a1
    rw [← ht, List.getElem?_take, if_pos (by omega), Array.getElem?_toList] at a2
    exact ⟨a0, a1, a2⟩
set_option maxRecDepth 100000 in
set_option maxHeartbeats 100000000 in
theorem rof_shp (b o c : Nat) (T : List Nat) (G : Nat) (hP : Shp T G) (w : World) (hT : Wd w (some ⟨b, o, none⟩) T) :
    Calls Tryd.prog 10 #[.slice (some ⟨b, o, none⟩) (3 + 17 * G) c] w (OfPost w T G) := by
  have hG := hP.gp.le
  have hlen := hP.len
  have hne : T ≠ [] := by rintro rfl; simp at hlen; omega
  have K2 := fun u => Pr.groups_any ((G : Nat) : Int) true (by simpa using Pr.gpI_nat.2 hP.gp) u
  obtain ⟨_, _, heq, hc⟩ := hT.at_ hne
  cases heq
  have c0 := hc 0 (by omega)
  rw [Nat.add_zero, hP.g0] at c0
  have HP := hid hP
  have HT := hid hT
  obtain ⟨p, hp⟩ : ∃ p, w.heap.size = p := ⟨_, rfl⟩
  obtain ⟨W0, hW0⟩ : ∃ W0, w.alloc (.cells #[.int .i64 (G : Nat), .slice none 0 0] 77) = W0 := ⟨_, rfl⟩
  have HLay := hid (show Lay w W0 p G 0 T (.slice none 0 0) from ⟨by rw [← hW0, ← hp]; exact heap_alloc_new w _, own_nil _ _ _ _, by rw [← hW0]; exact Ext.alloc [] w _⟩)
  clear hc hP hT hlen
  go_enter Tryd.func10, Tryd.ntmps10
  go_wp2_with (first | (go_at_call 31; refine met (K2 _) ?_))
  try rw [hW0]
  try simp only [hp]
  clear hW0 K2 c0
  have HPw := hid hp
  clear hp
  go_loopw [4] (fun u wr => ∃ (g : Nat) (v : Value), u = .int .i64 g ∧ g ≤ G ∧ Lay w wr p G (8 * g) T v) (fun u _ => (G - (intOf u)).toNat)
  case atStart => exact ⟨0, _, rfl, Nat.zero_le _, HLay.out⟩
  case round =>
    clear HLay
    obtain ⟨g, v, rfl, hg, hLay⟩ := hrel
    have cp : wr.cell? ⟨p, 0, none⟩ = some (.int .i64 (G : Nat)) := by rw [cell_of_row _ _ _ _ _ _ hLay.1]; rfl
    by_cases hgG : g < G
    · have hgi : (g : Int) < G := by omega
      have HLay := hid hLay
      clear hLay
      go_wp2_with fail
      clear cp
      go_loopw [5] (fun u wr => ∃ (i : Nat) (v : Value), u = .int .i64 i ∧ i ≤ 8 ∧ Lay w wr p G (8 * g + i) T v) (fun u _ => (8 - (intOf u)).toNat)
      case atStart => exact ⟨0, _, rfl, Nat.zero_le _, HLay.out⟩
      case round =>
        clear HLay
        obtain ⟨i, v, rfl, hi, hLay⟩ := hrel
        by_cases hi8 : i < 8
        · have hii : (i : Int) < 8 := by omega
          obtain ⟨hb, ho, hX⟩ := hLay
          have cp1 : wr.cell? ⟨p, 1, none⟩ = some v := by rw [cell_of_row _ _ _ _ _ _ hb]; rfl
          have hpl : p < wr.heap.size := lt_of_heap hb
          obtain ⟨_, _, heq, hc⟩ := (HT.out.keep0 hX).at_ hne
          cases heq
          have cC := hc (3 + 17 * g) (by rw [HP.out.len]; omega)
          have cY := hc (3 + 17 * g + 1 + 2 * i) (by rw [HP.out.len]; omega)
          have cZ := hc (3 + 17 * g + 2 + 2 * i) (by rw [HP.out.len]; omega)
          rw [show T.getD (3 + 17 * g) 0 = cw T g from rfl] at cC
          rw [show T.getD (3 + 17 * g + 1 + 2 * i) 0 = hsw T g i from rfl] at cY
          rw [show T.getD (3 + 17 * g + 2 + 2 * i) 0 = idw T g i from rfl] at cZ
          have hbl : b < wr.heap.size := block_lt_of_cell cC
          have KB := fun u => rbyte_any (cw T g) i (HP.out.cw_lt g) hi8 u
          have hE1 := (Ext.drew [] wr).trans (Ext.alloc [] wr.drew (.cells #[.int .u8 (byt (cw T g) i : Nat), .int .u64 (hsw T g i : Nat), .int .u64 (idw T g i : Nat)] 80))
          obtain ⟨v', w', hr, ho', hx'⟩ := app_slot2 (wr.drew.alloc (.cells #[.int .u8 (byt (cw T g) i : Nat), .int .u64 (hsw T g i : Nat), .int .u64 (idw T g i : Nat)] 80)) (p + 1) (by have := hE1.size; omega) v (8 * g + i) _ (own_keep0 ho hE1) wr.heap.size _ _ _ (by omega) (heap_alloc_new wr.drew _)
          have hol := own_lt ho
          have hol' := own_lt ho'
          have hbw : w'.heap[p]? = some (.cells #[.int .i64 (G : Nat), v] 77 (0, 0)) := hx'.keep (hE1.keep hb (by simp)) (by
            intro hm
            have := (hol p (by simpa using hm)).1
            omega)
          have cp' : w'.cell? ⟨p, 1, none⟩ = some v := by rw [cell_of_row _ _ _ _ _ _ hbw]; rfl
          have fp' : w'.frozen? ⟨p, 1, none⟩ = false := frozen_of_row w' p 1 _ 77 hbw
          have hps := HPw.out
          have HNew : Hid (Lay w (w'.setCell ⟨p, 1, none⟩ v') p G (8 * g + (i + 1)) T v') := by
            refine ⟨heap_setCell_same w' p 1 _ 77 v' hbw, ?_, ?_⟩
            · have h1 := own_keep ho' (Ext.setCell [p] w' ⟨p, 1, none⟩ v' (by simp)) (fun q hq hv => by
                simp only [List.mem_singleton] at hq
                have := (hol' q hv).1
                omega)
              rw [show 8 * g + (i + 1) = 8 * g + i + 1 by omega, fsl_succ, scl_app, sT_at T g i hi8]
              exact h1
            · exact ((hX.trans hE1).on hx' (fun q hq => by have := (hol q (by simpa using hq)).1; omega)).on (Ext.setCell [p] w' ⟨p, 1, none⟩ v' (by simp)) (by simp; omega)
          have hAG : 3 + 17 * g + 2 + 2 * i < 3 + 17 * G := by omega
          have hAi : 3 + 17 * (g : Int) = ((3 + 17 * g : Nat) : Int) := by omega
          obtain ⟨a0, c0, rfl, _⟩ := own_slice ho
          obtain ⟨a1, c1, rfl, _⟩ := own_slice ho'
          have hbp : b < p := by
            obtain ⟨_, _, heq2, hc2⟩ := HT.out.at_ hne
            cases heq2
            have h1 : b < w.heap.size := block_lt_of_cell (hc2 0 (by rw [HP.out.len]; omega))
            have := HPw.out
            omega
          have hx2 := (hE1.mono (T := (Value.slice a0 (8 * g + i) c0).ownBlock.toList) (by simp)).trans hx'
          have hbo : b ∉ (Value.slice a0 (8 * g + i) c0).ownBlock.toList := fun hm => by
            have := (hol b (by simpa using hm)).1
            omega
          have hpo : p ∉ (Value.slice a0 (8 * g + i) c0).ownBlock.toList := fun hm => by
            have := (hol p (by simpa using hm)).1
            omega
          have hSa : (wr.drew).cell? ⟨p, 1, none⟩ = some (.slice a0 (8 * g + i) c0) ∧ (wr.drew).cell? ⟨b, o + (3 + 17 * g), none⟩ = some (.int .u64 (cw T g : Nat)) ∧ (wr.drew).cell? ⟨b, o + (3 + 17 * g + 1 + 2 * i), none⟩ = some (.int .u64 (hsw T g i : Nat)) ∧ (wr.drew).cell? ⟨b, o + (3 + 17 * g + 2 + 2 * i), none⟩ = some (.int .u64 (idw T g i : Nat)) := ⟨cp1, cC, cY, cZ⟩
          have hSb := And.intro (hE1.cell cp1 (by simp)) (And.intro (hE1.cell cC (by simp)) (And.intro (hE1.cell cY (by simp)) (hE1.cell cZ (by simp))))
          have hSc := And.intro (hx2.cell cp1 hpo) (And.intro (hx2.cell cC hbo) (And.intro (hx2.cell cY hbo) (hx2.cell cZ hbo)))
          clear hx2 hbo hpo cC cY cZ
          clear ho ho' hx' hE1 hX hb hbw hol hol' hc
          generalize byt (cw T g) i = x at *
          generalize hsw T g i = y at *
          generalize idw T g i = z at *
          generalize cw T g = cx at *
          generalize 3 + 17 * g = A at *
          obtain ⟨B1, hB1⟩ : ∃ B1, A + 1 + 2 * i = B1 := ⟨_, rfl⟩
          obtain ⟨B2, hB2⟩ : ∃ B2, A + 2 + 2 * i = B2 := ⟨_, rfl⟩
          rw [hB1, hB2] at hSa hSb hSc
          have hA1 : IntKind.i64.wrap ((A : Int) + 1) = (A : Int) + 1 := by rw [IntKind.wrap_i64] <;> omega
          have hA2 : IntKind.i64.wrap (2 * (i : Int)) = 2 * (i : Int) := by rw [IntKind.wrap_i64] <;> omega
          have hA3 : IntKind.i64.wrap ((A : Int) + 1 + 2 * (i : Int)) = (B1 : Int) := by rw [IntKind.wrap_i64] <;> omega
          have hA4 : IntKind.i64.wrap ((A : Int) + 2) = (A : Int) + 2 := by rw [IntKind.wrap_i64] <;> omega
          have hA5 : IntKind.i64.wrap ((A : Int) + 2 + 2 * (i : Int)) = (B2 : Int) := by rw [IntKind.wrap_i64] <;> omega
          have hb0 : (A : Int) < ((3 + 17 * G : Nat) : Int) := by omega
          have hb1 : (B1 : Int) < ((3 + 17 * G : Nat) : Int) := by omega
          have hb2 : (B2 : Int) < ((3 + 17 * G : Nat) : Int) := by omega
          have hb0' : (A : Int) < 3 + 17 * (G : Int) := by omega
          have hb1' : (B1 : Int) < 3 + 17 * (G : Int) := by omega
          have hb2' : (B2 : Int) < 3 + 17 * (G : Int) := by omega
          have hz0 : (0 : Int) ≤ (A : Int) := by omega
          have hz1 : (0 : Int) ≤ (B1 : Int) := by omega
          have hz2 : (0 : Int) ≤ (B2 : Int) := by omega
          clear hB1 hB2 hAG
          go_wp2_with fail
          refine (wpIn_wide (n := 1)).1 ?_
          refine wpIn_region_heldP (fun u => u.cell? ⟨p, 1, none⟩ = some (.slice a0 (8 * g + i) c0) ∧ u.cell? ⟨b, o + A, none⟩ = some (.int .u64 (cx : Nat)) ∧ u.cell? ⟨b, o + B1, none⟩ = some (.int .u64 (y : Nat)) ∧ u.cell? ⟨b, o + B2, none⟩ = some (.int .u64 (z : Nat))) 32 (by kernel_rfl) ?_
          refine wpAnyC_take (i := 0) (v := .pointer (some ⟨p, 0, none⟩)) rfl (by kernel_rfl) (fun _ _ _ h => h) (yieldsR_run rfl rfl (fun _ => rfl) (fun u hu => by obtain ⟨u1, u2, u3, u4⟩ := hu; go_simp)) hSa ?_
          simp only [Act.put, List.setIfInBounds_toArray]
          refine wpAnyC_take (i := 1) (v := .pointer (some ⟨p, 0, none⟩)) rfl (by kernel_rfl) (fun _ _ _ h => h) (yieldsR_run rfl rfl (fun _ => rfl) (fun u hu => by obtain ⟨u1, u2, u3, u4⟩ := hu; go_simp)) hSa ?_
          simp only [Act.put]
          refine wpAnyC_take (i := 2) (v := .pointer (some ⟨p, 0, none⟩)) rfl (by kernel_rfl) (fun _ _ _ h => h) (yieldsR_run rfl rfl (fun _ => rfl) (fun u hu => by obtain ⟨u1, u2, u3, u4⟩ := hu; go_simp)) hSa ?_
          simp only [Act.put]
          refine wpAnyC_take (i := 3) (v := .pointer (some ⟨p, 1, none⟩)) rfl (by kernel_rfl) (fun _ _ _ h => h) (yieldsR_run rfl rfl (fun _ => rfl) (fun u hu => by obtain ⟨u1, u2, u3, u4⟩ := hu; go_simp)) hSa ?_
          simp only [Act.put]
          refine wpAnyC_take (i := 4) (v := .slice a0 (8 * g + i) c0) rfl (by kernel_rfl) (fun _ _ _ h => h) (yieldsR_run rfl rfl (fun _ => rfl) (fun u hu => by obtain ⟨u1, u2, u3, u4⟩ := hu; go_simp)) hSa ?_
          simp only [Act.put]
          refine wpAnyC_take (i := 5) (v := .slice (some ⟨b, o, none⟩) (3 + 17 * G) c) rfl (by kernel_rfl) (fun _ _ _ h => h) (yieldsR_run rfl rfl (fun _ => rfl) (fun u hu => by obtain ⟨u1, u2, u3, u4⟩ := hu; go_simp)) hSa ?_
          simp only [Act.put]
          refine wpAnyC_take (i := 6) (v := .int .i64 (A : Nat)) rfl (by kernel_rfl) (fun _ _ _ h => h) (yieldsR_run rfl rfl (fun _ => rfl) (fun u hu => by obtain ⟨u1, u2, u3, u4⟩ := hu; go_simp)) hSa ?_
          simp only [Act.put]
          refine wpAnyC_take (i := 7) (v := .pointer (some ⟨b, o + A, none⟩)) rfl (by kernel_rfl) (fun _ _ _ h => h) (yieldsR_run rfl rfl (fun _ => rfl) (fun u hu => by obtain ⟨u1, u2, u3, u4⟩ := hu; go_simp)) hSa ?_
          simp only [Act.put]
          refine wpAnyC_take (i := 8) (v := .int .u64 (cx : Nat)) rfl (by kernel_rfl) (fun _ _ _ h => h) (yieldsR_run rfl rfl (fun _ => rfl) (fun u hu => by obtain ⟨u1, u2, u3, u4⟩ := hu; go_simp)) hSa ?_
          simp only [Act.put]
          refine wpAnyC_take (i := 9) (v := .int .i64 (i : Nat)) rfl (by kernel_rfl) (fun _ _ _ h => h) (yieldsR_run rfl rfl (fun _ => rfl) (fun u hu => by obtain ⟨u1, u2, u3, u4⟩ := hu; go_simp)) hSa ?_
          simp only [Act.put]
          refine wpAnyC_take (i := 11) (v := .slice (some ⟨b, o, none⟩) (3 + 17 * G) c) rfl (by kernel_rfl) (fun _ _ _ h => h) (yieldsR_run rfl rfl (fun _ => rfl) (fun u hu => by obtain ⟨u1, u2, u3, u4⟩ := hu; go_simp)) hSa ?_
          simp only [Act.put]
          refine wpAnyC_take (i := 12) (v := .int .i64 (A : Nat)) rfl (by kernel_rfl) (fun _ _ _ h => h) (yieldsR_run rfl rfl (fun _ => rfl) (fun u hu => by obtain ⟨u1, u2, u3, u4⟩ := hu; go_simp)) hSa ?_
          simp only [Act.put]
          refine wpAnyC_take (i := 13) (v := .int .i64 ((A : Int) + 1)) rfl (by kernel_rfl) (fun _ _ _ h => h) (yieldsR_run rfl rfl (fun _ => rfl) (fun u hu => by obtain ⟨u1, u2, u3, u4⟩ := hu; go_simp)) hSa ?_
          simp only [Act.put]
          refine wpAnyC_take (i := 14) (v := .int .i64 (i : Nat)) rfl (by kernel_rfl) (fun _ _ _ h => h) (yieldsR_run rfl rfl (fun _ => rfl) (fun u hu => by obtain ⟨u1, u2, u3, u4⟩ := hu; go_simp)) hSa ?_
          simp only [Act.put]
          refine wpAnyC_take (i := 15) (v := .int .i64 (2 * (i : Int))) rfl (by kernel_rfl) (fun _ _ _ h => h) (yieldsR_run rfl rfl (fun _ => rfl) (fun u hu => by obtain ⟨u1, u2, u3, u4⟩ := hu; go_simp)) hSa ?_
          simp only [Act.put]
          refine wpAnyC_take (i := 16) (v := .int .i64 (B1 : Nat)) rfl (by kernel_rfl) (fun _ _ _ h => h) (yieldsR_run rfl rfl (fun _ => rfl) (fun u hu => by obtain ⟨u1, u2, u3, u4⟩ := hu; go_simp)) hSa ?_
          simp only [Act.put]
          refine wpAnyC_take (i := 17) (v := .pointer (some ⟨b, o + B1, none⟩)) rfl (by kernel_rfl) (fun _ _ _ h => h) (yieldsR_run rfl rfl (fun _ => rfl) (fun u hu => by obtain ⟨u1, u2, u3, u4⟩ := hu; go_simp)) hSa ?_
          simp only [Act.put]
          refine wpAnyC_take (i := 18) (v := .int .u64 (y : Nat)) rfl (by kernel_rfl) (fun _ _ _ h => h) (yieldsR_run rfl rfl (fun _ => rfl) (fun u hu => by obtain ⟨u1, u2, u3, u4⟩ := hu; go_simp)) hSa ?_
          simp only [Act.put]
          refine wpAnyC_take (i := 19) (v := .slice (some ⟨b, o, none⟩) (3 + 17 * G) c) rfl (by kernel_rfl) (fun _ _ _ h => h) (yieldsR_run rfl rfl (fun _ => rfl) (fun u hu => by obtain ⟨u1, u2, u3, u4⟩ := hu; go_simp)) hSa ?_
          simp only [Act.put]
          refine wpAnyC_take (i := 20) (v := .int .i64 (A : Nat)) rfl (by kernel_rfl) (fun _ _ _ h => h) (yieldsR_run rfl rfl (fun _ => rfl) (fun u hu => by obtain ⟨u1, u2, u3, u4⟩ := hu; go_simp)) hSa ?_
          simp only [Act.put]
          refine wpAnyC_take (i := 21) (v := .int .i64 ((A : Int) + 2)) rfl (by kernel_rfl) (fun _ _ _ h => h) (yieldsR_run rfl rfl (fun _ => rfl) (fun u hu => by obtain ⟨u1, u2, u3, u4⟩ := hu; go_simp)) hSa ?_
          simp only [Act.put]
          refine wpAnyC_take (i := 22) (v := .int .i64 (i : Nat)) rfl (by kernel_rfl) (fun _ _ _ h => h) (yieldsR_run rfl rfl (fun _ => rfl) (fun u hu => by obtain ⟨u1, u2, u3, u4⟩ := hu; go_simp)) hSa ?_
          simp only [Act.put]
          refine wpAnyC_take (i := 23) (v := .int .i64 (2 * (i : Int))) rfl (by kernel_rfl) (fun _ _ _ h => h) (yieldsR_run rfl rfl (fun _ => rfl) (fun u hu => by obtain ⟨u1, u2, u3, u4⟩ := hu; go_simp)) hSa ?_
          simp only [Act.put]
          refine wpAnyC_take (i := 24) (v := .int .i64 (B2 : Nat)) rfl (by kernel_rfl) (fun _ _ _ h => h) (yieldsR_run rfl rfl (fun _ => rfl) (fun u hu => by obtain ⟨u1, u2, u3, u4⟩ := hu; go_simp)) hSa ?_
          simp only [Act.put]
          refine wpAnyC_take (i := 25) (v := .pointer (some ⟨b, o + B2, none⟩)) rfl (by kernel_rfl) (fun _ _ _ h => h) (yieldsR_run rfl rfl (fun _ => rfl) (fun u hu => by obtain ⟨u1, u2, u3, u4⟩ := hu; go_simp)) hSa ?_
          simp only [Act.put]
          refine wpAnyC_take (i := 26) (v := .int .u64 (z : Nat)) rfl (by kernel_rfl) (fun _ _ _ h => h) (yieldsR_run rfl rfl (fun _ => rfl) (fun u hu => by obtain ⟨u1, u2, u3, u4⟩ := hu; go_simp)) hSa ?_
          simp only [Act.put]
          refine wpAnyC_sole (i := 10) rfl (by kernel_rfl) (fun K1 hK1 => ?_)
          go_simp
          refine ⟨trivial, ?_⟩
          refine (callsIn_wide.2 (KB _)).mono ?_
          rintro _ _ ⟨rfl, rfl⟩
          refine hK1 _ _ (.inr hSa) ?_
          clear hK1 K1
          refine wpAnyC_take (i := 27) (v := .agg #[.int .u8 (x : Nat), .int .u64 (y : Nat), .int .u64 (z : Nat)]) rfl (by kernel_rfl) (fun _ _ _ h => h) (yieldsR_run rfl rfl (fun _ => rfl) (fun u hu => by obtain ⟨u1, u2, u3, u4⟩ := hu; go_simp)) hSa ?_
          simp only [Act.put, List.setIfInBounds_toArray]
          refine wpAnyC_sole (i := 28) rfl (by kernel_rfl) (fun K1 hK1 => ?_)
          go_simp
          refine hK1 _ _ (.inr hSb) ?_
          clear hK1 K1
          refine wpAnyC_sole (i := 29) rfl (by kernel_rfl) (fun K1 hK1 => ?_)
          refine stepR_append (fun _ => trivial) rfl _ _ 44 rfl (.slice a0 (8 * g + i) c0) (.slice (some ⟨wr.heap.size, 0, none⟩) 1 1) (.slice a1 (8 * g + i + 1) c1) rfl rfl hr ?_
          refine hK1 _ _ (.inr hSc) ?_
          clear hK1 K1
          refine wpAnyC_take (i := 30) (v := .pointer (some ⟨p, 0, none⟩)) rfl (by kernel_rfl) (fun _ _ _ h => h) (yieldsR_run rfl rfl (fun _ => rfl) (fun u hu => by obtain ⟨u1, u2, u3, u4⟩ := hu; go_simp)) hSc ?_
          simp only [Act.put, List.setIfInBounds_toArray]
          refine wpAnyC_take (i := 31) (v := .pointer (some ⟨p, 1, none⟩)) rfl (by kernel_rfl) (fun _ _ _ h => h) (yieldsR_run rfl rfl (fun _ => rfl) (fun u hu => by obtain ⟨u1, u2, u3, u4⟩ := hu; go_simp)) hSc ?_
          simp only [Act.put]
          clear hSa hSb hSc hr
          refine wpAnyC_sole (i := 32) rfl (by kernel_rfl) (fun K1 hK1 => ?_)
          go_simp
          refine hK1 _ _ (.inl rfl) ?_
          clear hK1 K1
          refine wpAnyC_doneP (by kernel_rfl) ?_
          go_wp2_with fail
          go_roundw
          case rel => exact ⟨i + 1, _, by go_num, by omega, HNew.out⟩
          case measure => simp [intOf]; omega
        · obtain rfl : i = 8 := by omega
          have HLay := hid hLay
          clear hLay
          go_wp2_with fail
          go_roundw
          case rel => exact ⟨g + 1, v, by go_num, by omega, HLay.out⟩
          case measure => simp [intOf]; omega
    · obtain rfl : g = G := by omega
      obtain ⟨q, cq, rfl, hpq, hRt⟩ := lay_rt hLay HP.out.gp.pos
      obtain ⟨_, _, hXr⟩ := hLay
      obtain ⟨_, _, heq, hc⟩ := (HT.out.keep0 hXr).at_ hne
      cases heq
      have hs1 : (wr.drew).cell? ⟨b, o + 1, none⟩ = some (.int .u64 (T.getD 1 0 : Nat)) := hc 1 (by rw [HP.out.len]; omega)
      have hs2 : (wr.drew).cell? ⟨b, o + 2, none⟩ = some (.int .u64 (T.getD 2 0 : Nat)) := hc 2 (by rw [HP.out.len]; omega)
      obtain ⟨r, hr⟩ : ∃ r : Bool, r = true ↔ ∀ k, k < 8 * g → SnQ T g k := by
        by_cases q : ∀ k, k < 8 * g → SnQ T g k
        · exact ⟨true, fun _ => q, fun _ => rfl⟩
        · exact ⟨false, fun h => (by cases h), fun h => absurd h q⟩
      have hxd : Ext [] wr wr.drew := Ext.drew [] wr
      have KS := fun u (hu : Ext [] wr u) => rsound_any p q cq g T u r hr (hRt.keep0 hu) HP.out
      have KL := fun u (hu : Ext [] wr u) => (rlen_any p q cq g T u (hRt.keep0 hu) hG)
      have KF := fun u (hu : Ext [] wr u) => (rleft_any p q cq g T u (hRt.keep0 hu) hG)
      have HSi := hid (sd_iff HP.out)
      have hi1 : (1 : Int) < 3 + 17 * (g : Int) := by omega
      have hi2 : (2 : Int) < 3 + 17 * (g : Int) := by omega
      have hkl := knt_le (fun x => decide (x < 128)) T (8 * g)
      have hkf := knt_le (fun x => decide (x ≠ 128)) T (8 * g)
      have hT1 := getD_lt64 HP.out.lt 1
      have hT2 := getD_lt64 HP.out.lt 2
      have HRt := hid hRt
      have HXr := hid hXr
      have HRr := hid hr
      clear hc hXr hRt hr
      generalize T.getD 1 0 = t1 at *
      generalize T.getD 2 0 = t2 at *
      generalize knt (fun x => decide (x < 128)) T (8 * g) = kf at *
      generalize knt (fun x => decide (x ≠ 128)) T (8 * g) = ku at *
      obtain ⟨lv, hlv⟩ : ∃ lv : Int, ((7 * g : Nat) : Int) - (ku : Int) = lv := ⟨_, rfl⟩
      rw [hlv] at KF
      have hwk := u64w (n := kf) (by omega)
      go_wp2_with fail
      clear cp
      have hSa := And.intro hs1 hs2
      clear hs1 hs2
      refine (wpIn_wide (n := 1)).1 ?_
      refine wpIn_region_heldP (fun u => u.cell? ⟨b, o + 1, none⟩ = some (.int .u64 (t1 : Nat)) ∧ u.cell? ⟨b, o + 2, none⟩ = some (.int .u64 (t2 : Nat))) 25 (by kernel_rfl) ?_
      cases r with
      | false =>
        have HNo : Hid (¬ Sd T g) := fun q => by have := HRr.out.2 (HSi.out.1 q).1; cases this
        clear HRr HSi
        refine wpAnyC_take (i := 0) (v := .pointer (some ⟨p, 0, none⟩)) rfl (by kernel_rfl) (fun _ _ _ h => h) (yieldsR_run rfl rfl (fun _ => rfl) (fun u hu => by obtain ⟨u1, u2⟩ := hu; go_simp)) hSa ?_
        simp only [Act.put, List.setIfInBounds_toArray]
        refine wpAnyC_sole (i := 1) rfl (by kernel_rfl) (fun K1 hK1 => ?_)
        go_simp
        refine ⟨trivial, ?_⟩
        refine (callsIn_wide.2 (KS _ hxd)).mono ?_
        rintro _ u1 ⟨rfl, hX1⟩
        have hSb := And.intro (hX1.cell hSa.1 (by simp)) (hX1.cell hSa.2 (by simp))
        refine hK1 _ _ (.inr hSb) ?_
        clear hK1 K1
        refine wpAnyC_take (i := 2) (v := .bool true) rfl (by kernel_rfl) (fun _ _ _ h => h) (yieldsR_run rfl rfl (fun _ => rfl) (fun u hu => by obtain ⟨u1, u2⟩ := hu; go_simp)) hSb ?_
        simp only [Act.put, List.setIfInBounds_toArray]
        refine wpAnyC_take (i := 3) (v := .bool true) rfl (by kernel_rfl) (fun _ _ _ h => h) (yieldsR_run rfl rfl (fun _ => rfl) (fun u hu => by obtain ⟨u1, u2⟩ := hu; go_simp)) hSb ?_
        simp only [Act.put]
        refine wpAnyC_take (i := 4) (v := undef) rfl (by kernel_rfl) (fun _ _ _ h => h) (yieldsR_skip rfl rfl (fun _ => rfl)) hSb ?_
        simp only [Act.put]
        refine wpAnyC_take (i := 5) (v := undef) rfl (by kernel_rfl) (fun _ _ _ h => h) (yieldsR_skip rfl rfl (fun _ => rfl)) hSb ?_
        simp only [Act.put]
        refine wpAnyC_take (i := 6) (v := undef) rfl (by kernel_rfl) (fun _ _ _ h => h) (yieldsR_skip rfl rfl (fun _ => rfl)) hSb ?_
        simp only [Act.put]
        refine wpAnyC_take (i := 7) (v := undef) rfl (by kernel_rfl) (fun _ _ _ h => h) (yieldsR_skip rfl rfl (fun _ => rfl)) hSb ?_
        simp only [Act.put]
        refine wpAnyC_sole (i := 8) rfl (by kernel_rfl) (fun K1 hK1 => ?_)
        go_simp
        refine ⟨trivial, ?_⟩
        refine hK1 _ _ (.inr hSb) ?_
        clear hK1 K1
        refine wpAnyC_take (i := 9) (v := undef) rfl (by kernel_rfl) (fun _ _ _ h => h) (yieldsR_skip rfl rfl (fun _ => rfl)) hSb ?_
        simp only [Act.put, List.setIfInBounds_toArray]
        refine wpAnyC_take (i := 10) (v := undef) rfl (by kernel_rfl) (fun _ _ _ h => h) (yieldsR_skip rfl rfl (fun _ => rfl)) hSb ?_
        simp only [Act.put]
        refine wpAnyC_take (i := 11) (v := .bool true) rfl (by kernel_rfl) (fun _ _ _ h => h) (yieldsR_run rfl rfl (fun _ => rfl) (fun u hu => by obtain ⟨u1, u2⟩ := hu; go_simp)) hSb ?_
        simp only [Act.put]
        refine wpAnyC_take (i := 12) (v := .bool true) rfl (by kernel_rfl) (fun _ _ _ h => h) (yieldsR_run rfl rfl (fun _ => rfl) (fun u hu => by obtain ⟨u1, u2⟩ := hu; go_simp)) hSb ?_
        simp only [Act.put]
        refine wpAnyC_take (i := 13) (v := undef) rfl (by kernel_rfl) (fun _ _ _ h => h) (yieldsR_skip rfl rfl (fun _ => rfl)) hSb ?_
        simp only [Act.put]
        refine wpAnyC_sole (i := 14) rfl (by kernel_rfl) (fun K1 hK1 => ?_)
        go_simp
        refine ⟨trivial, ?_⟩
        refine hK1 _ _ (.inr hSb) ?_
        clear hK1 K1
        refine wpAnyC_take (i := 15) (v := undef) rfl (by kernel_rfl) (fun _ _ _ h => h) (yieldsR_skip rfl rfl (fun _ => rfl)) hSb ?_
        simp only [Act.put, List.setIfInBounds_toArray]
        refine wpAnyC_take (i := 16) (v := .bool true) rfl (by kernel_rfl) (fun _ _ _ h => h) (yieldsR_run rfl rfl (fun _ => rfl) (fun u hu => by obtain ⟨u1, u2⟩ := hu; go_simp)) hSb ?_
        simp only [Act.put]
        refine wpAnyC_take (i := 17) (v := .bool true) rfl (by kernel_rfl) (fun _ _ _ h => h) (yieldsR_run rfl rfl (fun _ => rfl) (fun u hu => by obtain ⟨u1, u2⟩ := hu; go_simp)) hSb ?_
        simp only [Act.put]
        refine wpAnyC_take (i := 18) (v := undef) rfl (by kernel_rfl) (fun _ _ _ h => h) (yieldsR_skip rfl rfl (fun _ => rfl)) hSb ?_
        simp only [Act.put]
        refine wpAnyC_take (i := 19) (v := undef) rfl (by kernel_rfl) (fun _ _ _ h => h) (yieldsR_skip rfl rfl (fun _ => rfl)) hSb ?_
        simp only [Act.put]
        refine wpAnyC_take (i := 20) (v := undef) rfl (by kernel_rfl) (fun _ _ _ h => h) (yieldsR_skip rfl rfl (fun _ => rfl)) hSb ?_
        simp only [Act.put]
        refine wpAnyC_take (i := 21) (v := undef) rfl (by kernel_rfl) (fun _ _ _ h => h) (yieldsR_skip rfl rfl (fun _ => rfl)) hSb ?_
        simp only [Act.put]
        refine wpAnyC_sole (i := 22) rfl (by kernel_rfl) (fun K1 hK1 => ?_)
        go_simp
        refine ⟨trivial, ?_⟩
        refine hK1 _ _ (.inr hSb) ?_
        clear hK1 K1
        refine wpAnyC_take (i := 23) (v := undef) rfl (by kernel_rfl) (fun _ _ _ h => h) (yieldsR_skip rfl rfl (fun _ => rfl)) hSb ?_
        simp only [Act.put, List.setIfInBounds_toArray]
        refine wpAnyC_take (i := 24) (v := undef) rfl (by kernel_rfl) (fun _ _ _ h => h) (yieldsR_skip rfl rfl (fun _ => rfl)) hSb ?_
        simp only [Act.put]
        refine wpAnyC_sole (i := 25) rfl (by kernel_rfl) (fun K1 hK1 => ?_)
        go_simp
        refine hK1 _ _ (.inl rfl) ?_
        clear hK1 K1
        refine wpAnyC_doneP (by kernel_rfl) ?_
        have HX := hid (HXr.out.trans (hxd.trans hX1))
        clear hX1 hSa hSb KS KL KF
        go_wp2
        go_ret
        exact ⟨HX.out, .inr ⟨HNo.out, rfl⟩⟩
      | true =>
        by_cases q1 : t1 = kf
        · have q1' : ((t1 : Int) != (kf : Int)) = false := by simp [q1]
          by_cases q0 : lv < 0
          · have HNo : Hid (¬ Sd T g) := fun q => by have := (HSi.out.1 q).2.2; omega
            clear HRr HSi
            refine wpAnyC_take (i := 0) (v := .pointer (some ⟨p, 0, none⟩)) rfl (by kernel_rfl) (fun _ _ _ h => h) (yieldsR_run rfl rfl (fun _ => rfl) (fun u hu => by obtain ⟨u1, u2⟩ := hu; go_simp)) hSa ?_
            simp only [Act.put, List.setIfInBounds_toArray]
            refine wpAnyC_sole (i := 1) rfl (by kernel_rfl) (fun K1 hK1 => ?_)
            go_simp
            refine ⟨trivial, ?_⟩
            refine (callsIn_wide.2 (KS _ hxd)).mono ?_
            rintro _ u1 ⟨rfl, hX1⟩
            have hSb := And.intro (hX1.cell hSa.1 (by simp)) (hX1.cell hSa.2 (by simp))
            refine hK1 _ _ (.inr hSb) ?_
            clear hK1 K1
            refine wpAnyC_take (i := 2) (v := .bool false) rfl (by kernel_rfl) (fun _ _ _ h => h) (yieldsR_run rfl rfl (fun _ => rfl) (fun u hu => by obtain ⟨u1, u2⟩ := hu; go_simp)) hSb ?_
            simp only [Act.put, List.setIfInBounds_toArray]
            refine wpAnyC_take (i := 3) (v := .bool false) rfl (by kernel_rfl) (fun _ _ _ h => h) (yieldsR_run rfl rfl (fun _ => rfl) (fun u hu => by obtain ⟨u1, u2⟩ := hu; go_simp)) hSb ?_
            simp only [Act.put]
            refine wpAnyC_take (i := 4) (v := .slice (some ⟨b, o, none⟩) (3 + 17 * g) c) rfl (by kernel_rfl) (fun _ _ _ h => h) (yieldsR_run rfl rfl (fun _ => rfl) (fun u hu => by obtain ⟨u1, u2⟩ := hu; go_simp)) hSb ?_
            simp only [Act.put]
            refine wpAnyC_take (i := 5) (v := .pointer (some ⟨b, o + 1, none⟩)) rfl (by kernel_rfl) (fun _ _ _ h => h) (yieldsR_run rfl rfl (fun _ => rfl) (fun u hu => by obtain ⟨u1, u2⟩ := hu; go_simp)) hSb ?_
            simp only [Act.put]
            refine wpAnyC_take (i := 6) (v := .int .u64 (t1 : Nat)) rfl (by kernel_rfl) (fun _ _ _ h => h) (yieldsR_run rfl rfl (fun _ => rfl) (fun u hu => by obtain ⟨u1, u2⟩ := hu; go_simp)) hSb ?_
            simp only [Act.put]
            refine wpAnyC_take (i := 7) (v := .pointer (some ⟨p, 0, none⟩)) rfl (by kernel_rfl) (fun _ _ _ h => h) (yieldsR_run rfl rfl (fun _ => rfl) (fun u hu => by obtain ⟨u1, u2⟩ := hu; go_simp)) hSb ?_
            simp only [Act.put]
            refine wpAnyC_sole (i := 8) rfl (by kernel_rfl) (fun K1 hK1 => ?_)
            go_simp
            refine ⟨trivial, ?_⟩
            refine (callsIn_wide.2 (KL _ (hxd.trans hX1))).mono ?_
            rintro _ w9 ⟨rfl, hw9⟩
            subst w9
            refine hK1 _ _ (.inr hSb) ?_
            clear hK1 K1
            refine wpAnyC_take (i := 9) (v := .int .u64 (kf : Nat)) rfl (by kernel_rfl) (fun _ _ _ h => h) (yieldsR_run rfl rfl (fun _ => rfl) (fun u hu => by obtain ⟨u1, u2⟩ := hu; go_simp)) hSb ?_
            simp only [Act.put, List.setIfInBounds_toArray]
            refine wpAnyC_take (i := 10) (v := .bool false) rfl (by kernel_rfl) (fun _ _ _ h => h) (yieldsR_run rfl rfl (fun _ => rfl) (fun u hu => by obtain ⟨u1, u2⟩ := hu; go_simp)) hSb ?_
            simp only [Act.put]
            refine wpAnyC_take (i := 11) (v := .bool false) rfl (by kernel_rfl) (fun _ _ _ h => h) (yieldsR_run rfl rfl (fun _ => rfl) (fun u hu => by obtain ⟨u1, u2⟩ := hu; go_simp)) hSb ?_
            simp only [Act.put]
            refine wpAnyC_take (i := 12) (v := .bool false) rfl (by kernel_rfl) (fun _ _ _ h => h) (yieldsR_run rfl rfl (fun _ => rfl) (fun u hu => by obtain ⟨u1, u2⟩ := hu; go_simp)) hSb ?_
            simp only [Act.put]
            refine wpAnyC_take (i := 13) (v := .pointer (some ⟨p, 0, none⟩)) rfl (by kernel_rfl) (fun _ _ _ h => h) (yieldsR_run rfl rfl (fun _ => rfl) (fun u hu => by obtain ⟨u1, u2⟩ := hu; go_simp)) hSb ?_
            simp only [Act.put]
            refine wpAnyC_sole (i := 14) rfl (by kernel_rfl) (fun K1 hK1 => ?_)
            go_simp
            refine ⟨trivial, ?_⟩
            refine (callsIn_wide.2 (KF _ (hxd.trans hX1))).mono ?_
            rintro _ w9 ⟨rfl, hw9⟩
            subst w9
            refine hK1 _ _ (.inr hSb) ?_
            clear hK1 K1
            refine wpAnyC_take (i := 15) (v := .bool true) rfl (by kernel_rfl) (fun _ _ _ h => h) (yieldsR_run rfl rfl (fun _ => rfl) (fun u hu => by obtain ⟨u1, u2⟩ := hu; go_simp)) hSb ?_
            simp only [Act.put, List.setIfInBounds_toArray]
            refine wpAnyC_take (i := 16) (v := .bool true) rfl (by kernel_rfl) (fun _ _ _ h => h) (yieldsR_run rfl rfl (fun _ => rfl) (fun u hu => by obtain ⟨u1, u2⟩ := hu; go_simp)) hSb ?_
            simp only [Act.put]
            refine wpAnyC_take (i := 17) (v := .bool true) rfl (by kernel_rfl) (fun _ _ _ h => h) (yieldsR_run rfl rfl (fun _ => rfl) (fun u hu => by obtain ⟨u1, u2⟩ := hu; go_simp)) hSb ?_
            simp only [Act.put]
            refine wpAnyC_take (i := 18) (v := undef) rfl (by kernel_rfl) (fun _ _ _ h => h) (yieldsR_skip rfl rfl (fun _ => rfl)) hSb ?_
            simp only [Act.put]
            refine wpAnyC_take (i := 19) (v := undef) rfl (by kernel_rfl) (fun _ _ _ h => h) (yieldsR_skip rfl rfl (fun _ => rfl)) hSb ?_
            simp only [Act.put]
            refine wpAnyC_take (i := 20) (v := undef) rfl (by kernel_rfl) (fun _ _ _ h => h) (yieldsR_skip rfl rfl (fun _ => rfl)) hSb ?_
            simp only [Act.put]
            refine wpAnyC_take (i := 21) (v := undef) rfl (by kernel_rfl) (fun _ _ _ h => h) (yieldsR_skip rfl rfl (fun _ => rfl)) hSb ?_
            simp only [Act.put]
            refine wpAnyC_sole (i := 22) rfl (by kernel_rfl) (fun K1 hK1 => ?_)
            go_simp
            refine ⟨trivial, ?_⟩
            refine hK1 _ _ (.inr hSb) ?_
            clear hK1 K1
            refine wpAnyC_take (i := 23) (v := undef) rfl (by kernel_rfl) (fun _ _ _ h => h) (yieldsR_skip rfl rfl (fun _ => rfl)) hSb ?_
            simp only [Act.put, List.setIfInBounds_toArray]
            refine wpAnyC_take (i := 24) (v := undef) rfl (by kernel_rfl) (fun _ _ _ h => h) (yieldsR_skip rfl rfl (fun _ => rfl)) hSb ?_
            simp only [Act.put]
            refine wpAnyC_sole (i := 25) rfl (by kernel_rfl) (fun K1 hK1 => ?_)
            go_simp
            refine hK1 _ _ (.inl rfl) ?_
            clear hK1 K1
            refine wpAnyC_doneP (by kernel_rfl) ?_
            have HX := hid (HXr.out.trans (hxd.trans hX1))
            clear hX1 hSa hSb KS KL KF
            go_wp2
            go_ret
            exact ⟨HX.out, .inr ⟨HNo.out, rfl⟩⟩
          · obtain ⟨lf, rfl⟩ : ∃ lf : Nat, lv = (lf : Int) := ⟨lv.toNat, by omega⟩
            have hlf : lf ≤ 7 * g := by omega
            have hwl := u64w (n := lf) (by omega)
            by_cases q2 : t2 = lf
            · have q2' : ((t2 : Int) != (lf : Int)) = false := by simp [q2]
              have HSd : Hid (Sd T g) := HSi.out.2 ⟨HRr.out.1 rfl, q1, by omega⟩
              clear HRr HSi hlv q1 q2
              refine wpAnyC_take (i := 0) (v := .pointer (some ⟨p, 0, none⟩)) rfl (by kernel_rfl) (fun _ _ _ h => h) (yieldsR_run rfl rfl (fun _ => rfl) (fun u hu => by obtain ⟨u1, u2⟩ := hu; go_simp)) hSa ?_
              simp only [Act.put, List.setIfInBounds_toArray]
              refine wpAnyC_sole (i := 1) rfl (by kernel_rfl) (fun K1 hK1 => ?_)
              go_simp
              refine ⟨trivial, ?_⟩
              refine (callsIn_wide.2 (KS _ hxd)).mono ?_
              rintro _ u1 ⟨rfl, hX1⟩
              have hSb := And.intro (hX1.cell hSa.1 (by simp)) (hX1.cell hSa.2 (by simp))
              refine hK1 _ _ (.inr hSb) ?_
              clear hK1 K1
              refine wpAnyC_take (i := 2) (v := .bool false) rfl (by kernel_rfl) (fun _ _ _ h => h) (yieldsR_run rfl rfl (fun _ => rfl) (fun u hu => by obtain ⟨u1, u2⟩ := hu; go_simp)) hSb ?_
              simp only [Act.put, List.setIfInBounds_toArray]
              refine wpAnyC_take (i := 3) (v := .bool false) rfl (by kernel_rfl) (fun _ _ _ h => h) (yieldsR_run rfl rfl (fun _ => rfl) (fun u hu => by obtain ⟨u1, u2⟩ := hu; go_simp)) hSb ?_
              simp only [Act.put]
              refine wpAnyC_take (i := 4) (v := .slice (some ⟨b, o, none⟩) (3 + 17 * g) c) rfl (by kernel_rfl) (fun _ _ _ h => h) (yieldsR_run rfl rfl (fun _ => rfl) (fun u hu => by obtain ⟨u1, u2⟩ := hu; go_simp)) hSb ?_
              simp only [Act.put]
              refine wpAnyC_take (i := 5) (v := .pointer (some ⟨b, o + 1, none⟩)) rfl (by kernel_rfl) (fun _ _ _ h => h) (yieldsR_run rfl rfl (fun _ => rfl) (fun u hu => by obtain ⟨u1, u2⟩ := hu; go_simp)) hSb ?_
              simp only [Act.put]
              refine wpAnyC_take (i := 6) (v := .int .u64 (t1 : Nat)) rfl (by kernel_rfl) (fun _ _ _ h => h) (yieldsR_run rfl rfl (fun _ => rfl) (fun u hu => by obtain ⟨u1, u2⟩ := hu; go_simp)) hSb ?_
              simp only [Act.put]
              refine wpAnyC_take (i := 7) (v := .pointer (some ⟨p, 0, none⟩)) rfl (by kernel_rfl) (fun _ _ _ h => h) (yieldsR_run rfl rfl (fun _ => rfl) (fun u hu => by obtain ⟨u1, u2⟩ := hu; go_simp)) hSb ?_
              simp only [Act.put]
              refine wpAnyC_sole (i := 8) rfl (by kernel_rfl) (fun K1 hK1 => ?_)
              go_simp
              refine ⟨trivial, ?_⟩
              refine (callsIn_wide.2 (KL _ (hxd.trans hX1))).mono ?_
              rintro _ w9 ⟨rfl, hw9⟩
              subst w9
              refine hK1 _ _ (.inr hSb) ?_
              clear hK1 K1
              refine wpAnyC_take (i := 9) (v := .int .u64 (kf : Nat)) rfl (by kernel_rfl) (fun _ _ _ h => h) (yieldsR_run rfl rfl (fun _ => rfl) (fun u hu => by obtain ⟨u1, u2⟩ := hu; go_simp)) hSb ?_
              simp only [Act.put, List.setIfInBounds_toArray]
              refine wpAnyC_take (i := 10) (v := .bool false) rfl (by kernel_rfl) (fun _ _ _ h => h) (yieldsR_run rfl rfl (fun _ => rfl) (fun u hu => by obtain ⟨u1, u2⟩ := hu; go_simp)) hSb ?_
              simp only [Act.put]
              refine wpAnyC_take (i := 11) (v := .bool false) rfl (by kernel_rfl) (fun _ _ _ h => h) (yieldsR_run rfl rfl (fun _ => rfl) (fun u hu => by obtain ⟨u1, u2⟩ := hu; go_simp)) hSb ?_
              simp only [Act.put]
              refine wpAnyC_take (i := 12) (v := .bool false) rfl (by kernel_rfl) (fun _ _ _ h => h) (yieldsR_run rfl rfl (fun _ => rfl) (fun u hu => by obtain ⟨u1, u2⟩ := hu; go_simp)) hSb ?_
              simp only [Act.put]
              refine wpAnyC_take (i := 13) (v := .pointer (some ⟨p, 0, none⟩)) rfl (by kernel_rfl) (fun _ _ _ h => h) (yieldsR_run rfl rfl (fun _ => rfl) (fun u hu => by obtain ⟨u1, u2⟩ := hu; go_simp)) hSb ?_
              simp only [Act.put]
              refine wpAnyC_sole (i := 14) rfl (by kernel_rfl) (fun K1 hK1 => ?_)
              go_simp
              refine ⟨trivial, ?_⟩
              refine (callsIn_wide.2 (KF _ (hxd.trans hX1))).mono ?_
              rintro _ w9 ⟨rfl, hw9⟩
              subst w9
              refine hK1 _ _ (.inr hSb) ?_
              clear hK1 K1
              refine wpAnyC_take (i := 15) (v := .bool false) rfl (by kernel_rfl) (fun _ _ _ h => h) (yieldsR_run rfl rfl (fun _ => rfl) (fun u hu => by obtain ⟨u1, u2⟩ := hu; go_simp)) hSb ?_
              simp only [Act.put, List.setIfInBounds_toArray]
              refine wpAnyC_take (i := 16) (v := .bool false) rfl (by kernel_rfl) (fun _ _ _ h => h) (yieldsR_run rfl rfl (fun _ => rfl) (fun u hu => by obtain ⟨u1, u2⟩ := hu; go_simp)) hSb ?_
              simp only [Act.put]
              refine wpAnyC_take (i := 17) (v := .bool false) rfl (by kernel_rfl) (fun _ _ _ h => h) (yieldsR_run rfl rfl (fun _ => rfl) (fun u hu => by obtain ⟨u1, u2⟩ := hu; go_simp)) hSb ?_
              simp only [Act.put]
              refine wpAnyC_take (i := 18) (v := .slice (some ⟨b, o, none⟩) (3 + 17 * g) c) rfl (by kernel_rfl) (fun _ _ _ h => h) (yieldsR_run rfl rfl (fun _ => rfl) (fun u hu => by obtain ⟨u1, u2⟩ := hu; go_simp)) hSb ?_
              simp only [Act.put]
              refine wpAnyC_take (i := 19) (v := .pointer (some ⟨b, o + 2, none⟩)) rfl (by kernel_rfl) (fun _ _ _ h => h) (yieldsR_run rfl rfl (fun _ => rfl) (fun u hu => by obtain ⟨u1, u2⟩ := hu; go_simp)) hSb ?_
              simp only [Act.put]
              refine wpAnyC_take (i := 20) (v := .int .u64 (t2 : Nat)) rfl (by kernel_rfl) (fun _ _ _ h => h) (yieldsR_run rfl rfl (fun _ => rfl) (fun u hu => by obtain ⟨u1, u2⟩ := hu; go_simp)) hSb ?_
              simp only [Act.put]
              refine wpAnyC_take (i := 21) (v := .pointer (some ⟨p, 0, none⟩)) rfl (by kernel_rfl) (fun _ _ _ h => h) (yieldsR_run rfl rfl (fun _ => rfl) (fun u hu => by obtain ⟨u1, u2⟩ := hu; go_simp)) hSb ?_
              simp only [Act.put]
              refine wpAnyC_sole (i := 22) rfl (by kernel_rfl) (fun K1 hK1 => ?_)
              go_simp
              refine ⟨trivial, ?_⟩
              refine (callsIn_wide.2 (KF _ (hxd.trans hX1))).mono ?_
              rintro _ w9 ⟨rfl, hw9⟩
              subst w9
              refine hK1 _ _ (.inr hSb) ?_
              clear hK1 K1
              refine wpAnyC_take (i := 23) (v := .int .u64 (lf : Nat)) rfl (by kernel_rfl) (fun _ _ _ h => h) (yieldsR_run rfl rfl (fun _ => rfl) (fun u hu => by obtain ⟨u1, u2⟩ := hu; go_simp)) hSb ?_
              simp only [Act.put, List.setIfInBounds_toArray]
              refine wpAnyC_take (i := 24) (v := .bool false) rfl (by kernel_rfl) (fun _ _ _ h => h) (yieldsR_run rfl rfl (fun _ => rfl) (fun u hu => by obtain ⟨u1, u2⟩ := hu; go_simp)) hSb ?_
              simp only [Act.put]
              refine wpAnyC_sole (i := 25) rfl (by kernel_rfl) (fun K1 hK1 => ?_)
              go_simp
              refine hK1 _ _ (.inl rfl) ?_
              clear hK1 K1
              refine wpAnyC_doneP (by kernel_rfl) ?_
              have HX := hid (HXr.out.trans (hxd.trans hX1))
              have HF := hid (show OfPost w T g (.returned (.pointer (some ⟨p, 0, none⟩))) u1 from ⟨HX.out, .inl ⟨HSd.out, p, q, cq, rfl, HRt.out.keep0 (hxd.trans hX1), by have := HPw.out; omega, by have := HPw.out; omega⟩⟩)
              clear hX1 hSa hSb KS KL KF
              go_wp2
              go_ret
              exact HF.out
            · have q2' : ((t2 : Int) != (lf : Int)) = true := by simp; omega
              have HNo : Hid (¬ Sd T g) := fun q => by have := (HSi.out.1 q).2.2; omega
              clear HRr HSi hlv q1
              refine wpAnyC_take (i := 0) (v := .pointer (some ⟨p, 0, none⟩)) rfl (by kernel_rfl) (fun _ _ _ h => h) (yieldsR_run rfl rfl (fun _ => rfl) (fun u hu => by obtain ⟨u1, u2⟩ := hu; go_simp)) hSa ?_
              simp only [Act.put, List.setIfInBounds_toArray]
              refine wpAnyC_sole (i := 1) rfl (by kernel_rfl) (fun K1 hK1 => ?_)
              go_simp
              refine ⟨trivial, ?_⟩
              refine (callsIn_wide.2 (KS _ hxd)).mono ?_
              rintro _ u1 ⟨rfl, hX1⟩
              have hSb := And.intro (hX1.cell hSa.1 (by simp)) (hX1.cell hSa.2 (by simp))
              refine hK1 _ _ (.inr hSb) ?_
              clear hK1 K1
              refine wpAnyC_take (i := 2) (v := .bool false) rfl (by kernel_rfl) (fun _ _ _ h => h) (yieldsR_run rfl rfl (fun _ => rfl) (fun u hu => by obtain ⟨u1, u2⟩ := hu; go_simp)) hSb ?_
              simp only [Act.put, List.setIfInBounds_toArray]
              refine wpAnyC_take (i := 3) (v := .bool false) rfl (by kernel_rfl) (fun _ _ _ h => h) (yieldsR_run rfl rfl (fun _ => rfl) (fun u hu => by obtain ⟨u1, u2⟩ := hu; go_simp)) hSb ?_
              simp only [Act.put]
              refine wpAnyC_take (i := 4) (v := .slice (some ⟨b, o, none⟩) (3 + 17 * g) c) rfl (by kernel_rfl) (fun _ _ _ h => h) (yieldsR_run rfl rfl (fun _ => rfl) (fun u hu => by obtain ⟨u1, u2⟩ := hu; go_simp)) hSb ?_
              simp only [Act.put]
              refine wpAnyC_take (i := 5) (v := .pointer (some ⟨b, o + 1, none⟩)) rfl (by kernel_rfl) (fun _ _ _ h => h) (yieldsR_run rfl rfl (fun _ => rfl) (fun u hu => by obtain ⟨u1, u2⟩ := hu; go_simp)) hSb ?_
              simp only [Act.put]
              refine wpAnyC_take (i := 6) (v := .int .u64 (t1 : Nat)) rfl (by kernel_rfl) (fun _ _ _ h => h) (yieldsR_run rfl rfl (fun _ => rfl) (fun u hu => by obtain ⟨u1, u2⟩ := hu; go_simp)) hSb ?_
              simp only [Act.put]
              refine wpAnyC_take (i := 7) (v := .pointer (some ⟨p, 0, none⟩)) rfl (by kernel_rfl) (fun _ _ _ h => h) (yieldsR_run rfl rfl (fun _ => rfl) (fun u hu => by obtain ⟨u1, u2⟩ := hu; go_simp)) hSb ?_
              simp only [Act.put]
              refine wpAnyC_sole (i := 8) rfl (by kernel_rfl) (fun K1 hK1 => ?_)
              go_simp
              refine ⟨trivial, ?_⟩
              refine (callsIn_wide.2 (KL _ (hxd.trans hX1))).mono ?_
              rintro _ w9 ⟨rfl, hw9⟩
              subst w9
              refine hK1 _ _ (.inr hSb) ?_
              clear hK1 K1
              refine wpAnyC_take (i := 9) (v := .int .u64 (kf : Nat)) rfl (by kernel_rfl) (fun _ _ _ h => h) (yieldsR_run rfl rfl (fun _ => rfl) (fun u hu => by obtain ⟨u1, u2⟩ := hu; go_simp)) hSb ?_
              simp only [Act.put, List.setIfInBounds_toArray]
              refine wpAnyC_take (i := 10) (v := .bool false) rfl (by kernel_rfl) (fun _ _ _ h => h) (yieldsR_run rfl rfl (fun _ => rfl) (fun u hu => by obtain ⟨u1, u2⟩ := hu; go_simp)) hSb ?_
              simp only [Act.put]
              refine wpAnyC_take (i := 11) (v := .bool false) rfl (by kernel_rfl) (fun _ _ _ h => h) (yieldsR_run rfl rfl (fun _ => rfl) (fun u hu => by obtain ⟨u1, u2⟩ := hu; go_simp)) hSb ?_
              simp only [Act.put]
              refine wpAnyC_take (i := 12) (v := .bool false) rfl (by kernel_rfl) (fun _ _ _ h => h) (yieldsR_run rfl rfl (fun _ => rfl) (fun u hu => by obtain ⟨u1, u2⟩ := hu; go_simp)) hSb ?_
              simp only [Act.put]
              refine wpAnyC_take (i := 13) (v := .pointer (some ⟨p, 0, none⟩)) rfl (by kernel_rfl) (fun _ _ _ h => h) (yieldsR_run rfl rfl (fun _ => rfl) (fun u hu => by obtain ⟨u1, u2⟩ := hu; go_simp)) hSb ?_
              simp only [Act.put]
              refine wpAnyC_sole (i := 14) rfl (by kernel_rfl) (fun K1 hK1 => ?_)
              go_simp
              refine ⟨trivial, ?_⟩
              refine (callsIn_wide.2 (KF _ (hxd.trans hX1))).mono ?_
              rintro _ w9 ⟨rfl, hw9⟩
              subst w9
              refine hK1 _ _ (.inr hSb) ?_
              clear hK1 K1
              refine wpAnyC_take (i := 15) (v := .bool false) rfl (by kernel_rfl) (fun _ _ _ h => h) (yieldsR_run rfl rfl (fun _ => rfl) (fun u hu => by obtain ⟨u1, u2⟩ := hu; go_simp)) hSb ?_
              simp only [Act.put, List.setIfInBounds_toArray]
              refine wpAnyC_take (i := 16) (v := .bool false) rfl (by kernel_rfl) (fun _ _ _ h => h) (yieldsR_run rfl rfl (fun _ => rfl) (fun u hu => by obtain ⟨u1, u2⟩ := hu; go_simp)) hSb ?_
              simp only [Act.put]
              refine wpAnyC_take (i := 17) (v := .bool false) rfl (by kernel_rfl) (fun _ _ _ h => h) (yieldsR_run rfl rfl (fun _ => rfl) (fun u hu => by obtain ⟨u1, u2⟩ := hu; go_simp)) hSb ?_
              simp only [Act.put]
              refine wpAnyC_take (i := 18) (v := .slice (some ⟨b, o, none⟩) (3 + 17 * g) c) rfl (by kernel_rfl) (fun _ _ _ h => h) (yieldsR_run rfl rfl (fun _ => rfl) (fun u hu => by obtain ⟨u1, u2⟩ := hu; go_simp)) hSb ?_
              simp only [Act.put]
              refine wpAnyC_take (i := 19) (v := .pointer (some ⟨b, o + 2, none⟩)) rfl (by kernel_rfl) (fun _ _ _ h => h) (yieldsR_run rfl rfl (fun _ => rfl) (fun u hu => by obtain ⟨u1, u2⟩ := hu; go_simp)) hSb ?_
              simp only [Act.put]
              refine wpAnyC_take (i := 20) (v := .int .u64 (t2 : Nat)) rfl (by kernel_rfl) (fun _ _ _ h => h) (yieldsR_run rfl rfl (fun _ => rfl) (fun u hu => by obtain ⟨u1, u2⟩ := hu; go_simp)) hSb ?_
              simp only [Act.put]
              refine wpAnyC_take (i := 21) (v := .pointer (some ⟨p, 0, none⟩)) rfl (by kernel_rfl) (fun _ _ _ h => h) (yieldsR_run rfl rfl (fun _ => rfl) (fun u hu => by obtain ⟨u1, u2⟩ := hu; go_simp)) hSb ?_
              simp only [Act.put]
              refine wpAnyC_sole (i := 22) rfl (by kernel_rfl) (fun K1 hK1 => ?_)
              go_simp
              refine ⟨trivial, ?_⟩
              refine (callsIn_wide.2 (KF _ (hxd.trans hX1))).mono ?_
              rintro _ w9 ⟨rfl, hw9⟩
              subst w9
              refine hK1 _ _ (.inr hSb) ?_
              clear hK1 K1
              refine wpAnyC_take (i := 23) (v := .int .u64 (lf : Nat)) rfl (by kernel_rfl) (fun _ _ _ h => h) (yieldsR_run rfl rfl (fun _ => rfl) (fun u hu => by obtain ⟨u1, u2⟩ := hu; go_simp)) hSb ?_
              simp only [Act.put, List.setIfInBounds_toArray]
              refine wpAnyC_take (i := 24) (v := .bool true) rfl (by kernel_rfl) (fun _ _ _ h => h) (yieldsR_run rfl rfl (fun _ => rfl) (fun u hu => by obtain ⟨u1, u2⟩ := hu; go_simp)) hSb ?_
              simp only [Act.put]
              refine wpAnyC_sole (i := 25) rfl (by kernel_rfl) (fun K1 hK1 => ?_)
              go_simp
              refine hK1 _ _ (.inl rfl) ?_
              clear hK1 K1
              refine wpAnyC_doneP (by kernel_rfl) ?_
              have HX := hid (HXr.out.trans (hxd.trans hX1))
              clear hX1 hSa hSb KS KL KF
              go_wp2
              go_ret
              exact ⟨HX.out, .inr ⟨HNo.out, rfl⟩⟩
        · have q1' : ((t1 : Int) != (kf : Int)) = true := by simp; omega
          have HNo : Hid (¬ Sd T g) := fun q => q1 (HSi.out.1 q).2.1
          clear HRr HSi
          refine wpAnyC_take (i := 0) (v := .pointer (some ⟨p, 0, none⟩)) rfl (by kernel_rfl) (fun _ _ _ h => h) (yieldsR_run rfl rfl (fun _ => rfl) (fun u hu => by obtain ⟨u1, u2⟩ := hu; go_simp)) hSa ?_
          simp only [Act.put, List.setIfInBounds_toArray]
          refine wpAnyC_sole (i := 1) rfl (by kernel_rfl) (fun K1 hK1 => ?_)
          go_simp
          refine ⟨trivial, ?_⟩
          refine (callsIn_wide.2 (KS _ hxd)).mono ?_
          rintro _ u1 ⟨rfl, hX1⟩
          have hSb := And.intro (hX1.cell hSa.1 (by simp)) (hX1.cell hSa.2 (by simp))
          refine hK1 _ _ (.inr hSb) ?_
          clear hK1 K1
          refine wpAnyC_take (i := 2) (v := .bool false) rfl (by kernel_rfl) (fun _ _ _ h => h) (yieldsR_run rfl rfl (fun _ => rfl) (fun u hu => by obtain ⟨u1, u2⟩ := hu; go_simp)) hSb ?_
          simp only [Act.put, List.setIfInBounds_toArray]
          refine wpAnyC_take (i := 3) (v := .bool false) rfl (by kernel_rfl) (fun _ _ _ h => h) (yieldsR_run rfl rfl (fun _ => rfl) (fun u hu => by obtain ⟨u1, u2⟩ := hu; go_simp)) hSb ?_
          simp only [Act.put]
          refine wpAnyC_take (i := 4) (v := .slice (some ⟨b, o, none⟩) (3 + 17 * g) c) rfl (by kernel_rfl) (fun _ _ _ h => h) (yieldsR_run rfl rfl (fun _ => rfl) (fun u hu => by obtain ⟨u1, u2⟩ := hu; go_simp)) hSb ?_
          simp only [Act.put]
          refine wpAnyC_take (i := 5) (v := .pointer (some ⟨b, o + 1, none⟩)) rfl (by kernel_rfl) (fun _ _ _ h => h) (yieldsR_run rfl rfl (fun _ => rfl) (fun u hu => by obtain ⟨u1, u2⟩ := hu; go_simp)) hSb ?_
          simp only [Act.put]
          refine wpAnyC_take (i := 6) (v := .int .u64 (t1 : Nat)) rfl (by kernel_rfl) (fun _ _ _ h => h) (yieldsR_run rfl rfl (fun _ => rfl) (fun u hu => by obtain ⟨u1, u2⟩ := hu; go_simp)) hSb ?_
          simp only [Act.put]
          refine wpAnyC_take (i := 7) (v := .pointer (some ⟨p, 0, none⟩)) rfl (by kernel_rfl) (fun _ _ _ h => h) (yieldsR_run rfl rfl (fun _ => rfl) (fun u hu => by obtain ⟨u1, u2⟩ := hu; go_simp)) hSb ?_
          simp only [Act.put]
          refine wpAnyC_sole (i := 8) rfl (by kernel_rfl) (fun K1 hK1 => ?_)
          go_simp
          refine ⟨trivial, ?_⟩
          refine (callsIn_wide.2 (KL _ (hxd.trans hX1))).mono ?_
          rintro _ w9 ⟨rfl, hw9⟩
          subst w9
          refine hK1 _ _ (.inr hSb) ?_
          clear hK1 K1
          refine wpAnyC_take (i := 9) (v := .int .u64 (kf : Nat)) rfl (by kernel_rfl) (fun _ _ _ h => h) (yieldsR_run rfl rfl (fun _ => rfl) (fun u hu => by obtain ⟨u1, u2⟩ := hu; go_simp)) hSb ?_
          simp only [Act.put, List.setIfInBounds_toArray]
          refine wpAnyC_take (i := 10) (v := .bool true) rfl (by kernel_rfl) (fun _ _ _ h => h) (yieldsR_run rfl rfl (fun _ => rfl) (fun u hu => by obtain ⟨u1, u2⟩ := hu; go_simp)) hSb ?_
          simp only [Act.put]
          refine wpAnyC_take (i := 11) (v := .bool true) rfl (by kernel_rfl) (fun _ _ _ h => h) (yieldsR_run rfl rfl (fun _ => rfl) (fun u hu => by obtain ⟨u1, u2⟩ := hu; go_simp)) hSb ?_
          simp only [Act.put]
          refine wpAnyC_take (i := 12) (v := .bool true) rfl (by kernel_rfl) (fun _ _ _ h => h) (yieldsR_run rfl rfl (fun _ => rfl) (fun u hu => by obtain ⟨u1, u2⟩ := hu; go_simp)) hSb ?_
          simp only [Act.put]
          refine wpAnyC_take (i := 13) (v := undef) rfl (by kernel_rfl) (fun _ _ _ h => h) (yieldsR_skip rfl rfl (fun _ => rfl)) hSb ?_
          simp only [Act.put]
          refine wpAnyC_sole (i := 14) rfl (by kernel_rfl) (fun K1 hK1 => ?_)
          go_simp
          refine ⟨trivial, ?_⟩
          refine hK1 _ _ (.inr hSb) ?_
          clear hK1 K1
          refine wpAnyC_take (i := 15) (v := undef) rfl (by kernel_rfl) (fun _ _ _ h => h) (yieldsR_skip rfl rfl (fun _ => rfl)) hSb ?_
          simp only [Act.put, List.setIfInBounds_toArray]
          refine wpAnyC_take (i := 16) (v := .bool true) rfl (by kernel_rfl) (fun _ _ _ h => h) (yieldsR_run rfl rfl (fun _ => rfl) (fun u hu => by obtain ⟨u1, u2⟩ := hu; go_simp)) hSb ?_
          simp only [Act.put]
          refine wpAnyC_take (i := 17) (v := .bool true) rfl (by kernel_rfl) (fun _ _ _ h => h) (yieldsR_run rfl rfl (fun _ => rfl) (fun u hu => by obtain ⟨u1, u2⟩ := hu; go_simp)) hSb ?_
          simp only [Act.put]
          refine wpAnyC_take (i := 18) (v := undef) rfl (by kernel_rfl) (fun _ _ _ h => h) (yieldsR_skip rfl rfl (fun _ => rfl)) hSb ?_
          simp only [Act.put]
          refine wpAnyC_take (i := 19) (v := undef) rfl (by kernel_rfl) (fun _ _ _ h => h) (yieldsR_skip rfl rfl (fun _ => rfl)) hSb ?_
          simp only [Act.put]
          refine wpAnyC_take (i := 20) (v := undef) rfl (by kernel_rfl) (fun _ _ _ h => h) (yieldsR_skip rfl rfl (fun _ => rfl)) hSb ?_
          simp only [Act.put]
          refine wpAnyC_take (i := 21) (v := undef) rfl (by kernel_rfl) (fun _ _ _ h => h) (yieldsR_skip rfl rfl (fun _ => rfl)) hSb ?_
          simp only [Act.put]
          refine wpAnyC_sole (i := 22) rfl (by kernel_rfl) (fun K1 hK1 => ?_)
          go_simp
          refine ⟨trivial, ?_⟩
          refine hK1 _ _ (.inr hSb) ?_
          clear hK1 K1
          refine wpAnyC_take (i := 23) (v := undef) rfl (by kernel_rfl) (fun _ _ _ h => h) (yieldsR_skip rfl rfl (fun _ => rfl)) hSb ?_
          simp only [Act.put, List.setIfInBounds_toArray]
          refine wpAnyC_take (i := 24) (v := undef) rfl (by kernel_rfl) (fun _ _ _ h => h) (yieldsR_skip rfl rfl (fun _ => rfl)) hSb ?_
          simp only [Act.put]
          refine wpAnyC_sole (i := 25) rfl (by kernel_rfl) (fun K1 hK1 => ?_)
          go_simp
          refine hK1 _ _ (.inl rfl) ?_
          clear hK1 K1
          refine wpAnyC_doneP (by kernel_rfl) ?_
          have HX := hid (HXr.out.trans (hxd.trans hX1))
          clear hX1 hSa hSb KS KL KF
          go_wp2
          go_ret
          exact ⟨HX.out, .inr ⟨HNo.out, rfl⟩⟩
end Go.Proofs.YtkknadkcpndnaaaDoor.Rf

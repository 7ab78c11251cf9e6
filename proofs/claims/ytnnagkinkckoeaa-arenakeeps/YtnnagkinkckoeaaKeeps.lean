/-
  What is handed to an arena and what it answers is not shared with it, nor with another arena: the function ArenaKeeps answers true and leaves its arguments as they were, for every input; no condition.
-/
import Derived.Test.YtnnagkinkckoeaaApartAll
import Derived.Test.YtnnagkinkckoeaaStep
import Derived.SizedLaws
namespace Go.Proofs.Ytnnagkinkckoeaa
open Go.ChangeShapes Go.WideShapes Go.ChangeAt Go.RowKit

theorem bytes5 : Try.prog.bytesOf 5 = 1 := by kernel_rfl

theorem Row.own1 {w : World} {g : Nat} {L : List Int} (h : Row w g L) (hm : L.length ≤ maxLen) : Own1 w 5 g L.length (L.map (Value.int .u8)) :=
  ⟨⟨_, h, by simp, by simp, by rw [List.length_map]; exact List.take_of_length_le (by simp)⟩, hm⟩

/-- Two lists, each in a block of its own, laid into a book. -/
theorem book_two {w : World} {x y N : Nat} {L M : List Int} (hx : Row w x L) (hy : Row w y M) (hL : L.length = N) (hM : M.length = N) (hxy : x ≠ y) (hN : N ≤ 1048576) :
    Bk ((w.alloc (.cells #[.slice (some ⟨x, 0, none⟩) N N, .slice (some ⟨y, 0, none⟩) N N] 29)).alloc (.cells #[.slice none 0 0, .slice none 0 0, .slice (some ⟨w.heap.size, 0, none⟩) 2 2, .slice none 0 0] 54)) w.heap.size 2 (fun j => if j = 0 then some (x, N, N) else some (y, N, N)) := by
  have hE : Ext [] w ((w.alloc (.cells #[.slice (some ⟨x, 0, none⟩) N N, .slice (some ⟨y, 0, none⟩) N N] 29)).alloc (.cells #[.slice none 0 0, .slice none 0 0, .slice (some ⟨w.heap.size, 0, none⟩) 2 2, .slice none 0 0] 54)) := (Ext.alloc [] _ _).trans (Ext.alloc [] _ _)
  have hxl := hx.lt
  have hyl := hy.lt
  have hm : N ≤ maxLen := by unfold maxLen; omega
  refine ⟨?_, ?_, ?_⟩
  · intro j hj
    have e := heap_alloc2_old w (.cells #[.slice (some ⟨x, 0, none⟩) N N, .slice (some ⟨y, 0, none⟩) N N] 29) (.cells #[.slice none 0 0, .slice none 0 0, .slice (some ⟨w.heap.size, 0, none⟩) 2 2, .slice none 0 0] 54)
    rw [cell_of_row _ _ j _ _ _ e]
    have : j = 0 ∨ j = 1 := by omega
    rcases this with rfl | rfl <;> rfl
  · intro j b l c hj hit
    by_cases h0 : j = 0
    · simp only [h0, if_true, Option.some.injEq, Prod.mk.injEq] at hit
      obtain ⟨rfl, rfl, rfl⟩ := hit
      refine ⟨⟨L.map (Value.int .u8), by simpa using hL, ?_⟩, by omega, hN⟩
      have := (hx.keep hE (by simp)).own1 (by omega)
      rw [hL] at this; exact this
    · simp only [h0, if_false, Option.some.injEq, Prod.mk.injEq] at hit
      obtain ⟨rfl, rfl, rfl⟩ := hit
      refine ⟨⟨M.map (Value.int .u8), by simpa using hM, ?_⟩, by omega, hN⟩
      have := (hy.keep hE (by simp)).own1 (by omega)
      rw [hM] at this; exact this
  · intro i j b l c b' l' c' hi hj h1 h2 hij
    have : (i = 0 ∧ j = 1) ∨ (i = 1 ∧ j = 0) := by omega
    rcases this with ⟨rfl, rfl⟩ | ⟨rfl, rfl⟩
    · simp at h1 h2; omega
    · simp at h1 h2; omega

theorem book_none (w : World) :
    Bk ((w.alloc (.cells #[.slice none 0 0, .slice none 0 0] 29)).alloc (.cells #[.slice none 0 0, .slice none 0 0, .slice (some ⟨w.heap.size, 0, none⟩) 2 2, .slice none 0 0] 54)) w.heap.size 2 (fun _ => none) := by
  refine ⟨?_, by simp, by simp⟩
  intro j hj
  have e := heap_alloc2_old w (.cells #[.slice none 0 0, .slice none 0 0] 29) (.cells #[.slice none 0 0, .slice none 0 0, .slice (some ⟨w.heap.size, 0, none⟩) 2 2, .slice none 0 0] 54)
  rw [cell_of_row _ _ j _ _ _ e]
  have : j = 0 ∨ j = 1 := by omega
  rcases this with rfl | rfl <;> rfl

set_option maxRecDepth 100000 in
set_option maxHeartbeats 4000000 in
theorem keepsOf (s : Int) (a : Option Addr) (n c : Nat) (xs : List Int) (i k : Int) (w : World) (hs : I64 s) (hi : I64 i) (hS : Sl w a xs) (hn : xs.length = n) (hm : n ≤ 140737488351232) :
    Calls Try.prog 7 #[.int .i64 s, .slice a n c, .int .i64 i, .int .i64 k] w (SayPost w (.bool true)) := by
  have HS : Hid (Sl w a xs) := hS
  have HN : Hid (xs.length = n) := hn
  have HM : Hid (n ≤ maxLen) := by show n ≤ maxLen; unfold maxLen; omega
  clear hS hn
  go_enter Try.func7, Try.ntmps7
  go_wp2_with fail
  refine (made_any s hs a n c xs w HS.out HN.out HM.out).mono ?_
  rintro e w1 ⟨L1, rfl, hA1, hL1, hE1⟩
  have HE1 : Hid (Ext [] w w1) := hE1
  have hA1l := hA1.row.lt
  have hA1p := lt_of_heap hA1.box
  go_wp2_with fail
  refine (made_any s hs a n c xs w1 (HS.out.keep hE1 (by simp)) HN.out HM.out).mono ?_
  rintro e w2 ⟨L2, rfl, hA2, hL2, hE2⟩
  have hA12 := hA1.keep hE2 (by simp) (by simp)
  have HE2 : Hid (Ext [] w w2) := HE1.out.trans hE2
  have hA2l := hA2.row.lt
  have hA2p := lt_of_heap hA2.box
  clear hA1 hE1 hE2
  go_wp2_with fail
  refine (awake_any _).mono ?_
  rintro e w3 ⟨rfl, hE3⟩
  have hA13 := hA12.keep hE3 (by simp) (by simp)
  have hA23 := hA2.keep hE3 (by simp) (by simp)
  have HE3 : Hid (Ext [] w w3) := HE2.out.trans hE3
  have hs23 := hE3.size
  clear hA12 hA2 hE3
  go_wp2_with fail
  refine (own_any a n c xs w3 (HS.out.keep HE3.out (by simp)) HN.out (by omega)).mono ?_
  rintro e w4 ⟨q, qc, rfl, hO4, hE4, hq⟩
  have hA14 := hA13.keep hE4 (by simp) (by simp)
  have hA24 := hA23.keep hE4 (by simp) (by simp)
  have HE4 : Hid (Ext [] w w4) := HE3.out.trans hE4
  have hq4 := hO4.lt
  have hs34 := hE4.size
  have hrow : Row (w4.alloc (.cells #[.int .u8 71, .int .u8 72] 5)) w4.heap.size [71, 72] := heap_alloc_new w4 _
  obtain ⟨b5, c5, w5, hr, hO5, hE5, hb5⟩ := run_append_bytes (w4.alloc (.cells #[.int .u8 71, .int .u8 72] 5)) 29 q qc n xs [71, 72] (some ⟨w4.heap.size, 0, none⟩) 2 2 (hO4.keep (Ext.alloc [] _ _) (by simp))
    (hrow.sl (by intro x hx; simp at hx; omega)) HN.out rfl (by omega) w3.heap.size hq
  have hE45 : Ext [q] w4 w5 := (Ext.alloc [q] _ _).trans hE5
  have hA15 := hA14.keep hE45 (by simp; omega) (by simp; omega)
  have hA25 := hA24.keep hE45 (by simp; omega) (by simp; omega)
  have HE5 : Hid (Ext [] w w5) := ((HE4.out.mono (T := [q]) (by simp)).trans hE45).drop (by have := HE3.out.size; simp; omega)
  have hc5 : n + 2 ≤ c5 := by
    obtain ⟨cur, _, _, h3, _⟩ := hO5.at_
    simp at h3; have := HN.out; omega
  have hb5l := hO5.lt
  have hS5 : Sl w5 (some ⟨b5, 0, none⟩) xs := by
    have h1 := hO5.sl
    refine ⟨.inr ⟨b5, 0, rfl, fun j hj => ?_⟩, HS.out.ok⟩
    rw [h1.cellAt j (by simp; omega)]
    simp [List.getD, List.getElem?_append_left hj]
  have HO5 : Hid (Owns w5 b5 c5 (xs ++ [71, 72])) := hO5
  have HS5 : Hid (Sl w5 (some ⟨b5, 0, none⟩) xs) := hS5
  have HA15 : Hid (Ar w5 (w.heap.size + 1) w.heap.size L1) := hA15
  have HA25 : Hid (Ar w5 (w1.heap.size + 1) w1.heap.size L2) := hA25
  clear hO5 hE5 hE45 hA14 hA24 hA13 hA23 hO4 hE4 hrow hS5 hA15 hA25
  go_wp2_with (at_builtin; refine wpList_append_run rfl _ _ 29 rfl _ _ _ rfl rfl hr ?_)
  clear hr
  refine (write_all 0 (by unfold I64; omega) (some ⟨b5, 0, none⟩) n c5 xs _ _ w5 L1 HA15.out HS5.out HN.out).mono ?_
  rintro e w6 ⟨rfl, hA16, hE6⟩
  generalize effW L1 0 xs = L at *
  have hA26 := HA25.out.keep hE6 (by simp; omega) (by simp; omega)
  have HE6 : Hid (Ext [] w w6) := ((HE5.out.mono (T := [w.heap.size]) (by simp)).trans hE6).drop (by simp)
  have HO6 : Hid (Owns w6 b5 c5 (xs ++ [71, 72])) := HO5.out.keep hE6 (by simp; have := HE3.out.size; omega)
  have HS6 : Hid (Sl w6 (some ⟨b5, 0, none⟩) xs) := HS5.out.keep hE6 (fun ad had => by cases had; simp; have := HE3.out.size; omega)
  have hx1 : w6.cell? ⟨b5, n, none⟩ = some (.int .u8 71) := by
    have h1 := HO6.out.sl.cellAt n (by simp; have := HN.out; omega)
    have h2 := HN.out
    subst h2
    simpa using h1
  have hx2 : w6.cell? ⟨b5, n + 1, none⟩ = some (.int .u8 72) := by
    have h1 := HO6.out.sl.cellAt (n + 1) (by simp; have := HN.out; omega)
    have h2 := HN.out
    subst h2
    simpa [List.getD, List.getElem?_append_right] using h1
  have hb6 : b5 < w6.heap.size := HO6.out.lt
  have hs56 := hE6.size
  clear hE6 HO5 HS5 HA15 HA25
  go_wp2_with fail
  refine (same_true (some ⟨b5, 0, none⟩) a n c5 c xs w6 HS6.out (HS.out.keep HE6.out (by simp)) HN.out HM.out).mono ?_
  rintro e w7 ⟨rfl, hE7⟩
  have hA17 := hA16.keep hE7 (by simp) (by simp)
  have hA27 := hA26.keep hE7 (by simp) (by simp)
  have HE7 : Hid (Ext [] w w7) := HE6.out.trans hE7
  have HO7 : Hid (Owns w7 b5 c5 (xs ++ [71, 72])) := HO6.out.keep hE7 (by simp)
  have hs67 := hE7.size
  clear hA16 hA26 hE7 hx1 hx2 HO6 HS6
  go_wp2_with fail
  refine met (size_any w7 _ _ _ hA17) ?_
  go_wp2_with fail
  refine (bytes_ok 0 L.length _ _ w7 L hA17 (by omega)).mono ?_
  rw [cut_all]
  rintro e w8 ⟨rfl, hR8, hE8⟩
  have hA18 := hA17.keep hE8 (by simp) (by simp)
  have hA28 := hA27.keep hE8 (by simp) (by simp)
  have HE8 : Hid (Ext [] w w8) := HE7.out.trans hE8
  have HO8 : Hid (Owns w8 b5 c5 (xs ++ [71, 72])) := HO7.out.keep hE8 (by simp)
  have hs78 := hE8.size
  have hl8 := hR8.lt
  clear hA17 hA27 hE8 HO7
  by_cases he : perr L.length i k = 0
  · obtain ⟨I, N, rfl, rfl, hI⟩ := perr_ok he
    clear he
    go_wp2_with fail
    refine (bytes_ok I N _ _ w8 L hA18 hI).mono ?_
    rintro e w9 ⟨rfl, hX9, hE9⟩
    have hA19 := hA18.keep hE9 (by simp) (by simp)
    have hA29 := hA28.keep hE9 (by simp) (by simp)
    have hR9 := hR8.keep hE9 (by simp)
    have HE9 : Hid (Ext [] w w9) := HE8.out.trans hE9
    have HO9 : Hid (Owns w9 b5 c5 (xs ++ [71, 72])) := HO8.out.keep hE9 (by simp)
    have hs89 := hE9.size
    have hl9 := hX9.lt
    clear hA18 hA28 hR8 hE9 HO8
    go_wp2_with fail
    refine (bytes_ok I N _ _ w9 L hA19 hI).mono ?_
    rintro e w10 ⟨rfl, hY10, hE10⟩
    have HA110 : Hid (Ar w10 (w.heap.size + 1) w.heap.size L) := hA19.keep hE10 (by simp) (by simp)
    have HA210 : Hid (Ar w10 (w1.heap.size + 1) w1.heap.size L2) := hA29.keep hE10 (by simp) (by simp)
    have HR10 : Hid (Row w10 w7.heap.size L) := hR9.keep hE10 (by simp)
    have HX10 : Hid (Row w10 w8.heap.size (cut L I N)) := hX9.keep hE10 (by simp)
    have HY10 : Hid (Row w10 w9.heap.size (cut L I N)) := hY10
    have HE10 : Hid (Ext [] w w10) := HE9.out.trans hE10
    have HO10 : Hid (Owns w10 b5 c5 (xs ++ [71, 72])) := HO9.out.keep hE10 (by simp)
    have hs910 := hE10.size
    have hl10 := hY10.lt
    have hlen := hA19.len
    have HLB : Hid (Bts L) := hA19.ok
    clear hA19 hA29 hR9 hX9 hY10 hE10 HO9
    go_wp2_with fail
    go_loopw [18] (fun q wr => ∃ (j : Nat) (ys : List Value), q = .int .i64 j ∧ j ≤ n + 2 ∧ ys.length = n + 2 ∧ Own1 wr 5 b5 c5 ys ∧ Ext [b5] w10 wr) (fun q _ => (n + 2 - (intOf q)).toNat)
    case atStart =>
      refine ⟨0, (xs ++ [71, 72]).map (Value.int .u8), rfl, by omega, by simp; exact HN.out, ?_, Ext.refl _ _⟩
      obtain ⟨cur, h1, h2, h3, h4⟩ := HO10.out.at_
      exact ⟨⟨cur, h1, h2, by simpa using h3, by simpa using h4⟩, HO10.out.max⟩
    case round =>
      obtain ⟨j, ys, rfl, hj, hyl, hO, hE⟩ := hrel
      have HO : Hid (Own1 wr 5 b5 c5 ys) := hO
      have HE : Hid (Ext [b5] w10 wr) := hE
      have HY : Hid (ys.length = n + 2) := hyl
      by_cases hjn : j < n + 2
      · have hce : wr.cell? ⟨b5, j, none⟩ = some (ys[j]'(by omega)) := by rw [hO.cell j (by omega)]; simp [hyl, hjn]
        have hfr := hO.frozen j
        generalize ys[j]'(by omega) = y at hce
        clear hO hE hyl
        go_wp2
        go_roundw
        case rel => exact ⟨j + 1, ys.set j _, by go_num, by omega, by rw [List.length_set]; exact HY.out, HO.out.set j _, HE.out.trans (Ext.setCell _ _ _ _ (by simp))⟩
        case measure => simp [intOf]; omega
      · clear hO hE hyl
        have hbs : w.heap.size ≤ w3.heap.size := HE3.out.size
        obtain ⟨w11, hw11⟩ : ∃ w11, w11 = wr := ⟨_, rfl⟩
        subst hw11
        have HE11 : Hid (Ext [] w w11) := ((HE10.out.mono (T := [b5]) (by simp)).trans HE.out).drop (by simp; omega)
        have hA111 := HA110.out.keep HE.out (by simp; omega) (by simp; omega)
        have hA211 := HA210.out.keep HE.out (by simp; omega) (by simp; omega)
        have hR11 := HR10.out.keep HE.out (by simp; omega)
        have hs1011 := HE.out.size
        have hX11 := HX10.out.keep HE.out (by simp; omega)
        have hY11 := HY10.out.keep HE.out (by simp; omega)
        have K12 := same_true (some ⟨w8.heap.size, 0, none⟩) (some ⟨w9.heap.size, 0, none⟩) N N N (cut L I N) w11 (hX11.sl (bts_cut HLB.out I N)) (hY11.sl (bts_cut HLB.out I N)) (length_cut _ _ _) (by unfold maxLen; omega)
        go_wp2_with fail
        refine K12.mono ?_
        clear K12
        rintro e w12 ⟨rfl, hE12⟩
        have hA112 := hA111.keep hE12 (by simp) (by simp)
        have hA212 := hA211.keep hE12 (by simp) (by simp)
        have hR12 := hR11.keep hE12 (by simp)
        have HE12 : Hid (Ext [] w w12) := HE11.out.trans hE12
        have hs1112 := hE12.size
        have hX12 := hX11.keep hE12 (by simp)
        have hY12 := hY11.keep hE12 (by simp)
        clear hX11 hY11
        clear hA111 hA211 hR11 hE12
        have HA112 : Hid (Ar w12 (w.heap.size + 1) w.heap.size L) := hA112
        have HA212 : Hid (Ar w12 (w1.heap.size + 1) w1.heap.size L2) := hA212
        have HR12 : Hid (Row w12 w7.heap.size L) := hR12
        have HX12 : Hid (Row w12 w8.heap.size (cut L I N)) := hX12
        have HY12 : Hid (Row w12 w9.heap.size (cut L I N)) := hY12
        clear hX12 hY12
        clear hA112 hA212 hR12
        go_wp2_with fail
        have hBk := book_two HX12.out HY12.out (length_cut _ _ _) (length_cut _ _ _) (by omega) (by omega)
        have hbl : ∀ x ∈ blks 2 (fun j => if j = 0 then some (w8.heap.size, N, N) else some (w9.heap.size, N, N)), w8.heap.size ≤ x ∧ x < w12.heap.size := by
          intro x hx
          obtain ⟨j, l, c, hj, hit⟩ := mem_blks.1 hx
          by_cases h0 : j = 0
          · simp [h0] at hit; omega
          · simp [h0] at hit; omega
        generalize (fun j => if j = 0 then some (w8.heap.size, N, N) else some (w9.heap.size, N, N)) = it at *
        have hEa : Ext [] w12 ((w12.alloc (.cells #[.slice (some ⟨w8.heap.size, 0, none⟩) N N, .slice (some ⟨w9.heap.size, 0, none⟩) N N] 29)).alloc (.cells #[.slice none 0 0, .slice none 0 0, .slice (some ⟨w12.heap.size, 0, none⟩) 2 2, .slice none 0 0] 54)) := (Ext.alloc [] _ _).trans (Ext.alloc [] _ _)
        have K13 := apart_any (w12.heap.size + 1) w12.heap.size 2 it _ (by omega) hBk (by rw [cell_of_row _ _ 0 _ _ _ (heap_alloc2_new w12 _ _)]; rfl) (by rw [cell_of_row _ _ 1 _ _ _ (heap_alloc2_new w12 _ _)]; rfl) (by rw [cell_of_row _ _ 2 _ _ _ (heap_alloc2_new w12 _ _)]; rfl) (by rw [cell_of_row _ _ 3 _ _ _ (heap_alloc2_new w12 _ _)]; rfl) (fun hx => by have := hbl _ hx; omega)
        refine K13.mono ?_
        clear K13 hBk
        rintro e w14 ⟨rfl, hE14⟩
        have hEb : Ext (blks 2 it) w12 w14 := (hEa.mono (by simp)).trans hE14
        have hA114 := HA112.out.keep hEb (fun hx => by have := hbl _ hx; omega) (fun hx => by have := hbl _ hx; omega)
        have hA214 := HA212.out.keep hEb (fun hx => by have := hbl _ hx; omega) (fun hx => by have := hbl _ hx; omega)
        have hR14 := HR12.out.keep hEb (fun hx => by have := hbl _ hx; omega)
        have HE14 : Hid (Ext [] w w14) := ((HE12.out.mono (by simp)).trans hEb).drop (fun x hx => .inr (by have := hbl _ hx; omega))
        have hs1214 := hEb.size
        have hl14 := hA114.row.lt
        have hl14b := hA214.row.lt
        clear hEa hE14 hEb hbl HA112 HA212 HR12
        go_wp2_with fail
        refine met (size_any w14 _ _ _ hA114) ?_
        go_wp2_with fail
        refine (bytes_ok 0 L.length _ _ w14 L hA114 (by omega)).mono ?_
        rw [cut_all]
        rintro e w15 ⟨rfl, hG15, hE15⟩
        have hA115 := hA114.keep hE15 (by simp) (by simp)
        have hA215 := hA214.keep hE15 (by simp) (by simp)
        have hR15 := hR14.keep hE15 (by simp)
        have HE15 : Hid (Ext [] w w15) := HE14.out.trans hE15
        have hl15 := hG15.lt
        clear hA114 hA214 hR14 hE15
        go_wp2_with fail
        refine met (size_any w15 _ _ _ hA215) ?_
        go_wp2_with fail
        refine (bytes_ok 0 L2.length _ _ w15 L2 hA215 (by omega)).mono ?_
        rw [cut_all]
        rintro e w16 ⟨rfl, hQ16, hE16⟩
        have hA116 := hA115.keep hE16 (by simp) (by simp)
        have hA216 := hA215.keep hE16 (by simp) (by simp)
        have hR16 := hR15.keep hE16 (by simp)
        have hG16 := hG15.keep hE16 (by simp)
        have HE16 : Hid (Ext [] w w16) := HE15.out.trans hE16
        have hl16 := hQ16.lt
        clear hA115 hA215 hR15 hG15 hE16
        go_wp2_with fail
        refine met (size_any w16 _ _ _ hA116) ?_
        go_wp2_with fail
        refine (clear_ok 0 L.length _ _ w16 L hA116 (by omega)).mono ?_
        rintro e w17 ⟨rfl, hA117, hE17⟩
        have hA217 := hA216.keep hE17 (by simp; omega) (by simp; omega)
        have hR17 := hR16.keep hE17 (by simp; omega)
        have hG17 := hG16.keep hE17 (by simp; omega)
        have hQ17 := hQ16.keep hE17 (by simp; omega)
        have HE17 : Hid (Ext [] w w17) := ((HE16.out.mono (T := [w.heap.size]) (by simp)).trans hE17).drop (by simp)
        clear hA116 hA216 hR16 hG16 hQ16 hE17 hA117
        go_wp2_with fail
        refine met (size_any w17 _ _ _ hA217) ?_
        go_wp2_with fail
        refine (bytes_ok 0 L2.length _ _ w17 L2 hA217 (by omega)).mono ?_
        rw [cut_all]
        rintro e w18 ⟨rfl, hP18, hE18⟩
        have hL2ok := hA217.ok
        have hR18 := hR17.keep hE18 (by simp)
        have hG18 := hG17.keep hE18 (by simp)
        have hQ18 := hQ17.keep hE18 (by simp)
        have HE18 : Hid (Ext [] w w18) := HE17.out.trans hE18
        clear hA217 hR17 hG17 hQ17 hE18
        go_wp2_with fail
        refine (same_true (some ⟨w7.heap.size, 0, none⟩) (some ⟨w14.heap.size, 0, none⟩) L.length L.length L.length L w18 (hR18.sl HLB.out) (hG18.sl HLB.out) rfl (by unfold maxLen; omega)).mono ?_
        rintro e w19 ⟨rfl, hE19⟩
        have hP19 := hP18.keep hE19 (by simp)
        have hQ19 := hQ18.keep hE19 (by simp)
        have HE19 : Hid (Ext [] w w19) := HE18.out.trans hE19
        clear hR18 hG18 hP18 hQ18 hE19
        go_wp2_with fail
        refine (same_true (some ⟨w15.heap.size, 0, none⟩) (some ⟨w17.heap.size, 0, none⟩) L2.length L2.length L2.length L2 w19 (hQ19.sl hL2ok) (hP19.sl hL2ok) rfl (by unfold maxLen; omega)).mono ?_
        rintro e w20 ⟨rfl, hE20⟩
        go_wp2
        go_ret
        exact ⟨rfl, HE19.out.trans hE20⟩
  · obtain ⟨E, hE⟩ : ∃ E, perr L.length i k = E := ⟨_, rfl⟩
    have hE0 : E ≠ 0 := by omega
    have K8 := bytes_err i k _ _ w8 L hA18 hi E hE hE0
    clear he hE
    have HA110 : Hid (Ar w8 (w.heap.size + 1) w.heap.size L) := hA18
    have HA210 : Hid (Ar w8 (w1.heap.size + 1) w1.heap.size L2) := hA28
    have HR10 : Hid (Row w8 w7.heap.size L) := hR8
    have HO10 : Hid (Owns w8 b5 c5 (xs ++ [71, 72])) := HO8.out
    have hlen := hA18.len
    have HLB : Hid (Bts L) := hA18.ok
    clear hA18 hA28 hR8
    go_wp2_with fail
    refine met K8 ?_
    go_wp2_with fail
    refine met K8 ?_
    clear K8
    go_wp2_with fail
    go_loopw [18] (fun q wr => ∃ (j : Nat) (ys : List Value), q = .int .i64 j ∧ j ≤ n + 2 ∧ ys.length = n + 2 ∧ Own1 wr 5 b5 c5 ys ∧ Ext [b5] w8 wr) (fun q _ => (n + 2 - (intOf q)).toNat)
    case atStart =>
      refine ⟨0, (xs ++ [71, 72]).map (Value.int .u8), rfl, by omega, by simp; exact HN.out, ?_, Ext.refl _ _⟩
      obtain ⟨cur, h1, h2, h3, h4⟩ := HO10.out.at_
      exact ⟨⟨cur, h1, h2, by simpa using h3, by simpa using h4⟩, HO10.out.max⟩
    case round =>
      obtain ⟨j, ys, rfl, hj, hyl, hO, hE⟩ := hrel
      have HO : Hid (Own1 wr 5 b5 c5 ys) := hO
      have HE : Hid (Ext [b5] w8 wr) := hE
      have HY : Hid (ys.length = n + 2) := hyl
      by_cases hjn : j < n + 2
      · have hce : wr.cell? ⟨b5, j, none⟩ = some (ys[j]'(by omega)) := by rw [hO.cell j (by omega)]; simp [hyl, hjn]
        have hfr := hO.frozen j
        generalize ys[j]'(by omega) = y at hce
        clear hO hE hyl
        go_wp2
        go_roundw
        case rel => exact ⟨j + 1, ys.set j _, by go_num, by omega, by rw [List.length_set]; exact HY.out, HO.out.set j _, HE.out.trans (Ext.setCell _ _ _ _ (by simp))⟩
        case measure => simp [intOf]; omega
      · clear hO hE hyl
        have hbs : w.heap.size ≤ w3.heap.size := HE3.out.size
        obtain ⟨w11, hw11⟩ : ∃ w11, w11 = wr := ⟨_, rfl⟩
        subst hw11
        have HE11 : Hid (Ext [] w w11) := ((HE8.out.mono (T := [b5]) (by simp)).trans HE.out).drop (by simp; omega)
        have hA111 := HA110.out.keep HE.out (by simp; omega) (by simp; omega)
        have hA211 := HA210.out.keep HE.out (by simp; omega) (by simp; omega)
        have hR11 := HR10.out.keep HE.out (by simp; omega)
        have hs1011 := HE.out.size
        have K12 := same_true none none 0 0 0 [] w11 ⟨.inl rfl, by intro x hx; simp at hx⟩ ⟨.inl rfl, by intro x hx; simp at hx⟩ rfl (by unfold maxLen; omega)
        go_wp2_with fail
        refine K12.mono ?_
        clear K12
        rintro e w12 ⟨rfl, hE12⟩
        have hA112 := hA111.keep hE12 (by simp) (by simp)
        have hA212 := hA211.keep hE12 (by simp) (by simp)
        have hR12 := hR11.keep hE12 (by simp)
        have HE12 : Hid (Ext [] w w12) := HE11.out.trans hE12
        have hs1112 := hE12.size
        clear hA111 hA211 hR11 hE12
        have HA112 : Hid (Ar w12 (w.heap.size + 1) w.heap.size L) := hA112
        have HA212 : Hid (Ar w12 (w1.heap.size + 1) w1.heap.size L2) := hA212
        have HR12 : Hid (Row w12 w7.heap.size L) := hR12
        clear hA112 hA212 hR12
        go_wp2_with fail
        have hBk := book_none w12
        have hbl : ∀ x ∈ blks 2 (fun _ => (none : Option (Nat × Nat × Nat))), w8.heap.size ≤ x ∧ x < w12.heap.size := by
          intro x hx
          obtain ⟨j, l, c, hj, hit⟩ := mem_blks.1 hx
          simp at hit
        generalize (fun _ => (none : Option (Nat × Nat × Nat))) = it at *
        have hEa : Ext [] w12 ((w12.alloc (.cells #[.slice none 0 0, .slice none 0 0] 29)).alloc (.cells #[.slice none 0 0, .slice none 0 0, .slice (some ⟨w12.heap.size, 0, none⟩) 2 2, .slice none 0 0] 54)) := (Ext.alloc [] _ _).trans (Ext.alloc [] _ _)
        have K13 := apart_any (w12.heap.size + 1) w12.heap.size 2 it _ (by omega) hBk (by rw [cell_of_row _ _ 0 _ _ _ (heap_alloc2_new w12 _ _)]; rfl) (by rw [cell_of_row _ _ 1 _ _ _ (heap_alloc2_new w12 _ _)]; rfl) (by rw [cell_of_row _ _ 2 _ _ _ (heap_alloc2_new w12 _ _)]; rfl) (by rw [cell_of_row _ _ 3 _ _ _ (heap_alloc2_new w12 _ _)]; rfl) (fun hx => by have := hbl _ hx; omega)
        refine K13.mono ?_
        clear K13 hBk
        rintro e w14 ⟨rfl, hE14⟩
        have hEb : Ext (blks 2 it) w12 w14 := (hEa.mono (by simp)).trans hE14
        have hA114 := HA112.out.keep hEb (fun hx => by have := hbl _ hx; omega) (fun hx => by have := hbl _ hx; omega)
        have hA214 := HA212.out.keep hEb (fun hx => by have := hbl _ hx; omega) (fun hx => by have := hbl _ hx; omega)
        have hR14 := HR12.out.keep hEb (fun hx => by have := hbl _ hx; omega)
        have HE14 : Hid (Ext [] w w14) := ((HE12.out.mono (by simp)).trans hEb).drop (fun x hx => .inr (by have := hbl _ hx; omega))
        have hs1214 := hEb.size
        have hl14 := hA114.row.lt
        have hl14b := hA214.row.lt
        clear hEa hE14 hEb hbl HA112 HA212 HR12
        go_wp2_with fail
        refine met (size_any w14 _ _ _ hA114) ?_
        go_wp2_with fail
        refine (bytes_ok 0 L.length _ _ w14 L hA114 (by omega)).mono ?_
        rw [cut_all]
        rintro e w15 ⟨rfl, hG15, hE15⟩
        have hA115 := hA114.keep hE15 (by simp) (by simp)
        have hA215 := hA214.keep hE15 (by simp) (by simp)
        have hR15 := hR14.keep hE15 (by simp)
        have HE15 : Hid (Ext [] w w15) := HE14.out.trans hE15
        have hl15 := hG15.lt
        clear hA114 hA214 hR14 hE15
        go_wp2_with fail
        refine met (size_any w15 _ _ _ hA215) ?_
        go_wp2_with fail
        refine (bytes_ok 0 L2.length _ _ w15 L2 hA215 (by omega)).mono ?_
        rw [cut_all]
        rintro e w16 ⟨rfl, hQ16, hE16⟩
        have hA116 := hA115.keep hE16 (by simp) (by simp)
        have hA216 := hA215.keep hE16 (by simp) (by simp)
        have hR16 := hR15.keep hE16 (by simp)
        have hG16 := hG15.keep hE16 (by simp)
        have HE16 : Hid (Ext [] w w16) := HE15.out.trans hE16
        have hl16 := hQ16.lt
        clear hA115 hA215 hR15 hG15 hE16
        go_wp2_with fail
        refine met (size_any w16 _ _ _ hA116) ?_
        go_wp2_with fail
        refine (clear_ok 0 L.length _ _ w16 L hA116 (by omega)).mono ?_
        rintro e w17 ⟨rfl, hA117, hE17⟩
        have hA217 := hA216.keep hE17 (by simp; omega) (by simp; omega)
        have hR17 := hR16.keep hE17 (by simp; omega)
        have hG17 := hG16.keep hE17 (by simp; omega)
        have hQ17 := hQ16.keep hE17 (by simp; omega)
        have HE17 : Hid (Ext [] w w17) := ((HE16.out.mono (T := [w.heap.size]) (by simp)).trans hE17).drop (by simp)
        clear hA116 hA216 hR16 hG16 hQ16 hE17 hA117
        go_wp2_with fail
        refine met (size_any w17 _ _ _ hA217) ?_
        go_wp2_with fail
        refine (bytes_ok 0 L2.length _ _ w17 L2 hA217 (by omega)).mono ?_
        rw [cut_all]
        rintro e w18 ⟨rfl, hP18, hE18⟩
        have hL2ok := hA217.ok
        have hR18 := hR17.keep hE18 (by simp)
        have hG18 := hG17.keep hE18 (by simp)
        have hQ18 := hQ17.keep hE18 (by simp)
        have HE18 : Hid (Ext [] w w18) := HE17.out.trans hE18
        clear hA217 hR17 hG17 hQ17 hE18
        go_wp2_with fail
        refine (same_true (some ⟨w7.heap.size, 0, none⟩) (some ⟨w14.heap.size, 0, none⟩) L.length L.length L.length L w18 (hR18.sl HLB.out) (hG18.sl HLB.out) rfl (by unfold maxLen; omega)).mono ?_
        rintro e w19 ⟨rfl, hE19⟩
        have hP19 := hP18.keep hE19 (by simp)
        have hQ19 := hQ18.keep hE19 (by simp)
        have HE19 : Hid (Ext [] w w19) := HE18.out.trans hE19
        clear hR18 hG18 hP18 hQ18 hE19
        go_wp2_with fail
        refine (same_true (some ⟨w15.heap.size, 0, none⟩) (some ⟨w17.heap.size, 0, none⟩) L2.length L2.length L2.length L2 w19 (hQ19.sl hL2ok) (hP19.sl hL2ok) rfl (by unfold maxLen; omega)).mono ?_
        rintro e w20 ⟨rfl, hE20⟩
        go_wp2
        go_ret
        exact ⟨rfl, HE19.out.trans hE20⟩

end Go.Proofs.Ytnnagkinkckoeaa

namespace Go.Proofs.Ytnnagkinkckoeaa.arenaKeeps
open Go.ChangeShapes Go.WideShapes Go.ChangeAt Go.RowKit

theorem walk (a0 : Int) (a1 : Option Addr) (len1 cap1 : Nat) (z1 : List Int) (a2 : Int) (a3 : Int) (w : World) (w0 : (Lit.int .i64 a0).wf = true) (w1 : IsRow .u8 w a1 len1 cap1 z1) (w2 : (Lit.int .i64 a2).wf = true) (_w3 : (Lit.int .i64 a3).wf = true) (r1 : len1 ≤ 140737488351232) :
    Calls Try.prog 7 #[.int .i64 a0, .slice a1 len1 cap1, .int .i64 a2, .int .i64 a3] w (SayPost w (.bool true)) :=
  keepsOf a0 a1 len1 cap1 _ a2 a3 w (i64_of_wf w0) (i64_of_wf w2) w1.sl.1 w1.sl.2.1 r1

set_option maxRecDepth 100000 in
theorem lifted (os : Os) (started : os.Started) (H : Type) (enc : TypeId × Value → H) :
    ReturnsInHanded {} Try.checked os 7 .any (Rows.arenaKeepsSpec.pre6 enc Try.prog Try.f7 Rows.arenaKeepsRow.domain false) (Rows.arenaKeepsSpec.post enc Try.prog Try.f7 false true false false) := by
  refine returnsInHanded_of_change_sized (C := Try.checked) own started (by kernel_rfl) Try.func7
    (ChangeSpec.witness6 (enc := enc) (C := Try.checked) false ⟨#[], #[.int .i64 0, .slice none 0 0, .int .i64 0, .int .i64 0], []⟩ 8 (by kernel_rfl) (by kernel_rfl) (by kernel_rfl) (by kernel_rfl)) ?_
  intro W base args ds gs before hval0 hW hcnd hsz0 _
  have hval : ∀ (j : Nat) t v, Try.f7.params[j]? = some t → args[j]? = some v → Value.okWide Try.prog W .any base t v := hval0
  have hW' := hW
  obtain ⟨p, q, hA0, hV, rfl, hfz, hnd⟩ := hW
  have hA : DataW.TrodAll enc Try.prog W 0 (fun _ => true) true Try.f7.params.toList args.toList ds p := hA0
  rw [Try.params7] at hA hval
  obtain ⟨v0, vs0, d0, ds0, p0, q0, hargs, rfl, rfl, h0, r0⟩ := trodAll_cons hA
  obtain ⟨v1, vs1, d1, ds1, p1, q1, rfl, rfl, rfl, h1, r1⟩ := trodAll_cons r0
  obtain ⟨v2, vs2, d2, ds2, p2, q2, rfl, rfl, rfl, h2, r2⟩ := trodAll_cons r1
  obtain ⟨v3, vs3, d3, ds3, p3, q3, rfl, rfl, rfl, h3, r3⟩ := trodAll_cons r2
  obtain ⟨rfl, rfl, rfl⟩ := trodAll_nil r3
  obtain rfl : args = #[v0, v1, v2, v3] := by cases args; simp_all
  obtain ⟨rfl, rfl⟩ := trodVars_none hV
  obtain ⟨a0, rfl, rfl, rfl, w0⟩ := open_int Try.underlying3 (hval 0 3 v0 rfl rfl) h0
  obtain ⟨a1, len1, cap1, rfl⟩ := okWide_slice Try.underlying29 (hval 1 29 v1 rfl rfl)
  have k1 := h1
  have lt1 : ∀ x ∈ p1, x.block < W.heap.size := by obtain ⟨m, hm⟩ := k1; exact DataW.trod_lt m _ _ _ hm
  obtain ⟨z1, w1, y1⟩ : ∃ zs, IsRow .u8 W a1 len1 cap1 zs ∧ (len1 = 0 ∨ ∃ es sp, d1 = .slice es sp ∧ es.length = len1) := by
    obtain ⟨fuel, hf⟩ := h1
    rcases open_ints Try.underlying29 Try.underlying5 (by kernel_rfl) hf with ⟨hcs, _⟩ | ⟨x, l, c, zs, hcs, _, hl, hm, hz, hx, hcell, hwz⟩
    · simp [Value.cells] at hcs
      obtain ⟨rfl, rfl, rfl⟩ := hcs
      exact ⟨[], .inl ⟨rfl, rfl, rfl, rfl⟩, .inl rfl⟩
    · simp [Value.cells] at hcs
      obtain ⟨rfl, rfl, rfl⟩ := hcs
      simp only [Prod.mk.injEq] at hx
      simp only [if_true] at hz
      exact ⟨zs, .inr ⟨_, rfl, hl, hm, hz, hcell, hwz⟩, .inr ⟨_, _, hx.1, by simp [lits]; omega⟩⟩
  obtain ⟨a2, rfl, rfl, rfl, w2⟩ := open_int Try.underlying3 (hval 2 3 v2 rfl rfl) h2
  obtain ⟨a3, rfl, rfl, rfl, w3⟩ := open_int Try.underlying3 (hval 3 3 v3 rfl rfl) h3
  have hsz : (DataW.weightsEach Try.prog [3, 29, 3, 3] [_, d1, _, _]).all (· ≤ reachBytes) = true := hsz0
  have r1 : len1 ≤ 140737488351232 := by
    rcases y1 with h | ⟨es, sp, rfl, hl⟩
    · omega
    · have := sized_slice hsz (j := 1) (t := 29) (e := 5) rfl rfl Try.underlying29
      rw [bytes5] at this
      simp only [reachBytes] at this
      omega
  clear hA0 hval0
  refine (walk a0 a1 len1 cap1 z1 a2 a3 W w0 w1 w2 w3 r1).mono fun e W' ⟨he, hext⟩ => ?_
  subst he
  have bel := hext.below
  exact ⟨_, rfl, _, _, _, [], _, [], hW', trodAll_mk1 (shut_bool Try.underlying4 _), (trodAll_cons_mk (shut_int Try.underlying3 w0) (trodAll_cons_mk (Below.trod laidOut (by kernel_rfl) (of_decide_eq_true (by kernel_rfl)) k1 bel lt1) (trodAll_cons_mk (shut_int Try.underlying3 w2) (trodAll_cons_mk (shut_int Try.underlying3 w3) trodAll_mk0)))), rfl, bel.frame _, fun h => by cases h⟩

theorem over : Rows.arenaKeepsRow.holds Try.pinned (OpenSpec.ofChange Rows.arenaKeepsSpec) :=
  OpenClaim.holds_of_wide 7 Try.f7 rfl rfl rfl rfl rfl rfl rfl ⟨rfl, rfl, rfl, rfl, rfl⟩ rfl rfl rfl rfl rfl (by kernel_rfl) Try.func7 (by kernel_rfl)
    (of_decide_eq_true (by kernel_rfl)) (by unfold Func.isWrapper; first | (rw [if_pos (by decide +kernel)]; kernel_rfl) | (rw [if_neg (by decide +kernel)]; exact ⟨rfl, rfl⟩))
    (fun os started H enc _ => lifted os started H enc)

end Go.Proofs.Ytnnagkinkckoeaa.arenaKeeps

namespace Go.Proofs.Ytnnagkinkckoeaa
theorem arenaKeeps_holds : Rows.ArenaKeepsSaid := arenaKeeps.over
#print axioms arenaKeeps_holds
end Go.Proofs.Ytnnagkinkckoeaa

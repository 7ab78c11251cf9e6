/-
  What the statements' own look at memory does with lists of words that lie apart: it answers true; no statement is proved here.
-/
import Derived.Test.YtkknadkcpndnaaaDoorApart
namespace Go.Proofs.YtkknadkcpndnaaaDoor.Ap
open Go.ChangeShapes Go.WideShapes Go.ChangeAt Go.RowKit


theorem info22 : (Tryd.prog.info? 22).map (fun i => (i.zero, i.size, i.bytes)) = some (some (.slice none 0 0), 1, 24) := by kernel_rfl
/-- The number from which on the list i is marked. -/
def Nn (it : Nat → Option (Nat × Nat × Nat)) : Nat → Nat
  | 0 => 1000000
  | i + 1 => Nn it i + (ilen (it i) + 9)
def mi (it : Nat → Option (Nat × Nat × Nat)) (i j : Nat) : Value := .int .u64 ((Nn it i : Int) + (j : Int))
def ml (it : Nat → Option (Nat × Nat × Nat)) (i l : Nat) : List Value := (List.range l).map (mi it i)
theorem ml_len (it : Nat → Option (Nat × Nat × Nat)) (i l : Nat) : (ml it i l).length = l := by simp [ml]
theorem ml_succ (it : Nat → Option (Nat × Nat × Nat)) (i l : Nat) : ml it i (l + 1) = ml it i l ++ [mi it i l] := by simp [ml, List.range_succ]
theorem ml_take (it : Nat → Option (Nat × Nat × Nat)) (i l k : Nat) : (ml it i (l + k)).take l = ml it i l := by
  unfold ml
  rw [← List.map_take, List.take_range, Nat.min_eq_left (by omega)]
theorem ml_get (it : Nat → Option (Nat × Nat × Nat)) {i l j : Nat} (h : j < l) : (ml it i l)[j]? = some (mi it i j) := by simp [ml, h]
theorem full_ofI {w : World} {b c n i : Nat} {it : Nat → Option (Nat × Nat × Nat)} (h : Own1 w 23 b c (ml it i n)) : Full w b n (mi it i) := by
  intro j hj
  rw [h.cell j (by rw [ml_len]; exact hj), ml_get it hj]
theorem mem_ml {it : Nat → Option (Nat × Nat × Nat)} {i l : Nat} {ys : List Value} (hl : ys.length = l) (h : ∀ k, k < l → ys[k]? = some (mi it i k)) : ys = ml it i l := by
  apply List.ext_getElem?
  intro j
  by_cases hj : j < l
  · rw [h j hj, ml_get it hj]
  · rw [List.getElem?_eq_none (by omega), List.getElem?_eq_none (by rw [ml_len]; omega)]
theorem Nn_bd {it : Nat → Option (Nat × Nat × Nat)} {n : Nat} (h : ∀ i, i < n → ilen (it i) ≤ 1048576) : ∀ i, i ≤ n → Nn it i ≤ 1000000 + i * 1048585
  | 0, _ => by simp [Nn]
  | i + 1, hi => by
    have h1 := Nn_bd h i (by omega)
    have h2 := h i (by omega)
    simp only [Nn]
    omega

/-- The lists as they came are marked, too. -/
def Old (w : World) (it : Nat → Option (Nat × Nat × Nat)) (i : Nat) : Prop := ∀ j b l c, j < i → it j = some (b, l, c) → Full w b l (mi it j)

theorem old_step {w w2 w4 w5 : World} {h n i : Nat} {it : Nat → Option (Nat × Nat × Nat)} {S4 : List Nat} {b' : Nat} (hB : Bk 23 w h n it) (hO : Old w2 it i) (hin : i < n) (hE4 : Ext S4 w2 w4) (hS4 : ∀ x ∈ S4, ∃ l c, it i = some (x, l, c))
    (hown : ∀ b l c, it i = some (b, l, c) → Full w4 b l (mi it i)) (hE5 : Ext [b'] w4 w5) (hb' : w.heap.size ≤ b') : Old w5 it (i + 1) := by
  intro j b l c hj hit
  have hblt : b < w.heap.size := by
    obtain ⟨⟨xs, _, hO⟩, _⟩ := hB.mine j b l c (by omega) hit
    exact hO.lt
  by_cases e : j = i
  · subst e
    exact (hown b l c hit).keep hE5 (by simp; omega)
  · refine ((hO j b l c (by omega) hit).keep hE4 ?_).keep hE5 (by simp; omega)
    intro hx
    obtain ⟨l', c', hit'⟩ := hS4 _ hx
    exact hB.apart j i _ _ _ _ _ _ (by omega) hin hit hit' e rfl

theorem Bk.ilen {w : World} {h n : Nat} {it : Nat → Option (Nat × Nat × Nat)} {e : TypeId} (hB : Bk e w h n it) : ∀ i, i < n → ilen (it i) ≤ 1048576 := fun i hi => by
  cases hit : it i with
  | none => simp [Ap.ilen]
  | some x =>
    obtain ⟨b, l, c⟩ := x
    exact (hB.mine i b l c hi hit).2.2

/-- Where the row of the grown lists lies. -/
theorem place {w4 w5 w : World} {gv : Value} {i b' c' : Nat} {it : Nat → Option (Nat × Nat × Nat)} {G : Nat → Nat × Nat} {w2 : World} (hG : Gs 22 (mi it) w w2 it i gv G) (h24 : w.heap.size ≤ w4.heap.size) (hpl : (gv = .slice (some ⟨b', 0, none⟩) i c' ∧ Ext [b'] w4 w5) ∨ (b' = w4.heap.size ∧ Ext [] w4 w5)) : w.heap.size ≤ b' ∧ Ext [b'] w4 w5 := by
  rcases hpl with ⟨hg, hE⟩ | ⟨rfl, hE⟩
  · exact ⟨hG.new _ _ _ hg, hE⟩
  · exact ⟨h24, hE.mono (by simp)⟩

set_option maxRecDepth 100000 in
set_option maxHeartbeats 2000000 in
theorem apartWords_any (ha : Option Addr) (h n hc0 : Nat) (it : Nat → Option (Nat × Nat × Nat)) (w : World) (hn : n ≤ 2097152) (hh : ha = some ⟨h, 0, none⟩ ∨ n = 0) (hB : Bk 23 w h n it) : Calls Tryd.prog 57 #[.slice ha n hc0] w fun e w' => e = .returned (.bool true) ∧ Ext (blks n it) w w' := by
  have HB : Hid (Bk 23 w h n it) := hB
  have HNb : Hid (∀ i, i ≤ n → Nn it i ≤ 1000000 + i * 1048585) := Nn_bd hB.ilen
  have HH := hid hh
  clear hB hh
  go_enter Tryd.func57, Tryd.ntmps57
  go_wp2
  go_loopw [5, 4, 3] (fun q gv nv wr => ∃ (i : Nat) (G : Nat → Nat × Nat), q = .int .i64 i ∧ nv = .int .i64 (Nn it i : Nat) ∧ i ≤ n ∧ Bk 23 wr h n it ∧ Ext (blks n it) w wr ∧ Gs 22 (mi it) w wr it i gv G ∧ Old wr it i) (fun q _ _ _ => (n - (intOf q)).toNat)
  case atStart => exact ⟨0, fun _ => (0, 0), rfl, rfl, by omega, HB.out, Ext.refl _ _, ⟨.inl ⟨rfl, rfl⟩, by simp, by simp, by simp, by simp⟩, by intro j b l c hj; omega⟩
  case round =>
    obtain ⟨i, G, rfl, rfl, hi, hB2, hE2, hG2, hOld⟩ := hrel
    by_cases hin : i < n
    · obtain rfl : ha = some ⟨h, 0, none⟩ := by
        rcases HH.out with h | h
        · exact h
        · omega
      have hc := hB2.head i hin
      have HB2 := hid hB2
      have HE2 := hid hE2
      have HG2 := hid hG2
      have HOld := hid hOld
      have hNi := HNb.out i hi
      clear hB2 hE2 hG2 hOld
      obtain ⟨w2, hw2⟩ : ∃ w2, w2 = wr := ⟨_, rfl⟩
      subst hw2
      cases hit : it i with
      | none =>
        rw [hit] at hc
        have Hit : Hid (it i = none) := hit
        have HNs : Hid (Nn it (i + 1) = Nn it i + 9) := by show Nn it i + (ilen (it i) + 9) = _; rw [hit]; rfl
        clear hit
        have hc' : w2.cell? ⟨h, i, none⟩ = some (.slice none 0 0) := hc
        have HC' := hid hc'
        clear hc
        go_wp2
        go_loop [7] (fun q => q = .int .i64 0) (fun _ => 0)
        case atStart => rfl
        case round =>
          subst hrel
          go_wp2
          clear hc'
          go_loopw [8, 6] (fun q g wr => ∃ k : Nat, q = .int .i64 k ∧ k ≤ 9 ∧ Hv wr 23 g (ml it i k) ∧ (∀ b n c, g = .slice (some ⟨b, 0, none⟩) n c → w2.heap.size ≤ b) ∧ Ext [] w2 wr) (fun q _ _ => (9 - (intOf q)).toNat)
          case atStart => exact ⟨0, rfl, by omega, .inl ⟨rfl, rfl⟩, by simp, Ext.refl _ _⟩
          case round =>
            obtain ⟨k, rfl, hk, hV5, hN5, hE5⟩ := hrel
            have HV5 := hid hV5
            have HE5 := hid hE5
            have HN5 := hid hN5
            have hc5 := hE5.atCell HC'.out (by simp)
            clear hV5 hE5 hN5
            by_cases hk9 : k < 9
            · obtain ⟨t, ht, hz0, hz1, hz2⟩ := info_parts info23
              have hVa : Hv (wr.alloc (.cells #[.int .u64 ((Nn it i : Int) + (k : Int))] 23)) 23 u6 (ml it i k) := by
                rcases HV5.out with hv | ⟨b, c, hv, hO⟩
                · exact .inl hv
                · exact .inr ⟨b, c, hv, hO.keep (Ext.alloc [] _ _) (by simp)⟩
              obtain ⟨b', c', w6, hr, hO6, hp6⟩ := run_append1 (P := Tryd.prog) (wr.alloc (.cells #[.int .u64 ((Nn it i : Int) + (k : Int))] 23)) 22 22 23 t _ 8 Tryd.underlying22 ht hz0 hz1 hz2 rfl _ _ hVa ⟨wr.heap.size, 0, none⟩ (mi it i k) (by simp [Addr.add_lit, mi]) rfl 1 (by rw [ml_len]; omega) (by omega)
              rw [ml_len] at hr hp6
              rw [← ml_succ] at hO6
              have HO6 := hid hO6
              have HQ : Hid (Ext [] w2 w6 ∧ w2.heap.size ≤ b') := by
                have hsz : w2.heap.size ≤ wr.heap.size := HE5.out.size
                rcases hp6 with ⟨hv, hE6⟩ | ⟨rfl, hE6⟩
                · have hge := HN5.out _ _ _ hv
                  exact ⟨((HE5.out.mono (T := [b']) (by simp)).trans ((Ext.alloc [b'] _ _).trans hE6)).drop (by simp; omega), hge⟩
                · exact ⟨(HE5.out.trans (Ext.alloc _ _ _)).trans hE6, by simp; omega⟩
              clear hO6 hp6 hVa hz0 hz1 hz2 ht t
              go_wp2_with (at_builtin; refine wpList_append_run rfl _ _ 22 rfl _ _ _ rfl rfl hr ?_)
              go_roundw
              case rel =>
                refine ⟨k + 1, by go_num, by omega, .inr ⟨b', c', ?_, HO6.out⟩, ?_, HQ.out.1⟩
                · rw [ml_len]
                · intro b n c hg
                  simp only [Value.slice.injEq, Option.some.injEq, Addr.mk.injEq, and_true] at hg
                  rw [← hg.1]; exact HQ.out.2
              case measure => simp [intOf]; omega
            · obtain rfl : k = 9 := by omega
              obtain ⟨gb, gc, rfl, hO5⟩ : ∃ gb gc, u6 = .slice (some ⟨gb, 0, none⟩) 9 gc ∧ Own1 wr 23 gb gc (ml it i 9) := by
                rcases HV5.out with ⟨_, hv⟩ | ⟨b, c, hv, hO⟩
                · have := congrArg List.length hv; rw [ml_len] at this; simp at this
                · exact ⟨b, c, by rw [hv, ml_len], hO⟩
              obtain ⟨t, ht, hz0, hz1, hz2⟩ := info_parts info22
              have hHv : Hv (wr.alloc (.cells #[.slice (some ⟨gb, 0, none⟩) 9 gc] 22)) 22 u4 ((List.range i).map fun j => .slice (some ⟨(G j).1, 0, none⟩) (ilen (it j) + 9) (G j).2) := by
                rcases HG2.out.val with hv | ⟨hb, hc, hv, hO⟩
                · exact .inl hv
                · exact .inr ⟨hb, hc, hv, (hO.keep HE5.out (by simp)).keep (Ext.alloc [] _ _) (by simp)⟩
              obtain ⟨b', c', w6, hr, hO6, hp6⟩ := run_append1 (P := Tryd.prog) (wr.alloc (.cells #[.slice (some ⟨gb, 0, none⟩) 9 gc] 22)) 69 69 22 t _ 24 Tryd.underlying69 ht hz0 hz1 hz2 rfl u4 _ hHv ⟨wr.heap.size, 0, none⟩ (.slice (some ⟨gb, 0, none⟩) 9 gc) (by simp [Addr.add_lit]) rfl 1 (by simp; omega) (by omega)
              simp only [List.length_map, List.length_range] at hr hp6
              have hil : ilen (it i) = 0 := by rw [Hit.out]; rfl
              have HZ : Hid (Bk 23 w6 h n it ∧ Ext (blks n it) w w6 ∧ Gs 22 (mi it) w w6 it (i + 1) (.slice (some ⟨b', 0, none⟩) (i + 1) c') (fun j => if j = i then (gb, gc) else G j)) := by
                refine gs_step (gc := gc) HB.out HB2.out HE2.out HG2.out hin (HE5.out.trans (Ext.alloc [] _ _)) (by simp) ?_ ?_ ?_ ?_ (by rw [hil]; exact hO6) hp6
                · intro b2 l2 c2 h2
                  rw [Hit.out] at h2
                  simp at h2
                · rw [hil]; exact full_ofI (hO5.keep (Ext.alloc [] _ _) (by simp))
                · exact .inr (HN5.out _ _ _ rfl)
                · have := hO5.lt; simp; omega
              have HZO : Hid (Old w6 it (i + 1)) := by
                obtain ⟨p1, p2⟩ := place HG2.out (w4 := wr.alloc (.cells #[.slice (some ⟨gb, 0, none⟩) 9 gc] 22)) (by have := HE2.out.size; have := HE5.out.size; simp; omega) hp6
                refine old_step HB.out HOld.out hin (HE5.out.trans (Ext.alloc [] _ _)) (by simp) ?_ p2 p1
                intro b2 l2 c2 h2
                rw [Hit.out] at h2
                simp at h2
              clear hHv hz0 hz1 hz2 ht t hO6 hp6 hil hO5 hc5
              go_wp2_with (at_builtin; refine wpList_append_run rfl _ _ 69 rfl _ _ _ rfl rfl hr ?_)
              go_roundw
              case rel => exact ⟨i + 1, _, by go_num, by rw [HNs.out]; go_num, by omega, HZ.out.1, HZ.out.2.1, HZ.out.2.2, HZO.out⟩
              case measure => simp [intOf]; omega
      | some x =>
        obtain ⟨b, l, c⟩ := x
        rw [hit] at hc
        have Hit : Hid (it i = some (b, l, c)) := hit
        have HNs : Hid (Nn it (i + 1) = Nn it i + (l + 9)) := by show Nn it i + (ilen (it i) + 9) = _; rw [hit]; rfl
        obtain ⟨⟨xs, hxl, hO⟩, hbh, hl⟩ := HB2.out.mine i b l c hin hit
        clear hit
        have hc' : w2.cell? ⟨h, i, none⟩ = some (.slice (some ⟨b, 0, none⟩) l c) := hc
        have HC' := hid hc'
        clear hc
        have HO := hid hO
        have HX := hid hxl
        have HBL := hid hO.lt
        clear hO hxl
        go_wp2
        go_loopw [7] (fun q wr => ∃ (j : Nat) (ys : List Value), q = .int .i64 j ∧ j ≤ l ∧ ys.length = l ∧ Own1 wr 23 b c ys ∧ (∀ k, k < j → ys[k]? = some (mi it i k)) ∧ Ext [b] w2 wr) (fun q _ => (l - (intOf q)).toNat)
        case atStart => exact ⟨0, xs, rfl, by omega, HX.out, HO.out, by simp, Ext.refl _ _⟩
        case round =>
          obtain ⟨j, ys, rfl, hj, hyl, hO3, hys, hE3⟩ := hrel
          have hc3 := hE3.atCell HC'.out (by simpa using Ne.symm hbh)
          have HO3 := hid hO3
          have HY3 := hid hys
          have HE3 := hid hE3
          have HL3 := hid hyl
          by_cases hjl : j < l
          · have hce : wr.cell? ⟨b, j, none⟩ = some (ys[j]'(by omega)) := by rw [hO3.cell j (by omega)]; simp [hyl, hjl]
            have hfr := hO3.frozen j
            generalize ys[j]'(by omega) = y at hce
            clear hO3 hys hE3 hyl hc'
            go_wp2
            go_roundw
            case rel =>
              refine ⟨j + 1, ys.set j (mi it i j), by go_num, by omega, by rw [List.length_set]; exact HL3.out, HO3.out.set j _, ?_, HE3.out.trans (Ext.setCell _ _ _ _ (by simp))⟩
              intro k hk
              have hly := HL3.out
              rw [List.getElem?_set]
              by_cases e : j = k
              · subst e; simp; omega
              · rw [if_neg e]; exact HY3.out k (by omega)
            case measure => simp [intOf]; omega
          · obtain rfl : j = l := by omega
            have hrep := mem_ml hyl hys
            rw [hrep] at hO3
            have HO4 := hid hO3
            clear hO3 hys hE3 hyl HO3 HY3 HL3 hrep
            obtain ⟨w3, hw3⟩ : ∃ w3, w3 = wr := ⟨_, rfl⟩
            subst hw3
            clear HO HX xs ys hc'
            go_wp2
            clear hc3
            go_loopw [8, 6] (fun q g wr => ∃ (k gb gc : Nat), q = .int .i64 k ∧ k ≤ 9 ∧ g = .slice (some ⟨gb, 0, none⟩) (j + k) gc ∧ Own1 wr 23 gb gc (ml it i (j + k)) ∧ Ext [b] w2 wr ∧ ((gb = b ∧ gc = c) ∨ (w2.heap.size ≤ gb ∧ Own1 wr 23 b c (ml it i j)))) (fun q _ _ => (9 - (intOf q)).toNat)
            case atStart => exact ⟨0, b, c, rfl, by omega, rfl, HO4.out, HE3.out, .inl ⟨rfl, rfl⟩⟩
            case round =>
              obtain ⟨k, gb, gc, rfl, hk, rfl, hO5, hE5, hpl5⟩ := hrel
              have HO5 := hid hO5
              have HE5 := hid hE5
              have HP5 := hid hpl5
              have hc5 := hE5.atCell HC'.out (by simpa using Ne.symm hbh)
              clear hO5 hE5 hpl5
              by_cases hk9 : k < 9
              · obtain ⟨t, ht, hz0, hz1, hz2⟩ := info_parts info23
                have hOa := HO5.out.keep (Ext.alloc [] wr (.cells #[.int .u64 ((Nn it i : Int) + (j : Int) + (k : Int))] 23)) (by simp)
                obtain ⟨b', c', w6, hr, hO6, hp6⟩ := run_append1 (P := Tryd.prog) (wr.alloc (.cells #[.int .u64 ((Nn it i : Int) + (j : Int) + (k : Int))] 23)) 22 22 23 t _ 8 Tryd.underlying22 ht hz0 hz1 hz2 rfl _ _ (.inr ⟨gb, gc, rfl, hOa⟩) ⟨wr.heap.size, 0, none⟩ (mi it i (j + k)) (by simp [Addr.add_lit, mi]; omega) rfl 1 (by rw [ml_len]; omega) (by omega)
                rw [ml_len] at hr hp6
                rw [← ml_succ] at hO6
                have HO6 : Hid (Own1 w6 23 b' c' (ml it i (j + (k + 1)))) := hO6
                have HQ : Hid (Ext [b] w2 w6 ∧ ((b' = b ∧ c' = c) ∨ (w2.heap.size ≤ b' ∧ Own1 w6 23 b c (ml it i j)))) := by
                  have hsz : w2.heap.size ≤ wr.heap.size := HE5.out.size
                  rcases hp6 with ⟨hv, hE6⟩ | ⟨rfl, hE6⟩
                  · simp only [Value.slice.injEq, Option.some.injEq, Addr.mk.injEq, and_true, true_and] at hv
                    obtain ⟨rfl, rfl⟩ := hv
                    rcases HP5.out with ⟨rfl, rfl⟩ | ⟨hge, hOb⟩
                    · exact ⟨(HE5.out.trans (Ext.alloc _ _ _)).trans hE6, .inl ⟨rfl, rfl⟩⟩
                    · refine ⟨(((HE5.out.mono (T := [b, gb]) (by simp)).trans (Ext.alloc _ _ _)).trans (hE6.mono (by simp))).drop (by simp; omega), .inr ⟨hge, (hOb.keep (Ext.alloc [] _ _) (by simp)).keep hE6 (by simp; rintro rfl; exact absurd HBL.out (by omega))⟩⟩
                  · refine ⟨(HE5.out.trans (Ext.alloc _ _ _)).trans (hE6.mono (by simp)), .inr ⟨by simp; omega, ?_⟩⟩
                    rcases HP5.out with ⟨rfl, rfl⟩ | ⟨hge, hOb⟩
                    · have := (hOa.take j).keep hE6 (by simp)
                      rw [ml_take] at this
                      exact this
                    · exact (hOb.keep (Ext.alloc [] _ _) (by simp)).keep hE6 (by simp)
                clear hO6 hp6 hOa hz0 hz1 hz2 ht t
                go_wp2_with (at_builtin; refine wpList_append_run rfl _ _ 22 rfl _ _ _ rfl rfl hr ?_)
                go_roundw
                case rel => exact ⟨k + 1, b', c', by go_num, by omega, by rfl, HO6.out, HQ.out.1, HQ.out.2⟩
                case measure => simp [intOf]; omega
              · obtain rfl : k = 9 := by omega
                obtain ⟨t, ht, hz0, hz1, hz2⟩ := info_parts info22
                have hHv : Hv (wr.alloc (.cells #[.slice (some ⟨gb, 0, none⟩) (j + 9) gc] 22)) 22 u4 ((List.range i).map fun j => .slice (some ⟨(G j).1, 0, none⟩) (ilen (it j) + 9) (G j).2) := by
                  rcases HG2.out.val with hv | ⟨hb, hc, hv, hO⟩
                  · exact .inl hv
                  · refine .inr ⟨hb, hc, hv, (hO.keep HE5.out ?_).keep (Ext.alloc [] _ _) (by simp)⟩
                    have h1 := HG2.out.new _ _ _ hv
                    have h2 : b < w.heap.size := by
                      obtain ⟨⟨xs, _, hO⟩, _⟩ := HB.out.mine i b j c hin Hit.out
                      exact hO.lt
                    simp; omega
                obtain ⟨b', c', w6, hr, hO6, hp6⟩ := run_append1 (P := Tryd.prog) (wr.alloc (.cells #[.slice (some ⟨gb, 0, none⟩) (j + 9) gc] 22)) 69 69 22 t _ 24 Tryd.underlying69 ht hz0 hz1 hz2 rfl u4 _ hHv ⟨wr.heap.size, 0, none⟩ (.slice (some ⟨gb, 0, none⟩) (j + 9) gc) (by simp [Addr.add_lit]) rfl 1 (by simp; omega) (by omega)
                simp only [List.length_map, List.length_range] at hr hp6
                have hil : ilen (it i) = j := by rw [Hit.out]; rfl
                have hme : Own1 (wr.alloc (.cells #[.slice (some ⟨gb, 0, none⟩) (j + 9) gc] 22)) 23 b c (ml it i j) := by
                  rcases HP5.out with ⟨rfl, rfl⟩ | ⟨_, hOb⟩
                  · have := (HO5.out.take j).keep (Ext.alloc [] wr (.cells #[.slice (some ⟨gb, 0, none⟩) (j + 9) gc] 22)) (by simp)
                    rw [ml_take] at this
                    exact this
                  · exact hOb.keep (Ext.alloc [] _ _) (by simp)
                have HZ : Hid (Bk 23 w6 h n it ∧ Ext (blks n it) w w6 ∧ Gs 22 (mi it) w w6 it (i + 1) (.slice (some ⟨b', 0, none⟩) (i + 1) c') (fun j => if j = i then (gb, gc) else G j)) := by
                  refine gs_step (gc := gc) HB.out HB2.out HE2.out HG2.out hin (HE5.out.trans (Ext.alloc [b] _ _)) (by intro x hx; simp at hx; subst hx; exact ⟨j, c, Hit.out⟩) ?_ ?_ ?_ ?_ (by rw [hil]; exact hO6) hp6
                  · intro b2 l2 c2 h2
                    rw [Hit.out] at h2
                    simp only [Option.some.injEq, Prod.mk.injEq] at h2
                    obtain ⟨rfl, rfl, rfl⟩ := h2
                    exact ⟨_, ml_len it i j, hme⟩
                  · rw [hil]; exact full_ofI (HO5.out.keep (Ext.alloc [] _ _) (by simp))
                  · rcases HP5.out with ⟨rfl, rfl⟩ | ⟨hge, _⟩
                    · exact .inl ⟨j, _, Hit.out⟩
                    · exact .inr hge
                  · have := HO5.out.lt; simp; omega
                have HZO : Hid (Old w6 it (i + 1)) := by
                  obtain ⟨p1, p2⟩ := place HG2.out (w4 := wr.alloc (.cells #[.slice (some ⟨gb, 0, none⟩) (j + 9) gc] 22)) (by have := HE2.out.size; have := HE5.out.size; simp; omega) hp6
                  refine old_step HB.out HOld.out hin (HE5.out.trans (Ext.alloc [b] _ _)) (by intro x hx; simp at hx; subst hx; exact ⟨j, c, Hit.out⟩) ?_ p2 p1
                  intro b2 l2 c2 h2
                  rw [Hit.out] at h2
                  simp only [Option.some.injEq, Prod.mk.injEq] at h2
                  obtain ⟨rfl, rfl, rfl⟩ := h2
                  exact full_ofI hme
                clear hHv hz0 hz1 hz2 ht t hO6 hp6 hil hme hc5
                go_wp2_with (at_builtin; refine wpList_append_run rfl _ _ 69 rfl _ _ _ rfl rfl hr ?_)
                go_roundw
                case rel => exact ⟨i + 1, _, by go_num, by rw [HNs.out]; go_num, by omega, HZ.out.1, HZ.out.2.1, HZ.out.2.2, HZO.out⟩
                case measure => simp [intOf]; omega
    · obtain rfl : i = n := by omega
      have HB2 := hid hB2
      have HE2 := hid hE2
      have HG2 := hid hG2
      have HOld := hid hOld
      obtain ⟨go, gcp, rfl⟩ : ∃ (go : Option Addr) (gcp : Nat), u4 = .slice go i gcp := by
        rcases hG2.val with ⟨hv, hx⟩ | ⟨b, c, hv, _⟩
        · have : i = 0 := by
            have := congrArg List.length hx
            simpa using this
          subst this
          exact ⟨none, 0, hv⟩
        · exact ⟨some ⟨b, 0, none⟩, c, by simpa using hv⟩
      clear hB2 hE2 hG2 hOld
      go_wp2
      go_loop [9, 3] (fun q nv => ∃ x : Nat, q = .int .i64 x ∧ nv = .int .i64 (Nn it x : Nat) ∧ x ≤ i) (fun q _ => (i - (intOf q)).toNat)
      case atStart => exact ⟨0, rfl, rfl, by omega⟩
      case round =>
        obtain ⟨x, rfl, rfl, hx⟩ := hrel
        by_cases hxi : x < i
        · obtain ⟨b, rfl, hO⟩ : ∃ b, go = some ⟨b, 0, none⟩ ∧ wr.cell? ⟨b, x, none⟩ = some (.slice (some ⟨(G x).1, 0, none⟩) (ilen (it x) + 9) (G x).2) := by
            rcases HG2.out.val with ⟨_, hx2⟩ | ⟨b, c, hv, hO⟩
            · have := congrArg List.length hx2
              simp at this; omega
            · simp only [Value.slice.injEq] at hv
              refine ⟨b, hv.1, ?_⟩
              rw [hO.cell x (by simpa using hxi)]
              simp [hxi]
          obtain rfl : ha = some ⟨h, 0, none⟩ := by
            rcases HH.out with h | h
            · exact h
            · omega
          have hF := HG2.out.full x hxi
          have HF : Hid (∀ j, j < ilen (it x) + 9 → wr.cell? ⟨(G x).1, j, none⟩ = some (.int .u64 ((Nn it x : Int) + (j : Int)))) := hF
          have hLx := HB2.out.ilen x hxi
          have hNx := HNb.out x (by omega)
          have hhd := HB2.out.head x hxi
          have HNs : Hid (Nn it (x + 1) = Nn it x + (ilen (it x) + 9)) := rfl
          clear hF
          obtain ⟨la, lc, hhd2, HLo⟩ : ∃ la lc, wr.cell? ⟨h, x, none⟩ = some (.slice la (ilen (it x)) lc) ∧ Hid (∀ j, j < ilen (it x) → ∃ b, la = some ⟨b, 0, none⟩ ∧ wr.cell? ⟨b, j, none⟩ = some (.int .u64 ((Nn it x : Int) + (j : Int)))) := by
            cases hit : it x with
            | none => rw [hit] at hhd; exact ⟨none, 0, hhd, fun j hj => by simp [ilen] at hj⟩
            | some y =>
              obtain ⟨b2, l2, c2⟩ := y
              rw [hit] at hhd
              refine ⟨some ⟨b2, 0, none⟩, c2, hhd, fun j hj => ⟨b2, rfl, ?_⟩⟩
              exact HOld.out x b2 l2 c2 hxi hit j hj
          clear hhd
          generalize ilen (it x) = Lx at *
          generalize (G x).1 = gb at *
          generalize (G x).2 = gc at *
          go_wp2
          go_loop [10] (fun q => ∃ j : Nat, q = .int .i64 j ∧ j ≤ Lx + 9) (fun q => (Lx + 9 - (intOf q)).toNat)
          case atStart => exact ⟨0, rfl, by omega⟩
          case round =>
            obtain ⟨j, rfl, hj⟩ := hrel
            by_cases hjl : j < Lx + 9
            · have hce := HF.out j hjl
              by_cases hj2 : j < Lx
              · obtain ⟨b2, rfl, hcl⟩ := HLo.out j hj2
                go_wp2
                go_round
                case rel => exact ⟨j + 1, by go_num, by omega⟩
                case measure => simp [intOf]; omega
              · have hd2 : decide ((j : Int) < Lx) = false := decide_eq_false (by omega)
                go_wp2
                go_round
                case rel => exact ⟨j + 1, by go_num, by omega⟩
                case measure => simp [intOf]; omega
            · go_wp2
              go_round
              case rel => exact ⟨x + 1, by go_num, by rw [HNs.out]; go_num, by omega⟩
              case measure => simp [intOf]; omega
        · go_wp2
          go_ret
          exact ⟨rfl, HE2.out⟩

end Go.Proofs.YtkknadkcpndnaaaDoor.Ap

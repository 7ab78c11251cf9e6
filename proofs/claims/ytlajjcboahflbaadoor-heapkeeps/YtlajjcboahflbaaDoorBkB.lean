/-
  What the statements' own look at memory does with lists of bytes that lie apart: it answers true; no statement is proved here.
-/
import Derived.Test.YtlajjcboahflbaaDoorBkA
namespace Go.Proofs.YtlajjcboahflbaaDoor.Bo
open Go.ChangeShapes Go.WideShapes Go.ChangeAt Go.RowKit

theorem info40 : (Tryd.prog.info? 40).map (fun i => (i.zero, i.size, i.bytes)) = some (some (.slice none 0 0), 1, 24) := by kernel_rfl

theorem mem_marks {ys : List Value} {l : Nat} {x : Value} (hl : ys.length = l) (h : ∀ k, k < l → ys[k]? = some x) : ys = List.replicate l x := by
  apply List.ext_getElem?
  intro j
  by_cases hj : j < l
  · rw [h j hj]; simp [hj]
  · rw [List.getElem?_eq_none (by omega), List.getElem?_eq_none (by simp; omega)]

theorem full_of {w : World} {b c n : Nat} {x : Int} (h : Own1 w 5 b c (List.replicate n (.int .u8 x))) : Full w b n x := by
  intro j hj
  rw [h.cell j (by simpa using hj)]; simp [hj]

set_option maxRecDepth 100000 in
set_option maxHeartbeats 2000000 in
theorem apartBytes_any (h n : Nat) (it : Nat → Option (Nat × Nat × Nat)) (w : World) (hn : n ≤ 1048576) (hB : Bk w h n it) : Calls Tryd.prog 56 #[.slice (some ⟨h, 0, none⟩) n n] w fun e w' => e = .returned (.bool true) ∧ Ext (blks n it) w w' := by
  have HB : Hid (Bk w h n it) := hB
  clear hB
  go_enter Tryd.func56, Tryd.ntmps56
  go_wp2
  go_loopw [3] (fun q wr => ∃ R : Nat, q = .int .i64 R ∧ R ≤ 2 ∧ Bk wr h n it ∧ Ext (blks n it) w wr) (fun q _ => (2 - (intOf q)).toNat)
  case atStart => exact ⟨0, rfl, by omega, HB.out, Ext.refl _ _⟩
  case round =>
    obtain ⟨R, rfl, hR, hB1, hE1⟩ := hrel
    by_cases hR2 : R < 2
    · have dR : decide ((R : Int) < 2) = true := decide_eq_true (by omega)
      have HB1 : Hid (Bk wr h n it) := hB1
      have HE1 : Hid (Ext (blks n it) w wr) := hE1
      obtain ⟨w1, hw1⟩ : ∃ w1, w1 = wr := ⟨_, rfl⟩
      subst hw1
      clear hB1 hE1
      go_wp2
      go_loopw [5, 4] (fun q gv wr => ∃ (i : Nat) (G : Nat → Nat × Nat), q = .int .i64 i ∧ i ≤ n ∧ Bk wr h n it ∧ Ext (blks n it) w wr ∧ Gs w wr it R i gv G) (fun q _ _ => (n - (intOf q)).toNat)
      case atStart => exact ⟨0, fun _ => (0, 0), rfl, by omega, HB1.out, HE1.out, ⟨.inl ⟨rfl, rfl⟩, by simp, by simp, by simp, by simp⟩⟩
      case round =>
        obtain ⟨i, G, rfl, hi, hB2, hE2, hG2⟩ := hrel
        by_cases hin : i < n
        · have hc := hB2.head i hin
          have HB2 : Hid (Bk wr h n it) := hB2
          have HE2 : Hid (Ext (blks n it) w wr) := hE2
          have HG2 : Hid (Gs w wr it R i u4 G) := hG2
          clear hB2 hE2 hG2
          cases hit : it i with
          | none =>
            rw [hit] at hc
            have Hit : Hid (it i = none) := hit
            clear hit
            have hc' : wr.cell? ⟨h, i, none⟩ = some (.slice none 0 0) := hc
            clear hc
            obtain ⟨w2, hw2⟩ : ∃ w2, w2 = wr := ⟨_, rfl⟩
            subst hw2
            go_wp2
            go_loop [8] (fun q => q = .int .i64 0) (fun _ => 0)
            case atStart => rfl
            case round =>
              subst hrel
              go_wp2
              clear hc'
              go_loopw [9, 7] (fun q g wr => ∃ k : Nat, q = .int .i64 k ∧ k ≤ 9 ∧ Hv wr 5 g (List.replicate k (.int .u8 (mk R i))) ∧ (∀ b n c, g = .slice (some ⟨b, 0, none⟩) n c → w2.heap.size ≤ b) ∧ Ext [] w2 wr) (fun q _ _ => (9 - (intOf q)).toNat)
              case atStart => exact ⟨0, rfl, by omega, .inl ⟨rfl, rfl⟩, by simp, Ext.refl _ _⟩
              case round =>
                obtain ⟨k, rfl, hk, hV5, hN5, hE5⟩ := hrel
                have HV5 : Hid (Hv wr 5 u7 (List.replicate k (.int .u8 (mk R i)))) := hV5
                have HE5 : Hid (Ext [] w2 wr) := hE5
                have HN5 : Hid (∀ b n c, u7 = .slice (some ⟨b, 0, none⟩) n c → w2.heap.size ≤ b) := hN5
                clear hV5 hE5 hN5
                by_cases hk9 : k < 9
                · obtain ⟨t, ht, hz0, hz1, hz2⟩ := info_parts info5
                  have hVa : Hv (wr.alloc (.cells #[.int .u8 (mk R i)] 5)) 5 u7 (List.replicate k (.int .u8 (mk R i))) := by
                    rcases HV5.out with hv | ⟨b, c, hv, hO⟩
                    · exact .inl hv
                    · exact .inr ⟨b, c, hv, hO.keep (Ext.alloc [] _ _) (by simp)⟩
                  obtain ⟨b', c', w6, hr, hO6, hp6⟩ := run_append1 (P := Tryd.prog) (wr.alloc (.cells #[.int .u8 (mk R i)] 5)) 40 40 5 t _ 1 Tryd.underlying40 ht hz0 hz1 hz2 rfl _ _ hVa ⟨wr.heap.size, 0, none⟩ (.int .u8 (mk R i)) (by simp [Addr.add_lit]) rfl 1 (by simp; omega) (by omega)
                  rw [List.length_replicate] at hr hp6
                  rw [← List.replicate_succ'] at hO6
                  have HO6 : Hid (Own1 w6 5 b' c' (List.replicate (k + 1) (.int .u8 (mk R i)))) := hO6
                  have HQ : Hid (Ext [] w2 w6 ∧ w2.heap.size ≤ b') := by
                    have hsz : w2.heap.size ≤ wr.heap.size := HE5.out.size
                    rcases hp6 with ⟨hv, hE6⟩ | ⟨rfl, hE6⟩
                    · have h1 := HN5.out _ _ _ hv
                      exact ⟨(((HE5.out.mono (T := [b']) (by simp)).trans (Ext.alloc _ _ _)).trans hE6).drop (by simpa using h1), h1⟩
                    · exact ⟨(HE5.out.trans (Ext.alloc _ _ _)).trans hE6, by simp; omega⟩
                  clear hO6 hp6 hVa hz0 hz1 hz2 ht t
                  go_wp2_with (at_builtin; refine wpList_append_run rfl _ _ 40 rfl _ _ _ rfl rfl hr ?_)
                  go_roundw
                  case rel =>
                    refine ⟨k + 1, by go_num, by omega, .inr ⟨b', c', ?_, HO6.out⟩, ?_, HQ.out.1⟩
                    · rw [List.length_replicate]
                    · intro b n c hg
                      simp only [Value.slice.injEq, Option.some.injEq, Addr.mk.injEq, and_true] at hg
                      rw [← hg.1]; exact HQ.out.2
                  case measure => simp [intOf]; omega
                · obtain rfl : k = 9 := by omega
                  obtain ⟨gb, gc, rfl, hO5⟩ : ∃ gb gc, u7 = .slice (some ⟨gb, 0, none⟩) 9 gc ∧ Own1 wr 5 gb gc (List.replicate 9 (.int .u8 (mk R i))) := by
                    rcases HV5.out with ⟨_, hv⟩ | ⟨b, c, hv, hO⟩
                    · simp at hv
                    · exact ⟨b, c, by rw [hv, List.length_replicate], hO⟩
                  obtain ⟨t, ht, hz0, hz1, hz2⟩ := info_parts info40
                  have hHv : Hv (wr.alloc (.cells #[.slice (some ⟨gb, 0, none⟩) 9 gc] 40)) 40 u4 ((List.range i).map fun j => .slice (some ⟨(G j).1, 0, none⟩) (ilen (it j) + 9) (G j).2) := by
                    rcases HG2.out.val with hv | ⟨hb, hc, hv, hO⟩
                    · exact .inl hv
                    · exact .inr ⟨hb, hc, hv, (hO.keep HE5.out (by simp)).keep (Ext.alloc [] _ _) (by simp)⟩
                  obtain ⟨b', c', w6, hr, hO6, hp6⟩ := run_append1 (P := Tryd.prog) (wr.alloc (.cells #[.slice (some ⟨gb, 0, none⟩) 9 gc] 40)) 41 41 40 t _ 24 Tryd.underlying41 ht hz0 hz1 hz2 rfl u4 _ hHv ⟨wr.heap.size, 0, none⟩ (.slice (some ⟨gb, 0, none⟩) 9 gc) (by simp [Addr.add_lit]) rfl 1 (by simp; omega) (by omega)
                  simp only [List.length_map, List.length_range] at hr hp6
                  have hil : ilen (it i) = 0 := by rw [Hit.out]; rfl
                  have HZ : Hid (Bk w6 h n it ∧ Ext (blks n it) w w6 ∧ Gs w w6 it R (i + 1) (.slice (some ⟨b', 0, none⟩) (i + 1) c') (fun j => if j = i then (gb, gc) else G j)) := by
                    refine gs_step (gc := gc) HB.out HB2.out HE2.out HG2.out hin (HE5.out.trans (Ext.alloc [] _ _)) (by simp) ?_ ?_ ?_ ?_ (by rw [hil]; exact hO6) hp6
                    · intro b2 l2 c2 h2
                      rw [Hit.out] at h2
                      simp at h2
                    · rw [hil]; exact full_of (hO5.keep (Ext.alloc [] _ _) (by simp))
                    · exact .inr (HN5.out _ _ _ rfl)
                    · have := hO5.lt; simp; omega
                  clear hHv hz0 hz1 hz2 ht t hO6 hp6 hil hO5
                  go_wp2_with (at_builtin; refine wpList_append_run rfl _ _ 41 rfl _ _ _ rfl rfl hr ?_)
                  go_roundw
                  case rel => exact ⟨i + 1, _, by go_num, by omega, HZ.out.1, HZ.out.2.1, HZ.out.2.2⟩
                  case measure => simp [intOf]; omega
          | some x =>
            obtain ⟨b, l, c⟩ := x
            rw [hit] at hc
            have Hit : Hid (it i = some (b, l, c)) := hit
            obtain ⟨⟨xs, hxl, hO⟩, hbh, hl⟩ := HB2.out.mine i b l c hin hit
            clear hit
            have hc' : wr.cell? ⟨h, i, none⟩ = some (.slice (some ⟨b, 0, none⟩) l c) := hc
            clear hc
            obtain ⟨w2, hw2⟩ : ∃ w2, w2 = wr := ⟨_, rfl⟩
            subst hw2
            have HO : Hid (Own1 w2 5 b c xs) := hO
            have HX : Hid (xs.length = l) := hxl
            have HBL : Hid (b < w2.heap.size) := hO.lt
            clear hO hxl
            go_wp2
            go_loopw [8] (fun q wr => ∃ (j : Nat) (ys : List Value), q = .int .i64 j ∧ j ≤ l ∧ ys.length = l ∧ Own1 wr 5 b c ys ∧ (∀ k, k < j → ys[k]? = some (.int .u8 (mk R i))) ∧ Ext [b] w2 wr) (fun q _ => (l - (intOf q)).toNat)
            case atStart => exact ⟨0, xs, rfl, by omega, HX.out, HO.out, by simp, Ext.refl _ _⟩
            case round =>
              obtain ⟨j, ys, rfl, hj, hyl, hO3, hys, hE3⟩ := hrel
              have hc3 := hE3.atCell hc' (by simpa using Ne.symm hbh)
              have HO3 : Hid (Own1 wr 5 b c ys) := hO3
              have HY3 : Hid (∀ k, k < j → ys[k]? = some (.int .u8 (mk R i))) := hys
              have HE3 : Hid (Ext [b] w2 wr) := hE3
              have HL3 : Hid (ys.length = l) := hyl
              by_cases hjl : j < l
              · have hce : wr.cell? ⟨b, j, none⟩ = some (ys[j]'(by omega)) := by rw [hO3.cell j (by omega)]; simp [hyl, hjl]
                have hfr := hO3.frozen j
                generalize ys[j]'(by omega) = y at hce
                clear hO3 hys hE3 hyl
                go_wp2
                go_roundw
                case rel =>
                  refine ⟨j + 1, ys.set j (.int .u8 (mk R i)), by go_num, by omega, by rw [List.length_set]; exact HL3.out, HO3.out.set j _, ?_, HE3.out.trans (Ext.setCell _ _ _ _ (by simp))⟩
                  intro k hk
                  have hly := HL3.out
                  rw [List.getElem?_set]
                  by_cases e : j = k
                  · subst e; simp; omega
                  · rw [if_neg e]; exact HY3.out k (by omega)
                case measure => simp [intOf]; omega
              · obtain rfl : j = l := by omega
                have hrep := mem_marks hyl hys
                rw [hrep] at hO3
                have HO4 : Hid (Own1 wr 5 b c (List.replicate j (.int .u8 (mk R i)))) := hO3
                clear hO3 hys hE3 hyl HO3 HY3 HL3 hrep
                obtain ⟨w3, hw3⟩ : ∃ w3, w3 = wr := ⟨_, rfl⟩
                subst hw3
                clear HO HX xs ys
                go_wp2
                clear hc3
                go_loopw [9, 7] (fun q g wr => ∃ (k gb gc : Nat), q = .int .i64 k ∧ k ≤ 9 ∧ g = .slice (some ⟨gb, 0, none⟩) (j + k) gc ∧ Own1 wr 5 gb gc (List.replicate (j + k) (.int .u8 (mk R i))) ∧ Ext [b] w2 wr ∧ ((gb = b ∧ gc = c) ∨ (w2.heap.size ≤ gb ∧ Own1 wr 5 b c (List.replicate j (.int .u8 (mk R i)))))) (fun q _ _ => (9 - (intOf q)).toNat)
                case atStart => exact ⟨0, b, c, rfl, by omega, rfl, HO4.out, HE3.out, .inl ⟨rfl, rfl⟩⟩
                case round =>
                  obtain ⟨k, gb, gc, rfl, hk, rfl, hO5, hE5, hpl5⟩ := hrel
                  have HO5 : Hid (Own1 wr 5 gb gc (List.replicate (j + k) (.int .u8 (mk R i)))) := hO5
                  have HE5 : Hid (Ext [b] w2 wr) := hE5
                  have HP5 : Hid ((gb = b ∧ gc = c) ∨ (w2.heap.size ≤ gb ∧ Own1 wr 5 b c (List.replicate j (.int .u8 (mk R i))))) := hpl5
                  clear hO5 hE5 hpl5
                  by_cases hk9 : k < 9
                  · obtain ⟨t, ht, hz0, hz1, hz2⟩ := info_parts info5
                    have hOa := HO5.out.keep (Ext.alloc [] wr (.cells #[.int .u8 (mk R i)] 5)) (by simp)
                    obtain ⟨b', c', w6, hr, hO6, hp6⟩ := run_append1 (P := Tryd.prog) (wr.alloc (.cells #[.int .u8 (mk R i)] 5)) 40 40 5 t _ 1 Tryd.underlying40 ht hz0 hz1 hz2 rfl _ _ (.inr ⟨gb, gc, rfl, hOa⟩) ⟨wr.heap.size, 0, none⟩ (.int .u8 (mk R i)) (by simp [Addr.add_lit]) rfl 1 (by simp; omega) (by omega)
                    rw [List.length_replicate] at hr hp6
                    have hrep2 : List.replicate (j + k) (Value.int .u8 (mk R i)) ++ [.int .u8 (mk R i)] = List.replicate (j + (k + 1)) (.int .u8 (mk R i)) := by
                      rw [← Nat.add_assoc, List.replicate_succ']
                    rw [hrep2] at hO6
                    have HO6 : Hid (Own1 w6 5 b' c' (List.replicate (j + (k + 1)) (.int .u8 (mk R i)))) := hO6
                    have HQ : Hid (Ext [b] w2 w6 ∧ ((b' = b ∧ c' = c) ∨ (w2.heap.size ≤ b' ∧ Own1 w6 5 b c (List.replicate j (.int .u8 (mk R i)))))) := by
                      have hsz : w2.heap.size ≤ wr.heap.size := HE5.out.size
                      rcases hp6 with ⟨hv, hE6⟩ | ⟨rfl, hE6⟩
                      · simp only [Value.slice.injEq, Option.some.injEq, Addr.mk.injEq, and_true, true_and] at hv
                        obtain ⟨rfl, rfl⟩ := hv
                        rcases HP5.out with ⟨rfl, rfl⟩ | ⟨hge, hOb⟩
                        · exact ⟨(HE5.out.trans (Ext.alloc _ _ _)).trans hE6, .inl ⟨rfl, rfl⟩⟩
                        · refine ⟨(((HE5.out.mono (T := [b, gb]) (by simp)).trans (Ext.alloc _ _ _)).trans (hE6.mono (by simp))).drop (by simp; omega), .inr ⟨hge, (hOb.keep (Ext.alloc [] _ _) (by simp)).keep hE6 (by simp; rintro rfl; exact absurd HBL.out (by omega))⟩⟩
                      · refine ⟨(HE5.out.trans (Ext.alloc _ _ _)).trans (hE6.mono (by simp)), .inr ⟨by simp; omega, ?_⟩⟩
                        rcases HP5.out with ⟨rfl, rfl⟩ | ⟨hge, hOb⟩
                        · have := ((HO5.out.take j).keep (Ext.alloc [] wr (.cells #[.int .u8 (mk R i)] 5)) (by simp)).keep hE6 (by simp)
                          rw [List.take_replicate, Nat.min_eq_left (by omega)] at this
                          exact this
                        · exact (hOb.keep (Ext.alloc [] _ _) (by simp)).keep hE6 (by simp)
                    clear hO6 hp6 hrep2 hOa hz0 hz1 hz2 ht t
                    go_wp2_with (at_builtin; refine wpList_append_run rfl _ _ 40 rfl _ _ _ rfl rfl hr ?_)
                    go_roundw
                    case rel => exact ⟨k + 1, b', c', by go_num, by omega, by rfl, HO6.out, HQ.out.1, HQ.out.2⟩
                    case measure => simp [intOf]; omega
                  · obtain rfl : k = 9 := by omega
                    obtain ⟨t, ht, hz0, hz1, hz2⟩ := info_parts info40
                    have hHv : Hv (wr.alloc (.cells #[.slice (some ⟨gb, 0, none⟩) (j + 9) gc] 40)) 40 u4 ((List.range i).map fun j => .slice (some ⟨(G j).1, 0, none⟩) (ilen (it j) + 9) (G j).2) := by
                      rcases HG2.out.val with hv | ⟨hb, hc, hv, hO⟩
                      · exact .inl hv
                      · refine .inr ⟨hb, hc, hv, (hO.keep HE5.out ?_).keep (Ext.alloc [] _ _) (by simp)⟩
                        have h1 := HG2.out.new _ _ _ hv
                        have h2 : b < w.heap.size := by
                          obtain ⟨⟨xs, _, hO⟩, _⟩ := HB.out.mine i b j c hin Hit.out
                          exact hO.lt
                        simp; omega
                    obtain ⟨b', c', w6, hr, hO6, hp6⟩ := run_append1 (P := Tryd.prog) (wr.alloc (.cells #[.slice (some ⟨gb, 0, none⟩) (j + 9) gc] 40)) 41 41 40 t _ 24 Tryd.underlying41 ht hz0 hz1 hz2 rfl u4 _ hHv ⟨wr.heap.size, 0, none⟩ (.slice (some ⟨gb, 0, none⟩) (j + 9) gc) (by simp [Addr.add_lit]) rfl 1 (by simp; omega) (by omega)
                    simp only [List.length_map, List.length_range] at hr hp6
                    have hil : ilen (it i) = j := by rw [Hit.out]; rfl
                    have HZ : Hid (Bk w6 h n it ∧ Ext (blks n it) w w6 ∧ Gs w w6 it R (i + 1) (.slice (some ⟨b', 0, none⟩) (i + 1) c') (fun j => if j = i then (gb, gc) else G j)) := by
                      refine gs_step (gc := gc) HB.out HB2.out HE2.out HG2.out hin (HE5.out.trans (Ext.alloc [b] _ _)) (by intro x hx; simp at hx; subst hx; exact ⟨j, c, Hit.out⟩) ?_ ?_ ?_ ?_ (by rw [hil]; exact hO6) hp6
                      · intro b2 l2 c2 h2
                        rw [Hit.out] at h2
                        simp only [Option.some.injEq, Prod.mk.injEq] at h2
                        obtain ⟨rfl, rfl, rfl⟩ := h2
                        refine ⟨List.replicate j (.int .u8 (mk R i)), by simp, ?_⟩
                        rcases HP5.out with ⟨rfl, rfl⟩ | ⟨_, hOb⟩
                        · have := (HO5.out.take j).keep (Ext.alloc [] wr (.cells #[.slice (some ⟨gb, 0, none⟩) (j + 9) gc] 40)) (by simp)
                          rw [List.take_replicate, Nat.min_eq_left (by omega)] at this
                          exact this
                        · exact hOb.keep (Ext.alloc [] _ _) (by simp)
                      · rw [hil]; exact full_of (HO5.out.keep (Ext.alloc [] _ _) (by simp))
                      · rcases HP5.out with ⟨rfl, rfl⟩ | ⟨hge, _⟩
                        · exact .inl ⟨j, _, Hit.out⟩
                        · exact .inr hge
                      · have := HO5.out.lt; simp; omega
                    clear hHv hz0 hz1 hz2 ht t hO6 hp6 hil
                    go_wp2_with (at_builtin; refine wpList_append_run rfl _ _ 41 rfl _ _ _ rfl rfl hr ?_)
                    go_roundw
                    case rel => exact ⟨i + 1, _, by go_num, by omega, HZ.out.1, HZ.out.2.1, HZ.out.2.2⟩
                    case measure => simp [intOf]; omega
        · obtain rfl : i = n := by omega
          have HB2 : Hid (Bk wr h i it) := hB2
          have HE2 : Hid (Ext (blks i it) w wr) := hE2
          have HG2 : Hid (Gs w wr it R i u4 G) := hG2
          obtain ⟨go, gcp, rfl⟩ : ∃ (go : Option Addr) (gcp : Nat), u4 = .slice go i gcp := by
            rcases hG2.val with ⟨hv, hx⟩ | ⟨b, c, hv, _⟩
            · have : i = 0 := by
                have := congrArg List.length hx
                simpa using this
              subst this
              exact ⟨none, 0, hv⟩
            · exact ⟨some ⟨b, 0, none⟩, c, by simpa using hv⟩
          clear hB2 hE2 hG2
          go_wp2
          go_loop [10] (fun q => ∃ x : Nat, q = .int .i64 x ∧ x ≤ i) (fun q => (i - (intOf q)).toNat)
          case atStart => exact ⟨0, rfl, by omega⟩
          case round =>
            obtain ⟨x, rfl, hx⟩ := hrel
            by_cases hxi : x < i
            · obtain ⟨b, rfl, hO⟩ : ∃ b, go = some ⟨b, 0, none⟩ ∧ wr.cell? ⟨b, x, none⟩ = some (.slice (some ⟨(G x).1, 0, none⟩) (ilen (it x) + 9) (G x).2) := by
                rcases HG2.out.val with ⟨_, hx2⟩ | ⟨b, c, hv, hO⟩
                · have := congrArg List.length hx2
                  simp at this; omega
                · simp only [Value.slice.injEq] at hv
                  refine ⟨b, hv.1, ?_⟩
                  rw [hO.cell x (by simpa using hxi)]
                  simp [hxi]
              have hF := HG2.out.full x hxi
              have HF : Hid (∀ j, j < ilen (it x) + 9 → wr.cell? ⟨(G x).1, j, none⟩ = some (.int .u8 ((x : Int) / 2 ^ (8 * R) % 256))) := hF
              have hLb : ilen (it x) + 9 ≤ 1048585 := by
                cases hit : it x with
                | none => simp [ilen]
                | some y =>
                  obtain ⟨b2, l2, c2⟩ := y
                  have := (HB2.out.mine x b2 l2 c2 hxi hit).2.2
                  simp [ilen]; omega
              clear hF
              generalize ilen (it x) + 9 = Ln at *
              generalize (G x).1 = gb at *
              generalize (G x).2 = gc at *
              go_wp2
              go_loop [11] (fun q => ∃ j : Nat, q = .int .i64 j ∧ j ≤ Ln) (fun q => (Ln - (intOf q)).toNat)
              case atStart => exact ⟨0, rfl, by omega⟩
              case round =>
                obtain ⟨j, rfl, hj⟩ := hrel
                by_cases hjl : j < Ln
                · have hce := HF.out j hjl
                  go_wp2
                  go_round
                  case rel => exact ⟨j + 1, by go_num, by omega⟩
                  case measure => simp [intOf]; omega
                · go_wp2
                  go_round
                  case rel => exact ⟨x + 1, by go_num, by omega⟩
                  case measure => simp [intOf]; omega
            · go_wp2
              go_roundw
              case rel => exact ⟨R + 1, by go_num, by omega, HB2.out, HE2.out⟩
              case measure => simp [intOf]; omega
    · go_wp2
      go_ret
      exact ⟨rfl, hE1⟩

end Go.Proofs.YtlajjcboahflbaaDoor.Bo

/-
  The statements' own helpers: times, SameWords, awake, grown; no statement is proved here.
-/
import Derived.Test.YtkknadkcpndnaaaDoorCnt
import Derived.Test.YtkknadkcpndnaaaDoorFou
namespace Go.Proofs.YtkknadkcpndnaaaDoor
open Go.RowKit Go.Shelf
open Pr (Gp GpI sq pl)
attribute [local go_sem] Oper.semAt_some run_store_func

theorem count_take (L : List Nat) (d k : Nat) (hk : k < L.length) : (L.take (k + 1)).count d = (L.take k).count d + (if L.getD k 0 = d then 1 else 0) := by
  rw [List.take_add_one, List.count_append]
  simp [hk, List.count_singleton]
set_option maxRecDepth 10000 in
theorem times_any (a : Option Addr) (n c : Nat) (L : List Nat) (d : Nat) (w : World) (hL : Wd w a L) (hn : L.length = n) (hb : n ≤ 1000000) : Calls Tryd.prog 30 #[.slice a n c, .int .u64 (d : Nat)] w fun e w' => e = .returned (.int .i64 (L.count d : Nat)) ∧ w' = w := by
  have HC := hid (count_take L d)
  have HL := hid hL
  have HN := hid hn
  have HT : Hid ((L.take n).count d = L.count d) := by show _ = _; rw [List.take_of_length_le (by omega)]
  have HB : Hid (∀ k, (L.take k).count d ≤ k) := fun k => Nat.le_trans List.count_le_length (by simp; omega)
  clear hL hn
  go_enter Tryd.func30, Tryd.ntmps30
  go_wp2_with fail
  go_loopw [5, 6] (fun p q wr => ∃ k : Nat, q = .int .i64 k ∧ k ≤ n ∧ p = .int .i64 ((L.take k).count d : Nat) ∧ wr = w) (fun _ q _ => (n - (intOf q)).toNat)
  case atStart => exact ⟨0, rfl, Nat.zero_le _, by simp, rfl⟩
  case round =>
    obtain ⟨k, rfl, hk, rfl, rfl⟩ := hrel
    have hle := HB.out k
    by_cases hkn : k < n
    · have hki : (k : Int) < n := by omega
      obtain ⟨b, o, rfl, hc⟩ := HL.out.at_ (by intro e; have := HN.out; rw [e] at this; simp at this; omega)
      have ck := hc k (by rw [HN.out]; exact hkn)
      have hs := HC.out k (by rw [HN.out]; exact hkn)
      clear hc
      generalize (L.take k).count d = m at *
      generalize L.getD k 0 = x at *
      by_cases hx : x = d
      · have hx' : ((x : Int) == (d : Int)) = true := by simp [hx]
        rw [if_pos hx] at hs
        have Hs := hid hs
        clear hs
        go_wp2_with fail
        go_roundw
        case rel => exact ⟨k + 1, by go_num, by omega, by rw [Hs.out]; simp, trivial⟩
        case measure => simp [intOf]; omega
      · have hx' : ((x : Int) == (d : Int)) = false := by simp; omega
        rw [if_neg hx] at hs
        have Hs := hid hs
        clear hs
        go_wp2_with fail
        go_roundw
        case rel => exact ⟨k + 1, by go_num, by omega, by rw [Hs.out]; simp, trivial⟩
        case measure => simp [intOf]; omega
    · obtain rfl : k = n := by omega
      have ht := HT.out
      generalize (L.take k).count d = m at *
      subst ht
      go_wp2
      go_ret
      exact ⟨rfl, rfl⟩
set_option maxRecDepth 10000 in
theorem sameWords_true (a b : Option Addr) (n c d : Nat) (L : List Nat) (w : World) (ha : Wd w a L) (hb : Wd w b L) (hn : L.length = n) (hm : n ≤ 1000000) : Calls Tryd.prog 20 #[.slice a n c, .slice b n d] w (SayPost w (.bool true)) := by
  have HA := hid ha
  have HB := hid hb
  have HN := hid hn
  clear ha hb hn
  go_enter Tryd.func20, Tryd.ntmps20
  go_wp2_with fail
  go_loopw [5] (fun q wr => ∃ k : Nat, q = .int .i64 k ∧ k ≤ n ∧ Ext [] w wr) (fun q _ => (n - (intOf q)).toNat)
  case atStart => exact ⟨0, rfl, Nat.zero_le _, Ext.refl _ _⟩
  case round =>
    obtain ⟨k, rfl, hk, hX⟩ := hrel
    have HX := hid hX
    by_cases hkn : k < n
    · have hki : (k : Int) < n := by omega
      have hne : L ≠ [] := by intro e; have := HN.out; rw [e] at this; simp at this; omega
      obtain ⟨b1, o1, rfl, hc1⟩ := (HA.out.keep0 hX).at_ hne
      obtain ⟨b2, o2, rfl, hc2⟩ := (HB.out.keep0 hX).at_ hne
      have ck1 := hc1 k (by rw [HN.out]; exact hkn)
      have ck2 := hc2 k (by rw [HN.out]; exact hkn)
      clear hc1 hc2 hX
      generalize L.getD k 0 = x at *
      go_wp2_with (go_quiet (fail))
      go_roundw
      case rel => exact ⟨k + 1, by go_num, by omega, HX.out.trans (Ext.drewN [] _ _)⟩
      case measure => simp [intOf]; omega
    · obtain rfl : k = n := by omega
      clear hX
      go_wp2
      go_ret
      exact ⟨rfl, HX.out⟩
theorem gp1 : Gp 1 := ⟨0, by omega, rfl⟩
theorem gp2 : Gp 2 := ⟨1, by omega, rfl⟩
theorem awake_any (w : World) : Calls Tryd.prog 9 #[] w (SayPost w (.bool true)) := by
  have K := tnew_ok 1 gp1 w
  go_enter Tryd.func9, Tryd.ntmps9
  go_wp2_with fail
  refine K.mono ?_
  clear K
  rintro _ w1 ⟨g, c, rfl, _, _, hX⟩
  go_wp2
  go_ret
  exact ⟨rfl, hX⟩

/-- A script's calls: kind, groups, hash, id. -/
structure Opr where
  k : Int
  g : Int
  h : Nat
  d : Nat
def Scr (w : World) (a : Option Addr) (S : List Opr) : Prop := (∀ x ∈ S, x.h < 18446744073709551616 ∧ x.d < 18446744073709551616) ∧ (S = [] ∨ ∃ b o, a = some ⟨b, o, none⟩ ∧ ∀ j x, S[j]? = some x →
  w.cell? ⟨b, o + j * 4, none⟩ = some (.int .i64 x.k) ∧ w.cell? ⟨b, o + j * 4 + 2, none⟩ = some (.int .u64 (x.h : Nat)) ∧ w.cell? ⟨b, o + j * 4 + 3, none⟩ = some (.int .u64 (x.d : Nat)))
theorem Scr.keep0 {w w' : World} {a : Option Addr} {S : List Opr} (h : Scr w a S) (e : Ext [] w w') : Scr w' a S := by
  refine ⟨h.1, ?_⟩
  rcases h.2 with q | ⟨b, o, e1, hc⟩
  · exact .inl q
  · exact .inr ⟨b, o, e1, fun j x hx => by obtain ⟨c1, c2, c3⟩ := hc j x hx; exact ⟨e.cell c1 (by simp), e.cell c2 (by simp), e.cell c3 (by simp)⟩⟩
def GrPost (w : World) (e : Ending) (w' : World) : Prop := ∃ T G g c, e = .returned (.slice (some ⟨g, 0, none⟩) (3 + 17 * G) c) ∧ Sd T G ∧ Tw w' g T ∧ w.heap.size ≤ g ∧ Ext [] w w'
/-- What Insert and Delete answer. -/
def RPost (G : Nat) (w : World) (e : Ending) (w' : World) : Prop := ∃ va vn vc er, e = .returned (.tuple #[.slice va vn vc, .int .i64 er]) ∧ Ext [] w w' ∧ ((er = 0 ∧ ∃ T' g', va = some ⟨g', 0, none⟩ ∧ vn = 3 + 17 * G ∧ Sd T' G ∧ Tw w' g' T' ∧ w.heap.size ≤ g') ∨ er ≠ 0)
theorem ins_r {T : List Nat} {G h d : Nat} (hS : Sd T G) (hh : h < 18446744073709551616) (hd : d < 18446744073709551616) {w : World} {e : Ending} {w' : World} (hp : TInsPost T G h d w e w') : RPost G w e w' := by
  obtain ⟨hX, ⟨T', g, c, hI, rfl, hTw, hg⟩ | ⟨_, rfl⟩⟩ := hp
  · exact ⟨_, _, _, _, rfl, hX, .inl ⟨rfl, T', g, rfl, rfl, (ins_facts hS hh hd hI).1, hTw, hg⟩⟩
  · exact ⟨_, _, _, _, rfl, hX, .inr (by omega)⟩
theorem del_r {T : List Nat} {G h d : Nat} (hS : Sd T G) {w : World} {e : Ending} {w' : World} (hp : TDelPost T G h d w e w') : RPost G w e w' := by
  obtain ⟨hX, ⟨T', g, c, hI, rfl, hTw, hg⟩ | ⟨_, rfl⟩⟩ := hp
  · exact ⟨_, _, _, _, rfl, hX, .inl ⟨rfl, T', g, rfl, rfl, (del_facts hS hI).1, hTw, hg⟩⟩
  · exact ⟨_, _, _, _, rfl, hX, .inr (by omega)⟩
set_option maxRecDepth 100000 in
set_option maxHeartbeats 1000000 in
theorem grown_of (G0 : Int) (G : Nat) (hG : Gp G) (a : Option Addr) (n c : Nat) (S : List Opr) (w : World) (hS : Scr w a S) (hn : S.length = n) (hnb : n ≤ 17592186044416) (hTb : Tb w) (hsel : (G0 = G ∧ G ≤ 16) ∨ ((¬ GpI G0 ∨ 16 < G0) ∧ G = 2)) :
    Calls Tryd.prog 29 #[.int .i64 G0, .slice a n c] w (GrPost w) := by
  have KN := tnew_ok G hG w
  have HS := hid hS
  have HN := hid hn
  have HTb := hid hTb
  have HG := hid hG
  have hle := hG.le
  have hfin : Hid (∀ (w1 : World) (g c1 : Nat), Tw w1 g (newT G) → w.heap.size ≤ g → Ext [] w w1 → True) := fun _ _ _ _ _ _ => trivial
  clear hS hn hTb hG
  rcases hsel with ⟨rfl, h16⟩ | ⟨hbad, rfl⟩
  · have K1 := Pr.groups_any (G : Int) true (by simp; exact Pr.gpI_nat.2 HG.out) w
    have h16i : ¬ ((16 : Int) < G) := by omega
    have h16d : decide ((16 : Int) < G) = false := by simp; omega
    go_enter Tryd.func29, Tryd.ntmps29
    go_wp2_with (first | (go_at_call 31; refine met K1 ?_))
    refine KN.mono ?_
    clear KN
    rintro _ w1 ⟨g, c1, rfl, hT1, hg1, hX1⟩
    have HT1 := hid hT1
    have HX1 := hid hX1
    clear hT1 hX1
    go_wp2_with fail
    go_loopw [5, 7] (fun p q wr => ∃ (k : Nat) (T : List Nat) (g c1 : Nat), q = .int .i64 k ∧ k ≤ n ∧ p = .slice (some ⟨g, 0, none⟩) (3 + 17 * G) c1 ∧ Sd T G ∧ Tw wr g T ∧ w.heap.size ≤ g ∧ Ext [] w wr) (fun _ q _ => (n - (intOf q)).toNat)
    case atStart => exact ⟨0, newT G, g, c1, rfl, Nat.zero_le _, rfl, sd_new HG.out, HT1.out, hg1, HX1.out⟩
    case round =>
      clear HT1 HX1
      obtain ⟨k, T, g, c1, rfl, hk, rfl, hSd, hTw, hgw, hX⟩ := hrel
      have HX := hid hX
      have HSd := hid hSd
      have HTw := hid hTw
      by_cases hkn : k < n
      · have hki : (k : Int) < n := by omega
        obtain ⟨hlt, hsc⟩ := HS.out.keep0 hX
        obtain ⟨x, hx⟩ : ∃ x, S[k]? = some x := ⟨_, List.getElem?_eq_getElem (by rw [HN.out]; exact hkn)⟩
        obtain ⟨hxh, hxd0⟩ := hlt x (List.mem_of_getElem? hx)
        rcases hsc with rfl | ⟨b, o, rfl, hc⟩
        · simp at hx
        obtain ⟨c1', c2, c3⟩ := hc k x hx
        have hTbr := HTb.out.keep0 hX
        have KO := fun u (hu : Ext [] wr u) => ownT_any (some ⟨g, 0, none⟩) (3 + 17 * G) c1 T u (hTw.keep0 hu).wd hSd.shp.len (by omega) (by omega)
        have KINS := fun u g1 cc1 (ht : Tw u g1 T) (hu : Ext [] wr u) => (tinsert_any (some ⟨g1, 0, none⟩) cc1 T G x.h x.d hSd hxh hxd0 u ht.wd (hTbr.keep0 hu)).mono (fun e w' hp => ins_r hSd hxh hxd0 hp)
        have KDEL := fun u g1 cc1 (ht : Tw u g1 T) (hu : Ext [] wr u) => (tdelete_any (some ⟨g1, 0, none⟩) cc1 T G x.h x.d hSd hxh u ht.wd (hTbr.keep0 hu)).mono (fun e w' hp => del_r hSd hp)
        clear hX hSd hTw hTbr hlt hc hx
        have c1 := c1'
        clear c1'
        generalize x.k = xk at *
        generalize x.h = xh at *
        generalize x.d = xd at *
        by_cases hk1 : xk = 1
        · have hk1' : ((xk : Int) == 1) = true := by simp [hk1]
          have hs1 : (wr.drew).cell? ⟨b, o + k * 4 + 2, none⟩ = some (.int .u64 (xh : Nat)) := c2
          have hs2 : (wr.drew).cell? ⟨b, o + k * 4 + 3, none⟩ = some (.int .u64 (xd : Nat)) := c3
          have hxd := Ext.drew [] wr
          go_wp2_with fail
          go_region_held3 (fun w' => w'.cell? ⟨b, o + k * 4 + 2, none⟩ = some (.int .u64 (xh : Nat)) ∧ w'.cell? ⟨b, o + k * 4 + 3, none⟩ = some (.int .u64 (xd : Nat)))
            (first | exact ⟨(hX1.trans hX2).cell hs1 (by simp), (hX1.trans hX2).cell hs2 (by simp)⟩ | exact ⟨hX1.cell hs1 (by simp), hX1.cell hs2 (by simp)⟩ | go_keep)
            (first | (go_at_call 12; refine (KO _ hxd).mono ?_; rintro e u1 ⟨g1, cc1, rfl, hTw1, hg1, hX1⟩) | (go_at_call 17; refine (KDEL u1 g1 cc1 hTw1 (hxd.trans hX1)).mono ?_; rintro e u2 ⟨va, vn, vc, er, rfl, hX2, hres⟩) | fail "no arm")
          have hXX : Ext [] wr u2 := (hxd.trans hX1).trans hX2
          have hu1 : w.heap.size ≤ u1.heap.size := Nat.le_trans (Nat.le_trans HX.out.size hxd.size) hX1.size
          rcases hres with ⟨rfl, T', g', rfl, rfl, hS', hTw', hg'⟩ | hne
          · have HF : Hid (Sd T' G ∧ Tw u2 g' T' ∧ w.heap.size ≤ g' ∧ Ext [] w u2) := ⟨hS', hTw', by omega, HX.out.trans hXX⟩
            clear hs1 hs2 hxd hX1 hX2 hTw1 hg1 hXX hS' hTw' hg' KO KINS KDEL c1 c2 c3
            go_wp2_with fail
            go_roundw
            case rel => exact ⟨k + 1, T', g', _, by go_num, by omega, rfl, HF.out⟩
            case measure => simp [intOf]; omega
          · have hne' : ((er : Int) == 0) = false := by simpa using hne
            have HF : Hid (Sd T G ∧ Tw u2 g T ∧ w.heap.size ≤ g ∧ Ext [] w u2) := ⟨HSd.out, HTw.out.keep0 hXX, hgw, HX.out.trans hXX⟩
            clear hs1 hs2 hxd hX1 hX2 hTw1 hg1 hXX KO KINS KDEL c1 c2 c3
            go_wp2_with fail
            go_roundw
            case rel => exact ⟨k + 1, T, g, _, by go_num, by omega, rfl, HF.out⟩
            case measure => simp [intOf]; omega
        · have hk1' : ((xk : Int) == 1) = false := by simpa using hk1
          by_cases hk2 : xk = 2 ∨ xk = 3
          · have hk2' : ((xk : Int) == 2) = true ∨ (((xk : Int) == 2) = false ∧ ((xk : Int) == 3) = true) := by
              rcases hk2 with q | q
              · exact .inl (by simp [q])
              · exact .inr ⟨by simp [q], by simp [q]⟩
            have HF : Hid (Sd T G ∧ Tw wr g T ∧ w.heap.size ≤ g ∧ Ext [] w wr) := ⟨HSd.out, HTw.out, hgw, HX.out⟩
            clear KO KINS KDEL c2 c3
            rcases hk2' with q | ⟨q1, q2⟩
            · go_wp2_with fail
              go_roundw
              case rel => exact ⟨k + 1, T, g, _, by go_num, by omega, rfl, HF.out⟩
              case measure => simp [intOf]; omega
            · go_wp2_with fail
              go_roundw
              case rel => exact ⟨k + 1, T, g, _, by go_num, by omega, rfl, HF.out⟩
              case measure => simp [intOf]; omega
          · have q1 : ((xk : Int) == 2) = false := by simp; omega
            have q2 : ((xk : Int) == 3) = false := by simp; omega
            have hs1 : (wr.drew).cell? ⟨b, o + k * 4 + 2, none⟩ = some (.int .u64 (xh : Nat)) := c2
            have hs2 : (wr.drew).cell? ⟨b, o + k * 4 + 3, none⟩ = some (.int .u64 (xd : Nat)) := c3
            have hxd := Ext.drew [] wr
            go_wp2_with fail
            go_region_held3 (fun w' => w'.cell? ⟨b, o + k * 4 + 2, none⟩ = some (.int .u64 (xh : Nat)) ∧ w'.cell? ⟨b, o + k * 4 + 3, none⟩ = some (.int .u64 (xd : Nat)))
              (first | exact ⟨(hX1.trans hX2).cell hs1 (by simp), (hX1.trans hX2).cell hs2 (by simp)⟩ | exact ⟨hX1.cell hs1 (by simp), hX1.cell hs2 (by simp)⟩ | go_keep)
              (first | (go_at_call 12; refine (KO _ hxd).mono ?_; rintro e u1 ⟨g1, cc1, rfl, hTw1, hg1, hX1⟩) | (go_at_call 16; refine (KINS u1 g1 cc1 hTw1 (hxd.trans hX1)).mono ?_; rintro e u2 ⟨va, vn, vc, er, rfl, hX2, hres⟩) | fail "no arm")
            have hXX : Ext [] wr u2 := (hxd.trans hX1).trans hX2
            have hu1 : w.heap.size ≤ u1.heap.size := Nat.le_trans (Nat.le_trans HX.out.size hxd.size) hX1.size
            rcases hres with ⟨rfl, T', g', rfl, rfl, hS', hTw', hg'⟩ | hne
            · have HF : Hid (Sd T' G ∧ Tw u2 g' T' ∧ w.heap.size ≤ g' ∧ Ext [] w u2) := ⟨hS', hTw', by omega, HX.out.trans hXX⟩
              clear hs1 hs2 hxd hX1 hX2 hTw1 hg1 hXX hS' hTw' hg' KO KINS KDEL c1 c2 c3
              go_wp2_with fail
              go_roundw
              case rel => exact ⟨k + 1, T', g', _, by go_num, by omega, rfl, HF.out⟩
              case measure => simp [intOf]; omega
            · have hne' : ((er : Int) == 0) = false := by simpa using hne
              have HF : Hid (Sd T G ∧ Tw u2 g T ∧ w.heap.size ≤ g ∧ Ext [] w u2) := ⟨HSd.out, HTw.out.keep0 hXX, hgw, HX.out.trans hXX⟩
              clear hs1 hs2 hxd hX1 hX2 hTw1 hg1 hXX KO KINS KDEL c1 c2 c3
              go_wp2_with fail
              go_roundw
              case rel => exact ⟨k + 1, T, g, _, by go_num, by omega, rfl, HF.out⟩
              case measure => simp [intOf]; omega
      · obtain rfl : k = n := by omega
        have HF : Hid (GrPost w (.returned (.slice (some ⟨g, 0, none⟩) (3 + 17 * G) c1)) wr) := ⟨T, G, g, c1, rfl, hSd, hTw, hgw, hX⟩
        clear hX hSd hTw
        go_wp2
        go_ret
        exact HF.out
  · by_cases hgp : GpI G0
    · have K1 := Pr.groups_any G0 true (by simp; exact hgp) w
      have h16i : (16 : Int) < G0 := hbad.resolve_left (fun q => q hgp)
      have h16d : decide ((16 : Int) < G0) = true := by simpa using h16i
      go_enter Tryd.func29, Tryd.ntmps29
      go_wp2_with (first | (go_at_call 31; refine met K1 ?_))
      refine KN.mono ?_
      clear KN
      rintro _ w1 ⟨g, c1, rfl, hT1, hg1, hX1⟩
      have HT1 := hid hT1
      have HX1 := hid hX1
      clear hT1 hX1
      go_wp2_with fail
      go_loopw [5, 7] (fun p q wr => ∃ (k : Nat) (T : List Nat) (g c1 : Nat), q = .int .i64 k ∧ k ≤ n ∧ p = .slice (some ⟨g, 0, none⟩) (3 + 17 * 2) c1 ∧ Sd T 2 ∧ Tw wr g T ∧ w.heap.size ≤ g ∧ Ext [] w wr) (fun _ q _ => (n - (intOf q)).toNat)
      case atStart => exact ⟨0, newT 2, g, c1, rfl, Nat.zero_le _, rfl, sd_new HG.out, HT1.out, hg1, HX1.out⟩
      case round =>
        clear HT1 HX1
        obtain ⟨k, T, g, c1, rfl, hk, rfl, hSd, hTw, hgw, hX⟩ := hrel
        have HX := hid hX
        have HSd := hid hSd
        have HTw := hid hTw
        by_cases hkn : k < n
        · have hki : (k : Int) < n := by omega
          obtain ⟨hlt, hsc⟩ := HS.out.keep0 hX
          obtain ⟨x, hx⟩ : ∃ x, S[k]? = some x := ⟨_, List.getElem?_eq_getElem (by rw [HN.out]; exact hkn)⟩
          obtain ⟨hxh, hxd0⟩ := hlt x (List.mem_of_getElem? hx)
          rcases hsc with rfl | ⟨b, o, rfl, hc⟩
          · simp at hx
          obtain ⟨c1', c2, c3⟩ := hc k x hx
          have hTbr := HTb.out.keep0 hX
          have KO := fun u (hu : Ext [] wr u) => ownT_any (some ⟨g, 0, none⟩) (3 + 17 * 2) c1 T u (hTw.keep0 hu).wd hSd.shp.len (by omega) (by omega)
          have KINS := fun u g1 cc1 (ht : Tw u g1 T) (hu : Ext [] wr u) => (tinsert_any (some ⟨g1, 0, none⟩) cc1 T 2 x.h x.d hSd hxh hxd0 u ht.wd (hTbr.keep0 hu)).mono (fun e w' hp => ins_r hSd hxh hxd0 hp)
          have KDEL := fun u g1 cc1 (ht : Tw u g1 T) (hu : Ext [] wr u) => (tdelete_any (some ⟨g1, 0, none⟩) cc1 T 2 x.h x.d hSd hxh u ht.wd (hTbr.keep0 hu)).mono (fun e w' hp => del_r hSd hp)
          clear hX hSd hTw hTbr hlt hc hx
          have c1 := c1'
          clear c1'
          generalize x.k = xk at *
          generalize x.h = xh at *
          generalize x.d = xd at *
          by_cases hk1 : xk = 1
          · have hk1' : ((xk : Int) == 1) = true := by simp [hk1]
            have hs1 : (wr.drew).cell? ⟨b, o + k * 4 + 2, none⟩ = some (.int .u64 (xh : Nat)) := c2
            have hs2 : (wr.drew).cell? ⟨b, o + k * 4 + 3, none⟩ = some (.int .u64 (xd : Nat)) := c3
            have hxd := Ext.drew [] wr
            go_wp2_with fail
            go_region_held3 (fun w' => w'.cell? ⟨b, o + k * 4 + 2, none⟩ = some (.int .u64 (xh : Nat)) ∧ w'.cell? ⟨b, o + k * 4 + 3, none⟩ = some (.int .u64 (xd : Nat)))
              (first | exact ⟨(hX1.trans hX2).cell hs1 (by simp), (hX1.trans hX2).cell hs2 (by simp)⟩ | exact ⟨hX1.cell hs1 (by simp), hX1.cell hs2 (by simp)⟩ | go_keep)
              (first | (go_at_call 12; refine (KO _ hxd).mono ?_; rintro e u1 ⟨g1, cc1, rfl, hTw1, hg1, hX1⟩) | (go_at_call 17; refine (KDEL u1 g1 cc1 hTw1 (hxd.trans hX1)).mono ?_; rintro e u2 ⟨va, vn, vc, er, rfl, hX2, hres⟩) | fail "no arm")
            have hXX : Ext [] wr u2 := (hxd.trans hX1).trans hX2
            have hu1 : w.heap.size ≤ u1.heap.size := Nat.le_trans (Nat.le_trans HX.out.size hxd.size) hX1.size
            rcases hres with ⟨rfl, T', g', rfl, rfl, hS', hTw', hg'⟩ | hne
            · have HF : Hid (Sd T' 2 ∧ Tw u2 g' T' ∧ w.heap.size ≤ g' ∧ Ext [] w u2) := ⟨hS', hTw', by omega, HX.out.trans hXX⟩
              clear hs1 hs2 hxd hX1 hX2 hTw1 hg1 hXX hS' hTw' hg' KO KINS KDEL c1 c2 c3
              go_wp2_with fail
              go_roundw
              case rel => exact ⟨k + 1, T', g', _, by go_num, by omega, rfl, HF.out⟩
              case measure => simp [intOf]; omega
            · have hne' : ((er : Int) == 0) = false := by simpa using hne
              have HF : Hid (Sd T 2 ∧ Tw u2 g T ∧ w.heap.size ≤ g ∧ Ext [] w u2) := ⟨HSd.out, HTw.out.keep0 hXX, hgw, HX.out.trans hXX⟩
              clear hs1 hs2 hxd hX1 hX2 hTw1 hg1 hXX KO KINS KDEL c1 c2 c3
              go_wp2_with fail
              go_roundw
              case rel => exact ⟨k + 1, T, g, _, by go_num, by omega, rfl, HF.out⟩
              case measure => simp [intOf]; omega
          · have hk1' : ((xk : Int) == 1) = false := by simpa using hk1
            by_cases hk2 : xk = 2 ∨ xk = 3
            · have hk2' : ((xk : Int) == 2) = true ∨ (((xk : Int) == 2) = false ∧ ((xk : Int) == 3) = true) := by
                rcases hk2 with q | q
                · exact .inl (by simp [q])
                · exact .inr ⟨by simp [q], by simp [q]⟩
              have HF : Hid (Sd T 2 ∧ Tw wr g T ∧ w.heap.size ≤ g ∧ Ext [] w wr) := ⟨HSd.out, HTw.out, hgw, HX.out⟩
              clear KO KINS KDEL c2 c3
              rcases hk2' with q | ⟨q1, q2⟩
              · go_wp2_with fail
                go_roundw
                case rel => exact ⟨k + 1, T, g, _, by go_num, by omega, rfl, HF.out⟩
                case measure => simp [intOf]; omega
              · go_wp2_with fail
                go_roundw
                case rel => exact ⟨k + 1, T, g, _, by go_num, by omega, rfl, HF.out⟩
                case measure => simp [intOf]; omega
            · have q1 : ((xk : Int) == 2) = false := by simp; omega
              have q2 : ((xk : Int) == 3) = false := by simp; omega
              have hs1 : (wr.drew).cell? ⟨b, o + k * 4 + 2, none⟩ = some (.int .u64 (xh : Nat)) := c2
              have hs2 : (wr.drew).cell? ⟨b, o + k * 4 + 3, none⟩ = some (.int .u64 (xd : Nat)) := c3
              have hxd := Ext.drew [] wr
              go_wp2_with fail
              go_region_held3 (fun w' => w'.cell? ⟨b, o + k * 4 + 2, none⟩ = some (.int .u64 (xh : Nat)) ∧ w'.cell? ⟨b, o + k * 4 + 3, none⟩ = some (.int .u64 (xd : Nat)))
                (first | exact ⟨(hX1.trans hX2).cell hs1 (by simp), (hX1.trans hX2).cell hs2 (by simp)⟩ | exact ⟨hX1.cell hs1 (by simp), hX1.cell hs2 (by simp)⟩ | go_keep)
                (first | (go_at_call 12; refine (KO _ hxd).mono ?_; rintro e u1 ⟨g1, cc1, rfl, hTw1, hg1, hX1⟩) | (go_at_call 16; refine (KINS u1 g1 cc1 hTw1 (hxd.trans hX1)).mono ?_; rintro e u2 ⟨va, vn, vc, er, rfl, hX2, hres⟩) | fail "no arm")
              have hXX : Ext [] wr u2 := (hxd.trans hX1).trans hX2
              have hu1 : w.heap.size ≤ u1.heap.size := Nat.le_trans (Nat.le_trans HX.out.size hxd.size) hX1.size
              rcases hres with ⟨rfl, T', g', rfl, rfl, hS', hTw', hg'⟩ | hne
              · have HF : Hid (Sd T' 2 ∧ Tw u2 g' T' ∧ w.heap.size ≤ g' ∧ Ext [] w u2) := ⟨hS', hTw', by omega, HX.out.trans hXX⟩
                clear hs1 hs2 hxd hX1 hX2 hTw1 hg1 hXX hS' hTw' hg' KO KINS KDEL c1 c2 c3
                go_wp2_with fail
                go_roundw
                case rel => exact ⟨k + 1, T', g', _, by go_num, by omega, rfl, HF.out⟩
                case measure => simp [intOf]; omega
              · have hne' : ((er : Int) == 0) = false := by simpa using hne
                have HF : Hid (Sd T 2 ∧ Tw u2 g T ∧ w.heap.size ≤ g ∧ Ext [] w u2) := ⟨HSd.out, HTw.out.keep0 hXX, hgw, HX.out.trans hXX⟩
                clear hs1 hs2 hxd hX1 hX2 hTw1 hg1 hXX KO KINS KDEL c1 c2 c3
                go_wp2_with fail
                go_roundw
                case rel => exact ⟨k + 1, T, g, _, by go_num, by omega, rfl, HF.out⟩
                case measure => simp [intOf]; omega
        · obtain rfl : k = n := by omega
          have HF : Hid (GrPost w (.returned (.slice (some ⟨g, 0, none⟩) (3 + 17 * 2) c1)) wr) := ⟨T, 2, g, c1, rfl, hSd, hTw, hgw, hX⟩
          clear hX hSd hTw
          go_wp2
          go_ret
          exact HF.out
    · have K1 := Pr.groups_any G0 false (by simp; exact hgp) w
      go_enter Tryd.func29, Tryd.ntmps29
      go_wp2_with (first | (go_at_call 31; refine met K1 ?_))
      refine KN.mono ?_
      clear KN
      rintro _ w1 ⟨g, c1, rfl, hT1, hg1, hX1⟩
      have HT1 := hid hT1
      have HX1 := hid hX1
      clear hT1 hX1
      go_wp2_with fail
      go_loopw [5, 7] (fun p q wr => ∃ (k : Nat) (T : List Nat) (g c1 : Nat), q = .int .i64 k ∧ k ≤ n ∧ p = .slice (some ⟨g, 0, none⟩) (3 + 17 * 2) c1 ∧ Sd T 2 ∧ Tw wr g T ∧ w.heap.size ≤ g ∧ Ext [] w wr) (fun _ q _ => (n - (intOf q)).toNat)
      case atStart => exact ⟨0, newT 2, g, c1, rfl, Nat.zero_le _, rfl, sd_new HG.out, HT1.out, hg1, HX1.out⟩
      case round =>
        clear HT1 HX1
        obtain ⟨k, T, g, c1, rfl, hk, rfl, hSd, hTw, hgw, hX⟩ := hrel
        have HX := hid hX
        have HSd := hid hSd
        have HTw := hid hTw
        by_cases hkn : k < n
        · have hki : (k : Int) < n := by omega
          obtain ⟨hlt, hsc⟩ := HS.out.keep0 hX
          obtain ⟨x, hx⟩ : ∃ x, S[k]? = some x := ⟨_, List.getElem?_eq_getElem (by rw [HN.out]; exact hkn)⟩
          obtain ⟨hxh, hxd0⟩ := hlt x (List.mem_of_getElem? hx)
          rcases hsc with rfl | ⟨b, o, rfl, hc⟩
          · simp at hx
          obtain ⟨c1', c2, c3⟩ := hc k x hx
          have hTbr := HTb.out.keep0 hX
          have KO := fun u (hu : Ext [] wr u) => ownT_any (some ⟨g, 0, none⟩) (3 + 17 * 2) c1 T u (hTw.keep0 hu).wd hSd.shp.len (by omega) (by omega)
          have KINS := fun u g1 cc1 (ht : Tw u g1 T) (hu : Ext [] wr u) => (tinsert_any (some ⟨g1, 0, none⟩) cc1 T 2 x.h x.d hSd hxh hxd0 u ht.wd (hTbr.keep0 hu)).mono (fun e w' hp => ins_r hSd hxh hxd0 hp)
          have KDEL := fun u g1 cc1 (ht : Tw u g1 T) (hu : Ext [] wr u) => (tdelete_any (some ⟨g1, 0, none⟩) cc1 T 2 x.h x.d hSd hxh u ht.wd (hTbr.keep0 hu)).mono (fun e w' hp => del_r hSd hp)
          clear hX hSd hTw hTbr hlt hc hx
          have c1 := c1'
          clear c1'
          generalize x.k = xk at *
          generalize x.h = xh at *
          generalize x.d = xd at *
          by_cases hk1 : xk = 1
          · have hk1' : ((xk : Int) == 1) = true := by simp [hk1]
            have hs1 : (wr.drew).cell? ⟨b, o + k * 4 + 2, none⟩ = some (.int .u64 (xh : Nat)) := c2
            have hs2 : (wr.drew).cell? ⟨b, o + k * 4 + 3, none⟩ = some (.int .u64 (xd : Nat)) := c3
            have hxd := Ext.drew [] wr
            go_wp2_with fail
            go_region_held3 (fun w' => w'.cell? ⟨b, o + k * 4 + 2, none⟩ = some (.int .u64 (xh : Nat)) ∧ w'.cell? ⟨b, o + k * 4 + 3, none⟩ = some (.int .u64 (xd : Nat)))
              (first | exact ⟨(hX1.trans hX2).cell hs1 (by simp), (hX1.trans hX2).cell hs2 (by simp)⟩ | exact ⟨hX1.cell hs1 (by simp), hX1.cell hs2 (by simp)⟩ | go_keep)
              (first | (go_at_call 12; refine (KO _ hxd).mono ?_; rintro e u1 ⟨g1, cc1, rfl, hTw1, hg1, hX1⟩) | (go_at_call 17; refine (KDEL u1 g1 cc1 hTw1 (hxd.trans hX1)).mono ?_; rintro e u2 ⟨va, vn, vc, er, rfl, hX2, hres⟩) | fail "no arm")
            have hXX : Ext [] wr u2 := (hxd.trans hX1).trans hX2
            have hu1 : w.heap.size ≤ u1.heap.size := Nat.le_trans (Nat.le_trans HX.out.size hxd.size) hX1.size
            rcases hres with ⟨rfl, T', g', rfl, rfl, hS', hTw', hg'⟩ | hne
            · have HF : Hid (Sd T' 2 ∧ Tw u2 g' T' ∧ w.heap.size ≤ g' ∧ Ext [] w u2) := ⟨hS', hTw', by omega, HX.out.trans hXX⟩
              clear hs1 hs2 hxd hX1 hX2 hTw1 hg1 hXX hS' hTw' hg' KO KINS KDEL c1 c2 c3
              go_wp2_with fail
              go_roundw
              case rel => exact ⟨k + 1, T', g', _, by go_num, by omega, rfl, HF.out⟩
              case measure => simp [intOf]; omega
            · have hne' : ((er : Int) == 0) = false := by simpa using hne
              have HF : Hid (Sd T 2 ∧ Tw u2 g T ∧ w.heap.size ≤ g ∧ Ext [] w u2) := ⟨HSd.out, HTw.out.keep0 hXX, hgw, HX.out.trans hXX⟩
              clear hs1 hs2 hxd hX1 hX2 hTw1 hg1 hXX KO KINS KDEL c1 c2 c3
              go_wp2_with fail
              go_roundw
              case rel => exact ⟨k + 1, T, g, _, by go_num, by omega, rfl, HF.out⟩
              case measure => simp [intOf]; omega
          · have hk1' : ((xk : Int) == 1) = false := by simpa using hk1
            by_cases hk2 : xk = 2 ∨ xk = 3
            · have hk2' : ((xk : Int) == 2) = true ∨ (((xk : Int) == 2) = false ∧ ((xk : Int) == 3) = true) := by
                rcases hk2 with q | q
                · exact .inl (by simp [q])
                · exact .inr ⟨by simp [q], by simp [q]⟩
              have HF : Hid (Sd T 2 ∧ Tw wr g T ∧ w.heap.size ≤ g ∧ Ext [] w wr) := ⟨HSd.out, HTw.out, hgw, HX.out⟩
              clear KO KINS KDEL c2 c3
              rcases hk2' with q | ⟨q1, q2⟩
              · go_wp2_with fail
                go_roundw
                case rel => exact ⟨k + 1, T, g, _, by go_num, by omega, rfl, HF.out⟩
                case measure => simp [intOf]; omega
              · go_wp2_with fail
                go_roundw
                case rel => exact ⟨k + 1, T, g, _, by go_num, by omega, rfl, HF.out⟩
                case measure => simp [intOf]; omega
            · have q1 : ((xk : Int) == 2) = false := by simp; omega
              have q2 : ((xk : Int) == 3) = false := by simp; omega
              have hs1 : (wr.drew).cell? ⟨b, o + k * 4 + 2, none⟩ = some (.int .u64 (xh : Nat)) := c2
              have hs2 : (wr.drew).cell? ⟨b, o + k * 4 + 3, none⟩ = some (.int .u64 (xd : Nat)) := c3
              have hxd := Ext.drew [] wr
              go_wp2_with fail
              go_region_held3 (fun w' => w'.cell? ⟨b, o + k * 4 + 2, none⟩ = some (.int .u64 (xh : Nat)) ∧ w'.cell? ⟨b, o + k * 4 + 3, none⟩ = some (.int .u64 (xd : Nat)))
                (first | exact ⟨(hX1.trans hX2).cell hs1 (by simp), (hX1.trans hX2).cell hs2 (by simp)⟩ | exact ⟨hX1.cell hs1 (by simp), hX1.cell hs2 (by simp)⟩ | go_keep)
                (first | (go_at_call 12; refine (KO _ hxd).mono ?_; rintro e u1 ⟨g1, cc1, rfl, hTw1, hg1, hX1⟩) | (go_at_call 16; refine (KINS u1 g1 cc1 hTw1 (hxd.trans hX1)).mono ?_; rintro e u2 ⟨va, vn, vc, er, rfl, hX2, hres⟩) | fail "no arm")
              have hXX : Ext [] wr u2 := (hxd.trans hX1).trans hX2
              have hu1 : w.heap.size ≤ u1.heap.size := Nat.le_trans (Nat.le_trans HX.out.size hxd.size) hX1.size
              rcases hres with ⟨rfl, T', g', rfl, rfl, hS', hTw', hg'⟩ | hne
              · have HF : Hid (Sd T' 2 ∧ Tw u2 g' T' ∧ w.heap.size ≤ g' ∧ Ext [] w u2) := ⟨hS', hTw', by omega, HX.out.trans hXX⟩
                clear hs1 hs2 hxd hX1 hX2 hTw1 hg1 hXX hS' hTw' hg' KO KINS KDEL c1 c2 c3
                go_wp2_with fail
                go_roundw
                case rel => exact ⟨k + 1, T', g', _, by go_num, by omega, rfl, HF.out⟩
                case measure => simp [intOf]; omega
              · have hne' : ((er : Int) == 0) = false := by simpa using hne
                have HF : Hid (Sd T 2 ∧ Tw u2 g T ∧ w.heap.size ≤ g ∧ Ext [] w u2) := ⟨HSd.out, HTw.out.keep0 hXX, hgw, HX.out.trans hXX⟩
                clear hs1 hs2 hxd hX1 hX2 hTw1 hg1 hXX KO KINS KDEL c1 c2 c3
                go_wp2_with fail
                go_roundw
                case rel => exact ⟨k + 1, T, g, _, by go_num, by omega, rfl, HF.out⟩
                case measure => simp [intOf]; omega
        · obtain rfl : k = n := by omega
          have HF : Hid (GrPost w (.returned (.slice (some ⟨g, 0, none⟩) (3 + 17 * 2) c1)) wr) := ⟨T, 2, g, c1, rfl, hSd, hTw, hgw, hX⟩
          clear hX hSd hTw
          go_wp2
          go_ret
          exact HF.out
end Go.Proofs.YtkknadkcpndnaaaDoor

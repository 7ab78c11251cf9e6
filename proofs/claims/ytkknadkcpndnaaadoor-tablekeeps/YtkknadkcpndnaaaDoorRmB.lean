/-
  Tables with their room: copies, new ones, Insert, Delete; no statement is proved here.
-/
import Derived.Test.YtkknadkcpndnaaaDoorRmA
import Derived.Test.YtkknadkcpndnaaaDoorCln
import Derived.Test.YtkknadkcpndnaaaDoorTIns
import Derived.Test.YtkknadkcpndnaaaDoorDel
import Derived.Test.YtkknadkcpndnaaaDoorNewT
namespace Go.Proofs.YtkknadkcpndnaaaDoor.Rm
open Go.RowKit Go.Shelf
open Pr (Gp GpI sq pl)
attribute [local go_sem] Oper.semAt_some run_store_func

theorem tw_of_own {w : World} {base : Nat} {a : Option Addr} {n c : Nat} {T : List Nat} (h : w.ownsRow base 23 1 (.slice a n c) n (vw T)) (hn : T.length = n) (h0 : 0 < n) : ∃ g, a = some ⟨g, 0, none⟩ ∧ base ≤ g ∧ Tw c w g T := by
  rcases h.2 with ⟨h1, h2⟩ | ⟨g, cap, cur, e, h1, h2, h3, h4, h5, h6⟩
  · omega
  · cases e
    refine ⟨g, rfl, h1, cur, h2, fun j hj => ?_, by omega, h4⟩
    have : (cur.toList.take (n * 1))[j]? = cur[j]? := by
      rw [List.getElem?_take, if_pos (by omega)]; simp
    rw [← this, h6, vw_at T hj]
/-- A table of its own. -/
def TPost (w : World) (n : Nat) (T : List Nat) (e : Ending) (w' : World) : Prop := ∃ g c, e = .returned (.slice (some ⟨g, 0, none⟩) n c) ∧ Tw c w' g T ∧ w.heap.size ≤ g ∧ Ext [] w w'
theorem ownT_any (a : Option Addr) (n c : Nat) (T : List Nat) (w : World) (hI : Wd w a T) (hn : T.length = n) (h0 : 0 < n) (hb : n ≤ 17592186044416) : Calls Tryd.prog 12 #[.slice a n c] w (TPost w n T) :=
  (own_any a n c T w hI hn hb).mono (by
    rintro e w' ⟨a', c', rfl, ho, hE⟩
    rw [hn] at ho ⊢
    obtain ⟨g, rfl, h1, h2⟩ := tw_of_own ho hn h0
    exact ⟨g, c', rfl, h2, h1, hE⟩)
theorem clone_any (b o n c : Nat) (T : List Nat) (w : World) (hI : Wd w (some ⟨b, o, none⟩) T) (hn : T.length = n) (h0 : 0 < n) (hb : n ≤ 17592186044416) : Calls Tryd.prog 39 #[.slice (some ⟨b, o, none⟩) n c] w (TPost w n T) := by
  have hE0 := Ext.alloc [] w (.cells #[] 23)
  have hown : (w.alloc (.cells #[] 23)).ownsRow w.heap.size 23 1 (.slice (some ⟨w.heap.size, 0, none⟩) 0 0) 0 [] := World.ownsRow_made w #[] 0 (Nat.le_refl _) (Nat.zero_le _) rfl
  obtain ⟨v, w', hr, ho, hE, _⟩ := app_own w _ hE0 22 22 23 _ 8 Tryd.underlying22 info23 rfl (by omega) _ 0 [] hown (some ⟨b, o, none⟩) n c (vw T) (by rw [vw_len]; exact hn) (Vs.keep0 hI hE0) (vw_one T) (by omega)
  rw [Nat.zero_add, List.nil_append] at ho
  obtain ⟨a', c', rfl, hc⟩ := own_slice ho
  obtain ⟨g, rfl, h1, h2⟩ := tw_of_own ho hn h0
  have HF : Hid (TPost w n T (.returned (.slice (some ⟨g, 0, none⟩) n c')) w') := ⟨g, c', rfl, h2, h1, hE⟩
  have heq : ∀ w, Sem.run Tryd.prog (binOp .eql 22 (.slice (some ⟨b, o, none⟩) n c) (.slice none 0 0)) w = .ok (.bool false) w := fun w => eql_slice_nil w b o n c
  clear hE0 hown hI hn ho hE h1 h2
  go_enter Tryd.func39, Tryd.ntmps39
  go_wp2_with (at_builtin; refine wpList_append_run rfl _ _ 22 rfl _ _ _ rfl rfl hr ?_)
  go_ret
  exact HF.out

set_option maxRecDepth 100000 in
theorem remove_any {Rq : Nat} (B c : Nat) (T : List Nat) (G g i : Nat) (hS : Shp T G) (hg : g < G) (hi : i < 8) (h2 : T.getD 2 0 < 9223372036854775808) (w : World) (hT : Tw Rq w B T) :
    Calls Tryd.prog 43 #[.slice (some ⟨B, 0, none⟩) (3 + 17 * G) c, .int .i64 (g : Nat), .int .i64 (i : Nat)] w fun e w' => (∃ v, e = .returned v) ∧ Tw Rq w' B (remAt T g i) ∧ Ext [B] w w' := by
  have hG := hS.gp.le
  have hlen := hS.len
  have K1 := fun u => controlAt_any g (by omega) u
  have hcw := hS.cw_lt g
  have K2 := fun u => empty_any (cw T g) hcw u
  have c1 := hT.cell (j := 1) (by omega)
  have f1 := hT.frozen 1
  have h64 := getD_lt64 hS.lt 1
  obtain ⟨en, hen⟩ : ∃ en, T.getD 1 0 = en := ⟨_, rfl⟩
  obtain ⟨gr, hgr⟩ : ∃ gr, T.getD 2 0 = gr := ⟨_, rfl⟩
  rw [hen] at c1 h64
  rw [hgr] at h2
  obtain ⟨en1, hee⟩ : ∃ en1, dec64 en = en1 := ⟨_, rfl⟩
  have hec : IntKind.u64.wrap ((en : Int) - 1) = (en1 : Int) := by rw [← hee]; exact dec64_wrap en
  have hel : en1 < 18446744073709551616 := by rw [← hee]; exact dec64_lt en
  have hT1 := hT.set 1 en1 (by omega)
  have hS1 := hS.set 1 en1 (by omega) hel
  have hx1 := Ext.setCell [B] w ⟨B, 1, none⟩ (.int .u64 (en1 : Nat)) (by simp)
  have cC := hT1.cell (j := 3 + 17 * g) (by rw [List.length_set]; omega)
  rw [getD_set (by omega), if_neg (by omega), show T.getD (3 + 17 * g) 0 = cw T g from rfl] at cC
  have hcwx : cw (T.set 1 en1) g = cw T g := by unfold cw; rw [getD_set (by omega), if_neg (by omega)]
  by_cases hE : mt (cw T g) 128 = 0
  · have KW := write_any B c (T.set 1 en1) G g i 254 0 0 hS1 hg hi (by omega) _ hT1
    have hr : wr (T.set 1 en1) g i 254 0 0 = remAt T g i := by unfold remAt; rw [if_pos hE, hen, hee]
    rw [hr] at KW
    rw [hE] at K2
    have HX := hid hx1
    clear hT hT1 hS hS1 hx1 hr hE hcwx hen hgr hlen
    generalize remAt T g i = TT at *
    generalize cw T g = cx at *
    go_enter Tryd.func43, Tryd.ntmps43
    go_wp2_with (first | (go_at_call 52; refine met (K1 _) ?_) | (go_at_call 73; refine met (K2 _) ?_))
    go_at_call 74
    refine KW.mono ?_
    clear KW
    rintro _ W3 ⟨⟨v3, rfl⟩, hTw3, hX3⟩
    go_wp2
    refine bodyPost_ret (results_none rfl _ _ _) rfl ?_
    exact ⟨⟨_, rfl⟩, hTw3, HX.out.trans hX3⟩
  · have c2 := hT1.cell (j := 2) (by rw [List.length_set]; omega)
    rw [getD_set (by omega), if_neg (by omega), hgr] at c2
    have f2 := hT1.frozen 2
    obtain ⟨gr1, hgg⟩ : ∃ gr1, gr + 1 = gr1 := ⟨_, rfl⟩
    have hgc : (gr : Int) + 1 = (gr1 : Int) := by omega
    have hT2 := hT1.set 2 gr1 (by rw [List.length_set]; omega)
    have hS2 := hS1.set 2 gr1 (by omega) (by omega)
    have hx2 := hx1.trans (Ext.setCell [B] (w.setCell ⟨B, 1, none⟩ (.int .u64 (en1 : Nat))) ⟨B, 2, none⟩ (.int .u64 (gr1 : Nat)) (by simp))
    have KW := write_any B c ((T.set 1 en1).set 2 gr1) G g i 128 0 0 hS2 hg hi (by omega) _ hT2
    have hr : wr ((T.set 1 en1).set 2 gr1) g i 128 0 0 = remAt T g i := by unfold remAt; rw [if_neg hE, hen, hee, hgr, hgg]
    rw [hr] at KW
    have hE1 : ((mt (cw T g) 128 : Int) == 0) = false := by simpa using hE
    have HX := hid hx2
    clear hT hT1 hS hS1 hx1 hr hE hcwx hen hgr hlen hT2 hS2 hx2
    generalize remAt T g i = TT at *
    generalize mt (cw T g) 128 = me at *
    generalize cw T g = cx at *
    go_enter Tryd.func43, Tryd.ntmps43
    go_wp2_with (first | (go_at_call 52; refine met (K1 _) ?_) | (go_at_call 73; refine met (K2 _) ?_))
    go_at_call 74
    refine KW.mono ?_
    clear KW
    rintro _ W3 ⟨⟨v3, rfl⟩, hTw3, hX3⟩
    go_wp2
    go_end0
    exact ⟨⟨_, rfl⟩, hTw3, HX.out.trans hX3⟩
def NewPost (w : World) (G : Nat) (e : Ending) (w' : World) : Prop := ∃ g c, e = .returned (.tuple #[.slice (some ⟨g, 0, none⟩) (3 + 17 * G) c, .int .i64 0]) ∧ Tw c w' g (newT G) ∧ w.heap.size ≤ g ∧ Ext [] w w'
set_option maxRecDepth 100000 in
theorem tnew_ok (G : Nat) (hG : Gp G) (w : World) : Calls Tryd.prog 25 #[.int .i64 (G : Nat)] w (NewPost w G) := by
  have hle := hG.le
  have hpos := hG.pos
  have K1 := fun u => tallowed_yes G hG u
  have K2 := fun u => wordsOf_any G hle u
  obtain ⟨n, hn⟩ : ∃ n, 3 + 17 * G = n := ⟨_, rfl⟩
  have hmk := run_make_row' (P := Tryd.prog) 22 23 (.int .u64 0) 8 Tryd.underlying22 info23 rfl .i64 .i64 n (by omega) (by omega) w
  have hT0 : Tw n (w.alloc (.cells (madeCells #[.int .u64 0] n) 23)) w.heap.size (List.replicate (3 + 17 * G) 0) := by
    have : (madeCells #[.int .u64 0] n).toList = List.replicate n (.int .u64 0) := toList_madeCells_one _ _
    refine ⟨_, heap_alloc_new w _, fun j hj => ?_, by rw [← Array.length_toList, this, List.length_replicate], by unfold maxLen; omega⟩
    simp only [List.length_replicate] at hj
    rw [← Array.getElem?_toList, this, List.getElem?_replicate, if_pos (by omega)]
    simp [hj]
  have hE0 := Ext.alloc [] w (.cells (madeCells #[.int .u64 0] n) 23)
  obtain ⟨g, hg⟩ : ∃ g, w.heap.size = g := ⟨_, rfl⟩
  rw [hg] at hmk hT0
  obtain ⟨W0, hW0⟩ : ∃ W0, w.alloc (.cells (madeCells #[.int .u64 0] n) 23) = W0 := ⟨_, rfl⟩
  rw [hW0] at hmk hT0 hE0
  have c0 := hT0.cell (j := 0) (by simp only [List.length_replicate]; omega)
  have f0 := hT0.frozen 0
  have hT1 := hT0.set 0 G (by simp only [List.length_replicate]; omega)
  have c2 := hT1.cell (j := 2) (by simp only [List.length_set, List.length_replicate]; omega)
  have f2 := hT1.frozen 2
  obtain ⟨G7, hG7⟩ : ∃ G7, 7 * G = G7 := ⟨_, rfl⟩
  have hT2 := hT1.set 2 G7 (by simp only [List.length_set, List.length_replicate]; omega)
  rw [← hG7, newK_zero, hG7] at hT2
  have e7 : 7 * (G : Int) = (G7 : Int) := by omega
  rw [hn] at K2
  have hE2 : Ext [] w ((W0.setCell ⟨g, 0, none⟩ (.int .u64 (G : Nat))).setCell ⟨g, 2, none⟩ (.int .u64 (G7 : Nat))) := (hE0.on (Ext.setCell [g] _ _ _ (by simp)) (by simp; omega)).on (Ext.setCell [g] _ _ _ (by simp)) (by simp; omega)
  have HT2 := hid hT2
  have HE2 := hid hE2
  have HG := hid hG
  have hn3 : 3 ≤ n := by omega
  have hn4 : n ≤ 70000 := by omega
  have HN := hid hn
  have KC := fun k (hk : k < G) u => controlAt_any k (by omega) u
  clear hT0 hT1 hT2 hE2 hE0 hG hW0 hn hG7
  go_enter Tryd.func25, Tryd.ntmps25
  go_wp2_with (first | (go_at_call 49; refine met (K1 _) ?_) | (go_at_call 50; refine met (K2 _) ?_))
  clear hmk c0 f0 c2 f2 e7
  obtain ⟨W2, hW2⟩ : ∃ W2, (W0.setCell ⟨g, 0, none⟩ (.int .u64 (G : Nat))).setCell ⟨g, 2, none⟩ (.int .u64 (G7 : Nat)) = W2 := ⟨_, rfl⟩
  rw [hW2] at HT2 HE2 ⊢
  clear hW2
  have HNl := hid (newK_len G)
  have HNs := hid (newK_step G)
  go_loopw [22] (fun q wr => ∃ k : Nat, q = .int .i64 k ∧ k ≤ G ∧ Tw n wr g (newK G k) ∧ Ext [] w wr) (fun q _ => (G - (intOf q)).toNat)
  case atStart => exact ⟨0, rfl, Nat.zero_le _, HT2.out, HE2.out⟩
  case round =>
    clear HT2 HE2
    obtain ⟨k, rfl, hk, hTk, hEk⟩ := hrel
    by_cases hkG : k < G
    · have hki : (k : Int) < G := by omega
      have cC := hTk.cell (j := 3 + 17 * k) (by rw [HNl.out]; omega)
      have fC := hTk.frozen (3 + 17 * k)
      have K3 := KC k hkG
      have hTs := hTk.set (3 + 17 * k) 9259542123273814144 (by rw [HNl.out]; omega)
      rw [HNs.out k hkG] at hTs
      have HTs := hid hTs
      have HEs := hid (hEk.on (Ext.setCell [g] wr ⟨g, 3 + 17 * k, none⟩ (.int .u64 (9259542123273814144 : Nat)) (by simp)) (by simp; omega))
      have hkn : 3 + 17 * k < n := by have := HN.out; omega
      generalize (newK G k).getD (3 + 17 * k) 0 = old at *
      clear hTk hEk hTs
      go_wp2_with (first | (go_at_call 52; refine met (K3 _) ?_) | (go_at_call 51; refine met (new_any _) ?_))
      go_roundw
      case rel => exact ⟨k + 1, by go_num, by omega, HTs.out, HEs.out⟩
      case measure => simp [intOf]; omega
    · obtain rfl : k = G := by omega
      have HF : Hid (NewPost w k (.returned (.tuple #[.slice (some ⟨g, 0, none⟩) n n, .int .i64 0])) wr) := ⟨g, n, by rw [HN.out], hTk, by omega, hEk⟩
      clear hTk hEk
      go_wp2
      go_ret2
      exact HF.out
def TInsPost (T : List Nat) (G h d : Nat) (w : World) (e : Ending) (w' : World) : Prop := Ext [] w w' ∧
  ((∃ T' g c, InsT T G h d (some T') ∧ e = .returned (.tuple #[.slice (some ⟨g, 0, none⟩) (3 + 17 * G) c, .int .i64 0]) ∧ Tw c w' g T' ∧ w.heap.size ≤ g) ∨
   (InsT T G h d none ∧ e = .returned (.tuple #[.slice none 0 0, .int .i64 7])))
theorem tinsert_any (a : Option Addr) (c : Nat) (T : List Nat) (G h d : Nat) (hS : Sd T G) (hh : h < 18446744073709551616) (hd : d < 18446744073709551616) (w : World) (hT : Wd w a T) (hTb : Tb w) :
    Calls Tryd.prog 16 #[.slice a (3 + 17 * G) c, .int .u64 (h : Nat), .int .u64 (d : Nat)] w (TInsPost T G h d w) := by
  have hlen := hS.shp.len
  have hG := hS.shp.gp.le
  have hn := nfl_le T G
  rw [← hS.cnt] at hn
  have K := sound_true a c T G hS w hT
  have hne : T ≠ [] := by rintro rfl; simp at hlen; omega
  obtain ⟨b, o, rfl, hcc⟩ := hT.at_ hne
  have HT := hid hT
  have HL := hid hlen
  have HTb := hid hTb
  have HS := hid hS
  clear hcc hT hlen hS hTb
  go_enter Tryd.func16, Tryd.ntmps16
  go_wp2_with fail
  refine K.mono ?_
  clear K
  rintro _ w1 ⟨rfl, hX⟩
  have K2 := clone_any b o (3 + 17 * G) c T w1 (HT.out.keep0 hX) HL.out (by omega) (by omega)
  have HX := hid hX
  clear hX
  go_wp2_with fail
  refine K2.mono ?_
  clear K2
  rintro _ w2 ⟨g, cc, rfl, hTw, hg, hX2⟩
  have K3 := insert_any g cc G h d T HS.out.shp hh hd (by omega) w2 hTw (HTb.out.keep0 (HX.out.trans hX2))
  have hX3 := HX.out.trans hX2
  have hgw : w.heap.size ≤ g := Nat.le_trans HX.out.size hg
  have HX3 := hid hX3
  clear hX2 hX3 HX hTw hg
  go_wp2_with fail
  refine K3.mono ?_
  clear K3
  rintro e w3 ⟨hX4, hr⟩
  have hE : Ext [] w w3 := HX3.out.on hX4 (by simp; omega)
  rcases hr with ⟨g1, i1, hf, hno, rfl, hTw⟩ | ⟨rfl, _, hno⟩
  · have HF : Hid (TInsPost T G h d w (.returned (.tuple #[.slice (some ⟨g, 0, none⟩) (3 + 17 * G) cc, .int .i64 0])) w3) := ⟨hE, .inl ⟨_, g, cc, ⟨g1, i1, hf, hno, rfl⟩, rfl, hTw, hgw⟩⟩
    clear hf hno hTw hE hX4
    go_wp2
    go_ret2
    exact HF.out
  · have HF : Hid (TInsPost T G h d w (.returned (.tuple #[.slice none 0 0, .int .i64 7])) w3) := ⟨hE, .inr ⟨hno, rfl⟩⟩
    clear hno hE hX4
    go_wp2
    go_ret2
    exact HF.out
end Go.Proofs.YtkknadkcpndnaaaDoor.Rm

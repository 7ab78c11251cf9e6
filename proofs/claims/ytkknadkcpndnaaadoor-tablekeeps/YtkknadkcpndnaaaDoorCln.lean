/-
  Copies of tables, new tables, and an entry taken out; no statement is proved here.
-/
import Derived.Test.YtkknadkcpndnaaaDoorIns
namespace Go.Proofs.YtkknadkcpndnaaaDoor
open Go.RowKit Go.Shelf
open Pr (Gp GpI sq pl)
attribute [local go_sem] Oper.semAt_some run_store_func

theorem tw_of_own {w : World} {base : Nat} {a : Option Addr} {n c : Nat} {T : List Nat} (h : w.ownsRow base 23 1 (.slice a n c) n (vw T)) (hn : T.length = n) (h0 : 0 < n) : ∃ g, a = some ⟨g, 0, none⟩ ∧ base ≤ g ∧ Tw w g T := by
  rcases h.2 with ⟨h1, h2⟩ | ⟨g, cap, cur, e, h1, h2, h3, h4, h5, h6⟩
  · omega
  · cases e
    refine ⟨g, rfl, h1, cur, h2, fun j hj => ?_⟩
    have : (cur.toList.take (n * 1))[j]? = cur[j]? := by
      rw [List.getElem?_take, if_pos (by omega)]; simp
    rw [← this, h6, vw_at T hj]

/-- A list of words of its own. -/
def OwPost (w : World) (T : List Nat) (e : Ending) (w' : World) : Prop := ∃ a c, e = .returned (.slice a T.length c) ∧ w'.ownsRow w.heap.size 23 1 (.slice a T.length c) T.length (vw T) ∧ Ext [] w w'
theorem own_any (a : Option Addr) (n c : Nat) (T : List Nat) (w : World) (hI : Wd w a T) (hn : T.length = n) (hb : n ≤ 17592186044416) : Calls Tryd.prog 12 #[.slice a n c] w (OwPost w T) := by
  have hE0 := Ext.alloc [] w (.cells #[] 23)
  have hown : (w.alloc (.cells #[] 23)).ownsRow w.heap.size 23 1 (.slice (some ⟨w.heap.size, 0, none⟩) 0 0) 0 [] := World.ownsRow_made w #[] 0 (Nat.le_refl _) (Nat.zero_le _) rfl
  obtain ⟨v, w', hr, ho, hE, _⟩ := app_own w _ hE0 22 22 23 _ 8 Tryd.underlying22 info23 rfl (by omega) _ 0 [] hown a n c (vw T) (by rw [vw_len]; exact hn) (Vs.keep0 hI hE0) (vw_one T) (by omega)
  rw [Nat.zero_add, List.nil_append] at ho
  obtain ⟨a', c', rfl, hc⟩ := own_slice ho
  have HF : Hid (OwPost w T (.returned (.slice a' n c')) w') := by subst hn; exact ⟨a', c', rfl, ho, hE⟩
  clear hE0 hown hI hn ho hE
  go_enter Tryd.func12, Tryd.ntmps12
  go_wp2_with (at_builtin; refine wpList_append_run rfl _ _ 22 rfl _ _ _ rfl rfl hr ?_)
  go_ret
  exact HF.out
/-- A table of its own. -/
def TPost (w : World) (n : Nat) (T : List Nat) (e : Ending) (w' : World) : Prop := ∃ g c, e = .returned (.slice (some ⟨g, 0, none⟩) n c) ∧ Tw w' g T ∧ w.heap.size ≤ g ∧ Ext [] w w'
theorem ownT_any (a : Option Addr) (n c : Nat) (T : List Nat) (w : World) (hI : Wd w a T) (hn : T.length = n) (h0 : 0 < n) (hb : n ≤ 17592186044416) : Calls Tryd.prog 12 #[.slice a n c] w (TPost w n T) :=
  (own_any a n c T w hI hn hb).mono (by
    rintro e w' ⟨a', c', rfl, ho, hE⟩
    rw [hn] at ho ⊢
    obtain ⟨g, rfl, h1, h2⟩ := tw_of_own ho hn h0
    exact ⟨g, c', rfl, h2, h1, hE⟩)
theorem eql_slice_nil (w : World) (b o n c : Nat) : (binOp .eql 22 (.slice (some ⟨b, o, none⟩) n c) (.slice none 0 0)).run Tryd.prog w = .ok (.bool false) w := by
  have h : ∀ d, (Op.equalIn (d + 1) 22 (.slice (some ⟨b, o, none⟩) n c) (.slice none 0 0)).run Tryd.prog w = .ok false w := fun d => by simp [Op.equalIn, run_underlying Tryd.underlying22]
  simp only [binOp]
  simp [Op.equal, Op.maxDepth, h 9999]
theorem clone_any (b o n c : Nat) (T : List Nat) (w : World) (hI : Wd w (some ⟨b, o, none⟩) T) (hn : T.length = n) (h0 : 0 < n) (hb : n ≤ 17592186044416) : Calls Tryd.prog 39 #[.slice (some ⟨b, o, none⟩) n c] w (TPost w n T) := by
  have hE0 := Ext.alloc [] w (.cells #[] 23)
  have hown : (w.alloc (.cells #[] 23)).ownsRow w.heap.size 23 1 (.slice (some ⟨w.heap.size, 0, none⟩) 0 0) 0 [] := World.ownsRow_made w #[] 0 (Nat.le_refl _) (Nat.zero_le _) rfl
  obtain ⟨v, w', hr, ho, hE, _⟩ := app_own w _ hE0 22 22 23 _ 8 Tryd.underlying22 info23 rfl (by omega) _ 0 [] hown (some ⟨b, o, none⟩) n c (vw T) (by rw [vw_len]; exact hn) (Vs.keep0 hI hE0) (vw_one T) (by omega)
  rw [Nat.zero_add, List.nil_append] at ho
  obtain ⟨a', c', rfl, hc⟩ := own_slice ho
  obtain ⟨g, rfl, h1, h2⟩ := tw_of_own ho hn h0
  have HF : Hid (TPost w n T (.returned (.slice (some ⟨g, 0, none⟩) n c')) w') := ⟨g, c', rfl, h2, h1, hE⟩
  have heq : ∀ w, Sem.run Tryd.prog (binOp .eql 22 (.slice (some ⟨b, o, none⟩) n c) (.slice none 0 0)) w = .ok (.bool false) w := fun w => eql_slice_nil w b o n c
  clear hE0 hown hI hn ho hE h1 h2
  go_enter Tryd.func39, Tryd.ntmps39
  go_wp2_with (at_builtin; refine wpList_append_run rfl _ _ 22 rfl _ _ _ rfl rfl hr ?_)
  go_ret
  exact HF.out

/-! ### an entry taken out -/
def dec64 (x : Nat) : Nat := (x + 18446744073709551615) % 18446744073709551616
theorem dec64_pos {x : Nat} (h : 1 ≤ x) (h2 : x < 18446744073709551616) : dec64 x = x - 1 := by unfold dec64; omega
theorem dec64_lt (x : Nat) : dec64 x < 18446744073709551616 := Nat.mod_lt _ (by omega)
theorem dec64_wrap (x : Nat) : IntKind.u64.wrap ((x : Int) - 1) = (dec64 x : Int) := by rw [IntKind.wrap_u64]; unfold dec64; omega
def remAt (T : List Nat) (g i : Nat) : List Nat := if mt (cw T g) 128 = 0 then wr (T.set 1 (dec64 (T.getD 1 0))) g i 254 0 0 else wr ((T.set 1 (dec64 (T.getD 1 0))).set 2 (T.getD 2 0 + 1)) g i 128 0 0
set_option maxRecDepth 100000 in
theorem remove_any (B c : Nat) (T : List Nat) (G g i : Nat) (hS : Shp T G) (hg : g < G) (hi : i < 8) (h2 : T.getD 2 0 < 9223372036854775808) (w : World) (hT : Tw w B T) :
    Calls Tryd.prog 43 #[.slice (some ⟨B, 0, none⟩) (3 + 17 * G) c, .int .i64 (g : Nat), .int .i64 (i : Nat)] w fun e w' => (∃ v, e = .returned v) ∧ Tw w' B (remAt T g i) ∧ Ext [B] w w' := by
  have hG := hS.gp.le
  have hlen := hS.len
  have K1 := fun u => controlAt_any g (by omega) u
  have hcw := hS.cw_lt g
  have K2 := fun u => empty_any (cw T g) hcw u
  have c1 := hT.cell (j := 1) (by omega)
  have f1 := hT.frozen 1
  have h64 := getD_lt64 hS.lt 1
  obtain ⟨en, hen⟩ : ∃ en, T.getD 1 0 = en := ⟨_, rfl⟩
  obtain ⟨gr, hgr⟩ : ∃ gr, T.getD 2 0 = gr := ⟨_, rfl⟩
  rw [hen] at c1 h64
  rw [hgr] at h2
  obtain ⟨en1, hee⟩ : ∃ en1, dec64 en = en1 := ⟨_, rfl⟩
  have hec : IntKind.u64.wrap ((en : Int) - 1) = (en1 : Int) := by rw [← hee]; exact dec64_wrap en
  have hel : en1 < 18446744073709551616 := by rw [← hee]; exact dec64_lt en
  have hT1 := hT.set 1 en1 (by omega)
  have hS1 := hS.set 1 en1 (by omega) hel
  have hx1 := Ext.setCell [B] w ⟨B, 1, none⟩ (.int .u64 (en1 : Nat)) (by simp)
  have cC := hT1.cell (j := 3 + 17 * g) (by rw [List.length_set]; omega)
  rw [getD_set (by omega), if_neg (by omega), show T.getD (3 + 17 * g) 0 = cw T g from rfl] at cC
  have hcwx : cw (T.set 1 en1) g = cw T g := by unfold cw; rw [getD_set (by omega), if_neg (by omega)]
  by_cases hE : mt (cw T g) 128 = 0
  · have KW := write_any B c (T.set 1 en1) G g i 254 0 0 hS1 hg hi (by omega) _ hT1
    have hr : wr (T.set 1 en1) g i 254 0 0 = remAt T g i := by unfold remAt; rw [if_pos hE, hen, hee]
    rw [hr] at KW
    rw [hE] at K2
    have HX := hid hx1
    clear hT hT1 hS hS1 hx1 hr hE hcwx hen hgr hlen
    generalize remAt T g i = TT at *
    generalize cw T g = cx at *
    go_enter Tryd.func43, Tryd.ntmps43
    go_wp2_with (first | (go_at_call 52; refine met (K1 _) ?_) | (go_at_call 73; refine met (K2 _) ?_))
    go_at_call 74
    refine KW.mono ?_
    clear KW
    rintro _ W3 ⟨⟨v3, rfl⟩, hTw3, hX3⟩
    go_wp2
    refine bodyPost_ret (results_none rfl _ _ _) rfl ?_
    exact ⟨⟨_, rfl⟩, hTw3, HX.out.trans hX3⟩
  · have c2 := hT1.cell (j := 2) (by rw [List.length_set]; omega)
    rw [getD_set (by omega), if_neg (by omega), hgr] at c2
    have f2 := hT1.frozen 2
    obtain ⟨gr1, hgg⟩ : ∃ gr1, gr + 1 = gr1 := ⟨_, rfl⟩
    have hgc : (gr : Int) + 1 = (gr1 : Int) := by omega
    have hT2 := hT1.set 2 gr1 (by rw [List.length_set]; omega)
    have hS2 := hS1.set 2 gr1 (by omega) (by omega)
    have hx2 := hx1.trans (Ext.setCell [B] (w.setCell ⟨B, 1, none⟩ (.int .u64 (en1 : Nat))) ⟨B, 2, none⟩ (.int .u64 (gr1 : Nat)) (by simp))
    have KW := write_any B c ((T.set 1 en1).set 2 gr1) G g i 128 0 0 hS2 hg hi (by omega) _ hT2
    have hr : wr ((T.set 1 en1).set 2 gr1) g i 128 0 0 = remAt T g i := by unfold remAt; rw [if_neg hE, hen, hee, hgr, hgg]
    rw [hr] at KW
    have hE1 : ((mt (cw T g) 128 : Int) == 0) = false := by simpa using hE
    have HX := hid hx2
    clear hT hT1 hS hS1 hx1 hr hE hcwx hen hgr hlen hT2 hS2 hx2
    generalize remAt T g i = TT at *
    generalize mt (cw T g) 128 = me at *
    generalize cw T g = cx at *
    go_enter Tryd.func43, Tryd.ntmps43
    go_wp2_with (first | (go_at_call 52; refine met (K1 _) ?_) | (go_at_call 73; refine met (K2 _) ?_))
    go_at_call 74
    refine KW.mono ?_
    clear KW
    rintro _ W3 ⟨⟨v3, rfl⟩, hTw3, hX3⟩
    go_wp2
    go_end0
    exact ⟨⟨_, rfl⟩, hTw3, HX.out.trans hX3⟩
end Go.Proofs.YtkknadkcpndnaaaDoor

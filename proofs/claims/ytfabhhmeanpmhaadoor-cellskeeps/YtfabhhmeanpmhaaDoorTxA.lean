/-
  How the program writes the text of a cell; no statement is proved here.
-/
import Derived.Test.YtfabhhmeanpmhaaDoorTxM
import Derived.Test.YtfabhhmeanpmhaaDoorShelf
import Derived.Test.YtfabhhmeanpmhaaDoorAwake
import Derived.Lib.AppendStr
namespace Go.Proofs.YtfabhhmeanpmhaaDoor
open Go.RowKit

/-- Whatever is no row of bytes is as it was. -/
def Fy (w w' : World) : Prop := ∀ (k : Nat) (cs : Array Value) (T : TypeId) (fz : Nat × Nat), T ≠ 5 → w.heap[k]? = some (Obj.cells cs T fz) → w'.heap[k]? = some (Obj.cells cs T fz)
theorem Fy.refl (w : World) : Fy w w := fun _ _ _ _ _ h => h
theorem Fy.trans {a b c : World} (h : Fy a b) (k : Fy b c) : Fy a c := fun i cs T fz hT hc => k i cs T fz hT (h i cs T fz hT hc)
theorem Fy.of {w w' : World} (h : Ext [] w w') : Fy w w' := fun k cs T fz _ hc => h.keep hc (by simp)
theorem Fy.own {base : Nat} {w w' : World} {v : Value} {n : Nat} {xs : List Value} (h : w.ownsRow base 5 1 v n xs) (e : Ext v.ownBlock.toList w w') : Fy w w' := fun k cs T fz hT hc => by
  refine e.keep hc ?_
  intro hk
  obtain ⟨cur, h2⟩ := own_at h (q := k) (by simpa using hk)
  rw [h2] at hc
  simp only [Option.some.injEq, Obj.cells.injEq] at hc
  exact hT hc.2.1.symm

/-- A slice of bytes of one's own. -/
def YO (w0 w : World) (v : Value) (L : List UInt8) : Prop := w.ownsRow w0.heap.size 5 1 v L.length (Lib.byteCells L)
def YPost (w0 w : World) (L : List UInt8) (e : Ending) (w' : World) : Prop := ∃ v, e = .returned v ∧ YO w0 w' v L ∧ Ext [] w0 w' ∧ Fy w w'
theorem YO.keep0 {w0 w w' : World} {v : Value} {L : List UInt8} (h : YO w0 w v L) (e : Ext [] w w') : YO w0 w' v L := own_keep0 h e
theorem bytes_one (L : List UInt8) : ∀ u ∈ Lib.byteCells L, u.oneCell' = true := fun u hu => by obtain ⟨x, _, rfl⟩ := List.mem_map.1 hu; rfl
theorem bytes_app (a b : List UInt8) : Lib.byteCells (a ++ b) = Lib.byteCells a ++ Lib.byteCells b := List.map_append

theorem YO.app {w0 w : World} {v : Value} {L M : List UInt8} (hO : YO w0 w v L) (hE : Ext [] w0 w) {a : Option Addr} {c : Nat} (hB : Vs w a (Lib.byteCells M)) (hl : L.length + M.length ≤ 100000000) :
    ∃ v' w', (Builtin.append_ #[56, 56] 56 #[v, .slice a M.length c]).run Tryd.prog w = .ok v' w' ∧ YO w0 w' v' (L ++ M) ∧ Ext [] w0 w' ∧ Fy w w' := by
  obtain ⟨v1, w2, hr1, hO1, hE2, hX⟩ := app_own w0 w hE 56 56 5 _ 1 Tryd.underlying56 info5 rfl (by omega) _ _ _ hO a M.length c (Lib.byteCells M) (Lib.byteCells_length M) hB (bytes_one M) (by omega)
  refine ⟨v1, w2, hr1, ?_, hE2, Fy.own hO hX⟩
  unfold YO
  rw [List.length_append, bytes_app]
  exact hO1
/-- append of one byte, and of two. -/
theorem YO.app1 {w0 w : World} {v : Value} {L : List UInt8} (hO : YO w0 w v L) (hE : Ext [] w0 w) (y : UInt8) (x : Int) (hx : x = (y.toNat : Int)) (hl : L.length + 1 ≤ 100000000) :
    ∃ v' w', (Builtin.append_ #[56, 56] 56 #[v, .slice (some ⟨w.heap.size, 0, none⟩) 1 1]).run Tryd.prog (w.alloc (.cells #[.int .u8 x] 5)) = .ok v' w' ∧ YO w0 w' v' (L ++ [y]) ∧ Ext [] w0 w' ∧ Fy w w' := by
  subst hx
  have hE2 := Ext.alloc [] w (.cells #[.int .u8 (y.toNat : Int)] 5)
  obtain ⟨v', w', h1, h2, h3, h4⟩ := YO.app (hO.keep0 hE2) (hE.trans hE2) (a := some ⟨w.heap.size, 0, none⟩) (c := 1) (M := [y]) (vs_new w 5 [.int .u8 (y.toNat : Int)]) (by simpa using hl)
  exact ⟨v', w', h1, h2, h3, (Fy.of hE2).trans h4⟩
theorem YO.app2 {w0 w : World} {v : Value} {L : List UInt8} (hO : YO w0 w v L) (hE : Ext [] w0 w) (y z : UInt8) (hl : L.length + 2 ≤ 100000000) :
    ∃ v' w', (Builtin.append_ #[56, 56] 56 #[v, .slice (some ⟨w.heap.size, 0, none⟩) 2 2]).run Tryd.prog (w.alloc (.cells #[.int .u8 (y.toNat : Int), .int .u8 (z.toNat : Int)] 5)) = .ok v' w' ∧ YO w0 w' v' (L ++ [y, z]) ∧ Ext [] w0 w' ∧ Fy w w' := by
  have hE2 := Ext.alloc [] w (.cells #[.int .u8 (y.toNat : Int), .int .u8 (z.toNat : Int)] 5)
  obtain ⟨v', w', h1, h2, h3, h4⟩ := YO.app (hO.keep0 hE2) (hE.trans hE2) (a := some ⟨w.heap.size, 0, none⟩) (c := 2) (M := [y, z]) (vs_new w 5 [.int .u8 (y.toNat : Int), .int .u8 (z.toNat : Int)]) (by simpa using hl)
  exact ⟨v', w', h1, h2, h3, (Fy.of hE2).trans h4⟩
/-- append of a string. -/
theorem YO.str {w0 w : World} {v : Value} {L : List UInt8} (hO : YO w0 w v L) (hE : Ext [] w0 w) (s : ByteArray) (hl : L.length + s.size ≤ 100000000) :
    ∃ v' w', (Builtin.append_ #[56, 9] 56 #[v, .string s]).run Tryd.prog w = .ok v' w' ∧ YO w0 w' v' (L ++ s.data.toList) ∧ Ext [] w0 w' ∧ Fy w w' := by
  obtain ⟨i, hi, hz, hs, hb⟩ := info_parts info5
  obtain ⟨v', w', hr, ho, hg, _⟩ := Lib.run_append_own_string (P := Tryd.prog) (w := w) w0.heap.size 56 9 56 5 i Tryd.underlying56 und9 hi hz hs hb v L.length _ hO s (by unfold maxLen; omega) (by omega) hE.size
  have hX := Ext.grown (S := v.ownBlock.toList) hg (by intro k hk; simp [hk])
  have hlt := own_lt hO
  refine ⟨v', w', hr, ?_, hE.on hX (fun x hx => (hlt x (by simpa using hx)).1), Fy.own hO hX⟩
  unfold YO
  rw [List.length_append, bytes_app]
  exact ho

/-! ### the cell's text -/

theorem brackets_any (k : Int) (w : World) : Calls Tryd.prog 33 #[.int .i64 k] w (fun e w' => e = .returned (.tuple #[.int .u8 ((opn k).toNat : Int), .int .u8 ((cls k).toNat : Int)]) ∧ w' = w) := by
  by_cases h : k = 8
  · subst h
    go_enter Tryd.func33, Tryd.ntmps33
    go_wp2
    go_ret2
    exact ⟨rfl, rfl⟩
  · have h2 : (k == 8) = false := by simpa using h
    have e1 : opn k = 91 := by simp [opn, h]
    have e2 : cls k = 93 := by simp [cls, h]
    rw [e1, e2]
    go_enter Tryd.func33, Tryd.ntmps33
    go_wp2
    go_ret2
    exact ⟨rfl, rfl⟩
theorem name_any (k n : Int) (w : World) : Calls Tryd.prog 58 #[.int .i64 k, .int .u64 n] w (fun e w' => e = .returned (.string ⟨(nameB k n).toArray⟩) ∧ w' = w) := by
  by_cases h : n = 0
  · subst h
    have e1 : nameB k 0 = [110, 105, 108] := by simp [nameB]
    rw [e1]
    go_enter Tryd.func58, Tryd.ntmps58
    go_wp2
    go_ret
    exact ⟨rfl, rfl⟩
  · have h0 : (n == 0) = false := by simpa using h
    by_cases h5 : k = 5
    · subst h5
      have e1 : nameB 5 n = [112, 116, 114] := by simp [nameB, h]
      rw [e1]
      go_enter Tryd.func58, Tryd.ntmps58
      go_wp2
      go_ret
      exact ⟨rfl, rfl⟩
    · have h50 : (k == 5) = false := by simpa using h5
      by_cases h6 : k = 6
      · subst h6
        have e1 : nameB 6 n = [109, 97, 112] := by simp [nameB, h]
        rw [e1]
        go_enter Tryd.func58, Tryd.ntmps58
        go_wp2
        go_ret
        exact ⟨rfl, rfl⟩
      · have h60 : (k == 6) = false := by simpa using h6
        have e1 : nameB k n = [105, 116, 101, 114] := by simp [nameB, h, h5, h6]
        rw [e1]
        go_enter Tryd.func58, Tryd.ntmps58
        go_wp2
        go_ret
        exact ⟨rfl, rfl⟩
theorem bool_any (w0 w : World) (v : Value) (L : List UInt8) (b : Bool) (hO : YO w0 w v L) (hE : Ext [] w0 w) (hl : L.length ≤ 50000000) : Calls Tryd.prog 55 #[v, .bool b] w (YPost w0 w (L ++ (if b then [116, 114, 117, 101] else [102, 97, 108, 115, 101]))) := by
  have K : Calls Tryd.prog 71 #[v, .bool b] w (YPost w0 w (L ++ (if b then [116, 114, 117, 101] else [102, 97, 108, 115, 101]))) := by
    cases b
    · obtain ⟨v', w', hr, h1, h2, h3⟩ := hO.str hE ⟨#[102, 97, 108, 115, 101]⟩ (by have : (⟨#[102, 97, 108, 115, 101]⟩ : ByteArray).size = 5 := rfl; omega)
      go_enter Tryd.func71, Tryd.ntmps71
      go_wp2_with (at_builtin; refine wpList_append_run2 rfl _ _ 56 9 rfl _ _ _ rfl rfl hr ?_)
      go_ret
      exact ⟨_, rfl, h1, h2, h3⟩
    · obtain ⟨v', w', hr, h1, h2, h3⟩ := hO.str hE ⟨#[116, 114, 117, 101]⟩ (by have : (⟨#[116, 114, 117, 101]⟩ : ByteArray).size = 4 := rfl; omega)
      go_enter Tryd.func71, Tryd.ntmps71
      go_wp2_with (at_builtin; refine wpList_append_run2 rfl _ _ 56 9 rfl _ _ _ rfl rfl hr ?_)
      go_ret
      exact ⟨_, rfl, h1, h2, h3⟩
  generalize (if b then [116, 114, 117, 101] else [102, 97, 108, 115, 101] : List UInt8) = M at *
  cases b
  · go_enter Tryd.func55, Tryd.ntmps55
    go_wp2_with (go_at_call 71; refine K.mono ?_; rintro e w1 ⟨v', rfl, h1, h2, h3⟩)
    go_ret
    exact ⟨_, rfl, h1, h2, h3⟩
  · go_enter Tryd.func55, Tryd.ntmps55
    go_wp2_with (go_at_call 71; refine K.mono ?_; rintro e w1 ⟨v', rfl, h1, h2, h3⟩)
    go_ret
    exact ⟨_, rfl, h1, h2, h3⟩

theorem step_append_run {P : Program} {ops : Array Oper} {o : Oper} {a : Act} {w w' : World} {K : Act → World → Prop} {Q : Exit → Act → World → Prop} {E : Prop} (hgd : o.guard = none) (d s : Operand) (t : TypeId)
    (ho : o.op = .call { callee := .builtin .append, args := #[d, s], argTypes := #[t, t] }) (vd vs v' : Value) (hd : a.eval d = vd) (hs : a.eval s = vs)
    (hr : (Builtin.append_ #[t, t] o.type #[vd, vs]).run P w = .ok v' w') (h : K (a.put o.dst v') w') :
    if Region.wanted o (yielded ops a.tmps) = true then Oper.wp P o a w K Q else E := by
  rw [if_pos (by simp [Region.wanted, hgd])]
  unfold Oper.wp execOp
  simp only [ho, resolve, invoke, builtin, Sem.run_bind, Sem.run_pure, Result.andThen_ok, List.map_toArray, List.map_cons, List.map_nil, hd, hs, hr]
  exact h
theorem and15 : ∀ c : Fin 256, bits .and .u8 ((c.val : Nat) : Int) 15 = ((c.val % 16 : Nat) : Int) := by decide +kernel
def hexT : ByteArray := ⟨#[48, 49, 50, 51, 52, 53, 54, 55, 56, 57, 97, 98, 99, 100, 101, 102]⟩
theorem hexT_at : hexT.size = 16 ∧ ∀ (x : Nat) (h : x < hexT.size), hexT[x] = dgt x := by
  refine ⟨rfl, fun x h => ?_⟩
  have h16 : x < 16 := h
  have : ∀ i : Fin 16, hexT.data[i.val]? = some (dgt i.val) := by decide
  have h2 := this ⟨x, h16⟩
  simp only at h2
  rw [Array.getElem?_eq_getElem (show x < hexT.data.size from h)] at h2
  exact Option.some.inj h2
set_option maxRecDepth 100000 in
set_option maxHeartbeats 2000000 in
theorem byte2_any (w0 w : World) (v : Value) (L : List UInt8) (c : Nat) (hc : c < 256) (hO : YO w0 w v L) (hE : Ext [] w0 w) (hl : L.length ≤ 50000000) : Calls Tryd.prog 74 #[v, .int .u8 (c : Nat)] w (YPost w0 w (L ++ two c)) := by
  have hE' := hE.trans (Ext.drew [] w)
  have HO := hid (hO.keep0 (Ext.drew [] w))
  have ha := and15 ⟨c, hc⟩
  simp only at ha
  have hd : (c : Int) / 16 = ((c / 16 : Nat) : Int) := by omega
  have hx : c / 16 < 16 := by omega
  have hy : c % 16 < 16 := by omega
  have htw : two c = [dgt (c / 16), dgt (c % 16)] := rfl
  rw [htw]
  clear htw hc
  generalize c / 16 = x at *
  generalize c % 16 = y at *
  have HE := hid hE'
  clear hE' hO hE
  go_enter Tryd.func74, Tryd.ntmps74
  obtain ⟨hT1, hT2⟩ := hexT_at
  have hTe : (⟨#[48, 49, 50, 51, 52, 53, 54, 55, 56, 57, 97, 98, 99, 100, 101, 102]⟩ : ByteArray) = hexT := rfl
  rw [hTe]
  clear hTe
  generalize hexT = T at *
  obtain ⟨v', w', hr, h1, h2, h3⟩ := HO.out.app2 HE.out (T[x]'(by omega)) (T[y]'(by omega)) (by omega)
  rw [hT2 x (by omega), hT2 y (by omega)] at h1
  have HF : Hid (YPost w0 w (L ++ [dgt x, dgt y]) (.returned v') w') := ⟨_, rfl, h1, h2, (Fy.of (Ext.drew [] w)).trans h3⟩
  clear h1 h2 h3 hT2
  have hx' : (x : Int) < 16 := by omega
  have hy' : (y : Int) < 16 := by omega
  go_wp2_with fail
  go_region_law (refine step_append_run rfl _ _ 56 rfl v (.slice (some ⟨w.heap.size, 0, none⟩) 2 2) _ (by rfl) (by rfl) hr ?_)
  all_goals
    go_wp2_with fail
    go_ret
    exact HF.out
end Go.Proofs.YtfabhhmeanpmhaaDoor

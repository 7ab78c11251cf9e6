/-
  The reference's calls; no statement is proved here.
-/
import Derived.Test.YtljflcjlmgnjjaaTold
namespace Go.Proofs.Ytljflcjlmgnjjaa
open Go.RowKit

/-- The place is found at number k. -/
def FindAt (h : Nat) (G i r er : Int) : Prop := (∃ g x k : Nat, G = g ∧ i = x ∧ Gp g ∧ k < g ∧ pl h g k = x ∧ r = k ∧ er = 0) ∨ ((¬ GpI G ∨ i < 0 ∨ G ≤ i) ∧ r = 0 ∧ er = 2)
def AtIs (h : Nat) (G i r er : Int) : Prop := (∃ g x : Nat, G = g ∧ i = x ∧ Gp g ∧ x < g ∧ r = (pl h g x : Nat) ∧ er = 0) ∨ ((¬ GpI G ∨ i < 0 ∨ G ≤ i) ∧ r = 0 ∧ er = 2)
theorem find_ex (h : Nat) (G i : Int) : ∃ r er, FindAt h G i r er := by
  by_cases hb : ¬ GpI G ∨ i < 0 ∨ G ≤ i
  · exact ⟨0, 2, .inr ⟨hb, rfl, rfl⟩⟩
  · have hG : GpI G := Classical.byContradiction fun q => hb (.inl q)
    obtain ⟨g, rfl, hg⟩ := hG
    obtain ⟨x, rfl⟩ : ∃ x : Nat, i = x := ⟨i.toNat, by omega⟩
    obtain ⟨k, hk, e⟩ := pl_onto (h := h) hg (show x < g by omega)
    exact ⟨_, _, .inl ⟨g, x, k, rfl, rfl, hg, hk, e, rfl, rfl⟩⟩
theorem at_ex (h : Nat) (G i : Int) : ∃ r er, AtIs h G i r er := by
  by_cases hb : ¬ GpI G ∨ i < 0 ∨ G ≤ i
  · exact ⟨0, 2, .inr ⟨hb, rfl, rfl⟩⟩
  · have hG : GpI G := Classical.byContradiction fun q => hb (.inl q)
    obtain ⟨g, rfl, hg⟩ := hG
    obtain ⟨x, rfl⟩ : ∃ x : Nat, i = x := ⟨i.toNat, by omega⟩
    exact ⟨_, _, .inl ⟨g, x, rfl, rfl, hg, by omega, rfl, rfl⟩⟩
theorem at_any (h : Nat) (G i r er : Int) (ha : AtIs h G i r er) (w : World) : Calls Try.prog 11 #[.int .u64 h, .int .i64 G, .int .i64 i] w (fun e w' => e = .returned (.tuple #[.int .i64 r, .int .i64 er]) ∧ w' = w) := by
  rcases ha with ⟨g, x, rfl, rfl, hg, hx, rfl, rfl⟩ | ⟨hb, rfl, rfl⟩
  · exact at_ok h g x hg hx w
  · exact at_bad h G i hb w

def RsPost (w : World) (L : List Nat) (er : Int) (e : Ending) (w' : World) : Prop := ∃ a c, e = .returned (.tuple #[.slice a L.length c, .int .i64 er]) ∧ Lst w' (.slice a L.length c) L ∧ Ext [] w w'

theorem rnext {h G i : Nat} (hG : G ≤ 4096) (hi : i < G) : (((pl h G i : Nat) : Int) + (i : Int) + 1).tmod (G : Int) = ((pl h G (i + 1) : Nat) : Int) := by
  rw [pl_step, Int.tmod_eq_emod_of_nonneg (by omega), Int.add_assoc]
  norm_cast

set_option maxRecDepth 100000 in
set_option maxHeartbeats 2000000 in
theorem rseq_ok (h G : Nat) (hG : Gp G) (w : World) : Calls Try.prog 9 #[.int .u64 h, .int .i64 G] w (RsPost w (sq h G) 0) := by
  have K := groups_any G true (by simp [gpI_nat, hG]) w
  have hpos := hG.pos
  have hle := hG.le
  have hm : h % G < G := Nat.mod_lt _ hpos
  have he : (h : Int).tmod (G : Int) = ((h % G : Nat) : Int) := by rw [Int.tmod_eq_emod_of_nonneg (by omega)]; norm_cast
  have HN := hid (fun i (hi : i < G) => rnext (h := h) (i := i) hle hi)
  have HT := hid (fun k hk => sq_take h G k hk)
  have HL := hid (sq_len h G)
  have HP := hid (fun i => pl_lt h hpos i)
  have H0 := hid (pl_zero h G)
  clear hG
  generalize h % G = r at *
  go_enter Try.func9, Try.ntmps9
  go_wp2_with fail
  refine met K ?_
  clear K
  go_wp2
  clear he
  go_loopw [6, 7, 8] (fun lv av q wr => ∃ k : Nat, q = .int .i64 k ∧ k ≤ G ∧ av = .int .u64 (pl h G k : Nat) ∧ wr.ownsRow w.heap.size 3 1 lv k (((sq h G).take k).map fun x => Value.int .i64 (x : Nat)) ∧ Ext [] w wr) (fun _ _ q _ => (G - (intOf q)).toNat)
  case atStart => exact ⟨0, rfl, by omega, by rw [H0.out], own_nil _ _ _ _, Ext.refl _ _⟩
  case round =>
    obtain ⟨k, rfl, hk, rfl, hO, hE⟩ := hrel
    have HE := hid hE
    clear hE hm H0
    have hpl := HP.out k
    by_cases hkG : k < G
    · have hnx := HN.out k hkG
      have HTk := hid (HT.out k hkG)
      have hpl2 := HP.out (k + 1)
      clear HN HT HL HP
      generalize pl h G k = x at *
      generalize hy : pl h G (k + 1) = y at *
      have HY := hid hy
      clear hy
      have hE1 := Ext.alloc [] wr (.cells #[.int .i64 (x : Nat)] 3)
      have hV := vs_new wr 3 [.int .i64 (x : Nat)]
      obtain ⟨v', w', hr, hO', hE', _⟩ := app_own w _ (HE.out.trans hE1) 24 24 3 _ 8 Try.underlying24 info3 rfl (by omega) _ _ _ (own_keep0 hO hE1) (some ⟨wr.heap.size, 0, none⟩) 1 1 _ rfl hV (by simp [Value.oneCell']) (by omega)
      have HO' := hid hO'
      have HE' := hid hE'
      obtain ⟨a0, c0, rfl, _⟩ := own_slice hO
      obtain ⟨a1, c1, rfl, _⟩ := own_slice hO'
      clear hO hO' hE' hE1 hV
      go_wp2_with (at_builtin; refine wpList_append_run rfl _ _ 24 rfl _ _ _ rfl rfl hr ?_)
      go_roundw
      case rel => exact ⟨k + 1, by go_num, by omega, by rw [HY.out], by rw [HTk.out, List.map_append]; exact HO'.out, HE'.out⟩
      case measure => simp [intOf]; omega
    · obtain rfl : k = G := by omega
      obtain ⟨a0, c0, rfl, _⟩ := own_slice hO
      have HO := hid hO
      clear hO HN HT HP
      go_wp2
      go_ret2
      have h1 := HO.out
      rw [List.take_of_length_le (by rw [HL.out]; omega)] at h1
      refine ⟨a0, c0, by rw [HL.out]; rfl, ?_, HE.out⟩
      unfold Lst
      rw [HL.out]
      exact own_base h1 (Nat.zero_le _)
theorem rseq_bad (h : Nat) (G : Int) (hG : ¬ GpI G) (w : World) : Calls Try.prog 9 #[.int .u64 h, .int .i64 G] w (RsPost w [] 2) := by
  have K := groups_any G false (by simp [hG]) w
  clear hG
  go_enter Try.func9, Try.ntmps9
  go_wp2_with fail
  refine met K ?_
  clear K
  go_wp2
  go_ret2
  exact ⟨none, 0, rfl, own_nil _ _ _ _, Ext.refl _ _⟩
theorem rseq_any (h : Nat) (G : Int) (L : List Nat) (er : Int) (hL : ordL h G L er) (w : World) : Calls Try.prog 9 #[.int .u64 h, .int .i64 G] w (RsPost w L er) := by
  rcases hL with ⟨g, rfl, hg, rfl, rfl⟩ | ⟨hG, rfl, rfl⟩
  · exact rseq_ok h g hg w
  · exact rseq_bad h G hG w

/-- The answer v, and nothing that was there has turned. -/
theorem lst_cell {w : World} {a : Option Addr} {n c : Nat} {L : List Nat} (h : Lst w (.slice a n c) L) {j x : Nat} (hx : L[j]? = some x) : ∃ b o, a = some ⟨b, o, none⟩ ∧ w.cell? ⟨b, o + j, none⟩ = some (.int .i64 (x : Nat)) := by
  have hj : j < L.length := (List.getElem?_eq_some_iff.1 hx).1
  obtain ⟨b, o, h1, h2⟩ := (lst_is h).cell (j := j) (by simpa using hj)
  refine ⟨b, o, h1, ?_⟩
  rw [h2]
  simp [List.getD, hx]

theorem rat_any (h : Nat) (G i r er : Int) (ha : AtIs h G i r er) (w : World) : Calls Try.prog 12 #[.int .u64 h, .int .i64 G, .int .i64 i] w (SayPost w (.tuple #[.int .i64 r, .int .i64 er])) := by
  rcases ha with ⟨g, x, rfl, rfl, hg, hx, rfl, rfl⟩ | ⟨hb, rfl, rfl⟩
  · have K1 := groups_any g true (by simp [gpI_nat, hg]) w
    have K2 := rseq_ok h g hg w
    have hx2 := sq_at h g hx
    have hle := hg.le
    have hl := sq_len h g
    have hgx : ¬ ((g : Int) ≤ (x : Int)) := by omega
    have HX := hid hx2
    have HL := hid hl
    clear hg hx2 hl
    go_enter Try.func12, Try.ntmps12
    go_wp2_with fail
    refine met K1 ?_
    clear K1
    go_wp2_with fail
    refine K2.mono ?_
    rintro e w1 ⟨a, c, rfl, hL, hE⟩
    clear K2
    obtain ⟨b, o, rfl, hc⟩ := lst_cell hL HX.out
    have HE := hid hE
    rw [HL.out]
    generalize pl h g x = y at *
    clear hL hE HL HX
    go_wp2
    go_ret2
    exact ⟨rfl, HE.out⟩
  · by_cases hG : GpI G
    · have K1 := groups_any G true (by simp [hG]) w
      have hb' := hb.resolve_left (fun q => q hG)
      clear hb hG
      by_cases h0 : i < 0
      · clear hb'
        go_enter Try.func12, Try.ntmps12
        go_wp2_with fail
        refine met K1 ?_
        clear K1
        go_wp2
        go_ret2
        exact ⟨rfl, Ext.refl _ _⟩
      · have h1 : G ≤ i := hb'.resolve_left h0
        clear hb'
        go_enter Try.func12, Try.ntmps12
        go_wp2_with fail
        refine met K1 ?_
        clear K1
        go_wp2
        go_ret2
        exact ⟨rfl, Ext.refl _ _⟩
    · have K1 := groups_any G false (by simp [hG]) w
      clear hb hG
      go_enter Try.func12, Try.ntmps12
      go_wp2_with fail
      refine met K1 ?_
      clear K1
      go_wp2
      go_ret2
      exact ⟨rfl, Ext.refl _ _⟩

set_option maxRecDepth 100000 in
set_option maxHeartbeats 2000000 in
theorem rplace_any (h : Nat) (G i r er : Int) (ha : FindAt h G i r er) (w : World) : Calls Try.prog 14 #[.int .u64 h, .int .i64 G, .int .i64 i] w (SayPost w (.tuple #[.int .i64 r, .int .i64 er])) := by
  rcases ha with ⟨g, x, k, rfl, rfl, hg, hk, hkx, rfl, rfl⟩ | ⟨hb, rfl, rfl⟩
  · have K1 := groups_any g true (by simp [gpI_nat, hg]) w
    have K2 := rseq_ok h g hg w
    have hle := hg.le
    have hx : x < g := by rw [← hkx]; exact pl_lt h hg.pos k
    have hgx : ¬ ((g : Int) ≤ (x : Int)) := by omega
    have HA := hid (fun j (hj : j < g) => sq_at h g hj)
    have HL := hid (sq_len h g)
    have HI : Hid (∀ j, j < g → pl h g j = x → j = k) := fun j hj e => pl_inj hg hj hk (e.trans hkx.symm)
    have HK := hid hkx
    clear hg hkx
    go_enter Try.func14, Try.ntmps14
    go_wp2_with fail
    refine met K1 ?_
    clear K1
    go_wp2_with fail
    refine K2.mono ?_
    rintro e w1 ⟨a, c, rfl, hL, hE⟩
    clear K2
    rw [HL.out]
    have HE := hid hE
    obtain ⟨b, o, rfl, _⟩ := lst_cell hL (HA.out k hk)
    have HC : Hid (∀ j, j < g → w1.cell? ⟨b, o + j, none⟩ = some (.int .i64 (pl h g j : Nat))) := fun j hj => by
      obtain ⟨b', o', e, hc⟩ := lst_cell hL (HA.out j hj)
      cases e
      exact hc
    clear hL hE HL HA
    go_wp2
    go_loop [10] (fun q => ∃ j : Nat, q = .int .i64 j ∧ j ≤ k) (fun q => (k - (intOf q)).toNat)
    case atStart => exact ⟨0, rfl, by omega⟩
    case round =>
      obtain ⟨j, rfl, hj⟩ := hrel
      have hjg : j < g := by omega
      have hc := HC.out j hjg
      by_cases e : j = k
      · subst e
        rw [HK.out] at hc
        clear HC HI
        go_wp2
        go_ret2
        exact ⟨rfl, HE.out⟩
      · have hne : (((pl h g j : Nat) : Int) == (x : Int)) = false := by
          simp only [beq_eq_false_iff_ne]
          intro q
          exact e (HI.out j hjg (by omega))
        have hjk : j < k := by omega
        clear HC HI HK e
        generalize pl h g j = y at *
        go_wp2
        go_round
        case rel => exact ⟨j + 1, by go_num, by omega⟩
        case measure => simp [intOf]; omega
  · by_cases hG : GpI G
    · have K1 := groups_any G true (by simp [hG]) w
      have hb' := hb.resolve_left (fun q => q hG)
      clear hb hG
      by_cases h0 : i < 0
      · clear hb'
        go_enter Try.func14, Try.ntmps14
        go_wp2_with fail
        refine met K1 ?_
        clear K1
        go_wp2
        go_ret2
        exact ⟨rfl, Ext.refl _ _⟩
      · have h1 : G ≤ i := hb'.resolve_left h0
        clear hb'
        go_enter Try.func14, Try.ntmps14
        go_wp2_with fail
        refine met K1 ?_
        clear K1
        go_wp2
        go_ret2
        exact ⟨rfl, Ext.refl _ _⟩
    · have K1 := groups_any G false (by simp [hG]) w
      clear hb hG
      go_enter Try.func14, Try.ntmps14
      go_wp2_with fail
      refine met K1 ?_
      clear K1
      go_wp2
      go_ret2
      exact ⟨rfl, Ext.refl _ _⟩

theorem sameInts_true (a b : Option Addr) (n c d : Nat) (xs : List Int) (w : World) (ha : Is w a xs) (hb : Is w b xs) (hn : xs.length = n) (hm : n ≤ 17592186044416) :
    Calls Try.prog 15 #[.slice a n c, .slice b n d] w (SayPost w (.bool true)) := by
  by_cases h0 : n = 0
  · subst h0
    go_enter Try.func15, Try.ntmps15
    go_wp2
    go_loop [5] (fun q => q = .int .i64 0) (fun _ => 0)
    case atStart => rfl
    case round =>
      subst hrel
      go_wp2
      go_ret
      exact ⟨rfl, Ext.refl _ _⟩
  · have hne : xs ≠ [] := by rintro rfl; simp at hn; omega
    obtain ⟨b1, o1, rfl, hc1⟩ := ha.at_ hne
    obtain ⟨b2, o2, rfl, hc2⟩ := hb.at_ hne
    rw [hn] at hc1 hc2
    have H1 := hid hc1
    have H2 := hid hc2
    clear hc1 hc2 ha hb hn hne
    go_enter Try.func15, Try.ntmps15
    go_wp2
    go_loopw [5] (fun q wr => ∃ k m : Nat, q = .int .i64 k ∧ k ≤ n ∧ wr = w.drewN m) (fun q _ => (n - (intOf q)).toNat)
    case atStart => exact ⟨0, 0, rfl, Nat.zero_le _, rfl⟩
    case round =>
      obtain ⟨k, m, rfl, hk, rfl⟩ := hrel
      by_cases hkn : k < n
      · have hx := H1.out k hkn
        have hy := H2.out k hkn
        generalize xs.getD k 0 = x at *
        go_wp2
        go_quiet (fail)
        go_wp2
        go_roundw
        case rel => exact ⟨k + 1, _, by go_num, by omega, rfl⟩
        case measure => simp [intOf]; omega
      · go_wp2
        go_ret
        exact ⟨rfl, Ext.drewN _ _ _⟩
end Go.Proofs.Ytljflcjlmgnjjaa

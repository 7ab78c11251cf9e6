/-
  Roots stay as they are, slots that are answered are not the graph's, two graphs know nothing of each other: the function ColorKeeps answers true and leaves its arguments as they were, for every script, all roots and every n; no condition.
-/
import Derived.Test.YtfgdoehiocgkhaaTwo
import Derived.Test.YtfgdoehiocgkhaaRoom
import Derived.Test.YtfgdoehiocgkhaaBook
namespace Go.Proofs.Ytfgdoehiocgkhaa
open Go.RowKit

theorem Two.keepS {w0 w w' : World} {p1 p2 : Nat} {G1 G2 : Gs} {C1 C2 : Nat → Prop} {S : List Nat} (h : Two w0 w p1 G1 C1 p2 G2 C2) (x : Ext S w w') (hs : ∀ k ∈ S, ¬ C1 k ∧ ¬ C2 k ∧ w0.heap.size ≤ k) : Two w0 w' p1 G1 C1 p2 G2 C2 := by
  have hx : Fx (fun k => k ∈ S) w w' := Fx.of_ext x (fun k q => .inl q)
  exact ⟨h.a.keep hx (fun k q r => (hs k r).1 q), h.b.keep hx (fun k q r => (hs k r).2.1 q), fun k hk => ⟨(h.la k hk).1, Nat.lt_of_lt_of_le (h.la k hk).2 x.size⟩, fun k hk => ⟨(h.lb k hk).1, Nat.lt_of_lt_of_le (h.lb k hk).2 x.size⟩, h.ap, hx.on h.ext (fun k q => (hs k q).2.2)⟩

theorem app_copyO (w : World) (ra : Option Addr) (R : List Int) (rc : Nat) (hR : Is w ra R) (hb : R.length ≤ 17592186044416) :
    ∃ a c w', (Builtin.append_ #[23, 23] 23 #[.slice (some ⟨w.heap.size, 0, none⟩) 0 0, .slice ra R.length rc]).run Try.prog (w.alloc (.cells #[] 3)) = .ok (.slice a R.length c) w' ∧ w'.ownsRow w.heap.size 3 1 (.slice a R.length c) R.length (R.map (Value.int .i64)) ∧ Ext [] w w' := by
  have hE0 := Ext.alloc [] w (.cells #[] 3)
  have hown : (w.alloc (.cells #[] 3)).ownsRow w.heap.size 3 1 (.slice (some ⟨w.heap.size, 0, none⟩) 0 0) 0 [] := World.ownsRow_made w #[] 0 (Nat.le_refl _) (Nat.zero_le _) rfl
  obtain ⟨v', w', hr, ho, hE, _⟩ := app_own w (w.alloc (.cells #[] 3)) hE0 23 23 3 _ 8 Try.underlying23 info3 rfl (by decide) _ 0 [] hown ra R.length rc (R.map (Value.int .i64)) (by simp) (hR.keep0 hE0) (fun u hu => by obtain ⟨y, _, rfl⟩ := List.mem_map.1 hu; rfl) (by omega)
  rw [Nat.zero_add, List.nil_append] at ho
  obtain ⟨a, c, rfl, _⟩ := own_slice ho
  exact ⟨a, c, w', hr, ho, hE⟩

/-- The look at two lists of one's own. -/
theorem apart_two (w : World) (aa ab : Option Addr) (m ca cb B1 B2 : Nat) (xs ys : List Value) (hoa : w.ownsRow B1 3 1 (.slice aa m ca) m xs) (hob : w.ownsRow B2 3 1 (.slice ab m cb) m ys) (hm : m ≤ 8192) (hd : ∀ g, (Value.slice aa m ca).ownBlock = some g → (Value.slice ab m cb).ownBlock ≠ some g) :
    Calls Try.prog 30 #[.pointer (some ⟨w.heap.size + 1, 0, none⟩)] ((w.alloc (.cells #[.slice aa m ca, .slice ab m cb] 23)).alloc (.cells #[.slice (some ⟨w.heap.size, 0, none⟩) 2 2, .slice none 0 0, .slice none 0 0, .slice none 0 0] 61)) fun e w' => e = .returned (.bool true) ∧ Ext ((Value.slice aa m ca).ownBlock.toList ++ (Value.slice ab m cb).ownBlock.toList) w w' := by
  have hE1 := Ext.alloc [] w (.cells #[.slice aa m ca, .slice ab m cb] 23)
  have hE2 := Ext.alloc [] (w.alloc (.cells #[.slice aa m ca, .slice ab m cb] 23)) (.cells #[.slice (some ⟨w.heap.size, 0, none⟩) 2 2, .slice none 0 0, .slice none 0 0, .slice none 0 0] 61)
  have hbl : ((w.alloc (.cells #[.slice aa m ca, .slice ab m cb] 23)).alloc (.cells #[.slice (some ⟨w.heap.size, 0, none⟩) 2 2, .slice none 0 0, .slice none 0 0, .slice none 0 0] 61)).heap[w.heap.size + 1]? = some (.cells #[.slice (some ⟨w.heap.size, 0, none⟩) 2 2, .slice none 0 0, .slice none 0 0, .slice none 0 0] 61 (0, 0)) := by
    have := heap_alloc_new (w.alloc (.cells #[.slice aa m ca, .slice ab m cb] 23)) (.cells #[.slice (some ⟨w.heap.size, 0, none⟩) 2 2, .slice none 0 0, .slice none 0 0, .slice none 0 0] 61)
    rwa [World.size_alloc] at this
  have hE := hE1.trans hE2
  have hOT : ((w.alloc (.cells #[.slice aa m ca, .slice ab m cb] 23)).alloc (.cells #[.slice (some ⟨w.heap.size, 0, none⟩) 2 2, .slice none 0 0, .slice none 0 0, .slice none 0 0] 61)).ownsRow 0 23 1 (.slice (some ⟨w.heap.size, 0, none⟩) 2 2) 2 [.slice aa m ca, .slice ab m cb] :=
    ⟨rfl, .inr ⟨w.heap.size, 2, #[.slice aa m ca, .slice ab m cb], rfl, Nat.zero_le _, hE2.keep (heap_alloc_new w _) (by simp), Nat.le_refl _, by unfold maxLen; omega, rfl, rfl⟩⟩
  have hia := itm_own (own_keep0 hoa hE) (by omega)
  have hib := itm_own (own_keep0 hob hE) (by omega)
  have hB := bk_of (T := [.slice aa m ca, .slice ab m cb]) hOT (fun i hi => by
    simp only [List.length_cons, List.length_nil] at hi
    have : i = 0 ∨ i = 1 := by omega
    rcases this with rfl | rfl
    · exact hia
    · exact hib) (fun i j b hi hj hij hq => by
    simp only [List.length_cons, List.length_nil] at hi hj
    have h1 : (i = 0 ∧ j = 1) ∨ (i = 1 ∧ j = 0) := by omega
    rcases h1 with ⟨rfl, rfl⟩ | ⟨rfl, rfl⟩
    · exact hd b hq
    · exact fun r => hd b r hq)
  have hmem : ∀ b, b ∈ blks 2 (fun i => toIt ([Value.slice aa m ca, .slice ab m cb].getD i undef)) → (Value.slice aa m ca).ownBlock = some b ∨ (Value.slice ab m cb).ownBlock = some b := fun b hb => by
    obtain ⟨i, l, c, hi, hit⟩ := mem_blks.1 hb
    have : i = 0 ∨ i = 1 := by omega
    rcases this with rfl | rfl
    · exact .inl (toIt_block hit)
    · exact .inr (toIt_block hit)
  have hlt : ∀ b, (Value.slice aa m ca).ownBlock = some b ∨ (Value.slice ab m cb).ownBlock = some b → b < w.heap.size := fun b hb => by
    rcases hb with q | q
    · exact (own_lt hoa b q).2
    · exact (own_lt hob b q).2
  refine (apart_any (w.heap.size + 1) (some ⟨w.heap.size, 0, none⟩) w.heap.size 2 2 _ _ (by omega) (.inl rfl) hB (by rw [cell_of_row _ _ _ _ _ _ hbl]; rfl) (by rw [cell_of_row _ _ _ _ _ _ hbl]; rfl) (by rw [cell_of_row _ _ _ _ _ _ hbl]; rfl) (by rw [cell_of_row _ _ _ _ _ _ hbl]; rfl) (fun q => by have := hlt _ (hmem _ q); omega)).mono ?_
  rintro e w' ⟨rfl, hx⟩
  refine ⟨rfl, (hE.mono (by simp)).trans (hx.mono (fun b hb => ?_))⟩
  simp only [List.mem_append, Option.mem_toList]
  exact hmem b hb

namespace colorKeeps

set_option maxRecDepth 100000 in
set_option maxHeartbeats 2000000 in
theorem walk (a : Option Addr) (n c : Nat) (S : List Oq) (ra : Option Addr) (rn rc : Nat) (R : List Int) (x : Int) (w : World) (hS : Sc w a S) (hn : S.length = n) (hR : Is w ra R) (hrn : R.length = rn) (hrb : rn ≤ 17592186043904) :
    Calls Try.prog 7 #[.slice a n c, .slice ra rn rc, .int .i64 x] w (SayPost w (.bool true)) := by
  have hsl := hS.len
  have K1 := grown_any a n c S w hS hn
  have HS := hid hS
  have HN := hid hn
  have HR := hid hR
  have HRn := hid hrn
  clear hS hn hR hrn
  go_enter Try.func7, Try.ntmps7
  go_wp2_with fail
  refine K1.mono ?_
  clear K1
  rintro e w1 ⟨p1, G, rfl, hf, hI, hcy, hg1, hE1⟩
  have K2 := grown_any a n c S w1 (HS.out.keep0 hE1) HN.out
  have HF := hid hf
  have HI := hid hI
  have Hg1 := hid hg1
  have HE1 := hid hE1
  clear hf hI hg1 hE1
  go_wp2_with fail
  refine K2.mono ?_
  clear K2
  rintro e w2 ⟨p2, G2, rfl, hf2, _, _, hg2, hE2⟩
  obtain rfl : G = G2 := HF.out.det hf2
  have HT := hid (two_new Hg1.out HE1.out hg2 hE2)
  clear hg2 hE2 hf2 Hg1 HE1 HF HS HN
  go_wp2_with fail
  refine (awake_any w2).mono ?_
  rintro e w3 ⟨rfl, hE3⟩
  have HT3 := hid (HT.out.keep0 hE3)
  clear HT hE3
  have K4 := roomy_any ra rn rc R w3 (HR.out.keep0 HT3.out.ext) HRn.out hrb
  generalize (fun k => w.heap.size ≤ k ∧ k < w1.heap.size) = C1 at *
  generalize (fun k => w1.heap.size ≤ k ∧ k < w2.heap.size) = C2 at *
  go_wp2_with fail
  refine K4.mono ?_
  clear K4
  rintro e w4 ⟨gr, capr, rfl, hry, hE4⟩
  have K5 := slots_any p1 G _ x w4 (HT3.out.a.keep0 hE4) HI.out
  have HRy := hid hry
  have HE4 := hid hE4
  have hgr : w3.heap.size ≤ gr ∧ gr < w4.heap.size := own_lt hry.2 gr rfl
  have hsv : (slV G x).length ≤ 8192 := by unfold slV; split; exact HI.out.sl _; simp
  clear hry hE4
  go_wp2_with fail
  refine K5.mono ?_
  clear K5
  rintro e w5 ⟨va, rfl, hoa, hE5⟩
  have K6 := slots_any p1 G _ x w5 ((HT3.out.a.keep0 HE4.out).keep0 hE5) HI.out
  have HOa := hid hoa
  have HE5 := hid hE5
  obtain ⟨aa, ca, rfl, _⟩ := own_slice hoa
  clear hoa hE5
  go_wp2_with fail
  refine K6.mono ?_
  clear K6
  rintro e w6 ⟨vb, rfl, hob, hE6⟩
  have HOb := hid hob
  have HOa6 := hid (own_keep0 HOa.out hE6)
  have HE6 := hid hE6
  obtain ⟨ab, cb, rfl, _⟩ := own_slice hob
  obtain ⟨a7, c7, w7, hr7, ho7, hE7⟩ := app_copyO w6 aa (slV G x) ca (own_vs HOa6.out) (by omega)
  have KS := sameInts_true aa ab (slV G x).length ca cb (slV G x) w7 ((own_vs HOa6.out : Is w6 aa _).keep0 hE7) ((own_vs hob : Is w6 ab _).keep0 hE7) rfl (by omega)
  have HO7 := hid ho7
  have HE7 := hid hE7
  have hla := own_lt HOa.out
  have hlb := own_lt hob
  clear hob hE6 ho7 hE7 HOa
  generalize hL : slV G x = L at *
  have HL := hid hL
  clear hL
  generalize fl G x = er at *
  go_wp2_with (at_builtin; refine wpList_append_run rfl _ _ 23 rfl _ _ _ rfl rfl hr7 ?_)
  refine KS.mono ?_
  clear KS hr7
  rintro e w8 ⟨rfl, hE8⟩
  have HOa8 := hid (own_keep0 (own_keep0 HOa6.out HE7.out) hE8)
  have HOb8 := hid (own_keep0 (own_keep0 HOb.out HE7.out) hE8)
  have HO8 := hid (own_keep0 HO7.out hE8)
  have hE48 := ((HE5.out.trans HE6.out).trans HE7.out).trans hE8
  have HT8 := hid ((HT3.out.keep0 HE4.out).keep0 hE48)
  have HRy8 := hid (show Ry w3 w8 gr rn capr R from ⟨HRy.out.1, own_keep0 HRy.out.2 hE48⟩)
  have hz78 := Nat.le_trans HE7.out.size hE8.size
  have hz4 := HE5.out.size
  have hz5 := HE6.out.size
  have hz7 := HE7.out.size
  have hz8 := hE8.size
  clear hE8 hE48 HOa6 HOb HRy
  have KA := apart_two w8 aa ab L.length ca cb _ _ _ _ HOa8.out HOb8.out (by omega) (fun g h1 h2 => by have := hla g h1; have := hlb g h2; omega)
  go_wp2_with fail
  refine KA.mono ?_
  clear KA
  rintro e w9 ⟨rfl, hE9⟩
  have hmem : ∀ b ∈ (Value.slice aa L.length ca).ownBlock.toList ++ (Value.slice ab L.length cb).ownBlock.toList, w4.heap.size ≤ b ∧ b < w6.heap.size := fun b hb => by
    simp only [List.mem_append, Option.mem_toList] at hb
    rcases hb with q | q
    · have := hla b q; omega
    · have := hlb b q; omega
  have hz3 := HE4.out.size
  have HT9 := hid (HT8.out.keepS hE9 (fun b hb => ⟨fun q => by have := (HT3.out.la b q).2; have := hmem b hb; omega, fun q => by have := (HT3.out.lb b q).2; have := hmem b hb; omega, by have := hmem b hb; have := HT3.out.ext.size; omega⟩))
  have HRy9 := hid (show Ry w3 w9 gr rn capr R from ⟨HRy8.out.1, own_keep HRy8.out.2 hE9 (fun b hb q => by simp [Value.ownBlock] at q; have := hmem b hb; omega)⟩)
  have HO9 := hid (own_keep HO8.out hE9 (fun b hb q => by have := (own_lt HO7.out b q).1; have := hmem b hb; omega))
  have h7lt := own_lt HO7.out
  have hz9 := hE9.size
  clear hE9 hmem HT8 HRy8 HO8 HO7 HOa8 HOb8
  have K10 := slots_any p1 G _ x w9 HT9.out.a HI.out
  rw [HL.out] at K10
  generalize hfe : fl G x = er2 at *
  clear hfe
  go_wp2_with fail
  refine K10.mono ?_
  clear K10
  rintro e w10 ⟨vc, rfl, hoc, hE10⟩
  have HOc := hid hoc
  have HT10 := hid (HT9.out.keep0 hE10)
  have HRy10 := hid (show Ry w3 w10 gr rn capr R from ⟨HRy9.out.1, own_keep0 HRy9.out.2 hE10⟩)
  have HO10 := hid (own_keep0 HO9.out hE10)
  have hlc := own_lt hoc
  have hz10 := hE10.size
  obtain ⟨ac, cc, rfl, _⟩ := own_slice hoc
  clear hoc hE10 HT9 HRy9 HO9
  have hl1 := HI.out.len
  have K11 := told_any p2 G _ w10 HT10.out.b hl1
  go_wp2_with fail
  refine K11.mono ?_
  clear K11
  rintro e w11 ⟨v11, rfl, hL11, hn11, hE11⟩
  have HT11 := hid (HT10.out.keep0 hE11)
  have HRy11 := hid (show Ry w3 w11 gr rn capr R from ⟨HRy10.out.1, own_keep0 HRy10.out.2 hE11⟩)
  have HO11 := hid (own_keep0 HO10.out hE11)
  have HOc11 := hid (own_keep0 HOc.out hE11)
  have HL11 := hid hL11
  have hll := hL11.lt
  have hz11 := hE11.size
  obtain ⟨a11, c11, rfl, _⟩ := hL11.slice
  clear hL11 hE11 HT10 HRy10 HO10 HOc
  have hC1 : ∀ k, C1 k → k < w3.heap.size := fun k hk => (HT3.out.la k hk).2
  have HC1 := hid hC1
  have K12 := start_any p1 G C1 (some ⟨gr, 0, none⟩) rn capr R w11 HT11.out.a HI.out (HRy11.out.cell HRn.out).1 HRn.out (by omega) (fun ad had q => by
    simp only [Option.some.injEq] at had
    subst had
    have := hC1 _ q
    simp only at this
    omega)
  clear hC1
  go_wp2_with fail
  refine K12.mono ?_
  clear K12
  rintro e w12 ⟨rfl, hg12, hx12⟩
  have HT12 := hid (HT11.out.op hg12 (fun _ q => q) hx12)
  have nC : ∀ k, w3.heap.size ≤ k → ¬ C1 k := fun k hk q => by have := HC1.out k q; omega
  have HRy12 := hid (show Ry w3 w12 gr rn capr R from ⟨HRy11.out.1, own_keepF HRy11.out.2 hx12 (fun g hg => nC g (own_lt HRy11.out.2 g hg).1)⟩)
  have HO12 := hid (own_keepF HO11.out hx12 (fun g hg => nC g (by have := (own_lt HO11.out g hg).1; omega)))
  have HOc12 := hid (own_keepF HOc11.out hx12 (fun g hg => nC g (by have := (own_lt HOc11.out g hg).1; omega)))
  have HL12 := hid (show Lst w12 _ _ from own_keepF HL11.out hx12 (fun g hg => nC g (by have := hn11 g hg; omega)))
  have hI12 := iv_start HI.out R
  have hcy12 := start_cy G R
  have hz12 := hx12.size
  have K13 := work_any p1 (start G R).1 _ 1000000 w12 HT12.out.a hI12 (by omega) (by omega)
  have HD : Hid (∀ k, (fun k => Nw C1 w11 k ∧ k < w12.heap.size) k → k < w3.heap.size ∨ w11.heap.size ≤ k) := fun k hk => by
    rcases hk.1 with r | r
    · exact .inl (HC1.out k r)
    · exact .inr r
  clear hg12 hx12 nC HT11 hI12 HC1 hcy12
  have HLL : Hid (∀ g, (Value.slice (some ⟨gr, 0, none⟩) (rn + 7) capr).ownBlock = some g → g < w11.heap.size) := fun g hg => (own_lt HRy11.out.2 g hg).2
  have HLO : Hid (∀ g, (Value.slice a7 L.length c7).ownBlock = some g → w6.heap.size ≤ g ∧ g < w11.heap.size) := fun g hg => own_lt HO11.out g hg
  have HLC : Hid (∀ g, (Value.slice ac L.length cc).ownBlock = some g → w9.heap.size ≤ g ∧ g < w11.heap.size) := fun g hg => own_lt HOc11.out g hg
  clear HRy11 HO11 HOc11 HL11
  generalize (start G R).2 = er3 at *
  generalize (start G R).1 = Gs at *
  generalize (fun k => Nw C1 w11 k ∧ k < w12.heap.size) = D1 at *
  go_wp2_with fail
  refine K13.mono ?_
  clear K13
  rintro e w13 ⟨v13, E1, rfl, _, hg13, hE13, _, hx13⟩
  have HT13 := hid (HT12.out.op hg13 hE13 hx13)
  have nD : ∀ g, w3.heap.size ≤ g → g < w11.heap.size → ¬ D1 g := fun g h1 h2 q => by
    rcases HD.out g q with r | r <;> omega
  have HRy13 := hid (show Ry w3 w13 gr rn capr R from ⟨HRy12.out.1, own_keepF HRy12.out.2 hx13 (fun g hg => nD g (own_lt HRy12.out.2 g hg).1 (HLL.out g hg))⟩)
  have HO13 := hid (own_keepF HO12.out hx13 (fun g hg => nD g (by have := (HLO.out g hg).1; omega) (HLO.out g hg).2))
  have HOc13 := hid (own_keepF HOc12.out hx13 (fun g hg => nD g (by have := (HLC.out g hg).1; omega) (HLC.out g hg).2))
  have HL13 := hid (show Lst w13 _ _ from own_keepF HL12.out hx13 (fun g hg => nD g (by have := hn11 g hg; omega) (hll g hg)))
  clear hg13 hE13 hx13 nD HT12 HRy12 HO12 HOc12 HL12 HD HLL HLO HLC
  have K14 := told_any p2 G _ w13 HT13.out.b hl1
  go_wp2_with fail
  refine K14.mono ?_
  clear K14
  rintro e w14 ⟨v14, rfl, hL14, _, hE14⟩
  have HE14 := hid (HT13.out.ext.trans hE14)
  obtain ⟨a14, c14, rfl, hI14⟩ := lst_is hL14
  have hll2 : (lives G).length ≤ 65536 := Nat.le_trans (livK_len G G.ns.length) hl1
  have KS1 := sameInts_true ac a7 L.length cc c7 L w14 ((own_vs HOc13.out : Is w13 ac L).keep0 hE14) ((own_vs HO13.out : Is w13 a7 L).keep0 hE14) rfl (by omega)
  have HRy14 := hid (show Ry w3 w14 gr rn capr R from ⟨HRy13.out.1, own_keep0 HRy13.out.2 hE14⟩)
  have HL14 := hid ((own_vs HL13.out : Is w13 a11 (li (lives G))).keep0 hE14)
  have HI14 := hid hI14
  clear hL14 hE14 hI14 HT13 HRy13 HO13 HOc13 HL13
  generalize hnl : (li (lives G)).length = nl at *
  have HNL := hid hnl
  rw [li_len] at hnl
  have hnl2 : nl ≤ 65536 := by omega
  clear hnl
  go_wp2_with fail
  refine KS1.mono ?_
  clear KS1
  rintro e w15 ⟨rfl, hE15⟩
  have KK := kept_true w3 w15 gr rn capr R ra rc ⟨HRy14.out.1, own_keep0 HRy14.out.2 hE15⟩ (HR.out.keep0 (HE14.out.trans hE15)) HRn.out (by omega)
  have HE15 := hid (HE14.out.trans hE15)
  have HL15 := hid (HL14.out.keep0 hE15)
  have HI15 := hid (HI14.out.keep0 hE15)
  clear hE15 HE14 HL14 HI14 HRy14
  go_wp2_with fail
  refine KK.mono ?_
  clear KK
  rintro e w16 ⟨rfl, hE16⟩
  have KS2 := sameInts_true a11 a14 nl c11 c14 (li (lives G)) w16 (HL15.out.keep0 hE16) (HI15.out.keep0 hE16) HNL.out (by omega)
  have HE16 := hid (HE15.out.trans hE16)
  clear hE16 HE15 HL15 HI15
  go_wp2_with fail
  refine KS2.mono ?_
  clear KS2
  rintro e w17 ⟨rfl, hE17⟩
  have HE17 := hid (HE16.out.trans hE17)
  clear hE17 HE16
  go_wp2_with fail
  go_ret
  exact ⟨rfl, HE17.out⟩

end colorKeeps
end Go.Proofs.Ytfgdoehiocgkhaa

namespace Go.Proofs.Ytfgdoehiocgkhaa.colorKeeps
open Go.ChangeShapes Go.WideShapes Go.ChangeAt Go.RowKit

set_option maxRecDepth 100000 in
theorem lifted (os : Go.Os) (started : os.Started) (H : Type) (enc : TypeId × Value → H) :
    ReturnsInHanded {} Try.checked os 7 .any (Rows.colorKeepsSpec.pre6 enc Try.prog Try.f7 Rows.colorKeepsRow.domain false) (Rows.colorKeepsSpec.post enc Try.prog Try.f7 false true false false) := by
  refine returnsInHanded_of_change_sized (C := Try.checked) own started (by kernel_rfl) Try.func7
    (ChangeSpec.witness6 (enc := enc) (C := Try.checked) false ⟨#[], #[.slice none 0 0, .slice none 0 0, .int .i64 0], []⟩ 7 (by kernel_rfl) (by kernel_rfl) (by kernel_rfl) (by kernel_rfl)) ?_
  intro W base args ds gs before hval0 hW hcnd hsz0 _
  have hval : ∀ (j : Nat) t v, Try.f7.params[j]? = some t → args[j]? = some v → Value.okWide Try.prog W .any base t v := hval0
  have hW' := hW
  obtain ⟨p, q, hA0, hV, rfl, hfz, hnd⟩ := hW
  have hA : DataW.TrodAll enc Try.prog W 0 (fun _ => true) true Try.f7.params.toList args.toList ds p := hA0
  rw [Try.params7] at hA hval
  obtain ⟨v0, vs0, d0, ds0, p0, q0, hargs, rfl, rfl, h0, r0⟩ := trodAll_cons hA
  obtain ⟨v1, vs1, d1, ds1, p1, q1, rfl, rfl, rfl, h1, r1⟩ := trodAll_cons r0
  obtain ⟨v2, vs2, d2, ds2, p2, q2, rfl, rfl, rfl, h2, r2⟩ := trodAll_cons r1
  obtain ⟨rfl, rfl, rfl⟩ := trodAll_nil r2
  obtain rfl : args = #[v0, v1, v2] := by cases args; simp_all
  obtain ⟨rfl, rfl⟩ := trodVars_none hV
  obtain ⟨a0, len0, cap0, rfl⟩ := okWide_slice Try.underlying22 (hval 0 22 v0 rfl rfl)
  have k0 := h0
  have lt0 : ∀ x ∈ p0, x.block < W.heap.size := by obtain ⟨m, hm⟩ := k0; exact DataW.trod_lt m _ _ _ hm
  obtain ⟨a1, len1, cap1, rfl⟩ := okWide_slice Try.underlying23 (hval 1 23 v1 rfl rfl)
  have k1 := h1
  have lt1 : ∀ x ∈ p1, x.block < W.heap.size := by obtain ⟨m, hm⟩ := k1; exact DataW.trod_lt m _ _ _ hm
  obtain ⟨a2, rfl, rfl, rfl, w2⟩ := open_int Try.underlying3 (hval 2 3 v2 rfl rfl) h2
  have hsz : (DataW.weightsEach Try.prog [22, 23, 3] [d0, d1, _]).all (· ≤ reachBytes) = true := hsz0
  have hwd0 : ∀ y ∈ d0.weights Try.prog 22, y ≤ 140737488351232 := by
    intro y hy
    have := List.all_eq_true.1 hsz y (DataW.weights_mem_each (j := 0) (t := 22) rfl rfl y hy)
    have h2 := of_decide_eq_true this
    simpa [reachBytes] using h2
  obtain ⟨fuel0, hf0⟩ := h0
  obtain ⟨S0, hS0, hl0⟩ := open_script (n := len0) (c := cap0) hf0 hwd0
  have hwd1 : ∀ y ∈ d1.weights Try.prog 23, y ≤ 140737488351232 := by
    intro y hy
    have := List.all_eq_true.1 hsz y (DataW.weights_mem_each (j := 1) (t := 23) rfl rfl y hy)
    have h2 := of_decide_eq_true this
    simpa [reachBytes] using h2
  obtain ⟨fuel1, hf1⟩ := h1
  obtain ⟨b1, c1, X1, hv1, hI1, hx1, hb1, hd1⟩ := open_list (v := .slice a1 len1 cap1) hf1 hwd1
  simp only [Value.slice.injEq] at hv1
  obtain ⟨rfl, rfl, rfl⟩ := hv1
  clear hA0 hval0
  refine (walk a0 len0 cap0 S0 a1 X1.length cap1 X1 a2 W hS0 hl0 hI1 rfl (by omega)).mono fun e W' ⟨he, hext⟩ => ?_
  subst he
  have bel := hext.below
  exact ⟨_, rfl, _, _, _, [], _, [], hW', trodAll_mk1 (shut_bool Try.underlying4 _), (trodAll_cons_mk (Below.trod laidOut (by kernel_rfl) (of_decide_eq_true (by kernel_rfl)) k0 bel lt0) (trodAll_cons_mk (Below.trod laidOut (by kernel_rfl) (of_decide_eq_true (by kernel_rfl)) k1 bel lt1) (trodAll_cons_mk (shut_int Try.underlying3 w2) trodAll_mk0))), rfl, bel.frame _, fun h => by cases h⟩

theorem over : Rows.colorKeepsRow.holds Try.pinned (OpenSpec.ofChange Rows.colorKeepsSpec) :=
  OpenClaim.holds_of_wide 7 Try.f7 rfl rfl rfl rfl rfl rfl rfl ⟨rfl, rfl, rfl, rfl, rfl⟩ rfl rfl rfl rfl rfl (by kernel_rfl) Try.func7 (by kernel_rfl)
    (of_decide_eq_true (by kernel_rfl)) (by unfold Func.isWrapper; first | (rw [if_pos (by decide +kernel)]; kernel_rfl) | (rw [if_neg (by decide +kernel)]; exact ⟨rfl, rfl⟩))
    (fun os started H enc _ => lifted os started H enc)

end Go.Proofs.Ytfgdoehiocgkhaa.colorKeeps

namespace Go.Proofs.Ytfgdoehiocgkhaa
theorem colorKeeps_holds : Rows.ColorKeepsSaid := colorKeeps.over
#print axioms colorKeeps_holds
end Go.Proofs.Ytfgdoehiocgkhaa

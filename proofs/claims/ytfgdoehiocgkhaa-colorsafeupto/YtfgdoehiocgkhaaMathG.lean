/-
  What the live nodes' net reaches; no statement is proved here.
-/
import Derived.Test.YtfgdoehiocgkhaaMathF
import Derived.Test.YtfgdoehiocgkhaaNetB
import Derived.Test.YtfgdoehiocgkhaaRched
namespace Go.Proofs.Ytfgdoehiocgkhaa
open Go.RowKit

def tn (l : List Int) : List Nat := l.map Int.toNat
theorem ci_tn {l : List Int} (h : ∀ x ∈ l, 0 ≤ x) : ci (tn l) = l := by
  simp only [ci, tn, List.map_map]
  rw [List.map_congr_left (g := id) (fun x hx => by have := h x hx; simp; omega)]
  simp
theorem tn_len (l : List Int) : (tn l).length = l.length := by simp [tn]
/-- The net, in naturals. -/
def netN (G : Gs) : List (List Nat) := (netM G (nK G (lives G).length)).map tn
theorem netN_len (G : Gs) : (netN G).length = nK G (lives G).length := by simp [netN, netM_len]
theorem netN_at {G : Gs} {i : Nat} (h : i < nK G (lives G).length) : nxt (netN G) i = tn (nbr G i) := by
  simp [nxt, netN, netM, List.getD, h]
theorem cn_netN {G : Gs} (hI : Iv G) : cn (netN G) = netM G (nK G (lives G).length) := by
  simp only [cn, netN, List.map_map]
  rw [List.map_congr_left (g := id) (fun l hl => by
    simp only [netM, List.mem_map] at hl
    obtain ⟨j, _, rfl⟩ := hl
    exact ci_tn (fun x hx => (nbr_lt hI hx).1))]
  simp
theorem nxt_out {G : Gs} {i : Nat} (h : nK G (lives G).length ≤ i) : nxt (netN G) i = [] := by
  simp [nxt, List.getD, List.getElem?_eq_none (show (netN G).length ≤ i by rw [netN_len]; exact h)]
theorem good_net {G : Gs} (hI : Iv G) {R : List Int} (hR : ∀ r ∈ R, lvB G r = true) : Good (netN G) (tn R) := by
  refine ⟨fun l hl x hx => ?_, fun x => ?_, ?_, fun x hx => ?_⟩
  · simp only [netN, netM, List.mem_map] at hl
    obtain ⟨l', ⟨j, _, rfl⟩, rfl⟩ := hl
    simp only [tn, List.mem_map] at hx
    obtain ⟨y, hy, rfl⟩ := hx
    rw [netN_len]
    exact nK_all (nbr_lt hI hy).2
  · by_cases h : x < nK G (lives G).length
    · rw [netN_at h, tn_len]; exact nbr_len hI x
    · rw [nxt_out (by omega)]; simp
  · rw [netN_len]; exact Nat.le_trans nK_len hI.len
  · simp only [tn, List.mem_map] at hx
    obtain ⟨y, hy, rfl⟩ := hx
    rw [netN_len]
    exact nK_all (lvB_iff.1 (hR y hy)).2
theorem mem_nbr {G : Gs} (hI : Iv G) {i : Nat} (hl : lvN G i) {x : Int} : x ∈ nbr G i ↔ x ∈ (ndAt G.ns i).s ∧ x ≠ -1 := by
  unfold nbr
  rw [if_pos hl]
  simp only [List.mem_filter, decide_eq_true_eq]
  refine ⟨fun h => ⟨h.1, by omega⟩, fun h => ⟨h.1, ?_⟩⟩
  rcases hI.cl i hl x h.1 with q | q
  · exact absurd q h.2
  · exact (lvB_iff.1 q).1
theorem cls_net {G : Gs} (hI : Iv G) {R : List Int} : Cls G R (fun i => Rch (netN G) (tn R) (-1) i) := by
  refine ⟨fun r hr => .root (List.mem_map.2 ⟨r, hr, rfl⟩) (by omega), fun i hi hl x hx hx1 => ?_, fun P h1 h2 i hi => ?_⟩
  · refine .step hi ?_ (by omega)
    rw [netN_at (nK_all hl)]
    exact List.mem_map.2 ⟨x, (mem_nbr hI hl).2 ⟨hx, hx1⟩, rfl⟩
  · refine hi.least P (fun r hr _ => ?_) (fun a ha b hb _ => ?_)
    · simp only [tn, List.mem_map] at hr
      obtain ⟨y, hy, rfl⟩ := hr
      exact h1 y hy
    · by_cases h : a < nK G (lives G).length
      · rw [netN_at h] at hb
        simp only [tn, List.mem_map] at hb
        obtain ⟨x, hx, rfl⟩ := hb
        by_cases hl : lvN G a
        · obtain ⟨q1, q2⟩ := (mem_nbr hI hl).1 hx
          exact h2 a ha hl x q1 q2
        · unfold nbr at hx; rw [if_neg hl] at hx; cases hx
      · rw [nxt_out (by omega)] at hb; cases hb
theorem kept_all {G : Gs} {R : List Int} (hR : ∀ r ∈ R, lvB G r = true) : (R.filter fun x => decide (x < ((nK G (lives G).length : Nat) : Int))) = R := by
  rw [List.filter_eq_self]
  intro r hr
  have := lvB_iff.1 (hR r hr)
  have := nK_all this.2
  simp
  omega
theorem mem_li {l : List Nat} {x : Int} : x ∈ li l ↔ 0 ≤ x ∧ x.toNat ∈ l := by
  simp only [li, List.mem_map]
  constructor
  · rintro ⟨y, hy, rfl⟩; exact ⟨by omega, by simpa using hy⟩
  · rintro ⟨h1, h2⟩; exact ⟨_, h2, by omega⟩
theorem in_lives {G : Gs} (x : Int) : decide (x ∈ li (lives G)) = lvB G x := by
  rw [Bool.eq_iff_iff]
  simp only [decide_eq_true_eq]
  rw [mem_li, mem_lives, lvB_iff]

theorem Nb.keepF {D : Nat → Prop} {w0 w w' : World} {v : Value} {M : List (List Int)} {H : Nat → Option Addr × Nat} (h : Nb w0 w v M H) (x : Fx D w w') (hd : ∀ g, w0.heap.size ≤ g → ¬ D g) : Nb w0 w' v M H :=
  ⟨own_keepF h.row x (fun g hg => hd g (own_lt h.row g hg).1), fun i hi => own_keepF (h.fs i hi) x (fun g hg => hd g (own_lt (h.fs i hi) g hg).1), h.ap⟩
theorem Nb.nt {w0 w : World} {a : Option Addr} {c : Nat} {M : List (List Int)} {H : Nat → Option Addr × Nat} (h : Nb w0 w (.slice a M.length c) M H) (hl : M.length ≤ 5864062014805) (hb : ∀ i, i < M.length → (lsAt M i).length ≤ 17592186044416) : Nt w a M := nt_of h.row h.fs rfl hl hb

end Go.Proofs.Ytfgdoehiocgkhaa

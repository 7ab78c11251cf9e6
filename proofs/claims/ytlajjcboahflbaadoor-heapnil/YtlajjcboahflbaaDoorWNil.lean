/-
  The walk through HeapNil; no statement is proved here.
-/
import Derived.Test.YtlajjcboahflbaaDoorWholeA
import Derived.Test.YtlajjcboahflbaaDoorWWords
namespace Go.Proofs.YtlajjcboahflbaaDoor
open Go.RowKit

set_option maxRecDepth 100000 in
set_option maxHeartbeats 4000000 in
theorem nilWalk (w : World) (hG : Gl w) : Calls Tryd.prog 6 #[] w (SayPost w (.bool true)) := by
  have HG := hid hG
  clear hG
  go_enter Tryd.func6, Tryd.ntmps6
  go_wp2_with fail
  refine (halloc_nil 8 0 w HG.out).mono ?_
  rintro e w' ⟨rfl, rfl⟩
  go_wp2_with fail
  refine (hbase_nil 256 w').mono ?_
  rintro e w0 ⟨rfl, rfl⟩
  go_wp2_with fail
  refine (hinfo_nil 256 w0).mono ?_
  rintro e w1 ⟨rfl, hE1⟩
  have HE1 := hid hE1
  clear hE1
  go_wp2_with fail
  obtain ⟨w2, hw2⟩ : ∃ w2, w2 = w1.alloc (.cells #[.int .i64 0, .int .i64 0, .int .i64 0, .slice none 0 0] 34) := ⟨_, rfl⟩
  have HE2 : Hid (Ext [] w0 w2) := by rw [hw2]; exact HE1.out.trans (Ext.alloc _ _ _)
  rw [← hw2]
  clear hw2 HE1
  refine (hload_nil 256 w2).mono ?_
  rintro e w3 ⟨rfl, rfl⟩
  go_wp2_with fail
  refine (hread_nil 256 1 w3).mono ?_
  rintro e w4 ⟨rfl, rfl⟩
  go_wp2_with fail
  refine (hfree_nil 256 w4).mono ?_
  rintro e w5 ⟨rfl, rfl⟩
  go_wp2_with fail
  refine (hstore_nil 256 1 w5).mono ?_
  rintro e w6 ⟨rfl, rfl⟩
  go_wp2_with fail
  refine (hwrite_nil 256 none 0 0 w6).mono ?_
  rintro e w7 ⟨rfl, rfl⟩
  go_wp2_with fail
  refine (whole_nil w7).mono ?_
  rintro e w8 ⟨v1, v2, v3, rfl, h1, h2, h3, _, _, _, hE8⟩
  obtain ⟨a1, c1, rfl, _⟩ := own_slice h1
  obtain ⟨a2, c2, rfl, _⟩ := own_slice h2
  obtain ⟨a3, c3, rfl, _⟩ := own_slice h3
  simp only [List.length_nil]
  have HE8 := hid (HE2.out.trans hE8)
  clear h1 h2 h3 hE8
  go_wp2_with fail
  refine (awake_any w8 (HG.out.keep0 HE8.out)).mono ?_
  rintro e w9 ⟨rfl, hE9⟩
  have HE9 := hid (HE8.out.trans hE9)
  clear hE9
  go_wp2_with fail
  refine (hfits_nil 8 w9 (HG.out.keep0 HE9.out)).mono ?_
  rintro e w10 ⟨rfl, rfl⟩
  go_wp2
  go_ret
  exact ⟨rfl, HE9.out⟩

end Go.Proofs.YtlajjcboahflbaaDoor

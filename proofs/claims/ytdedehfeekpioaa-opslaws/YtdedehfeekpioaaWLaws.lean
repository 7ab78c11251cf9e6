/-
  OpsLaws, walked through; its frame is in LawLaws.
-/
import Derived.Test.YtdedehfeekpioaaWLaws0
import Derived.Test.YtdedehfeekpioaaWLaws1
namespace Go.Proofs.Ytdedehfeekpioaa
open Go.RowKit
theorem laws_walk (a b c : Int) (w : World) (ha : U a) (hb : U b) (hc : U c) :
    Calls Try.prog 6 #[.int .u64 a, .int .u64 b, .int .u64 c] w (SayPost w (.bool true)) := by
  by_cases h : b = 0
  · exact laws_walk0 a b c w ha hb hc (by simpa using h)
  · exact laws_walk1 a b c w ha hb hc (by simpa using h)
end Go.Proofs.Ytdedehfeekpioaa

/-
  The walk of the statements' own both, with the document's reading.
-/
import Derived.Test.YtgldbliohpfljaaGreatDoorScBoundAll
import Derived.Test.YtgldbliohpfljaaGreatDoorRlParse
namespace Go.Proofs.YtgldbliohpfljaaGreatDoor
open Go.RowKit
namespace Sl
theorem both_any (s : ByteArray) (w : World) (hs : s.size ≤ maxLen) (hL : Laid w) (hP : PLaid w) : Calls Tryz.prog 28 #[.string s] w (Both s w) := both_of rparse_any s w hs hL hP
end Sl
end Go.Proofs.YtgldbliohpfljaaGreatDoor

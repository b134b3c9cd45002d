/- No contract of Go's library is wanted here: an empty shelf. -/
import Derived.Test.YtigcbegeaikfcaaGreatDoorProg
namespace Go.Proofs.YtigcbegeaikfcaaGreatDoor
end Go.Proofs.YtigcbegeaikfcaaGreatDoor

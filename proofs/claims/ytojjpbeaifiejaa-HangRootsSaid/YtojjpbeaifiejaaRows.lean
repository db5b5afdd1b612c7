/-
  No cell of these rows narrows 'for every input' (looked for: loops, veiled, ifaces, maps, wideKeys, modest, calm, conditions, laid).
  DERIVED. THE GIVEN ROWS OF THIS SEAT. 8 by the template 'for every input the law returns true; each argument reads behind the call as it read before'; 0 by the template 'total and deterministic' (their statements: YtojjpbeaifiejaaTotals.lean).
  GIVEN WITH THE SEED: the statements are not yours to turn. If you find one false, say at which input.
  Laid BY PROGRAM, IN A SANDBOX (cutbox-rows.mjs): the forced cells as the released guide's own fill.sh prints them over the translation 81277bd5beb545de… (all of the seat's roots in one cut). By AI agents, Wed Nov 11 2026. No macro, syntax, notation, axiom, sorry.
-/
import Derived.Test.YtojjpbeaifiejaaChecked
import GoSem.Claim
import GoSem.ClaimJoined
import GoSem.ClaimMapViews
import Derived.JoinedTies
import Derived.KernelRfl
namespace Go.Proofs.Ytojjpbeaifiejaa
/- THE CELL 'sum', in the pinned program and in every row, IS THE sha256 OF THE DUMP (.gsa) THAT YtojjpbeaifiejaaProg.lean LOADS. Nothing in Lean hashes anything: it is a label: what it is worth is what the hold of that sum in a sandbox is worth. -/
noncomputable def Try.pinned : Pinned := { name := "ytojjpbeaifiejaa", sum := "81277bd5beb545def1923bed4b4d5a42c44dfba9cc1f9e7592792d5c7f73c056", checked := Try.checked }
namespace Rows
def none {H : Type} : Left H := { results := [], args := [] }

/-- 'rabbetlaw04.HangLong': WHATEVER THE INPUT: true; the input reads as it did. -/
def hangLongSpec : ChangeSpec := { name := "hangLong", fn := fun _ => fun
  | [d1, d2] => { results := [.lit (.bool true)], args := [d1, d2] }
  | _ => none }
def hangLongRow : OpenClaim := { program := "ytojjpbeaifiejaa", sum := "81277bd5beb545def1923bed4b4d5a42c44dfba9cc1f9e7592792d5c7f73c056", func := "rabbet/rabbetlaw04.HangLong", spec := "hangLong", inPlace := ["internal/bytealg.IndexByte", "internal/bytealg.Index"], unfollowed := true, recurses := true, named := ["internal/bytealg.MaxLen"], apart := false }
def HangLongSaid : Prop := hangLongRow.holds Try.pinned (OpenSpec.ofChange hangLongSpec)

/-- ITS FALSE NEIGHBOUR: 'it returns false'. Refute it at one input. -/
def hangLongWrong : ChangeSpec := { name := "hangLong", fn := fun _ => fun
  | [d1, d2] => { results := [.lit (.bool false)], args := [d1, d2] }
  | _ => none }
def HangLongWrongFalsely : Prop := hangLongRow.holds Try.pinned (OpenSpec.ofChange hangLongWrong)

/-- 'rabbetlaw04.HangSets': WHATEVER THE INPUT: true; the input reads as it did. -/
def hangSetsSpec : ChangeSpec := { name := "hangSets", fn := fun _ => fun
  | [d] => { results := [.lit (.bool true)], args := [d] }
  | _ => none }
def hangSetsRow : OpenClaim := { program := "ytojjpbeaifiejaa", sum := "81277bd5beb545def1923bed4b4d5a42c44dfba9cc1f9e7592792d5c7f73c056", func := "rabbet/rabbetlaw04.HangSets", spec := "hangSets", inPlace := ["internal/bytealg.IndexByte", "internal/bytealg.Index"], unfollowed := true, recurses := true, named := ["internal/bytealg.MaxLen"], apart := false }
def HangSetsSaid : Prop := hangSetsRow.holds Try.pinned (OpenSpec.ofChange hangSetsSpec)

/-- ITS FALSE NEIGHBOUR: 'it returns false'. Refute it at one input. -/
def hangSetsWrong : ChangeSpec := { name := "hangSets", fn := fun _ => fun
  | [d] => { results := [.lit (.bool false)], args := [d] }
  | _ => none }
def HangSetsWrongFalsely : Prop := hangSetsRow.holds Try.pinned (OpenSpec.ofChange hangSetsWrong)

/-- 'rabbetlaw04.HangTen': WHATEVER THE INPUT: true; the input reads as it did. -/
def hangTenSpec : ChangeSpec := { name := "hangTen", fn := fun _ => fun
  | [d1, d2] => { results := [.lit (.bool true)], args := [d1, d2] }
  | _ => none }
def hangTenRow : OpenClaim := { program := "ytojjpbeaifiejaa", sum := "81277bd5beb545def1923bed4b4d5a42c44dfba9cc1f9e7592792d5c7f73c056", func := "rabbet/rabbetlaw04.HangTen", spec := "hangTen", inPlace := ["internal/bytealg.IndexByte", "internal/bytealg.Index"], unfollowed := true, recurses := true, named := ["internal/bytealg.MaxLen"], apart := false }
def HangTenSaid : Prop := hangTenRow.holds Try.pinned (OpenSpec.ofChange hangTenSpec)

/-- ITS FALSE NEIGHBOUR: 'it returns false'. Refute it at one input. -/
def hangTenWrong : ChangeSpec := { name := "hangTen", fn := fun _ => fun
  | [d1, d2] => { results := [.lit (.bool false)], args := [d1, d2] }
  | _ => none }
def HangTenWrongFalsely : Prop := hangTenRow.holds Try.pinned (OpenSpec.ofChange hangTenWrong)

/-- 'rabbetlaw04.HangRoots': WHATEVER THE INPUT: true; the input reads as it did. -/
def hangRootsSpec : ChangeSpec := { name := "hangRoots", fn := fun _ => fun
  | [d1, d2, d3] => { results := [.lit (.bool true)], args := [d1, d2, d3] }
  | _ => none }
def hangRootsRow : OpenClaim := { program := "ytojjpbeaifiejaa", sum := "81277bd5beb545def1923bed4b4d5a42c44dfba9cc1f9e7592792d5c7f73c056", func := "rabbet/rabbetlaw04.HangRoots", spec := "hangRoots", inPlace := ["internal/bytealg.IndexByte", "internal/bytealg.Index"], unfollowed := true, recurses := true, named := ["internal/bytealg.MaxLen"], apart := false }
def HangRootsSaid : Prop := hangRootsRow.holds Try.pinned (OpenSpec.ofChange hangRootsSpec)

/-- ITS FALSE NEIGHBOUR: 'it returns false'. Refute it at one input. -/
def hangRootsWrong : ChangeSpec := { name := "hangRoots", fn := fun _ => fun
  | [d1, d2, d3] => { results := [.lit (.bool false)], args := [d1, d2, d3] }
  | _ => none }
def HangRootsWrongFalsely : Prop := hangRootsRow.holds Try.pinned (OpenSpec.ofChange hangRootsWrong)

/-- 'rabbetlaw04.HangTurns': WHATEVER THE INPUT: true; the input reads as it did. -/
def hangTurnsSpec : ChangeSpec := { name := "hangTurns", fn := fun _ => fun
  | [d1, d2, d3] => { results := [.lit (.bool true)], args := [d1, d2, d3] }
  | _ => none }
def hangTurnsRow : OpenClaim := { program := "ytojjpbeaifiejaa", sum := "81277bd5beb545def1923bed4b4d5a42c44dfba9cc1f9e7592792d5c7f73c056", func := "rabbet/rabbetlaw04.HangTurns", spec := "hangTurns", inPlace := ["internal/bytealg.IndexByte", "internal/bytealg.Index"], unfollowed := true, recurses := true, named := ["internal/bytealg.MaxLen"], apart := false }
def HangTurnsSaid : Prop := hangTurnsRow.holds Try.pinned (OpenSpec.ofChange hangTurnsSpec)

/-- ITS FALSE NEIGHBOUR: 'it returns false'. Refute it at one input. -/
def hangTurnsWrong : ChangeSpec := { name := "hangTurns", fn := fun _ => fun
  | [d1, d2, d3] => { results := [.lit (.bool false)], args := [d1, d2, d3] }
  | _ => none }
def HangTurnsWrongFalsely : Prop := hangTurnsRow.holds Try.pinned (OpenSpec.ofChange hangTurnsWrong)

/-- 'rabbetlaw04.HangBack': WHATEVER THE INPUT: true; the input reads as it did. -/
def hangBackSpec : ChangeSpec := { name := "hangBack", fn := fun _ => fun
  | [d] => { results := [.lit (.bool true)], args := [d] }
  | _ => none }
def hangBackRow : OpenClaim := { program := "ytojjpbeaifiejaa", sum := "81277bd5beb545def1923bed4b4d5a42c44dfba9cc1f9e7592792d5c7f73c056", func := "rabbet/rabbetlaw04.HangBack", spec := "hangBack", inPlace := ["internal/bytealg.IndexByte", "internal/bytealg.Index"], unfollowed := true, recurses := true, named := ["internal/bytealg.MaxLen"], apart := false }
def HangBackSaid : Prop := hangBackRow.holds Try.pinned (OpenSpec.ofChange hangBackSpec)

/-- ITS FALSE NEIGHBOUR: 'it returns false'. Refute it at one input. -/
def hangBackWrong : ChangeSpec := { name := "hangBack", fn := fun _ => fun
  | [d] => { results := [.lit (.bool false)], args := [d] }
  | _ => none }
def HangBackWrongFalsely : Prop := hangBackRow.holds Try.pinned (OpenSpec.ofChange hangBackWrong)

/-- 'rabbetlaw04.HangWires': WHATEVER THE INPUT: true; the input reads as it did. -/
def hangWiresSpec : ChangeSpec := { name := "hangWires", fn := fun _ => fun
  | [d1, d2, d3] => { results := [.lit (.bool true)], args := [d1, d2, d3] }
  | _ => none }
def hangWiresRow : OpenClaim := { program := "ytojjpbeaifiejaa", sum := "81277bd5beb545def1923bed4b4d5a42c44dfba9cc1f9e7592792d5c7f73c056", func := "rabbet/rabbetlaw04.HangWires", spec := "hangWires", inPlace := ["internal/bytealg.IndexByte", "internal/bytealg.Index"], unfollowed := true, recurses := true, named := ["internal/bytealg.MaxLen"], apart := false }
def HangWiresSaid : Prop := hangWiresRow.holds Try.pinned (OpenSpec.ofChange hangWiresSpec)

/-- ITS FALSE NEIGHBOUR: 'it returns false'. Refute it at one input. -/
def hangWiresWrong : ChangeSpec := { name := "hangWires", fn := fun _ => fun
  | [d1, d2, d3] => { results := [.lit (.bool false)], args := [d1, d2, d3] }
  | _ => none }
def HangWiresWrongFalsely : Prop := hangWiresRow.holds Try.pinned (OpenSpec.ofChange hangWiresWrong)

/-- 'rabbetlaw04.HangCommutes': WHATEVER THE INPUT: true; the input reads as it did. -/
def hangCommutesSpec : ChangeSpec := { name := "hangCommutes", fn := fun _ => fun
  | [d1, d2, d3] => { results := [.lit (.bool true)], args := [d1, d2, d3] }
  | _ => none }
def hangCommutesRow : OpenClaim := { program := "ytojjpbeaifiejaa", sum := "81277bd5beb545def1923bed4b4d5a42c44dfba9cc1f9e7592792d5c7f73c056", func := "rabbet/rabbetlaw04.HangCommutes", spec := "hangCommutes", inPlace := ["internal/bytealg.IndexByte", "internal/bytealg.Index"], unfollowed := true, recurses := true, named := ["internal/bytealg.MaxLen"], apart := false }
def HangCommutesSaid : Prop := hangCommutesRow.holds Try.pinned (OpenSpec.ofChange hangCommutesSpec)

/-- ITS FALSE NEIGHBOUR: 'it returns false'. Refute it at one input. -/
def hangCommutesWrong : ChangeSpec := { name := "hangCommutes", fn := fun _ => fun
  | [d1, d2, d3] => { results := [.lit (.bool false)], args := [d1, d2, d3] }
  | _ => none }
def HangCommutesWrongFalsely : Prop := hangCommutesRow.holds Try.pinned (OpenSpec.ofChange hangCommutesWrong)

/- THE SECOND FORM. 'bulk': how many values and letters a reading holds, each counted each time it is reached (what is shared counts as often as it is met; a slice's spare places count too). A statement '..UptoSaid' is the law's where the arguments, and the package variables that the reading takes, are together of bulk at most 1048576: NARROWER than '..Said'. Prove '..Said' where nothing that the law and all that it calls make is longer than what came in: it says more and counts as full. Else prove '..UptoSaid'. A law counts once. -/
mutual
def uptoBulk {H : Type} : DataW H → Nat
  | .lit (.string bytes) => bytes.length + 1
  | .lit _ => 1
  | .nil => 1
  | .ptr d => uptoBulk d + 1
  | .slice elems spare => uptoBulkAll elems + uptoBulkAll spare + 1
  | .agg parts => uptoBulkAll parts + 1
  | .iface _ d => uptoBulk d + 1
  | .map entries => uptoBulkEntries entries + 1
  | .held _ => 1
def uptoBulkAll {H : Type} : List (DataW H) → Nat
  | [] => 0
  | d :: r => uptoBulk d + uptoBulkAll r
def uptoBulkEntries {H : Type} : List (Lit × DataW H) → Nat
  | [] => 0
  | x :: r => uptoBulkEntry x + uptoBulkEntries r
def uptoBulkEntry {H : Type} : Lit × DataW H → Nat
  | (.string bytes, d) => bytes.length + uptoBulk d + 1
  | (_, d) => uptoBulk d + 1
 end
def uptoSmall : (H : Type) → List (DataW H) → Bool := fun _ ds => decide (uptoBulkAll ds ≤ 1048576)
def OpenSpec.upto (s : _root_.Go.ChangeSpec) : _root_.Go.OpenSpec := { _root_.Go.OpenSpec.ofChange s with cond := some uptoSmall }

/-- 'rabbetlaw04.HangLong', WHERE WHAT IT READS IS OF BULK AT MOST 1048576: true; the input reads as it did. -/
def hangLongUptoRow : OpenClaim := { program := "ytojjpbeaifiejaa", sum := "81277bd5beb545def1923bed4b4d5a42c44dfba9cc1f9e7592792d5c7f73c056", func := "rabbet/rabbetlaw04.HangLong", spec := "hangLong", inPlace := ["internal/bytealg.IndexByte", "internal/bytealg.Index"], unfollowed := true, recurses := true, named := ["internal/bytealg.MaxLen"], apart := false, narrowed := true }
def HangLongUptoSaid : Prop := hangLongUptoRow.holds Try.pinned (OpenSpec.upto hangLongSpec)

/-- 'rabbetlaw04.HangSets', WHERE WHAT IT READS IS OF BULK AT MOST 1048576: true; the input reads as it did. -/
def hangSetsUptoRow : OpenClaim := { program := "ytojjpbeaifiejaa", sum := "81277bd5beb545def1923bed4b4d5a42c44dfba9cc1f9e7592792d5c7f73c056", func := "rabbet/rabbetlaw04.HangSets", spec := "hangSets", inPlace := ["internal/bytealg.IndexByte", "internal/bytealg.Index"], unfollowed := true, recurses := true, named := ["internal/bytealg.MaxLen"], apart := false, narrowed := true }
def HangSetsUptoSaid : Prop := hangSetsUptoRow.holds Try.pinned (OpenSpec.upto hangSetsSpec)

/-- 'rabbetlaw04.HangTen', WHERE WHAT IT READS IS OF BULK AT MOST 1048576: true; the input reads as it did. -/
def hangTenUptoRow : OpenClaim := { program := "ytojjpbeaifiejaa", sum := "81277bd5beb545def1923bed4b4d5a42c44dfba9cc1f9e7592792d5c7f73c056", func := "rabbet/rabbetlaw04.HangTen", spec := "hangTen", inPlace := ["internal/bytealg.IndexByte", "internal/bytealg.Index"], unfollowed := true, recurses := true, named := ["internal/bytealg.MaxLen"], apart := false, narrowed := true }
def HangTenUptoSaid : Prop := hangTenUptoRow.holds Try.pinned (OpenSpec.upto hangTenSpec)

/-- 'rabbetlaw04.HangRoots', WHERE WHAT IT READS IS OF BULK AT MOST 1048576: true; the input reads as it did. -/
def hangRootsUptoRow : OpenClaim := { program := "ytojjpbeaifiejaa", sum := "81277bd5beb545def1923bed4b4d5a42c44dfba9cc1f9e7592792d5c7f73c056", func := "rabbet/rabbetlaw04.HangRoots", spec := "hangRoots", inPlace := ["internal/bytealg.IndexByte", "internal/bytealg.Index"], unfollowed := true, recurses := true, named := ["internal/bytealg.MaxLen"], apart := false, narrowed := true }
def HangRootsUptoSaid : Prop := hangRootsUptoRow.holds Try.pinned (OpenSpec.upto hangRootsSpec)

/-- 'rabbetlaw04.HangTurns', WHERE WHAT IT READS IS OF BULK AT MOST 1048576: true; the input reads as it did. -/
def hangTurnsUptoRow : OpenClaim := { program := "ytojjpbeaifiejaa", sum := "81277bd5beb545def1923bed4b4d5a42c44dfba9cc1f9e7592792d5c7f73c056", func := "rabbet/rabbetlaw04.HangTurns", spec := "hangTurns", inPlace := ["internal/bytealg.IndexByte", "internal/bytealg.Index"], unfollowed := true, recurses := true, named := ["internal/bytealg.MaxLen"], apart := false, narrowed := true }
def HangTurnsUptoSaid : Prop := hangTurnsUptoRow.holds Try.pinned (OpenSpec.upto hangTurnsSpec)

/-- 'rabbetlaw04.HangBack', WHERE WHAT IT READS IS OF BULK AT MOST 1048576: true; the input reads as it did. -/
def hangBackUptoRow : OpenClaim := { program := "ytojjpbeaifiejaa", sum := "81277bd5beb545def1923bed4b4d5a42c44dfba9cc1f9e7592792d5c7f73c056", func := "rabbet/rabbetlaw04.HangBack", spec := "hangBack", inPlace := ["internal/bytealg.IndexByte", "internal/bytealg.Index"], unfollowed := true, recurses := true, named := ["internal/bytealg.MaxLen"], apart := false, narrowed := true }
def HangBackUptoSaid : Prop := hangBackUptoRow.holds Try.pinned (OpenSpec.upto hangBackSpec)

/-- 'rabbetlaw04.HangWires', WHERE WHAT IT READS IS OF BULK AT MOST 1048576: true; the input reads as it did. -/
def hangWiresUptoRow : OpenClaim := { program := "ytojjpbeaifiejaa", sum := "81277bd5beb545def1923bed4b4d5a42c44dfba9cc1f9e7592792d5c7f73c056", func := "rabbet/rabbetlaw04.HangWires", spec := "hangWires", inPlace := ["internal/bytealg.IndexByte", "internal/bytealg.Index"], unfollowed := true, recurses := true, named := ["internal/bytealg.MaxLen"], apart := false, narrowed := true }
def HangWiresUptoSaid : Prop := hangWiresUptoRow.holds Try.pinned (OpenSpec.upto hangWiresSpec)

/-- 'rabbetlaw04.HangCommutes', WHERE WHAT IT READS IS OF BULK AT MOST 1048576: true; the input reads as it did. -/
def hangCommutesUptoRow : OpenClaim := { program := "ytojjpbeaifiejaa", sum := "81277bd5beb545def1923bed4b4d5a42c44dfba9cc1f9e7592792d5c7f73c056", func := "rabbet/rabbetlaw04.HangCommutes", spec := "hangCommutes", inPlace := ["internal/bytealg.IndexByte", "internal/bytealg.Index"], unfollowed := true, recurses := true, named := ["internal/bytealg.MaxLen"], apart := false, narrowed := true }
def HangCommutesUptoSaid : Prop := hangCommutesUptoRow.holds Try.pinned (OpenSpec.upto hangCommutesSpec)

end Rows
end Go.Proofs.Ytojjpbeaifiejaa

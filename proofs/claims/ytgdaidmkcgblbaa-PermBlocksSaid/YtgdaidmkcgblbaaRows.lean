/-
  NARROWER THAN 'FOR EVERY INPUT', by the rows' own cells (each row's printed sentence says how): PermBlocks: loops.
  DERIVED. THE GIVEN ROWS OF THIS SEAT. 11 by the template 'for every input the law returns true; each argument reads behind the call as it read before'; 0 by the template 'total and deterministic' (their statements: YtgdaidmkcgblbaaTotals.lean).
  GIVEN WITH THE SEED: the statements are not yours to turn. If you find one false, say at which input.
  Laid BY PROGRAM, IN A SANDBOX (cutbox-rows.mjs): the forced cells as the released guide's own fill.sh prints them over the translation 348bd66d17b4f8a3… (all of the seat's roots in one cut). By AI agents, Wed Nov 11 2026. No macro, syntax, notation, axiom, sorry.
-/
import Derived.Test.YtgdaidmkcgblbaaChecked
import GoSem.Claim
import GoSem.ClaimJoined
import GoSem.ClaimMapViews
import Derived.JoinedTies
import Derived.KernelRfl
namespace Go.Proofs.Ytgdaidmkcgblbaa
/- THE CELL 'sum', in the pinned program and in every row, IS THE sha256 OF THE DUMP (.gsa) THAT YtgdaidmkcgblbaaProg.lean LOADS. Nothing in Lean hashes anything: it is a label: what it is worth is what the hold of that sum in a sandbox is worth. -/
noncomputable def Try.pinned : Pinned := { name := "ytgdaidmkcgblbaa", sum := "348bd66d17b4f8a3d62f6f7be7833bbf42cad871cd0faa0099a50297fbd32c18", checked := Try.checked }
namespace Rows
def none {H : Type} : Left H := { results := [], args := [] }

/-- 'rabbetlaw02.PermChecks': WHATEVER THE INPUT: true; the input reads as it did. -/
def permChecksSpec : ChangeSpec := { name := "permChecks", fn := fun _ => fun
  | [d1, d2] => { results := [.lit (.bool true)], args := [d1, d2] }
  | _ => none }
def permChecksRow : OpenClaim := { program := "ytgdaidmkcgblbaa", sum := "348bd66d17b4f8a3d62f6f7be7833bbf42cad871cd0faa0099a50297fbd32c18", func := "rabbet/rabbetlaw02.PermChecks", spec := "permChecks", unfollowed := true, recurses := true, apart := false }
def PermChecksSaid : Prop := permChecksRow.holds Try.pinned (OpenSpec.ofChange permChecksSpec)

/-- ITS FALSE NEIGHBOUR: 'it returns false'. Refute it at one input. -/
def permChecksWrong : ChangeSpec := { name := "permChecks", fn := fun _ => fun
  | [d1, d2] => { results := [.lit (.bool false)], args := [d1, d2] }
  | _ => none }
def PermChecksWrongFalsely : Prop := permChecksRow.holds Try.pinned (OpenSpec.ofChange permChecksWrong)

/-- 'rabbetlaw02.PermCodes': WHATEVER THE INPUT: true; the input reads as it did. -/
def permCodesSpec : ChangeSpec := { name := "permCodes", fn := fun _ => fun
  | [d1, d2, d3] => { results := [.lit (.bool true)], args := [d1, d2, d3] }
  | _ => none }
def permCodesRow : OpenClaim := { program := "ytgdaidmkcgblbaa", sum := "348bd66d17b4f8a3d62f6f7be7833bbf42cad871cd0faa0099a50297fbd32c18", func := "rabbet/rabbetlaw02.PermCodes", spec := "permCodes", unfollowed := true, recurses := true, apart := false }
def PermCodesSaid : Prop := permCodesRow.holds Try.pinned (OpenSpec.ofChange permCodesSpec)

/-- ITS FALSE NEIGHBOUR: 'it returns false'. Refute it at one input. -/
def permCodesWrong : ChangeSpec := { name := "permCodes", fn := fun _ => fun
  | [d1, d2, d3] => { results := [.lit (.bool false)], args := [d1, d2, d3] }
  | _ => none }
def PermCodesWrongFalsely : Prop := permCodesRow.holds Try.pinned (OpenSpec.ofChange permCodesWrong)

/-- 'rabbetlaw02.PermOrders': WHATEVER THE INPUT: true; the input reads as it did. -/
def permOrdersSpec : ChangeSpec := { name := "permOrders", fn := fun _ => fun
  | [d1, d2] => { results := [.lit (.bool true)], args := [d1, d2] }
  | _ => none }
def permOrdersRow : OpenClaim := { program := "ytgdaidmkcgblbaa", sum := "348bd66d17b4f8a3d62f6f7be7833bbf42cad871cd0faa0099a50297fbd32c18", func := "rabbet/rabbetlaw02.PermOrders", spec := "permOrders", unfollowed := true, recurses := true, apart := false }
def PermOrdersSaid : Prop := permOrdersRow.holds Try.pinned (OpenSpec.ofChange permOrdersSpec)

/-- ITS FALSE NEIGHBOUR: 'it returns false'. Refute it at one input. -/
def permOrdersWrong : ChangeSpec := { name := "permOrders", fn := fun _ => fun
  | [d1, d2] => { results := [.lit (.bool false)], args := [d1, d2] }
  | _ => none }
def PermOrdersWrongFalsely : Prop := permOrdersRow.holds Try.pinned (OpenSpec.ofChange permOrdersWrong)

/-- 'rabbetlaw02.PermFinds': WHATEVER THE INPUT: true; the input reads as it did. -/
def permFindsSpec : ChangeSpec := { name := "permFinds", fn := fun _ => fun
  | [d1, d2, d3] => { results := [.lit (.bool true)], args := [d1, d2, d3] }
  | _ => none }
def permFindsRow : OpenClaim := { program := "ytgdaidmkcgblbaa", sum := "348bd66d17b4f8a3d62f6f7be7833bbf42cad871cd0faa0099a50297fbd32c18", func := "rabbet/rabbetlaw02.PermFinds", spec := "permFinds", unfollowed := true, recurses := true, apart := false }
def PermFindsSaid : Prop := permFindsRow.holds Try.pinned (OpenSpec.ofChange permFindsSpec)

/-- ITS FALSE NEIGHBOUR: 'it returns false'. Refute it at one input. -/
def permFindsWrong : ChangeSpec := { name := "permFinds", fn := fun _ => fun
  | [d1, d2, d3] => { results := [.lit (.bool false)], args := [d1, d2, d3] }
  | _ => none }
def PermFindsWrongFalsely : Prop := permFindsRow.holds Try.pinned (OpenSpec.ofChange permFindsWrong)

/-- 'rabbetlaw02.PermBlocks': WHATEVER THE INPUT: true; the input reads as it did. -/
def permBlocksSpec : ChangeSpec := { name := "permBlocks", fn := fun _ => fun
  | [d1, d2] => { results := [.lit (.bool true)], args := [d1, d2] }
  | _ => none }
def permBlocksRow : OpenClaim := { program := "ytgdaidmkcgblbaa", sum := "348bd66d17b4f8a3d62f6f7be7833bbf42cad871cd0faa0099a50297fbd32c18", func := "rabbet/rabbetlaw02.PermBlocks", spec := "permBlocks", unfollowed := true, recurses := true, loops := true, apart := false }
def PermBlocksSaid : Prop := permBlocksRow.holds Try.pinned (OpenSpec.ofChange permBlocksSpec)

/-- ITS FALSE NEIGHBOUR: 'it returns false'. Refute it at one input. -/
def permBlocksWrong : ChangeSpec := { name := "permBlocks", fn := fun _ => fun
  | [d1, d2] => { results := [.lit (.bool false)], args := [d1, d2] }
  | _ => none }
def PermBlocksWrongFalsely : Prop := permBlocksRow.holds Try.pinned (OpenSpec.ofChange permBlocksWrong)

/-- 'rabbetlaw02.PermDeep': WHATEVER THE INPUT: true; the input reads as it did. -/
def permDeepSpec : ChangeSpec := { name := "permDeep", fn := fun _ => fun
  | [d1, d2] => { results := [.lit (.bool true)], args := [d1, d2] }
  | _ => none }
def permDeepRow : OpenClaim := { program := "ytgdaidmkcgblbaa", sum := "348bd66d17b4f8a3d62f6f7be7833bbf42cad871cd0faa0099a50297fbd32c18", func := "rabbet/rabbetlaw02.PermDeep", spec := "permDeep", unfollowed := true, recurses := true, apart := false }
def PermDeepSaid : Prop := permDeepRow.holds Try.pinned (OpenSpec.ofChange permDeepSpec)

/-- ITS FALSE NEIGHBOUR: 'it returns false'. Refute it at one input. -/
def permDeepWrong : ChangeSpec := { name := "permDeep", fn := fun _ => fun
  | [d1, d2] => { results := [.lit (.bool false)], args := [d1, d2] }
  | _ => none }
def PermDeepWrongFalsely : Prop := permDeepRow.holds Try.pinned (OpenSpec.ofChange permDeepWrong)

/-- 'rabbetlaw02.PermBaxters': WHATEVER THE INPUT: true; the input reads as it did. -/
def permBaxtersSpec : ChangeSpec := { name := "permBaxters", fn := fun _ => fun
  | [d1, d2] => { results := [.lit (.bool true)], args := [d1, d2] }
  | _ => none }
def permBaxtersRow : OpenClaim := { program := "ytgdaidmkcgblbaa", sum := "348bd66d17b4f8a3d62f6f7be7833bbf42cad871cd0faa0099a50297fbd32c18", func := "rabbet/rabbetlaw02.PermBaxters", spec := "permBaxters", unfollowed := true, recurses := true, apart := false }
def PermBaxtersSaid : Prop := permBaxtersRow.holds Try.pinned (OpenSpec.ofChange permBaxtersSpec)

/-- ITS FALSE NEIGHBOUR: 'it returns false'. Refute it at one input. -/
def permBaxtersWrong : ChangeSpec := { name := "permBaxters", fn := fun _ => fun
  | [d1, d2] => { results := [.lit (.bool false)], args := [d1, d2] }
  | _ => none }
def PermBaxtersWrongFalsely : Prop := permBaxtersRow.holds Try.pinned (OpenSpec.ofChange permBaxtersWrong)

/-- 'rabbetlaw02.PermCounts': WHATEVER THE INPUT: true; the input reads as it did. -/
def permCountsSpec : ChangeSpec := { name := "permCounts", fn := fun _ => fun
  | [d] => { results := [.lit (.bool true)], args := [d] }
  | _ => none }
def permCountsRow : OpenClaim := { program := "ytgdaidmkcgblbaa", sum := "348bd66d17b4f8a3d62f6f7be7833bbf42cad871cd0faa0099a50297fbd32c18", func := "rabbet/rabbetlaw02.PermCounts", spec := "permCounts", unfollowed := true, recurses := true, apart := false }
def PermCountsSaid : Prop := permCountsRow.holds Try.pinned (OpenSpec.ofChange permCountsSpec)

/-- ITS FALSE NEIGHBOUR: 'it returns false'. Refute it at one input. -/
def permCountsWrong : ChangeSpec := { name := "permCounts", fn := fun _ => fun
  | [d] => { results := [.lit (.bool false)], args := [d] }
  | _ => none }
def PermCountsWrongFalsely : Prop := permCountsRow.holds Try.pinned (OpenSpec.ofChange permCountsWrong)

/-- 'rabbetlaw02.PermKnuth': WHATEVER THE INPUT: true; the input reads as it did. -/
def permKnuthSpec : ChangeSpec := { name := "permKnuth", fn := fun _ => fun
  | [d] => { results := [.lit (.bool true)], args := [d] }
  | _ => none }
def permKnuthRow : OpenClaim := { program := "ytgdaidmkcgblbaa", sum := "348bd66d17b4f8a3d62f6f7be7833bbf42cad871cd0faa0099a50297fbd32c18", func := "rabbet/rabbetlaw02.PermKnuth", spec := "permKnuth", unfollowed := true, recurses := true, apart := false }
def PermKnuthSaid : Prop := permKnuthRow.holds Try.pinned (OpenSpec.ofChange permKnuthSpec)

/-- ITS FALSE NEIGHBOUR: 'it returns false'. Refute it at one input. -/
def permKnuthWrong : ChangeSpec := { name := "permKnuth", fn := fun _ => fun
  | [d] => { results := [.lit (.bool false)], args := [d] }
  | _ => none }
def PermKnuthWrongFalsely : Prop := permKnuthRow.holds Try.pinned (OpenSpec.ofChange permKnuthWrong)

/-- 'rabbetlaw02.PermLattice': WHATEVER THE INPUT: true; the input reads as it did. -/
def permLatticeSpec : ChangeSpec := { name := "permLattice", fn := fun _ => fun
  | [d1, d2, d3] => { results := [.lit (.bool true)], args := [d1, d2, d3] }
  | _ => none }
def permLatticeRow : OpenClaim := { program := "ytgdaidmkcgblbaa", sum := "348bd66d17b4f8a3d62f6f7be7833bbf42cad871cd0faa0099a50297fbd32c18", func := "rabbet/rabbetlaw02.PermLattice", spec := "permLattice", unfollowed := true, recurses := true, apart := false }
def PermLatticeSaid : Prop := permLatticeRow.holds Try.pinned (OpenSpec.ofChange permLatticeSpec)

/-- ITS FALSE NEIGHBOUR: 'it returns false'. Refute it at one input. -/
def permLatticeWrong : ChangeSpec := { name := "permLattice", fn := fun _ => fun
  | [d1, d2, d3] => { results := [.lit (.bool false)], args := [d1, d2, d3] }
  | _ => none }
def PermLatticeWrongFalsely : Prop := permLatticeRow.holds Try.pinned (OpenSpec.ofChange permLatticeWrong)

/-- 'rabbetlaw02.PermTrees': WHATEVER THE INPUT: true; the input reads as it did. -/
def permTreesSpec : ChangeSpec := { name := "permTrees", fn := fun _ => fun
  | [d] => { results := [.lit (.bool true)], args := [d] }
  | _ => none }
def permTreesRow : OpenClaim := { program := "ytgdaidmkcgblbaa", sum := "348bd66d17b4f8a3d62f6f7be7833bbf42cad871cd0faa0099a50297fbd32c18", func := "rabbet/rabbetlaw02.PermTrees", spec := "permTrees", unfollowed := true, recurses := true, apart := false }
def PermTreesSaid : Prop := permTreesRow.holds Try.pinned (OpenSpec.ofChange permTreesSpec)

/-- ITS FALSE NEIGHBOUR: 'it returns false'. Refute it at one input. -/
def permTreesWrong : ChangeSpec := { name := "permTrees", fn := fun _ => fun
  | [d] => { results := [.lit (.bool false)], args := [d] }
  | _ => none }
def PermTreesWrongFalsely : Prop := permTreesRow.holds Try.pinned (OpenSpec.ofChange permTreesWrong)

/- THE SECOND FORM. 'bulk': how many values and letters a reading holds, each counted each time it is reached (what is shared counts as often as it is met; a slice's spare places count too). A statement '..UptoSaid' is the law's where the arguments, and the package variables that the reading takes, are together of bulk at most 1048576: NARROWER than '..Said'. Prove '..Said' where nothing that the law and all that it calls make is longer than what came in: it says more and counts as full. Else prove '..UptoSaid'. A law counts once. -/
mutual
def uptoBulk {H : Type} : DataW H → Nat
  | .lit (.string bytes) => bytes.length + 1
  | .lit _ => 1
  | .nil => 1
  | .ptr d => uptoBulk d + 1
  | .slice elems spare => uptoBulkAll elems + uptoBulkAll spare + 1
  | .agg parts => uptoBulkAll parts + 1
  | .iface _ d => uptoBulk d + 1
  | .map entries => uptoBulkEntries entries + 1
  | .held _ => 1
def uptoBulkAll {H : Type} : List (DataW H) → Nat
  | [] => 0
  | d :: r => uptoBulk d + uptoBulkAll r
def uptoBulkEntries {H : Type} : List (Lit × DataW H) → Nat
  | [] => 0
  | x :: r => uptoBulkEntry x + uptoBulkEntries r
def uptoBulkEntry {H : Type} : Lit × DataW H → Nat
  | (.string bytes, d) => bytes.length + uptoBulk d + 1
  | (_, d) => uptoBulk d + 1
 end
def uptoSmall : (H : Type) → List (DataW H) → Bool := fun _ ds => decide (uptoBulkAll ds ≤ 1048576)
def OpenSpec.upto (s : _root_.Go.ChangeSpec) : _root_.Go.OpenSpec := { _root_.Go.OpenSpec.ofChange s with cond := some uptoSmall }

/-- 'rabbetlaw02.PermChecks', WHERE WHAT IT READS IS OF BULK AT MOST 1048576: true; the input reads as it did. -/
def permChecksUptoRow : OpenClaim := { program := "ytgdaidmkcgblbaa", sum := "348bd66d17b4f8a3d62f6f7be7833bbf42cad871cd0faa0099a50297fbd32c18", func := "rabbet/rabbetlaw02.PermChecks", spec := "permChecks", unfollowed := true, recurses := true, apart := false, narrowed := true }
def PermChecksUptoSaid : Prop := permChecksUptoRow.holds Try.pinned (OpenSpec.upto permChecksSpec)

/-- 'rabbetlaw02.PermCodes', WHERE WHAT IT READS IS OF BULK AT MOST 1048576: true; the input reads as it did. -/
def permCodesUptoRow : OpenClaim := { program := "ytgdaidmkcgblbaa", sum := "348bd66d17b4f8a3d62f6f7be7833bbf42cad871cd0faa0099a50297fbd32c18", func := "rabbet/rabbetlaw02.PermCodes", spec := "permCodes", unfollowed := true, recurses := true, apart := false, narrowed := true }
def PermCodesUptoSaid : Prop := permCodesUptoRow.holds Try.pinned (OpenSpec.upto permCodesSpec)

/-- 'rabbetlaw02.PermOrders', WHERE WHAT IT READS IS OF BULK AT MOST 1048576: true; the input reads as it did. -/
def permOrdersUptoRow : OpenClaim := { program := "ytgdaidmkcgblbaa", sum := "348bd66d17b4f8a3d62f6f7be7833bbf42cad871cd0faa0099a50297fbd32c18", func := "rabbet/rabbetlaw02.PermOrders", spec := "permOrders", unfollowed := true, recurses := true, apart := false, narrowed := true }
def PermOrdersUptoSaid : Prop := permOrdersUptoRow.holds Try.pinned (OpenSpec.upto permOrdersSpec)

/-- 'rabbetlaw02.PermFinds', WHERE WHAT IT READS IS OF BULK AT MOST 1048576: true; the input reads as it did. -/
def permFindsUptoRow : OpenClaim := { program := "ytgdaidmkcgblbaa", sum := "348bd66d17b4f8a3d62f6f7be7833bbf42cad871cd0faa0099a50297fbd32c18", func := "rabbet/rabbetlaw02.PermFinds", spec := "permFinds", unfollowed := true, recurses := true, apart := false, narrowed := true }
def PermFindsUptoSaid : Prop := permFindsUptoRow.holds Try.pinned (OpenSpec.upto permFindsSpec)

/-- 'rabbetlaw02.PermBlocks', WHERE WHAT IT READS IS OF BULK AT MOST 1048576: true; the input reads as it did. -/
def permBlocksUptoRow : OpenClaim := { program := "ytgdaidmkcgblbaa", sum := "348bd66d17b4f8a3d62f6f7be7833bbf42cad871cd0faa0099a50297fbd32c18", func := "rabbet/rabbetlaw02.PermBlocks", spec := "permBlocks", unfollowed := true, recurses := true, loops := true, apart := false, narrowed := true }
def PermBlocksUptoSaid : Prop := permBlocksUptoRow.holds Try.pinned (OpenSpec.upto permBlocksSpec)

/-- 'rabbetlaw02.PermDeep', WHERE WHAT IT READS IS OF BULK AT MOST 1048576: true; the input reads as it did. -/
def permDeepUptoRow : OpenClaim := { program := "ytgdaidmkcgblbaa", sum := "348bd66d17b4f8a3d62f6f7be7833bbf42cad871cd0faa0099a50297fbd32c18", func := "rabbet/rabbetlaw02.PermDeep", spec := "permDeep", unfollowed := true, recurses := true, apart := false, narrowed := true }
def PermDeepUptoSaid : Prop := permDeepUptoRow.holds Try.pinned (OpenSpec.upto permDeepSpec)

/-- 'rabbetlaw02.PermBaxters', WHERE WHAT IT READS IS OF BULK AT MOST 1048576: true; the input reads as it did. -/
def permBaxtersUptoRow : OpenClaim := { program := "ytgdaidmkcgblbaa", sum := "348bd66d17b4f8a3d62f6f7be7833bbf42cad871cd0faa0099a50297fbd32c18", func := "rabbet/rabbetlaw02.PermBaxters", spec := "permBaxters", unfollowed := true, recurses := true, apart := false, narrowed := true }
def PermBaxtersUptoSaid : Prop := permBaxtersUptoRow.holds Try.pinned (OpenSpec.upto permBaxtersSpec)

/-- 'rabbetlaw02.PermCounts', WHERE WHAT IT READS IS OF BULK AT MOST 1048576: true; the input reads as it did. -/
def permCountsUptoRow : OpenClaim := { program := "ytgdaidmkcgblbaa", sum := "348bd66d17b4f8a3d62f6f7be7833bbf42cad871cd0faa0099a50297fbd32c18", func := "rabbet/rabbetlaw02.PermCounts", spec := "permCounts", unfollowed := true, recurses := true, apart := false, narrowed := true }
def PermCountsUptoSaid : Prop := permCountsUptoRow.holds Try.pinned (OpenSpec.upto permCountsSpec)

/-- 'rabbetlaw02.PermKnuth', WHERE WHAT IT READS IS OF BULK AT MOST 1048576: true; the input reads as it did. -/
def permKnuthUptoRow : OpenClaim := { program := "ytgdaidmkcgblbaa", sum := "348bd66d17b4f8a3d62f6f7be7833bbf42cad871cd0faa0099a50297fbd32c18", func := "rabbet/rabbetlaw02.PermKnuth", spec := "permKnuth", unfollowed := true, recurses := true, apart := false, narrowed := true }
def PermKnuthUptoSaid : Prop := permKnuthUptoRow.holds Try.pinned (OpenSpec.upto permKnuthSpec)

/-- 'rabbetlaw02.PermLattice', WHERE WHAT IT READS IS OF BULK AT MOST 1048576: true; the input reads as it did. -/
def permLatticeUptoRow : OpenClaim := { program := "ytgdaidmkcgblbaa", sum := "348bd66d17b4f8a3d62f6f7be7833bbf42cad871cd0faa0099a50297fbd32c18", func := "rabbet/rabbetlaw02.PermLattice", spec := "permLattice", unfollowed := true, recurses := true, apart := false, narrowed := true }
def PermLatticeUptoSaid : Prop := permLatticeUptoRow.holds Try.pinned (OpenSpec.upto permLatticeSpec)

/-- 'rabbetlaw02.PermTrees', WHERE WHAT IT READS IS OF BULK AT MOST 1048576: true; the input reads as it did. -/
def permTreesUptoRow : OpenClaim := { program := "ytgdaidmkcgblbaa", sum := "348bd66d17b4f8a3d62f6f7be7833bbf42cad871cd0faa0099a50297fbd32c18", func := "rabbet/rabbetlaw02.PermTrees", spec := "permTrees", unfollowed := true, recurses := true, apart := false, narrowed := true }
def PermTreesUptoSaid : Prop := permTreesUptoRow.holds Try.pinned (OpenSpec.upto permTreesSpec)

end Rows
end Go.Proofs.Ytgdaidmkcgblbaa

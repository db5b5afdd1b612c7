/-
  DERIVED. GIVEN WITH THE SEED: THE CARDS: each row of YtemcdnppgnobmaaGreatDoorRows.lean that lists a variable, with what it lists TIED to the program's text (the seventh form; the later family's looks); each row that meets fmt, with fmt's text TOLD by the authors' own Lean function (tested against real Go, not proved from fmt's source: count such statements apart). THE CARD IS WHAT COUNTS. Prove the row's statement (the work); the ties are given (YtemcdnppgnobmaaGreatDoorTie.lean); close each card by the builder's one call (the guide's Derived/Test/ToyasCard.lean, 'card_holds'). Laid BY PROGRAM, IN A SANDBOX (cutbox-door.mjs). By AI agents, Wed Nov 11 2026. No macro, syntax, notation, axiom, sorry.
-/
import Derived.Test.YtemcdnppgnobmaaGreatDoorRows
import GoSem.ClaimSeven
namespace Go.Proofs.YtemcdnppgnobmaaGreatDoor
namespace Rows

/-- THE TIED CARD OF 'rabbetlaw01.FracWholes'. -/
def fracWholesCard : Claim7 := { stood := { row := fracWholesRow, standIns := [], harness := (true, "619d332e3cd445c034a96733ea42a48a4c5db9318aeef3394d9327290e778c3f"), looks := false }, kinds := [], alts := [], laidByText := true, laidKinds := [.data, .data, .data], laidTests := true, laidLooks := .later }
def FracWholesCardSaid : Prop := Claim7.holds Tryz.pinned (.plain (OpenSpec.ofChange fracWholesSpec)) fracWholesCard

/-- THE SECOND FORM's CARD OF 'rabbetlaw01.FracWholes'. -/
def fracWholesUptoCard : Claim7 := { stood := { row := fracWholesUptoRow, standIns := [], harness := (true, "619d332e3cd445c034a96733ea42a48a4c5db9318aeef3394d9327290e778c3f"), looks := false }, kinds := [], alts := [], laidByText := true, laidKinds := [.data, .data, .data], laidTests := true, laidLooks := .later }
def FracWholesUptoCardSaid : Prop := Claim7.holds Tryz.pinned (.plain (OpenSpec.upto fracWholesSpec)) fracWholesUptoCard
end Rows
end Go.Proofs.YtemcdnppgnobmaaGreatDoor

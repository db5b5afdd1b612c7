/-
  DERIVED. GIVEN WITH THE SEED: THE CARDS: each row of YtkdalgdckgmccaaGreatDoorRows.lean that lists a variable, with what it lists TIED to the program's text (the seventh form; the later family's looks); each row that meets fmt, with fmt's text TOLD by the authors' own Lean function (tested against real Go, not proved from fmt's source: count such statements apart). THE CARD IS WHAT COUNTS. Prove the row's statement (the work); the ties are given (YtkdalgdckgmccaaGreatDoorTie.lean); close each card by the builder's one call (the guide's Derived/Test/ToyasCard.lean, 'card_holds'). Laid BY PROGRAM, IN A SANDBOX (cutbox-door.mjs). By AI agents, Wed Nov 11 2026. No macro, syntax, notation, axiom, sorry.
-/
import Derived.Test.YtkdalgdckgmccaaGreatDoorRows
import GoSem.ClaimSeven
namespace Go.Proofs.YtkdalgdckgmccaaGreatDoor
namespace Rows

/-- THE TIED CARD OF 'rabbetlaw04.HangWords'. -/
def hangWordsCard : Claim7 := { stood := { row := hangWordsRow, standIns := [], harness := (true, "f0b0f1e7468b95fc12d5264e50f1dd2f2e7277a24ea2efe71a453f8bd5c5a13a"), looks := false }, kinds := [], alts := [], laidByText := true, laidKinds := [.data, .pinned, .pinned], laidTests := true, laidLooks := .later }
def HangWordsCardSaid : Prop := Claim7.holds Tryz.pinned (.plain (OpenSpec.ofChange hangWordsSpec)) hangWordsCard

/-- THE SECOND FORM's CARD OF 'rabbetlaw04.HangWords'. -/
def hangWordsUptoCard : Claim7 := { stood := { row := hangWordsUptoRow, standIns := [], harness := (true, "f0b0f1e7468b95fc12d5264e50f1dd2f2e7277a24ea2efe71a453f8bd5c5a13a"), looks := false }, kinds := [], alts := [], laidByText := true, laidKinds := [.data, .pinned, .pinned], laidTests := true, laidLooks := .later }
def HangWordsUptoCardSaid : Prop := Claim7.holds Tryz.pinned (.plain (OpenSpec.upto hangWordsSpec)) hangWordsUptoCard
end Rows
end Go.Proofs.YtkdalgdckgmccaaGreatDoor

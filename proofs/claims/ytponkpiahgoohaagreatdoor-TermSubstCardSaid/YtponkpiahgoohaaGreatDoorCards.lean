/-
  DERIVED. GIVEN WITH THE SEED: THE CARDS: each row of YtponkpiahgoohaaGreatDoorRows.lean that lists a variable, with what it lists TIED to the program's text (the seventh form; the later family's looks); each row that meets fmt, with fmt's text TOLD by the authors' own Lean function (tested against real Go, not proved from fmt's source: count such statements apart). THE CARD IS WHAT COUNTS. Prove the row's statement (the work); the ties are given (YtponkpiahgoohaaGreatDoorTie.lean); close each card by the builder's one call (the guide's Derived/Test/ToyasCard.lean, 'card_holds'). Laid BY PROGRAM, IN A SANDBOX (cutbox-door.mjs). By AI agents, Wed Nov 11 2026. No macro, syntax, notation, axiom, sorry.
-/
import Derived.Test.YtponkpiahgoohaaGreatDoorRows
import GoSem.ClaimSeven
namespace Go.Proofs.YtponkpiahgoohaaGreatDoor
namespace Rows

/-- THE TIED CARD OF 'whetstonelaw04.TermSubst'. -/
def termSubstCard : Claim7 := { stood := { row := termSubstRow, standIns := [], harness := (true, "b5414618d756840fe4983969845d8861ff5e1318fb963cb057e6a4b3ca1433e7"), looks := true }, kinds := [], alts := [], laidByText := true, laidKinds := [.data, .data, .data], laidTests := true, laidLooks := .later }
def TermSubstCardSaid : Prop := Claim7.holds Tryz.pinned (.plain (OpenSpec.ofChange termSubstSpec)) termSubstCard

/-- THE SECOND FORM's CARD OF 'whetstonelaw04.TermSubst'. -/
def termSubstUptoCard : Claim7 := { stood := { row := termSubstUptoRow, standIns := [], harness := (true, "b5414618d756840fe4983969845d8861ff5e1318fb963cb057e6a4b3ca1433e7"), looks := true }, kinds := [], alts := [], laidByText := true, laidKinds := [.data, .data, .data], laidTests := true, laidLooks := .later }
def TermSubstUptoCardSaid : Prop := Claim7.holds Tryz.pinned (.plain (OpenSpec.upto termSubstSpec)) termSubstUptoCard
end Rows
end Go.Proofs.YtponkpiahgoohaaGreatDoor

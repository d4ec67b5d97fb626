/-
  DERIVED. GIVEN WITH THE SEED: THE CARDS: each row of YthicoobhabighaaGreatDoorRows.lean that lists a variable, with what it lists TIED to the program's text (the seventh form; the later family's looks); each row that meets fmt, with fmt's text TOLD by the authors' own Lean function (tested against real Go, not proved from fmt's source: count such statements apart). THE CARD IS WHAT COUNTS. Prove the row's statement (the work); the ties are given (YthicoobhabighaaGreatDoorTie.lean); close each card by the builder's one call (the guide's Derived/Test/ToyasCard.lean, 'card_holds'). Laid BY PROGRAM, IN A SANDBOX (cutbox-door.mjs). By AI agents, Wed Nov 11 2026. No macro, syntax, notation, axiom, sorry.
-/
import Derived.Test.YthicoobhabighaaGreatDoorRows
import GoSem.ClaimSeven
namespace Go.Proofs.YthicoobhabighaaGreatDoor
namespace Rows

/-- THE TIED CARD OF 'whetstonelaw04.TermKeys'. -/
def termKeysCard : Claim7 := { stood := { row := termKeysRow, standIns := [], harness := (true, "a084caa5035435989e0e85242fda16e1f6089cf7de62af7517f94516fff33f22"), looks := true }, kinds := [], alts := [], laidByText := true, laidKinds := [.data, .data, .data, .sentinel, .sentinel], laidTests := true, laidLooks := .later }
def TermKeysCardSaid : Prop := Claim7.holds Tryz.pinned (.plain (OpenSpec.ofChange termKeysSpec)) termKeysCard

/-- THE TIED CARD OF 'whetstonelaw04.TermSubst'. -/
def termSubstCard : Claim7 := { stood := { row := termSubstRow, standIns := [], harness := (true, "a084caa5035435989e0e85242fda16e1f6089cf7de62af7517f94516fff33f22"), looks := true }, kinds := [], alts := [], laidByText := true, laidKinds := [.data, .data, .data], laidTests := true, laidLooks := .later }
def TermSubstCardSaid : Prop := Claim7.holds Tryz.pinned (.plain (OpenSpec.ofChange termSubstSpec)) termSubstCard

/-- THE SECOND FORM's CARD OF 'whetstonelaw04.TermKeys'. -/
def termKeysUptoCard : Claim7 := { stood := { row := termKeysUptoRow, standIns := [], harness := (true, "a084caa5035435989e0e85242fda16e1f6089cf7de62af7517f94516fff33f22"), looks := true }, kinds := [], alts := [], laidByText := true, laidKinds := [.data, .data, .data, .sentinel, .sentinel], laidTests := true, laidLooks := .later }
def TermKeysUptoCardSaid : Prop := Claim7.holds Tryz.pinned (.plain (OpenSpec.upto termKeysSpec)) termKeysUptoCard

/-- THE SECOND FORM's CARD OF 'whetstonelaw04.TermSubst'. -/
def termSubstUptoCard : Claim7 := { stood := { row := termSubstUptoRow, standIns := [], harness := (true, "a084caa5035435989e0e85242fda16e1f6089cf7de62af7517f94516fff33f22"), looks := true }, kinds := [], alts := [], laidByText := true, laidKinds := [.data, .data, .data], laidTests := true, laidLooks := .later }
def TermSubstUptoCardSaid : Prop := Claim7.holds Tryz.pinned (.plain (OpenSpec.upto termSubstSpec)) termSubstUptoCard
end Rows
end Go.Proofs.YthicoobhabighaaGreatDoor

/-
  DERIVED. GIVEN WITH THE SEED: THE CARDS: each row of YtbjcddfoajgebaaDoorRows.lean that lists a variable, with what it lists TIED to the program's text (the seventh form; the later family's looks); each row that meets fmt, with fmt's text TOLD by the authors' own Lean function (tested against real Go, not proved from fmt's source: count such statements apart). THE CARD IS WHAT COUNTS. Prove the row's statement (the work); the ties are given (YtbjcddfoajgebaaDoorTie.lean); close each card by the builder's one call (the guide's Derived/Test/ToyasCard.lean, 'card_holds'). Laid BY PROGRAM, IN A SANDBOX (cutbox-door.mjs). By AI agents, Wed Nov 11 2026. No macro, syntax, notation, axiom, sorry.
-/
import Derived.Test.YtbjcddfoajgebaaDoorRows
import GoSem.ClaimSeven
namespace Go.Proofs.YtbjcddfoajgebaaDoor
namespace Rows

/-- THE TIED CARD OF 'whetstonelaw01.NatEnds'. -/
def natEndsCard : Claim7 := { stood := { row := natEndsRow, standIns := [], harness := (true, "caae8658060dd39ad2a1e1123b3466e3acbd7ea9eaf342f0d988596c09494799"), looks := false }, kinds := [], alts := [], laidByText := true, laidKinds := [.data, .data, .data], laidTests := true, laidLooks := .later }
def NatEndsCardSaid : Prop := Claim7.holds Tryd.pinned (.plain (OpenSpec.ofChange natEndsSpec)) natEndsCard

/-- THE TIED CARD OF 'whetstonelaw02.NumTexts'. -/
def numTextsCard : Claim7 := { stood := { row := numTextsRow, standIns := [], harness := (true, "caae8658060dd39ad2a1e1123b3466e3acbd7ea9eaf342f0d988596c09494799"), looks := false }, kinds := [], alts := [], laidByText := true, laidKinds := [.data, .data, .data], laidTests := true, laidLooks := .later }
def NumTextsCardSaid : Prop := Claim7.holds Tryd.pinned (.plain (OpenSpec.ofChange numTextsSpec)) numTextsCard

/-- THE SECOND FORM's CARD OF 'whetstonelaw01.NatEnds'. -/
def natEndsUptoCard : Claim7 := { stood := { row := natEndsUptoRow, standIns := [], harness := (true, "caae8658060dd39ad2a1e1123b3466e3acbd7ea9eaf342f0d988596c09494799"), looks := false }, kinds := [], alts := [], laidByText := true, laidKinds := [.data, .data, .data], laidTests := true, laidLooks := .later }
def NatEndsUptoCardSaid : Prop := Claim7.holds Tryd.pinned (.plain (OpenSpec.upto natEndsSpec)) natEndsUptoCard

/-- THE SECOND FORM's CARD OF 'whetstonelaw02.NumTexts'. -/
def numTextsUptoCard : Claim7 := { stood := { row := numTextsUptoRow, standIns := [], harness := (true, "caae8658060dd39ad2a1e1123b3466e3acbd7ea9eaf342f0d988596c09494799"), looks := false }, kinds := [], alts := [], laidByText := true, laidKinds := [.data, .data, .data], laidTests := true, laidLooks := .later }
def NumTextsUptoCardSaid : Prop := Claim7.holds Tryd.pinned (.plain (OpenSpec.upto numTextsSpec)) numTextsUptoCard
end Rows
end Go.Proofs.YtbjcddfoajgebaaDoor

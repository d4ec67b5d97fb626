/-
  DERIVED. GIVEN WITH THE SEED: THE CARDS: each row of YtffcacpffamjfaaDoorRows.lean that lists a variable, with what it lists TIED to the program's text (the seventh form; the later family's looks); each row that meets fmt, with fmt's text TOLD by the authors' own Lean function (tested against real Go, not proved from fmt's source: count such statements apart). THE CARD IS WHAT COUNTS. Prove the row's statement (the work); the ties are given (YtffcacpffamjfaaDoorTie.lean); close each card by the builder's one call (the guide's Derived/Test/ToyasCard.lean, 'card_holds'). Laid BY PROGRAM, IN A SANDBOX (cutbox-door.mjs). By AI agents, Wed Nov 11 2026. No macro, syntax, notation, axiom, sorry.
-/
import Derived.Test.YtffcacpffamjfaaDoorRows
import GoSem.ClaimSeven
namespace Go.Proofs.YtffcacpffamjfaaDoor
namespace Rows

/-- THE TIED CARD OF 'whetstonelaw01.NatEnds'. -/
def natEndsCard : Claim7 := { stood := { row := natEndsRow, standIns := [], harness := (true, "2249618892d0e29f233c15b7c9fcfdbd0f317f635989adef08d9c7cbbd563437"), looks := false }, kinds := [], alts := [], laidByText := true, laidKinds := [.data, .data, .data], laidTests := true, laidLooks := .later }
def NatEndsCardSaid : Prop := Claim7.holds Tryd.pinned (.plain (OpenSpec.ofChange natEndsSpec)) natEndsCard

/-- THE SECOND FORM's CARD OF 'whetstonelaw01.NatEnds'. -/
def natEndsUptoCard : Claim7 := { stood := { row := natEndsUptoRow, standIns := [], harness := (true, "2249618892d0e29f233c15b7c9fcfdbd0f317f635989adef08d9c7cbbd563437"), looks := false }, kinds := [], alts := [], laidByText := true, laidKinds := [.data, .data, .data], laidTests := true, laidLooks := .later }
def NatEndsUptoCardSaid : Prop := Claim7.holds Tryd.pinned (.plain (OpenSpec.upto natEndsSpec)) natEndsUptoCard
end Rows
end Go.Proofs.YtffcacpffamjfaaDoor

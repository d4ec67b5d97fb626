/-
  DERIVED. GIVEN WITH THE SEED: THE CARDS: each row of YtnbhihhjgpddcaaGreatDoorRows.lean that lists a variable, with what it lists TIED to the program's text (the seventh form; the later family's looks); each row that meets fmt, with fmt's text TOLD by the authors' own Lean function (tested against real Go, not proved from fmt's source: count such statements apart). THE CARD IS WHAT COUNTS. Prove the row's statement (the work); the ties are given (YtnbhihhjgpddcaaGreatDoorTie.lean); close each card by the builder's one call (the guide's Derived/Test/ToyasCard.lean, 'card_holds'). Laid BY PROGRAM, IN A SANDBOX (cutbox-door.mjs). By AI agents, Wed Nov 11 2026. No macro, syntax, notation, axiom, sorry.
-/
import Derived.Test.YtnbhihhjgpddcaaGreatDoorRows
import GoSem.ClaimSeven
namespace Go.Proofs.YtnbhihhjgpddcaaGreatDoor
namespace Rows

/-- THE TIED CARD OF 'whetstonelaw03.RatioTells'. -/
def ratioTellsCard : Claim7 := { stood := { row := ratioTellsRow, standIns := [], harness := (true, "7da96b3822c450f95493c4cbd4dcdd9478ab7c5744561fae30a1ab4df79521ba"), looks := false }, kinds := [], alts := [], laidByText := true, laidKinds := [.data, .data, .data], laidTests := true, laidLooks := .later }
def RatioTellsCardSaid : Prop := Claim7.holds Tryz.pinned (.plain (OpenSpec.ofChange ratioTellsSpec)) ratioTellsCard

/-- THE TIED CARD OF 'whetstonelaw03.RatioSums'. -/
def ratioSumsCard : Claim7 := { stood := { row := ratioSumsRow, standIns := [], harness := (true, "7da96b3822c450f95493c4cbd4dcdd9478ab7c5744561fae30a1ab4df79521ba"), looks := false }, kinds := [], alts := [], laidByText := true, laidKinds := [.data, .data, .data], laidTests := true, laidLooks := .later }
def RatioSumsCardSaid : Prop := Claim7.holds Tryz.pinned (.plain (OpenSpec.ofChange ratioSumsSpec)) ratioSumsCard

/-- THE TIED CARD OF 'whetstonelaw03.RatioEnds'. -/
def ratioEndsCard : Claim7 := { stood := { row := ratioEndsRow, standIns := [], harness := (true, "7da96b3822c450f95493c4cbd4dcdd9478ab7c5744561fae30a1ab4df79521ba"), looks := false }, kinds := [], alts := [], laidByText := true, laidKinds := [.data, .data, .data], laidTests := true, laidLooks := .later }
def RatioEndsCardSaid : Prop := Claim7.holds Tryz.pinned (.plain (OpenSpec.ofChange ratioEndsSpec)) ratioEndsCard

/-- THE SECOND FORM's CARD OF 'whetstonelaw03.RatioTells'. -/
def ratioTellsUptoCard : Claim7 := { stood := { row := ratioTellsUptoRow, standIns := [], harness := (true, "7da96b3822c450f95493c4cbd4dcdd9478ab7c5744561fae30a1ab4df79521ba"), looks := false }, kinds := [], alts := [], laidByText := true, laidKinds := [.data, .data, .data], laidTests := true, laidLooks := .later }
def RatioTellsUptoCardSaid : Prop := Claim7.holds Tryz.pinned (.plain (OpenSpec.upto ratioTellsSpec)) ratioTellsUptoCard

/-- THE SECOND FORM's CARD OF 'whetstonelaw03.RatioSums'. -/
def ratioSumsUptoCard : Claim7 := { stood := { row := ratioSumsUptoRow, standIns := [], harness := (true, "7da96b3822c450f95493c4cbd4dcdd9478ab7c5744561fae30a1ab4df79521ba"), looks := false }, kinds := [], alts := [], laidByText := true, laidKinds := [.data, .data, .data], laidTests := true, laidLooks := .later }
def RatioSumsUptoCardSaid : Prop := Claim7.holds Tryz.pinned (.plain (OpenSpec.upto ratioSumsSpec)) ratioSumsUptoCard

/-- THE SECOND FORM's CARD OF 'whetstonelaw03.RatioEnds'. -/
def ratioEndsUptoCard : Claim7 := { stood := { row := ratioEndsUptoRow, standIns := [], harness := (true, "7da96b3822c450f95493c4cbd4dcdd9478ab7c5744561fae30a1ab4df79521ba"), looks := false }, kinds := [], alts := [], laidByText := true, laidKinds := [.data, .data, .data], laidTests := true, laidLooks := .later }
def RatioEndsUptoCardSaid : Prop := Claim7.holds Tryz.pinned (.plain (OpenSpec.upto ratioEndsSpec)) ratioEndsUptoCard
end Rows
end Go.Proofs.YtnbhihhjgpddcaaGreatDoor

/-
  DERIVED. GIVEN WITH THE SEED: THE CARDS: each row of YtlikpnaffpngiaaGreatDoorRows.lean that lists a variable, with what it lists TIED to the program's text (the seventh form; the later family's looks); each row that meets fmt, with fmt's text TOLD by the authors' own Lean function (tested against real Go, not proved from fmt's source: count such statements apart). THE CARD IS WHAT COUNTS. Prove the row's statement (the work); the ties are given (YtlikpnaffpngiaaGreatDoorTie.lean); close each card by the builder's one call (the guide's Derived/Test/ToyasCard.lean, 'card_holds'). Laid BY PROGRAM, IN A SANDBOX (cutbox-door.mjs). By AI agents, Wed Nov 11 2026. No macro, syntax, notation, axiom, sorry.
-/
import Derived.Test.YtlikpnaffpngiaaGreatDoorRows
import GoSem.ClaimSeven
namespace Go.Proofs.YtlikpnaffpngiaaGreatDoor
namespace Rows

/-- THE TIED CARD OF 'whetstonelaw08.CongBack'. -/
def congBackCard : Claim7 := { stood := { row := congBackRow, standIns := [], harness := (true, "5feadfd10e9813d0f9664b1e4658507ec78ea85400a768e3d43026dd14cfcdc5"), looks := true }, kinds := [], alts := [], laidByText := true, laidKinds := [.data, .data, .data, .sentinel, .sentinel], laidTests := true, laidLooks := .later }
def CongBackCardSaid : Prop := Claim7.holds Tryz.pinned (.plain (OpenSpec.ofChange congBackSpec)) congBackCard

/-- THE SECOND FORM's CARD OF 'whetstonelaw08.CongBack'. -/
def congBackUptoCard : Claim7 := { stood := { row := congBackUptoRow, standIns := [], harness := (true, "5feadfd10e9813d0f9664b1e4658507ec78ea85400a768e3d43026dd14cfcdc5"), looks := true }, kinds := [], alts := [], laidByText := true, laidKinds := [.data, .data, .data, .sentinel, .sentinel], laidTests := true, laidLooks := .later }
def CongBackUptoCardSaid : Prop := Claim7.holds Tryz.pinned (.plain (OpenSpec.upto congBackSpec)) congBackUptoCard
end Rows
end Go.Proofs.YtlikpnaffpngiaaGreatDoor

/- NatRing: for every three rows the call returns true, and the rows read behind the call as they read before. Conditions: those of the given row and card: the three tables of the library are laid as the program's text lays them. -/
import Derived.Test.YtpamcdfbcglflaaDoorRingRow
namespace Go.Proofs.YtpamcdfbcglflaaDoor

theorem natRing_proved : Rows.NatRingCardSaid := ring_card
end Go.Proofs.YtpamcdfbcglflaaDoor

/- NatPowers: for every row and every number the call returns true, and the row reads behind the call as it read before. Conditions: those of the given row and card: the three tables of the library are laid as the program's text lays them. -/
import Derived.Test.YtpamcdfbcglflaaDoorPowRow
namespace Go.Proofs.YtpamcdfbcglflaaDoor

theorem natPowers_proved : Rows.NatPowersCardSaid := pow_card
end Go.Proofs.YtpamcdfbcglflaaDoor

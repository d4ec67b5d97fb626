/- NatSums: for every list of rows the call returns true, and the list reads behind the call as it read before. Conditions: those of the given row and card: the three tables of the library are laid as the program's text lays them. -/
import Derived.Test.YtdppkljnbdendaaDoorSumsRow
import Derived.Test.YtdppkljnbdendaaDoorDmEx
namespace Go.Proofs.YtdppkljnbdendaaDoor

theorem natSums_proved : Rows.NatSumsCardSaid := sums_card dm_ex
end Go.Proofs.YtdppkljnbdendaaDoor

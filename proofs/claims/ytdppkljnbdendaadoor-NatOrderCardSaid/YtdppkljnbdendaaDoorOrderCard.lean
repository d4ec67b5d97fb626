/- NatOrder: for every three rows the call returns true, and the rows read behind the call as they read before. Conditions: those of the given row and card: the three tables of the library are laid as the program's text lays them. -/
import Derived.Test.YtdppkljnbdendaaDoorOrderRow
import Derived.Test.YtdppkljnbdendaaDoorDmEx
namespace Go.Proofs.YtdppkljnbdendaaDoor

theorem natOrder_proved : Rows.NatOrderCardSaid := order_card dm_ex
end Go.Proofs.YtdppkljnbdendaaDoor

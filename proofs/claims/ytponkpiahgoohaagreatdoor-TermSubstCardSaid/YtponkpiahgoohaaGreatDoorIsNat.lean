/- For seats without package nat's own functions: what a number in memory is. No condition. -/
import Derived.Test.YtponkpiahgoohaaGreatDoorMem
import Derived.Test.YtponkpiahgoohaaGreatDoorMath
import Derived.Test.YtponkpiahgoohaaGreatDoorChecked
namespace Go.Proofs.YtponkpiahgoohaaGreatDoor
open Go.RowKit

/-- v is the right row of n, in a block from B on. -/
def IsNat (w : World) (B : Nat) (v : Value) (n : Nat) : Prop := ∃ rs, right rs ∧ val rs = n ∧ Own w B 45 v (u32s rs)
end Go.Proofs.YtponkpiahgoohaaGreatDoor

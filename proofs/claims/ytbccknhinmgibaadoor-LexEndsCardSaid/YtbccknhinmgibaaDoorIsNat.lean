/- For seats without package nat's own functions: what a number in memory is. No condition. -/
import Derived.Test.YtbccknhinmgibaaDoorMem
import Derived.Test.YtbccknhinmgibaaDoorMath
import Derived.Test.YtbccknhinmgibaaDoorChecked
namespace Go.Proofs.YtbccknhinmgibaaDoor
open Go.RowKit

/-- v is the right row of n, in a block from B on. -/
def IsNat (w : World) (B : Nat) (v : Value) (n : Nat) : Prop := ∃ rs, right rs ∧ val rs = n ∧ Own w B 83 v (u32s rs)
end Go.Proofs.YtbccknhinmgibaaDoor

/- Trees in memory, counted; truths that are told with nothing written. No program, no condition. -/
import Derived.Test.YtbccknhinmgibaaDoorLPast
set_option linter.unusedVariables false
set_option linter.unusedSimpArgs false
namespace Go.Proofs.YtbccknhinmgibaaDoor
open Go.RowKit

/-- A truth is told, and nothing is written. -/
def SaysD (w : World) (r : Bool) (e : Ending) (w' : World) : Prop := e = .returned (.bool r) ∧ Drawn w w'
def Fo.nodes : Fo → Nat
  | .nil => 0
  | .cons _ k _ _ r => k.nodes + r.nodes + 1
theorem FoAt.drawn {W W' : World} {f : Fo} {K : Option Addr} {j : Nat} (h : FoAt W K j f) (hd : Drawn W W') : FoAt W' K j f := h.bel hd.below
theorem str_is {a b : ByteArray} (h : a = b) : (a.toList == b.toList) = true := by rw [h]; exact beq_self_eq_true _
theorem str_no {a b : ByteArray} (h : ¬ a = b) : (a.toList == b.toList) = false := beq_eq_false_iff_ne.2 fun e => h (by rw [ByteArray.toList_eq, ByteArray.toList_eq] at e; exact bytes_is e)
end Go.Proofs.YtbccknhinmgibaaDoor

/- strconv's AppendInt at base 10, laid at this program. -/
import Derived.Test.YtlikpnaffpngiaaGreatDoorTEachW
import Derived.Lib.QuoteBits
import Derived.Shelf.Strconv.AppendIntPublic10
import Derived.Shelf.Strconv.AppendUint10
import Derived.Test.YtlikpnaffpngiaaGreatDoorShelf
set_option linter.unusedVariables false
set_option linter.unusedSimpArgs false
namespace Go.Proofs.YtlikpnaffpngiaaGreatDoor
open Go.Shelf Go.RowKit
theorem append_int (B n : Nat) (i : Int) (h0 : -9223372036854775808 ≤ i) (h1 : i ≤ 9223372036854775807) (sv : Value) (xs : List Value) (w : World) (hown : w.ownsRow B 5 1 sv n xs) (hBw : B ≤ w.heap.size) (hlim : n + 21 ≤ 140737488355328)
    (htab : Lib.TabBelow Tryz.prog B w "internal/strconv.uint64pow10" .u64 Lib.pow10Tab) :
    Calls Tryz.prog 59 #[sv, .int .i64 i, .int .i64 10] w fun e w' => ∃ v', e = .returned v' ∧ w'.ownsRow B 5 1 v' (n + (Lib.itoa i).length) (xs ++ Lib.byteCells (Lib.itoa i)) ∧ RowKit.Below B w w' ∧ Lib.OthersKept 5 none w w' := Any.strconv_AppendInt_10 Tryz.laysM176 B n i h0 h1 sv xs w hown hBw hlim htab
/-- What an append of an unsigned number gives, small or great. -/
theorem append_uint1 (B n u : Nat) (hu : u < 18446744073709551616) (sv : Value) (xs : List Value) (w : World) (hown : w.ownsRow B 5 1 sv n xs) (hBw : B ≤ w.heap.size) (hlim : n + 20 ≤ 140737488355328)
    (htab : Lib.TabBelow Tryz.prog B w "internal/strconv.uint64pow10" .u64 Lib.pow10Tab) :
    Calls Tryz.prog 71 #[sv, .int .u64 u, .int .i64 10] w fun e w' => ∃ v', e = .returned v' ∧ w'.ownsRow B 5 1 v' (n + (Lib.decDigits u).length) (xs ++ Lib.byteCells (Lib.decDigits u)) ∧ RowKit.Below B w w' ∧ Lib.OthersKept 5 none w w' := by
  rcases Nat.lt_or_ge u 100 with h | h
  · exact Any.internal_strconv_AppendUint_10_small Tryz.laysM288 B n u h sv xs w hown hBw hlim
  · exact Any.internal_strconv_AppendUint_10_big Tryz.laysM288 B n u h hu sv xs w hown hBw hlim (htab w (Below.refl _ _))
set_option maxRecDepth 100000 in
theorem append_uint (B n u : Nat) (hu : u < 18446744073709551616) (sv : Value) (xs : List Value) (w : World) (hown : w.ownsRow B 5 1 sv n xs) (hBw : B ≤ w.heap.size) (hlim : n + 20 ≤ 140737488355328)
    (htab : Lib.TabBelow Tryz.prog B w "internal/strconv.uint64pow10" .u64 Lib.pow10Tab) :
    Calls Tryz.prog 60 #[sv, .int .u64 u, .int .i64 10] w fun e w' => ∃ v', e = .returned v' ∧ w'.ownsRow B 5 1 v' (n + (Lib.decDigits u).length) (xs ++ Lib.byteCells (Lib.decDigits u)) ∧ RowKit.Below B w w' ∧ Lib.OthersKept 5 none w w' := by
  have HC := Lib.hid (append_uint1 B n u hu sv xs w hown hBw hlim htab)
  clear hown hBw hlim htab hu
  go_enter Tryz.func60, Tryz.ntmps60
  go_wp2_with fail
  refine HC.out.mono ?_
  rintro e w' ⟨v', rfl, h⟩
  have HE := Lib.hid h
  clear h HC
  go_wp2
  go_returns
  exact ⟨v', rfl, HE.out⟩
end Go.Proofs.YtlikpnaffpngiaaGreatDoor

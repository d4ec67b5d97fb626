/- What the rows' condition on the laid variables, and the world's shape, give: the table of powers of ten, and the cell that the library's search asks. No other condition. -/
import Derived.Test.YtdkgpnkcdnfniaaDoorTRead
import Derived.Test.YtdkgpnkcdnfniaaDoorRows
import Derived.Test.YtdkgpnkcdnfniaaDoorTie
import Derived.ProofKit
import Derived.LaidMore
import Derived.LaidSub
import Derived.OpenShut
import Derived.Lib.LaidTab
import Derived.Shelf.Vars
set_option linter.unusedVariables false
namespace Go.Proofs.YtdkgpnkcdnfniaaDoor
open Go.ChangeShapes Go.WideShapes Go.ChangeAt Go.WideMaps Go.WideElems Go.RowKit

def laid5 : List (String × DataW Unit) := [("math/bits.deBruijn32tab", Rows.laid_math_bits_deBruijn32tab), ("math/bits.deBruijn64tab", Rows.laid_math_bits_deBruijn64tab), ("internal/strconv.uint64pow10", Rows.laid_internal_strconv_uint64pow10), ("strconv.ErrRange", Rows.laid_strconv_ErrRange), ("strconv.ErrSyntax", Rows.laid_strconv_ErrSyntax)]

set_option maxRecDepth 100000 in
theorem tab_of_laid {W : World} (h : laidMetH Tryd.prog laid5 W) : Tab W ∧ 1 ≤ W.heap.size := by
  have h3 := laidMetH.filter (fun x => x.1 == "internal/strconv.uint64pow10") h
  have e : laid5.filter (fun x => x.1 == "internal/strconv.uint64pow10") = [("internal/strconv.uint64pow10", Rows.laid_internal_strconv_uint64pow10)] := by simp [laid5]
  rw [e, MakeChecks.laidMetH_plain _ _ _ (by kernel_rfl)] at h3
  have ht : Tab W := Lib.tabIs_of_head (g := 0) (t := 128) (e := 88) (n := 20) (by kernel_rfl) (by kernel_rfl) Tryd.underlying128 Tryd.underlying88 (by kernel_rfl) (by kernel_rfl) h3
  refine ⟨ht, ?_⟩
  have hg : Tryd.prog.globalNamed "internal/strconv.uint64pow10" = some 0 := by kernel_rfl
  have ht2 := ht
  unfold Tab Lib.TabIs World.var? at ht2
  simp only [hg, Option.bind_some] at ht2
  rcases Nat.lt_or_ge 0 W.heap.size with h | h
  · exact h
  · rw [Array.getElem?_eq_none h] at ht2; simp at ht2
set_option maxRecDepth 100000 in
theorem lib_of {W : World} (h : laidMetH Tryd.prog laid5 W) (hs : W.ShapedOpen Tryd.prog) : LibM W.heap.size W := by
  obtain ⟨ht, hg⟩ := tab_of_laid h
  obtain ⟨m, hm⟩ : ∃ m : Int, W.cell? ⟨1, 0, none⟩ = some (.int .i64 m) :=
    cell_of_shapedOpen_int (P := Tryd.prog) (g := 1) (t := 3) (zero := #[.int .i64 0]) hs (of_decide_eq_true (by kernel_rfl)) (by kernel_rfl) rfl (by kernel_rfl) (by kernel_rfl) Tryd.underlying3
  exact ⟨fun W' hb => ⟨m, (hb.cell (cell_lt hm)).trans hm⟩, fun W' hb => ht.below hb hg⟩
end Go.Proofs.YtdkgpnkcdnfniaaDoor

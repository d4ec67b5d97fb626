/- What the rows' condition on the three tables gives: the table of powers of ten reads as it is laid. No other condition. A list of rows of 32-bit digits, and one such row, that came in: what the cells hold. No condition. One row of 32-bit digits that came in: what the cells hold; arguments that read behind a call as they read before. No condition. -/
import Derived.Test.YtffcacpffamjfaaDoorDecimal
import Derived.Test.YtffcacpffamjfaaDoorRows
import Derived.ProofKit
import Derived.LaidMore
import Derived.LaidSub
import Derived.OpenShut
import Derived.Stop.Joined
import Derived.Lib.LaidTab
import Derived.ShutString
import Derived.Test.YtffcacpffamjfaaDoorFold
import Derived.Deep.Matrix
namespace Go.Proofs.YtffcacpffamjfaaDoor
open Go.ChangeShapes Go.WideShapes Go.ChangeAt Go.WideMaps Go.WideElems Go.RowKit

def laid3 : List (String × DataW Unit) := [("math/bits.deBruijn32tab", Rows.laid_math_bits_deBruijn32tab), ("math/bits.deBruijn64tab", Rows.laid_math_bits_deBruijn64tab), ("internal/strconv.uint64pow10", Rows.laid_internal_strconv_uint64pow10)]

theorem own : ownKnob Tryd.prog.godebug = none := by kernel_rfl

set_option maxRecDepth 100000 in
theorem tab_of_laid {W : World} (h : laidMetH Tryd.prog laid3 W) : Tab W ∧ 3 ≤ W.heap.size := by
  have h3 := laidMetH.filter (fun x => x.1 == "internal/strconv.uint64pow10") h
  have e : laid3.filter (fun x => x.1 == "internal/strconv.uint64pow10") = [("internal/strconv.uint64pow10", Rows.laid_internal_strconv_uint64pow10)] := by simp [laid3]
  rw [e, MakeChecks.laidMetH_plain _ _ _ (by kernel_rfl)] at h3
  have ht : Tab W := Lib.tabIs_of_head (g := 2) (t := 105) (e := 64) (n := 20) (by kernel_rfl) (by kernel_rfl) Tryd.underlying105 Tryd.underlying64 (by kernel_rfl) (by kernel_rfl) h3
  refine ⟨ht, ?_⟩
  have hg : Tryd.prog.globalNamed "internal/strconv.uint64pow10" = some 2 := by kernel_rfl
  have ht2 := ht
  unfold Tab Lib.TabIs World.var? at ht2
  simp only [hg, Option.bind_some] at ht2
  rcases Nat.lt_or_ge 2 W.heap.size with h | h
  · exact h
  · rw [Array.getElem?_eq_none h] at ht2; simp at ht2

theorem door_met (os : Os) (args : Array Value) : laidMetH Tryd.prog laid3 ((World.doorLaid Tryd.prog 400 os).forCall (fun _ _ => 0) ⟨#[], args, []⟩).memory :=
  laidMetH_of_parts3 (fuel := 8) (laidMet_of_run' 8 (by kernel_rfl) (by kernel_rfl)) (by kernel_rfl) (by kernel_rfl)
end Go.Proofs.YtffcacpffamjfaaDoor

namespace Go.Proofs.YtffcacpffamjfaaDoor
open Go.ChangeShapes Go.WideShapes Go.ChangeAt Go.WideMaps Go.WideElems Go.RowKit

theorem laidOut : laidOutB Tryd.prog = true := by kernel_rfl

theorem wf_u32 {n : Int} (h : (Lit.int .u32 n).wf = true) : 0 ≤ n ∧ n < 4294967296 := by
  have h2 := h
  rw [Lit.wf, Bool.and_eq_true, decide_eq_true_eq, decide_eq_true_eq] at h2
  have h3 : IntKind.min .u32 = 0 := rfl
  have h4 : IntKind.max .u32 = 4294967295 := rfl
  omega

def lim (zs : List Int) (n : Nat) : List Nat := (zs.take n).map Int.toNat
theorem lim_length {zs : List Int} {n : Nat} (h : n ≤ zs.length) : (lim zs n).length = n := by
  rw [lim, List.length_map, List.length_take, Nat.min_eq_left h]
theorem lim_small {zs : List Int} {n : Nat} (h : ∀ z ∈ zs, (Lit.int .u32 z).wf = true) : small 4294967296 (lim zs n) := by
  intro d hd
  obtain ⟨z, hz, rfl⟩ := List.mem_map.1 hd
  have := wf_u32 (h z (List.mem_of_mem_take hz))
  omega
theorem lim_row {w : World} {A : Option Addr} {zs : List Int} {n c : Nat} (hn : n ≤ c) (hz : zs.length = c) (hw : ∀ z ∈ zs, (Lit.int .u32 z).wf = true) (h0 : A = none → c = 0)
    (h : ∀ a', A = some a' → ∀ i, i < c → w.cell? (a'.add i) = some (.int .u32 (zs.getD i 0))) : Row w A (u32s (lim zs n)) := by
  intro j v hv
  have hj : j < n := by
    have := (List.getElem?_eq_some_iff.1 hv).1
    rwa [u32s_length, lim_length (by omega)] at this
  match A, h0, h with
  | none, h0, _ => have := h0 rfl; omega
  | some a, _, h =>
    refine ⟨a, rfl, ?_⟩
    rw [h a rfl j (by omega), ← hv]
    have hjz : j < zs.length := by omega
    have hwf := wf_u32 (hw zs[j] (List.getElem_mem _))
    simp only [u32s, lim, List.map_map, List.getElem?_map, List.getElem?_take, if_pos hj, List.getElem?_eq_getElem hjz, Option.map_some, Function.comp, List.getD_eq_getElem?_getD, Option.getD_some]
    rw [Int.toNat_of_nonneg hwf.1]

set_option maxRecDepth 100000 in
theorem open_limb_rows {H : Type} {enc : TypeId × Value → H} {W : World} {base : Nat} {v : Value} {d : DataW H} {ps : List MemPlace} (hv : Value.okWide Tryd.prog W .any base 25 v) (h : DataW.Trod enc Tryd.prog W 0 (fun _ => true) true 25 v d ps) :
    ∃ (A : Option Addr) (c : Nat) (L : List Arow), v = .slice A L.length c ∧ Row W A (L.map sl) ∧ (∀ r ∈ L, Row W r.1 (u32s r.2.2) ∧ small 4294967296 r.2.2) ∧ L.length < 9223372036854775808 ∧ ∀ r ∈ L, r.2.2.length < 9223372036854775808 := by
  obtain ⟨a0, len0, cap0, rfl⟩ := okWide_slice Tryd.underlying25 hv
  obtain ⟨fuel, hf⟩ := h
  rcases Go.Deep.open_int_rows Tryd.underlying25 Tryd.underlying24 Tryd.underlying23 (by kernel_rfl) (by kernel_rfl) hf with ⟨hcs, _⟩ | ⟨a, len, cap, A, Ls, C, Z, hcs, _, hl, hm, _, hel⟩
  · simp [Value.cells] at hcs
    obtain ⟨rfl, rfl, rfl⟩ := hcs
    exact ⟨none, 0, [], rfl, Row.nil _ _, (fun r hr => by cases hr), (show 0 < 9223372036854775808 by omega), fun r hr => by cases hr⟩
  · simp [Value.cells] at hcs
    obtain ⟨rfl, rfl, rfl⟩ := hcs
    have hmx : maxLen < 9223372036854775808 := by unfold maxLen; omega
    refine ⟨some a, cap0, (List.range len0).map fun r => (A r, C r, lim (Z r) (Ls r)), by simp, ?_, ?_, by simp; omega, ?_⟩
    · intro j u hu
      refine ⟨a, rfl, ?_⟩
      simp only [List.map_map, List.getElem?_map] at hu
      rcases Nat.lt_or_ge j len0 with hj | hj
      · rw [List.getElem?_range hj] at hu
        simp only [Option.map_some, Function.comp, sl] at hu
        obtain ⟨e1, e2, _, e4, _⟩ := hel j (by omega)
        rw [e1, ← hu, lim_length (by omega)]
      · rw [List.getElem?_eq_none (by simpa using hj)] at hu; cases hu
    · intro r hr
      obtain ⟨j, hj, rfl⟩ := List.mem_map.1 hr
      obtain ⟨_, e2, _, e4, e5, e6, e7⟩ := hel j (by have := List.mem_range.1 hj; omega)
      exact ⟨lim_row e2 e4 e5 e6 fun a' ha i hi => (e7 a' ha).2 i hi, lim_small e5⟩
    · intro r hr
      obtain ⟨j, hj, rfl⟩ := List.mem_map.1 hr
      obtain ⟨_, e2, e3, e4, _⟩ := hel j (by have := List.mem_range.1 hj; omega)
      show (lim (Z j) (Ls j)).length < _
      rw [lim_length (by omega)]
      omega
end Go.Proofs.YtffcacpffamjfaaDoor

namespace Go.Proofs.YtffcacpffamjfaaDoor
open Go.ChangeShapes Go.WideShapes Go.ChangeAt Go.WideMaps Go.WideElems Go.RowKit

set_option maxRecDepth 100000 in
theorem open_limb {H : Type} {enc : TypeId × Value → H} {W : World} {base : Nat} {v : Value} {d : DataW H} {ps : List MemPlace} (hv : Value.okWide Tryd.prog W .any base 24 v) (h : DataW.Trod enc Tryd.prog W 0 (fun _ => true) true 24 v d ps) :
    ∃ (A : Option Addr) (c : Nat) (ds : List Nat), v = .slice A ds.length c ∧ Row W A (u32s ds) ∧ small 4294967296 ds ∧ ds.length < 9223372036854775808 := by
  obtain ⟨a0, len0, cap0, rfl⟩ := okWide_slice Tryd.underlying24 hv
  obtain ⟨fuel, hf⟩ := h
  rcases open_ints Tryd.underlying24 Tryd.underlying23 (by kernel_rfl) hf with ⟨hcs, _⟩ | ⟨a, len, cap, zs, hcs, _, hl, hm, hz, _, hcell, hw⟩
  · simp [Value.cells] at hcs
    obtain ⟨rfl, rfl, rfl⟩ := hcs
    exact ⟨none, 0, [], rfl, Row.nil _ _, small_nil _, (show 0 < 9223372036854775808 by omega)⟩
  · simp [Value.cells] at hcs
    obtain ⟨rfl, rfl, rfl⟩ := hcs
    have hmx : maxLen < 9223372036854775808 := by unfold maxLen; omega
    simp only [if_true] at hz
    have hll := lim_length (zs := zs) (n := len0) (by omega)
    refine ⟨some a, cap0, lim zs len0, by rw [hll], lim_row hl hz hw (fun h => by cases h) (fun a' ha i hi => ?_), lim_small hw, by rw [hll]; omega⟩
    injection ha with ha
    subst ha
    exact hcell i (by omega)

theorem below_trodAll {H : Type} {enc : TypeId × Value → H} {W W' : World} (hb : Below W.heap.size W W') : ∀ {ts : List TypeId} {vs : List Value} {ds : List (DataW H)} {ps : List MemPlace}, (∀ t ∈ ts, Tryd.prog.readableRec t = true ∧ t < Tryd.prog.types.size) → DataW.TrodAll enc Tryd.prog W 0 (fun _ => true) true ts vs ds ps →
    (∀ x ∈ ps, x.block < W.heap.size) → DataW.TrodAll enc Tryd.prog W' 0 (fun b => decide (b < W.heap.size)) true ts vs ds ps
  | [], [], [], _, _, h, _ => h
  | _ :: _, _ :: _, _ :: _, _, hT, ⟨p, q, h1, h2, e⟩, hs => ⟨p, q, Below.trod laidOut (hT _ (List.mem_cons.2 (Or.inl rfl))).1 (hT _ (List.mem_cons.2 (Or.inl rfl))).2 h1 hb (fun x hx => hs x (by rw [e]; exact List.mem_append_left _ hx)), below_trodAll hb (fun t ht => hT t (List.mem_cons.2 (Or.inr ht))) h2 (fun x hx => hs x (by rw [e]; exact List.mem_append_right _ hx)), e⟩
theorem limb_ok : Tryd.prog.readableRec 24 = true ∧ 24 < Tryd.prog.types.size := ⟨by kernel_rfl, of_decide_eq_true (by kernel_rfl)⟩
end Go.Proofs.YtffcacpffamjfaaDoor

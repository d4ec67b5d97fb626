/- A list of rows of 32-bit digits, and one such row, that came in: what the cells hold. No condition. -/
import Derived.Test.YtpamcdfbcglflaaDoorFold
import Derived.Deep.Matrix
import Derived.ProofKit
namespace Go.Proofs.YtpamcdfbcglflaaDoor
open Go.ChangeShapes Go.WideShapes Go.ChangeAt Go.WideMaps Go.WideElems Go.RowKit

theorem laidOut : laidOutB Tryd.prog = true := by kernel_rfl

theorem wf_u32 {n : Int} (h : (Lit.int .u32 n).wf = true) : 0 ≤ n ∧ n < 4294967296 := by
  have h2 := h
  rw [Lit.wf, Bool.and_eq_true, decide_eq_true_eq, decide_eq_true_eq] at h2
  have h3 : IntKind.min .u32 = 0 := rfl
  have h4 : IntKind.max .u32 = 4294967295 := rfl
  omega

def lim (zs : List Int) (n : Nat) : List Nat := (zs.take n).map Int.toNat
theorem lim_length {zs : List Int} {n : Nat} (h : n ≤ zs.length) : (lim zs n).length = n := by
  rw [lim, List.length_map, List.length_take, Nat.min_eq_left h]
theorem lim_small {zs : List Int} {n : Nat} (h : ∀ z ∈ zs, (Lit.int .u32 z).wf = true) : small 4294967296 (lim zs n) := by
  intro d hd
  obtain ⟨z, hz, rfl⟩ := List.mem_map.1 hd
  have := wf_u32 (h z (List.mem_of_mem_take hz))
  omega
theorem lim_row {w : World} {A : Option Addr} {zs : List Int} {n c : Nat} (hn : n ≤ c) (hz : zs.length = c) (hw : ∀ z ∈ zs, (Lit.int .u32 z).wf = true) (h0 : A = none → c = 0)
    (h : ∀ a', A = some a' → ∀ i, i < c → w.cell? (a'.add i) = some (.int .u32 (zs.getD i 0))) : Row w A (u32s (lim zs n)) := by
  intro j v hv
  have hj : j < n := by
    have := (List.getElem?_eq_some_iff.1 hv).1
    rwa [u32s_length, lim_length (by omega)] at this
  match A, h0, h with
  | none, h0, _ => have := h0 rfl; omega
  | some a, _, h =>
    refine ⟨a, rfl, ?_⟩
    rw [h a rfl j (by omega), ← hv]
    have hjz : j < zs.length := by omega
    have hwf := wf_u32 (hw zs[j] (List.getElem_mem _))
    simp only [u32s, lim, List.map_map, List.getElem?_map, List.getElem?_take, if_pos hj, List.getElem?_eq_getElem hjz, Option.map_some, Function.comp, List.getD_eq_getElem?_getD, Option.getD_some]
    rw [Int.toNat_of_nonneg hwf.1]

set_option maxRecDepth 100000 in
theorem open_limb_rows {H : Type} {enc : TypeId × Value → H} {W : World} {base : Nat} {v : Value} {d : DataW H} {ps : List MemPlace} (hv : Value.okWide Tryd.prog W .any base 36 v) (h : DataW.Trod enc Tryd.prog W 0 (fun _ => true) true 36 v d ps) :
    ∃ (A : Option Addr) (c : Nat) (L : List Arow), v = .slice A L.length c ∧ Row W A (L.map sl) ∧ (∀ r ∈ L, Row W r.1 (u32s r.2.2) ∧ small 4294967296 r.2.2) ∧ L.length < 9223372036854775808 ∧ ∀ r ∈ L, r.2.2.length < 9223372036854775808 := by
  obtain ⟨a0, len0, cap0, rfl⟩ := okWide_slice Tryd.underlying36 hv
  obtain ⟨fuel, hf⟩ := h
  rcases Go.Deep.open_int_rows Tryd.underlying36 Tryd.underlying22 Tryd.underlying35 (by kernel_rfl) (by kernel_rfl) hf with ⟨hcs, _⟩ | ⟨a, len, cap, A, Ls, C, Z, hcs, _, hl, hm, _, hel⟩
  · simp [Value.cells] at hcs
    obtain ⟨rfl, rfl, rfl⟩ := hcs
    exact ⟨none, 0, [], rfl, Row.nil _ _, (fun r hr => by cases hr), (show 0 < 9223372036854775808 by omega), fun r hr => by cases hr⟩
  · simp [Value.cells] at hcs
    obtain ⟨rfl, rfl, rfl⟩ := hcs
    have hmx : maxLen < 9223372036854775808 := by unfold maxLen; omega
    refine ⟨some a, cap0, (List.range len0).map fun r => (A r, C r, lim (Z r) (Ls r)), by simp, ?_, ?_, by simp; omega, ?_⟩
    · intro j u hu
      refine ⟨a, rfl, ?_⟩
      simp only [List.map_map, List.getElem?_map] at hu
      rcases Nat.lt_or_ge j len0 with hj | hj
      · rw [List.getElem?_range hj] at hu
        simp only [Option.map_some, Function.comp, sl] at hu
        obtain ⟨e1, e2, _, e4, _⟩ := hel j (by omega)
        rw [e1, ← hu, lim_length (by omega)]
      · rw [List.getElem?_eq_none (by simpa using hj)] at hu; cases hu
    · intro r hr
      obtain ⟨j, hj, rfl⟩ := List.mem_map.1 hr
      obtain ⟨_, e2, _, e4, e5, e6, e7⟩ := hel j (by have := List.mem_range.1 hj; omega)
      exact ⟨lim_row e2 e4 e5 e6 fun a' ha i hi => (e7 a' ha).2 i hi, lim_small e5⟩
    · intro r hr
      obtain ⟨j, hj, rfl⟩ := List.mem_map.1 hr
      obtain ⟨_, e2, e3, e4, _⟩ := hel j (by have := List.mem_range.1 hj; omega)
      show (lim (Z j) (Ls j)).length < _
      rw [lim_length (by omega)]
      omega
end Go.Proofs.YtpamcdfbcglflaaDoor

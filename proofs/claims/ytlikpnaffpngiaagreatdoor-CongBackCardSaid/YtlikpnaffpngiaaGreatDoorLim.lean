/- Rows of 32-bit digits that came in: the cells of a slice, as a list of digits. No program, no condition. -/
import Derived.Test.YtlikpnaffpngiaaGreatDoorMem
import Derived.Test.YtlikpnaffpngiaaGreatDoorMath
import Derived.ProofKit
import Derived.OpenShut
import Derived.Deep.Matrix
set_option linter.unusedVariables false
set_option linter.unusedSimpArgs false
namespace Go.Proofs.YtlikpnaffpngiaaGreatDoor
open Go.ChangeShapes Go.WideShapes Go.ChangeAt Go.WideMaps Go.WideElems Go.RowKit

theorem wf_u32 {n : Int} (h : (Lit.int .u32 n).wf = true) : 0 ≤ n ∧ n < 4294967296 := by
  have h2 := h
  rw [Lit.wf, Bool.and_eq_true, decide_eq_true_eq, decide_eq_true_eq] at h2
  have h3 : IntKind.min .u32 = 0 := rfl
  have h4 : IntKind.max .u32 = 4294967295 := rfl
  omega

def lim (zs : List Int) (n : Nat) : List Nat := (zs.take n).map Int.toNat
theorem lim_length {zs : List Int} {n : Nat} (h : n ≤ zs.length) : (lim zs n).length = n := by
  rw [lim, List.length_map, List.length_take, Nat.min_eq_left h]
theorem lim_small {zs : List Int} {n : Nat} (h : ∀ z ∈ zs, (Lit.int .u32 z).wf = true) : small 4294967296 (lim zs n) := by
  intro d hd
  obtain ⟨z, hz, rfl⟩ := List.mem_map.1 hd
  have := wf_u32 (h z (List.mem_of_mem_take hz))
  omega
theorem lim_row {w : World} {A : Option Addr} {zs : List Int} {n c : Nat} (hn : n ≤ c) (hz : zs.length = c) (hw : ∀ z ∈ zs, (Lit.int .u32 z).wf = true) (h0 : A = none → c = 0)
    (h : ∀ a', A = some a' → ∀ i, i < c → w.cell? (a'.add i) = some (.int .u32 (zs.getD i 0))) : Row w A (u32s (lim zs n)) := by
  intro j v hv
  have hj : j < n := by
    have := (List.getElem?_eq_some_iff.1 hv).1
    rwa [u32s_length, lim_length (by omega)] at this
  match A, h0, h with
  | none, h0, _ => have := h0 rfl; omega
  | some a, _, h =>
    refine ⟨a, rfl, ?_⟩
    rw [h a rfl j (by omega), ← hv]
    have hjz : j < zs.length := by omega
    have hwf := wf_u32 (hw zs[j] (List.getElem_mem _))
    simp only [u32s, lim, List.map_map, List.getElem?_map, List.getElem?_take, if_pos hj, List.getElem?_eq_getElem hjz, Option.map_some, Function.comp, List.getD_eq_getElem?_getD, Option.getD_some]
    rw [Int.toNat_of_nonneg hwf.1]
theorem list_of {α : Type} {p : Nat → α → Prop} : ∀ n : Nat, (∀ i, i < n → ∃ a, p i a) → ∃ L : List α, L.length = n ∧ ∀ i a, L[i]? = some a → p i a
  | 0, _ => ⟨[], rfl, fun i a h => by simp at h⟩
  | n + 1, h => by
    obtain ⟨L, hl, hp⟩ := list_of n fun i hi => h i (by omega)
    obtain ⟨a, ha⟩ := h n (by omega)
    refine ⟨L ++ [a], by simp [hl], fun i b hb => ?_⟩
    rcases Nat.lt_or_ge i n with hi | hi
    · rw [List.getElem?_append_left (by omega)] at hb; exact hp i b hb
    · rw [List.getElem?_append_right (by omega)] at hb
      have e : i - L.length = 0 := by
        rcases Nat.eq_zero_or_pos (i - L.length) with e | e
        · exact e
        · rw [List.getElem?_eq_none (by simp; omega)] at hb; cases hb
      rw [e] at hb
      simp at hb
      subst hb
      have : i = n := by omega
      subst this
      exact ha
theorem weights_all {H : Type} {P : Program} {t : TypeId} : ∀ {els : List (DataW H)} {i : Nat} {e : DataW H}, els[i]? = some e → ∀ n ∈ e.weights P t, n ∈ DataW.weightsAll P t els
  | d :: r, 0, e, h, n, hn => by
    simp only [List.getElem?_cons_zero, Option.some.injEq] at h
    subst h
    simp only [DataW.weightsAll, List.mem_append]
    exact .inl hn
  | d :: r, i + 1, e, h, n, hn => by
    simp only [List.getElem?_cons_succ] at h
    simp only [DataW.weightsAll, List.mem_append]
    exact .inr (weights_all h n hn)
end Go.Proofs.YtlikpnaffpngiaaGreatDoor

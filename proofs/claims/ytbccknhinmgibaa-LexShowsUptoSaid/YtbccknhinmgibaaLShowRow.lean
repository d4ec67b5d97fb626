/- LexShows, where what comes in is of bulk at most 1048576: for every trees the call returns true; they read behind the call as they read before. No condition beside those of the given row. -/
import Derived.Test.YtbccknhinmgibaaLShow
import Derived.Test.YtbccknhinmgibaaLOpen
import Derived.Test.YtbccknhinmgibaaRows
import Derived.HandedShaped
import Derived.JoinedOf
import Derived.SizedLaws
import Derived.ProofKit
import Derived.OpenShut
import Derived.Deep.CondSized
set_option linter.unusedVariables false
set_option linter.unusedSimpArgs false
namespace Go.Proofs.Ytbccknhinmgibaa
open Go.ChangeShapes Go.WideShapes Go.ChangeAt Go.WideMaps Go.WideElems Go.RowKit

theorem ownT : ownKnob Try.prog.godebug = none := by kernel_rfl
theorem laidOutT : laidOutB Try.prog = true := by kernel_rfl
theorem trees_read : Try.prog.readableRec 24 = true ∧ 24 < Try.prog.types.size := ⟨by kernel_rfl, of_decide_eq_true (by kernel_rfl)⟩
theorem keep_trodAll {H : Type} {enc : TypeId × Value → H} {W W' : World} (hb : Below W.heap.size W W') : ∀ {ts : List TypeId} {vs : List Value} {ds : List (DataW H)} {ps : List MemPlace}, (∀ t ∈ ts, Try.prog.readableRec t = true ∧ t < Try.prog.types.size) → DataW.TrodAll enc Try.prog W 0 (fun _ => true) true ts vs ds ps →
    (∀ x ∈ ps, x.block < W.heap.size) → DataW.TrodAll enc Try.prog W' 0 (fun b => decide (b < W.heap.size)) true ts vs ds ps
  | [], [], [], _, _, h, _ => h
  | _ :: _, _ :: _, _ :: _, _, hT, ⟨p, q, h1, h2, e⟩, hs => ⟨p, q, Below.trod laidOutT (hT _ (List.mem_cons.2 (Or.inl rfl))).1 (hT _ (List.mem_cons.2 (Or.inl rfl))).2 h1 hb (fun x hx => hs x (by rw [e]; exact List.mem_append_left _ hx)), keep_trodAll hb (fun t ht => hT t (List.mem_cons.2 (Or.inr ht))) h2 (fun x hx => hs x (by rw [e]; exact List.mem_append_right _ hx)), e⟩
set_option maxRecDepth 100000 in
theorem lexShows_lifted (os : Os) (started : os.Started) (H : Type) (enc : TypeId × Value → H) (F : Stop.Interp) :
    ReturnsInHanded {} Try.checked os 4 .any ((Rows.OpenSpec.upto Rows.lexShowsSpec).pre6 enc Try.prog Try.f4 Rows.lexShowsUptoRow.domain false)
      (((Rows.OpenSpec.upto Rows.lexShowsSpec).at F).post enc Try.prog Try.f4 false true false false) := by
  refine returnsInHanded_of_cond_sized (C := Try.checked) (s := Rows.OpenSpec.upto Rows.lexShowsSpec) (k := Rows.uptoSmall) rfl ownT started (by kernel_rfl) Try.func4
    (OpenSpec.witness (enc := enc) (C := Try.checked) (s := Rows.OpenSpec.upto Rows.lexShowsSpec) (k := Rows.uptoSmall) rfl false ⟨#[], #[.slice none 0 0], []⟩ 8 (by kernel_rfl) (by kernel_rfl) (by kernel_rfl)
      (x := ([.nil], [], [])) (by kernel_rfl) rfl (by kernel_rfl)) ?_
  intro W base args ds gs before hval0 hW _ hk hsz _
  have hval : ∀ (j : Nat) t v, Try.f4.params[j]? = some t → args[j]? = some v → Value.okWide Try.prog W .any base t v := hval0
  have hW' := hW
  obtain ⟨p, q, hA0, hV, rfl, hfz, hnd⟩ := hW
  have hA : DataW.TrodAll enc Try.prog W 0 (fun _ => true) true Try.f4.params.toList args.toList ds p := hA0
  have hlt := hA.lt
  have hsz1 : (DataW.weightsEach Try.prog (Try.f4.params.toList ++ Rows.lexShowsSpec.plain.varTypes Try.prog) (ds ++ gs)).all (· ≤ reachBytes) = true := hsz
  rw [ Try.params4 ] at hA hval hsz1
  have hAk := hA
  obtain ⟨v0, d0, rfl, rfl, h0⟩ := trodAll_one hA
  obtain ⟨rfl, rfl⟩ := trodVars_none hV
  obtain ⟨x0, y0, z0, rfl⟩ := okWide_slice Try.underlying24 (hval 0 24 v0 rfl rfl)
  obtain ⟨f0, g0⟩ := h0
  have h3 : reachBytes = 140737488351232 := rfl
  have hwt : ∀ n ∈ d0.weights Try.prog 24, n ≤ 140737488355328 := fun n hn => by
    have := List.all_eq_true.1 hsz1 n (DataW.weights_mem_each (j := 0) rfl rfl n hn)
    have := of_decide_eq_true this
    omega
  obtain ⟨K, k, f, ef, hf1, hf2, hf3, hf4, hf5⟩ := open_fo f0 (c := .slice x0 y0 z0) g0 hwt
  have hbu : Rows.uptoBulkAll [d0] ≤ 1048576 := of_decide_eq_true hk
  simp only [Rows.uptoBulkAll] at hbu
  have hlaw := lexShows_ok (w := W) (K := K) (c := k) (f := f) ⟨K, k, rfl, hf1, hf2, hf3, hf4⟩ (by
    have : f.tot ≤ Rows.uptoBulk d0 := hf5
    omega)
  rw [← ef] at hlaw
  clear hA0 hval0 hsz hsz1
  simp only [List.append_nil] at hW'
  have e1 : Rows.lexShowsSpec.fn H ([d0] ++ []) = { results := [.lit (.bool true)], args := [d0] } := by simp [Rows.lexShowsSpec]
  refine hlaw.mono fun e W' ⟨he, hb⟩ => ?_
  subst he
  refine ⟨_, rfl, _, _, _, [], p, [], hW', ?_, ?_, ?_, hb.frame _, fun h => by cases h⟩
  · exact (e1 ▸ trodAll_mk1 (shut_bool Try.underlying4 true))
  · rw [show ((Rows.OpenSpec.upto Rows.lexShowsSpec).at F).fn H ([d0] ++ []) = { results := [.lit (.bool true)], args := [d0] } from e1]; exact keep_trodAll hb (fun t ht => by
      have : t = 24 := by simpa using ht
      rw [this]; exact trees_read) hAk hlt
  · rw [show ((Rows.OpenSpec.upto Rows.lexShowsSpec).at F).fn H ([d0] ++ []) = { results := [.lit (.bool true)], args := [d0] } from e1]; rfl
/-- LexShows, where what comes in is of bulk at most 1048576: for every trees the call returns true, and they read behind the call as they read before. -/
theorem lexShows_proved : Rows.LexShowsUptoSaid :=
  OpenClaim.holds_of_cond 4 Try.f4 rfl rfl rfl rfl rfl rfl rfl ⟨rfl, rfl, rfl, rfl, rfl⟩ rfl rfl rfl rfl rfl (by kernel_rfl) Try.func4 (by kernel_rfl)
    (of_decide_eq_true (by kernel_rfl)) (by unfold Func.isWrapper; first | (rw [if_pos (by decide +kernel)]; kernel_rfl) | (rw [if_neg (by decide +kernel)]; exact ⟨rfl, rfl⟩))
    (fun os started H enc _ F => lexShows_lifted os started H enc F)
end Go.Proofs.Ytbccknhinmgibaa

/- Package term's each, walked. -/
import Derived.Test.YtlikpnaffpngiaaGreatDoorTEachs
set_option linter.unusedVariables false
set_option linter.unusedSimpArgs false
namespace Go.Proofs.YtlikpnaffpngiaaGreatDoor
open Go.RowKit

theorem three_alloc (w : World) (o0 o1 o2 : Obj) : (((w.alloc o0).alloc o1).alloc o2).heap[w.heap.size]? = some o0 ∧ (((w.alloc o0).alloc o1).alloc o2).heap[w.heap.size + 1]? = some o1 ∧ (((w.alloc o0).alloc o1).alloc o2).heap[w.heap.size + 2]? = some o2 ∧ (((w.alloc o0).alloc o1).alloc o2).heap.size = w.heap.size + 3 ∧ Below w.heap.size w (((w.alloc o0).alloc o1).alloc o2) := by
  have s1 : (w.alloc o0).heap.size = w.heap.size + 1 := World.size_alloc ..
  have s2 : ((w.alloc o0).alloc o1).heap.size = w.heap.size + 2 := by rw [World.size_alloc, s1]
  have a0 : (w.alloc o0).heap[w.heap.size]? = some o0 := heap_alloc_new w _
  have a1 : ((w.alloc o0).alloc o1).heap[w.heap.size + 1]? = some o1 := by rw [← s1]; exact heap_alloc_new _ _
  have a2 : (((w.alloc o0).alloc o1).alloc o2).heap[w.heap.size + 2]? = some o2 := by rw [← s2]; exact heap_alloc_new _ _
  refine ⟨?_, ?_, a2, by rw [World.size_alloc, s2], (((Below.refl _ _).alloc (Nat.le_refl _) _).alloc (by omega) _).alloc (by omega) _⟩
  · exact (Below.heap_alloc _ _ _ (by omega)).trans ((Below.heap_alloc _ _ _ (by omega)).trans a0)
  · exact (Below.heap_alloc _ _ _ (by omega)).trans a1
set_option maxRecDepth 100000 in
set_option maxHeartbeats 3200000 in
theorem each_any {w : World} {M : Nat} {FV : FuncId} {fv cv : Array Value} {l : List Tm} {S : List Tm → List (Addr × Tm) → (Nat → Prop) → World → Prop} {X0 : Nat → Prop} {K : Option Addr} {c : Nat} (hV : Visits w.heap.size M FV fv cv (preL l) S) (hall : (preL l).length ≤ 1000000) (hM : M ≤ w.heap.size) (hS : S [] (kidsOf K l) X0 w) (hK : l ≠ [] → ∃ A, K = some A) :
    Calls Tryz.prog 44 #[.func (.func FV) fv cv, .slice K l.length c] w fun e w' => (∃ u, e = .returned u) ∧ ∃ X', S (preL l) [] X' w' ∧ Touch X0 X' w w' ∧ Below M w w' := by
  have HH := Lib.hid (show _ ∧ _ ∧ _ ∧ _ ∧ _ from ⟨hV, hall, hM, hS, hK⟩)
  clear hV hall hM hS hK
  go_enter Tryz.func44, Tryz.ntmps44
  go_wp2_with fail
  obtain ⟨hV, hall, hM, hS, hK⟩ := HH.out
  have hlow := hV.low hS
  obtain ⟨g0, g1, g2, hs3, hb3⟩ := three_alloc w (.cells #[.func (.func FV) fv cv] 97) (.cells #[.slice none 0 0] 103) (.cells #[eachF w.heap.size] 97)
  have hlen := preL_len l
  have hKn : l.length ≠ 0 → ∃ A, K = some A := fun h0 => hK fun e => h0 (by rw [e]; rfl)
  refine Calls.mono (into_any (T := 103) (x := []) (B := w.heap.size + 3) (gw := w.heap.size + 1) (m := 0) (n := l.length) (v := .slice none 0 0) (E := []) (TRow.nil _ _) g1 (by omega) (Nat.le_of_eq hs3.symm) (by omega) hKn) ?_
  rintro e w4 ⟨⟨u, rfl⟩, v', r1, r2, r3⟩
  have kk : ∀ k, k < w.heap.size + 3 → k ≠ w.heap.size + 1 → w4.heap[k]? = (((w.alloc (.cells #[.func (.func FV) fv cv] 97)).alloc (.cells #[.slice none 0 0] 103)).alloc (.cells #[eachF w.heap.size] 97)).heap[k]? := fun k h1 h2 => r3.block k (Nat.lt_of_lt_of_le h1 (Nat.le_of_eq hs3.symm)) h2 (by intro e; cases e)
  have hs4 := r3.size
  have hs4' : w.heap.size + 3 ≤ w4.heap.size := Nat.le_trans (Nat.le_of_eq hs3.symm) hs4
  have hb4 : Below w.heap.size w w4 := hb3.trans ⟨r3.os, r3.tape, r3.output, r3.size, fun k hk => kk k (by omega) (by omega)⟩
  have hsnd := kidsOf_snd hK
  have hturn := kidsOf_turns (eachF w.heap.size) hK
  have hkl : (kidsOf K l).length = l.length := by rw [← List.length_map (f := (·.2)), hsnd]
  have hR : EachR w w.heap.size M (.func (.func FV) fv cv) (preL l) S X0 (preL l).length v' (0 + l.length) ([] ++ rowTurns (eachF w.heap.size) K l.length) w4 (kidsOf K l) [] X0 :=
    ⟨by rw [List.nil_append]; exact hturn, by rw [Nat.zero_add, hkl], by rw [hsnd], by rw [hsnd]; rfl, hV.stay hS (fun k hk _ => hb4.block k hk) ⟨hb4.os, hb4.tape, hb4.output, hb4.size, fun k hk => hb4.block k (Nat.lt_of_lt_of_le hk hM)⟩, r1, r2, (kk _ (by omega) (by omega)).trans g0, (kk _ (by omega) (by omega)).trans g2,
      ⟨hb4.os, hb4.tape, hb4.output, hb4.size, fun k hk _ _ => hb4.block k hk, fun _ h => .inl h⟩, ⟨hb4.os, hb4.tape, hb4.output, hb4.size, fun k hk => hb4.block k (Nat.lt_of_lt_of_le hk hM)⟩, fun k hk => by
        have := hlow k hk
        refine ⟨by omega, by omega, by omega, fun e => ?_⟩
        have := (World.ownsRow.lt r1 k e).1
        omega, hs4'⟩
  have HR := Lib.hid (run_any (each_runs (w := w) (X0 := X0) hV hall hM) (by omega) ⟨_, [], X0, hR⟩)
  clear hV hall hM hS hK hlow g0 g1 g2 hs3 hb3 hlen hKn r1 r2 r3 kk hs4 hs4' hb4 hsnd hturn hkl hR HH
  go_wp2_with fail
  refine HR.out.mono ?_
  rintro e w' ⟨⟨u, rfl⟩, k, v, pend, d, X, h⟩
  have hp : pend = [] := List.length_eq_zero_iff.1 h.len.symm
  subst hp
  have hd := h.done
  rw [List.map_nil, preL_nil, List.append_nil] at hd
  have HE := Lib.hid (show ∃ X', S (preL l) [] X' w' ∧ Touch X0 X' w w' ∧ Below M w w' from ⟨X, hd ▸ h.state, h.touch, h.below⟩)
  clear hd h HR
  go_wp2
  go_returns
  exact ⟨⟨_, rfl⟩, HE.out⟩
end Go.Proofs.YtlikpnaffpngiaaGreatDoor

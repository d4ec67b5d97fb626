/- Package term's stopped, where nothing is thrown. -/
import Derived.Test.YtlikpnaffpngiaaGreatDoorTEachs
import Derived.Defers
import Derived.Recover
import Derived.Laws.Pointers
set_option linter.unusedVariables false
set_option linter.unusedSimpArgs false
namespace Go.Proofs.YtlikpnaffpngiaaGreatDoor
open Go.RowKit

theorem stop_idle (p : Addr) (w : World) :
    CallsD Tryz.prog 51 #[.pointer (some p)] .returning w fun e u' w' => e = .returned (.tuple #[]) ∧ u' = .returning ∧ w' = w := by
  refine callsD_of_wpS Tryz.func51 rfl fun c₀ cs hu => ?_
  apply wpS_seq
  apply wpS_region
  simp [wpOpsS, go_sem, recoverD, hu, Tryz.ntmps51, Exit.thenS]
  apply wpS_seq
  apply wpS_region
  simp [wpOpsS, go_sem, Exit.thenS, Act.eval, Array.replicate]
  refine wpS_cond (t := false) (by simp [Act.eval, Array.replicate]) ?_
  simp only [Bool.false_eq_true, if_false]
  refine wpS_of_wp (wp_skip ?_)
  cases c₀
  simp_all [bodyPostS, results, Tryz.results51, go_sem]
set_option maxRecDepth 100000 in
set_option maxHeartbeats 3200000 in
theorem stopped_ok {w : World} {F : FuncId} {fs cs : Array Value} {P : World → Prop} (hen : ∀ args w, (callFunc F args).run Tryz.prog w = .ok (.enter F args) w)
    (hc : Calls Tryz.prog F (fs ++ cs) (w.alloc (.cells #[.int .i64 0] 32)) fun e w' => (∃ u, e = .returned u) ∧ P w') (hP : ∀ w', P w' → w'.heap[w.heap.size]? = some (.cells #[.int .i64 0] 32 (0, 0))) :
    Calls Tryz.prog 42 #[.func (.func F) fs cs] w fun e w' => e = .returned (.int .i64 0) ∧ ∃ w2, P w2 ∧ w' = w2.setCell ⟨w.heap.size, 0, none⟩ (.int .i64 0) := by
  have hmf : ∀ (fn : Fn) (first cap : Array Value) (w : World), (Instr.makeFunc fn first cap).run Tryz.prog w = .ok (.func fn first cap) w := fun _ _ _ _ => rfl
  have HC := Lib.hid hc
  have HP := Lib.hid hP
  clear hc hP
  go_enter_defers Tryz.func42, Tryz.ntmps42
  go_wp2_with fail
  refine HC.out.mono ?_
  rintro e w2 ⟨⟨u, rfl⟩, hp⟩
  have hb := HP.out w2 hp
  have m0 : w2.cell? ⟨w.heap.size, 0, none⟩ = some (.int .i64 0) := cell_one0 hb
  have f0 : w2.frozen? ⟨w.heap.size, 0, none⟩ = false := by simp [World.frozen?, hb]
  have n0 : (w2.setCell ⟨w.heap.size, 0, none⟩ (.int .i64 0)).cell? ⟨w.heap.size, 0, none⟩ = some (.int .i64 0) := cell_one0 (one_set hb)
  have HE := Lib.hid (show ∃ w3, P w3 ∧ w2.setCell ⟨w.heap.size, 0, none⟩ (.int .i64 0) = w3.setCell ⟨w.heap.size, 0, none⟩ (.int .i64 0) from ⟨w2, hp, rfl⟩)
  clear hp hb HC HP
  go_wp2
  refine leaves_cons (f := 51) (args := #[.pointer (some ⟨w.heap.size, 0, none⟩)]) (by simp) (by simp [go_sem]) ?_
  refine (stop_idle ⟨w.heap.size, 0, none⟩ _).mono ?_
  rintro e u' w'' ⟨rfl, rfl, rfl⟩
  simp [Leaves, settle, results, Tryz.results42, go_sem]
  exact ⟨.int .i64 0, by rw [n0], rfl, HE.out⟩
theorem stop_caught (p : Addr) (n : Int) (x : Value) (w : World) (hc : w.cell? p = some x) (hz : w.frozen? p = false) :
    CallsD Tryz.prog 51 #[.pointer (some p)] (.panicking [{ v := .iface 32 (.int .i64 n), recovered := false }]) w fun e u' w' => e = .returned (.tuple #[]) ∧ u' = .panicking [{ v := .iface 32 (.int .i64 n), recovered := true }] ∧ w' = w.setCell p (.int .i64 n) := by
  refine callsD_of_wpS Tryz.func51 rfl fun c₀ cs hu => ?_
  apply wpS_seq
  apply wpS_region
  simp [wpOpsS, go_sem, recoverD, hu, Tryz.ntmps51, Exit.thenS]
  apply wpS_seq
  apply wpS_region
  simp [wpOpsS, go_sem, Exit.thenS, Act.eval, Array.replicate]
  refine wpS_cond (t := true) (by simp [Act.eval, Array.replicate]) ?_
  simp only [if_true]
  have ht : (Instr.typeAssert (.iface 32 (.int .i64 n)) 20 32 false).run Tryz.prog w = .ok (.int .i64 n) w := by kernel_rfl
  apply wpS_region
  simp [wpOpsS, go_sem, ht, hc, hz, bodyPostS, results, Tryz.results51 ]
set_option maxRecDepth 100000 in
set_option maxHeartbeats 3200000 in
/-- As stopped_ok, where what is done may throw. -/
theorem stopped_any {w : World} {F : FuncId} {fs cs : Array Value} {P : World → Prop} {Z : Int → World → Prop} (hen : ∀ args w, (callFunc F args).run Tryz.prog w = .ok (.enter F args) w)
    (hc : Calls Tryz.prog F (fs ++ cs) (w.alloc (.cells #[.int .i64 0] 32)) fun e w' => Thrown Z e w' ∨ ((∃ u, e = .returned u) ∧ P w')) (hP : ∀ w', (P w' ∨ ∃ n, Z n w') → w'.heap[w.heap.size]? = some (.cells #[.int .i64 0] 32 (0, 0))) :
    Calls Tryz.prog 42 #[.func (.func F) fs cs] w fun e w' => (∃ n w2, Z n w2 ∧ e = .returned (.int .i64 n) ∧ w' = w2.setCell ⟨w.heap.size, 0, none⟩ (.int .i64 n)) ∨ (e = .returned (.int .i64 0) ∧ ∃ w2, P w2 ∧ w' = w2.setCell ⟨w.heap.size, 0, none⟩ (.int .i64 0)) := by
  have hmf : ∀ (fn : Fn) (first cap : Array Value) (w : World), (Instr.makeFunc fn first cap).run Tryz.prog w = .ok (.func fn first cap) w := fun _ _ _ _ => rfl
  have HC := Lib.hid hc
  have HP := Lib.hid hP
  clear hc hP
  go_enter_defers Tryz.func42, Tryz.ntmps42
  go_wp2_with fail
  refine HC.out.mono ?_
  rintro e w2 (⟨n, rfl, hz⟩ | ⟨⟨u, rfl⟩, hp⟩)
  · have hb := HP.out w2 (.inr ⟨n, hz⟩)
    have m0 : w2.cell? ⟨w.heap.size, 0, none⟩ = some (.int .i64 0) := cell_one0 hb
    have f0 : w2.frozen? ⟨w.heap.size, 0, none⟩ = false := by simp [World.frozen?, hb]
    have n0 : (w2.setCell ⟨w.heap.size, 0, none⟩ (.int .i64 n)).cell? ⟨w.heap.size, 0, none⟩ = some (.int .i64 n) := cell_one0 (one_set hb)
    have HE := Lib.hid (show (∃ m w3, Z m w3 ∧ (Value.int .i64 n) = .int .i64 m ∧ w2.setCell ⟨w.heap.size, 0, none⟩ (.int .i64 n) = w3.setCell ⟨w.heap.size, 0, none⟩ (.int .i64 m)) from ⟨n, w2, hz, rfl, rfl⟩)
    clear hz hb HC HP
    go_wp2
    refine leaves_cons (f := 51) (args := #[.pointer (some ⟨w.heap.size, 0, none⟩)]) (by simp) (by simp [go_sem]) ?_
    refine (stop_caught ⟨w.heap.size, 0, none⟩ n _ _ m0 f0).mono ?_
    rintro e u' w'' ⟨rfl, rfl, rfl⟩
    simp [Leaves, settle, results, Tryz.results42, go_sem]
    exact ⟨.int .i64 n, by rw [n0], .inl HE.out⟩
  have hb := HP.out w2 (.inl hp)
  have m0 : w2.cell? ⟨w.heap.size, 0, none⟩ = some (.int .i64 0) := cell_one0 hb
  have f0 : w2.frozen? ⟨w.heap.size, 0, none⟩ = false := by simp [World.frozen?, hb]
  have n0 : (w2.setCell ⟨w.heap.size, 0, none⟩ (.int .i64 0)).cell? ⟨w.heap.size, 0, none⟩ = some (.int .i64 0) := cell_one0 (one_set hb)
  have HE := Lib.hid (show ∃ w3, P w3 ∧ w2.setCell ⟨w.heap.size, 0, none⟩ (.int .i64 0) = w3.setCell ⟨w.heap.size, 0, none⟩ (.int .i64 0) from ⟨w2, hp, rfl⟩)
  clear hp hb HC HP
  go_wp2
  refine leaves_cons (f := 51) (args := #[.pointer (some ⟨w.heap.size, 0, none⟩)]) (by simp) (by simp [go_sem]) ?_
  refine (stop_idle ⟨w.heap.size, 0, none⟩ _).mono ?_
  rintro e u' w'' ⟨rfl, rfl, rfl⟩
  simp [Leaves, settle, results, Tryz.results42, go_sem]
  exact ⟨.int .i64 0, by rw [n0], .inr ⟨rfl, HE.out⟩⟩
end Go.Proofs.YtlikpnaffpngiaaGreatDoor

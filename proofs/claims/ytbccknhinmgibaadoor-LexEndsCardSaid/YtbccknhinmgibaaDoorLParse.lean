/- Package lex's Parse: the trees of any text, or the first fault. No condition. -/
import Derived.Test.YtbccknhinmgibaaDoorLTrees
import Derived.Defers
import Derived.Recover
import Derived.Laws.Pointers
import Derived.Shelf.Abstract
import Derived.RegionTactic
import Derived.BigRegion
set_option linter.unusedVariables false
set_option linter.unusedSimpArgs false
namespace Go.Proofs.YtbccknhinmgibaaDoor
open Go.RowKit

theorem rds_new {S : ByteArray} {w : World} {T TR : TypeId} : Below w.heap.size w ((w.alloc (.cells #[.string ⟨#[]⟩, .slice none 0 0, .bool true, .int .i64 0] T)).alloc (.cells #[.string S, .int .i64 0, .slice (some ⟨w.heap.size, 0, none⟩) 1 1] TR)) ∧ RdS w.heap.size T TR S (w.heap.size + 1) 0 ((w.alloc (.cells #[.string ⟨#[]⟩, .slice none 0 0, .bool true, .int .i64 0] T)).alloc (.cells #[.string S, .int .i64 0, .slice (some ⟨w.heap.size, 0, none⟩) 1 1] TR)) 0 (.slice (some ⟨w.heap.size, 0, none⟩) 1 1) [(.slice none 0 0, .nil, 0)] := by
  have s1 : (w.alloc (.cells #[.string ⟨#[]⟩, .slice none 0 0, .bool true, .int .i64 0] T)).heap.size = w.heap.size + 1 := World.size_alloc ..
  have ho := World.ownsRow_lit (base := w.heap.size) (e := T) (size := 4) w #[.string ⟨#[]⟩, .slice none 0 0, .bool true, .int .i64 0] 1 (Nat.le_refl _) (by unfold maxLen; omega) rfl
  refine ⟨((Below.refl _ _).alloc (Nat.le_refl _) _).alloc (by rw [s1]; omega) _, ⟨?_, ho.alloc _, fun q hq => ?_, ?_, fun v hv => ?_, by omega, fun q hq => ?_⟩⟩
  · rw [← s1]; exact heap_alloc_new _ _
  · obtain rfl := List.mem_singleton.1 hq
    exact ⟨[], World.ownsRow_nil _ _ _ _, rfl⟩
  · refine List.Pairwise.cons (fun v hv m hm => ?_) (List.Pairwise.cons (fun v hv => by cases hv) List.Pairwise.nil)
    obtain rfl := List.mem_singleton.1 hv
    intro e; cases e
  · rcases List.mem_cons.1 hv with rfl | hv
    · intro e; injection e with e; simp at e
    · obtain rfl := List.mem_singleton.1 hv
      intro e; cases e
  · obtain rfl := List.mem_singleton.1 hq
    exact Nat.le_refl _
set_option maxRecDepth 100000 in
theorem readerOf_ok {S : ByteArray} {w : World} : Calls Tryd.prog 24 #[.string S] w fun e w' => ∃ gr ov st, e = .returned (.pointer (some ⟨gr, 0, none⟩)) ∧ Below w.heap.size w w' ∧ RdS w.heap.size 35 92 S gr 0 w' 0 ov st ∧ st.map (fun q => (q.2.1, q.2.2)) = frames [] .nil := by
  go_enter Tryd.func24, Tryd.ntmps24
  go_wp2
  go_ret
  exact ⟨_, _, _, rfl, rds_new.1, rds_new.2, rfl⟩
theorem three_told {b1 b2 b3 : Nat} {v1 v2 v3 : Value} {T1 T2 T3 : TypeId} {x y z : Value} {o : Obj} {w w1 : World} (h1 : w1.heap[b1]? = some (.cells #[v1] T1 (0, 0))) (h2 : w1.heap[b2]? = some (.cells #[v2] T2 (0, 0))) (h3 : w1.heap[b3]? = some (.cells #[v3] T3 (0, 0))) (h12 : b1 ≠ b2) (h13 : b1 ≠ b3) (h23 : b2 ≠ b3) (hw : w1 = w.alloc o) :
    (((w1.setCell ⟨b1, 0, none⟩ x).setCell ⟨b2, 0, none⟩ y).setCell ⟨b3, 0, none⟩ z).drew.heap[b1]? = some (.cells #[x] T1 (0, 0)) ∧ (((w1.setCell ⟨b1, 0, none⟩ x).setCell ⟨b2, 0, none⟩ y).setCell ⟨b3, 0, none⟩ z).drew.heap[b2]? = some (.cells #[y] T2 (0, 0)) ∧ (((w1.setCell ⟨b1, 0, none⟩ x).setCell ⟨b2, 0, none⟩ y).setCell ⟨b3, 0, none⟩ z).drew.heap[b3]? = some (.cells #[z] T3 (0, 0)) ∧
    w.heap.size ≤ (((w1.setCell ⟨b1, 0, none⟩ x).setCell ⟨b2, 0, none⟩ y).setCell ⟨b3, 0, none⟩ z).drew.heap.size ∧ ((((w1.setCell ⟨b1, 0, none⟩ x).setCell ⟨b2, 0, none⟩ y).setCell ⟨b3, 0, none⟩ z).drew.os = w.os ∧ (((w1.setCell ⟨b1, 0, none⟩ x).setCell ⟨b2, 0, none⟩ y).setCell ⟨b3, 0, none⟩ z).drew.tape = w.tape ∧ (((w1.setCell ⟨b1, 0, none⟩ x).setCell ⟨b2, 0, none⟩ y).setCell ⟨b3, 0, none⟩ z).drew.output = w.output) ∧
    ∀ m, m < w.heap.size → m ≠ b1 → m ≠ b2 → m ≠ b3 → (((w1.setCell ⟨b1, 0, none⟩ x).setCell ⟨b2, 0, none⟩ y).setCell ⟨b3, 0, none⟩ z).drew.heap[m]? = w.heap[m]? := by
  have one : ∀ (W : World) (b : Nat) (v u : Value) (T : TypeId), W.heap[b]? = some (.cells #[v] T (0, 0)) → (W.setCell ⟨b, 0, none⟩ u).heap[b]? = some (.cells #[u] T (0, 0)) := fun W b v u T h => by simp [World.setCell, Array.getElem?_modify, h]
  have k1 := one w1 b1 v1 x T1 h1
  have k2 := one (w1.setCell ⟨b1, 0, none⟩ x) b2 v2 y T2 ((Below.heap_setCell _ _ _ _ h12.symm).trans h2)
  have k3 := one ((w1.setCell ⟨b1, 0, none⟩ x).setCell ⟨b2, 0, none⟩ y) b3 v3 z T3 ((Below.heap_setCell _ _ _ _ h23.symm).trans ((Below.heap_setCell _ _ _ _ h13.symm).trans h3))
  refine ⟨?_, ?_, k3, ?_, ?_, fun m hm m1 m2 m3 => ?_⟩
  · exact (Below.heap_setCell _ _ _ _ h13).trans ((Below.heap_setCell _ _ _ _ h12).trans k1)
  · exact (Below.heap_setCell _ _ _ _ h23).trans k2
  · have : w1.heap.size = w.heap.size + 1 := by rw [hw]; exact World.size_alloc ..
    show _ ≤ (((w1.setCell ⟨b1, 0, none⟩ x).setCell ⟨b2, 0, none⟩ y).setCell ⟨b3, 0, none⟩ z).heap.size
    simp only [World.size_setCell]
    omega
  · rw [hw]; exact ⟨rfl, rfl, rfl⟩
  · refine (Below.heap_setCell _ _ _ _ m3).trans ((Below.heap_setCell _ _ _ _ m2).trans ((Below.heap_setCell _ _ _ _ m1).trans ?_))
    rw [hw]; exact Below.heap_alloc _ _ _ hm
theorem parse_idle {p1 p2 p3 : Addr} {w : World} :
    CallsD Tryd.prog 23 #[.pointer (some p1), .pointer (some p2), .pointer (some p3)] .returning w fun e u' w' => e = .returned (.tuple #[]) ∧ u' = .returning ∧ w' = w := by
  refine callsD_of_wpS Tryd.func23 rfl fun c₀ cs hu => ?_
  apply wpS_seq
  apply wpS_region
  simp [wpOpsS, go_sem, recoverD, hu, Tryd.ntmps23, Exit.thenS]
  apply wpS_seq
  apply wpS_region
  simp [wpOpsS, go_sem, Exit.thenS, Act.eval, Array.replicate]
  refine wpS_cond (t := false) (by simp [Act.eval, Array.replicate]) ?_
  simp only [Bool.false_eq_true, if_false]
  refine wpS_of_wp (wp_skip ?_)
  cases c₀
  simp_all [bodyPostS, results, Tryd.results23, go_sem]
theorem parse_caught {b1 b2 b3 : Nat} {v1 v2 v3 : Value} {p n : Int} {w : World} (h1 : w.heap[b1]? = some (.cells #[v1] 27 (0, 0))) (h2 : w.heap[b2]? = some (.cells #[v2] 3 (0, 0))) (h3 : w.heap[b3]? = some (.cells #[v3] 28 (0, 0))) (h12 : b1 ≠ b2) (h13 : b1 ≠ b3) (h23 : b2 ≠ b3) :
    CallsD Tryd.prog 23 #[.pointer (some ⟨b1, 0, none⟩), .pointer (some ⟨b2, 0, none⟩), .pointer (some ⟨b3, 0, none⟩)] (.panicking [{ v := .iface 59 (.agg #[.int .i64 p, .int .i64 n]), recovered := false }]) w fun e u' w' => e = .returned (.tuple #[]) ∧ u' = .panicking [{ v := .iface 59 (.agg #[.int .i64 p, .int .i64 n]), recovered := true }] ∧
      w'.heap[b1]? = some (.cells #[.slice none 0 0] 27 (0, 0)) ∧ w'.heap[b2]? = some (.cells #[.int .i64 p] 3 (0, 0)) ∧ w'.heap[b3]? = some (.cells #[.int .i64 n] 28 (0, 0)) ∧ w.heap.size ≤ w'.heap.size ∧ (w'.os = w.os ∧ w'.tape = w.tape ∧ w'.output = w.output) ∧ ∀ m, m < w.heap.size → m ≠ b1 → m ≠ b2 → m ≠ b3 → w'.heap[m]? = w.heap[m]? := by
  refine callsD_of_wpS Tryd.func23 rfl fun c₀ cs hu => ?_
  apply wpS_seq
  apply wpS_region
  simp [wpOpsS, go_sem, recoverD, hu, Tryd.ntmps23, Exit.thenS]
  apply wpS_seq
  apply wpS_region
  simp [wpOpsS, go_sem, Exit.thenS, Act.eval, Array.replicate]
  refine wpS_cond (t := true) (by simp [Act.eval, Array.replicate]) ?_
  simp only [if_true]
  have ht : ∀ w, (Instr.typeAssert (.iface 59 (.agg #[.int .i64 p, .int .i64 n])) 20 59 false).run Tryd.prog w = .ok (.agg #[.int .i64 p, .int .i64 n]) w := fun w => by kernel_rfl
  refine wpS_of_wp ?_
  have l1 := blk_lt h1
  have l2 := blk_lt h2
  have l3 := blk_lt h3
  obtain ⟨w1, hw1⟩ : ∃ w1, w1 = w.alloc (.cells #[.int .i64 p, .int .i64 n] 59) := ⟨_, rfl⟩
  have g1 : w1.heap[b1]? = some (.cells #[v1] 27 (0, 0)) := by rw [hw1]; exact (Below.heap_alloc _ _ _ l1).trans h1
  have g2 : w1.heap[b2]? = some (.cells #[v2] 3 (0, 0)) := by rw [hw1]; exact (Below.heap_alloc _ _ _ l2).trans h2
  have g3 : w1.heap[b3]? = some (.cells #[v3] 28 (0, 0)) := by rw [hw1]; exact (Below.heap_alloc _ _ _ l3).trans h3
  have g0 : w1.heap[w.heap.size]? = some (.cells #[.int .i64 p, .int .i64 n] 59 (0, 0)) := by rw [hw1]; exact heap_alloc_new _ _
  have a1 : w1.cell? ⟨b1, 0, none⟩ = some v1 := cell_of_row _ _ 0 _ _ _ g1
  have a2 : w1.cell? ⟨b2, 0, none⟩ = some v2 := cell_of_row _ _ 0 _ _ _ g2
  have a3 : w1.cell? ⟨b3, 0, none⟩ = some v3 := cell_of_row _ _ 0 _ _ _ g3
  have a4 : w1.cell? ⟨w.heap.size, 0, none⟩ = some (.int .i64 p) := (cell_of_row _ _ 0 _ _ _ g0).trans rfl
  have a5 : w1.cell? ⟨w.heap.size, 1, none⟩ = some (.int .i64 n) := (cell_of_row _ _ 1 _ _ _ g0).trans rfl
  have f1 : w1.frozen? ⟨b1, 0, none⟩ = false := by simp [World.frozen?, g1]
  have f2 : w1.frozen? ⟨b2, 0, none⟩ = false := by simp [World.frozen?, g2]
  have f3 : w1.frozen? ⟨b3, 0, none⟩ = false := by simp [World.frozen?, g3]
  have n1 : ¬ w.heap.size = b1 := by omega
  have n2 : ¬ w.heap.size = b2 := by omega
  have n3 : ¬ w.heap.size = b3 := by omega
  have HW := Lib.hid hw1
  have HG := Lib.hid (show _ ∧ _ ∧ _ from ⟨g1, g2, g3⟩)
  have HN := Lib.hid (show _ ∧ _ ∧ _ from ⟨l1, l2, l3⟩)
  clear h1 h2 h3 hw1 g0 g1 g2 g3 l1 l2 l3
  go_wp2
  rw [← HW.out]
  go_region
  exact ⟨rfl, _, rfl, .tuple #[], by simp [results, Tryd.results23, go_sem], rfl, rfl, three_told HG.out.1 HG.out.2.1 HG.out.2.2 h12 h13 h23 HW.out⟩
end Go.Proofs.YtbccknhinmgibaaDoor

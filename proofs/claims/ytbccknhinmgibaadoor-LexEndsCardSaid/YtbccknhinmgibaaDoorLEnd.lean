/- Package lex's end: the innermost row is closed, or the fault. Premise: what stands while the reader reads. -/
import Derived.Test.YtbccknhinmgibaaDoorLWord
set_option linter.unusedVariables false
set_option linter.unusedSimpArgs false
namespace Go.Proofs.YtbccknhinmgibaaDoor
open Go.RowKit

variable {B : Nat} {T TR : TypeId} {S : ByteArray} {gr N : Nat} {w w1 : World} {i : Nat} {ov : Value} {st : List (Value × Fo × Nat)}
theorem top_four {v : Value} {f : Fo} {a : Nat} : (cellsOf ((v, f, a) :: st))[st.length * 4]? = some (.string ⟨#[]⟩) ∧ (cellsOf ((v, f, a) :: st))[st.length * 4 + 1]? = some v ∧ (cellsOf ((v, f, a) :: st))[st.length * 4 + 2]? = some (.bool true) ∧ (cellsOf ((v, f, a) :: st))[st.length * 4 + 3]? = some (.int .i64 (a : Int)) := by
  have h : ∀ j, j < 4 → (cellsOf ((v, f, a) :: st))[st.length * 4 + j]? = [.string ⟨#[]⟩, v, .bool true, .int .i64 (a : Int)][j]? := fun j hj => by
    rw [cellsOf, List.getElem?_append_right (by rw [cellsOf_len]; omega), cellsOf_len, Nat.add_sub_cancel_left]
  exact ⟨h 0 (by omega), h 1 (by omega), h 2 (by omega), h 3 (by omega)⟩
set_option maxRecDepth 100000 in
set_option maxHeartbeats 3200000 in
theorem end_ok {v v2 : Value} {f f2 : Fo} {a a2 : Nat} (h : RdS B 35 92 S gr N w i ov ((v, f, a) :: (v2, f2, a2) :: st)) (hi : i ≤ 262144) (hN : N ≤ 1000000) (hst : st.length ≤ 1000) :
    Calls Tryd.prog 53 #[.pointer (some ⟨gr, 0, none⟩)] w fun e w' => e = .returned (.tuple #[]) ∧ Below B w w' ∧ ∃ ov' v', RdS B 35 92 S gr (N + 1) w' (i + 1) ov' ((v', f2.app (.one ⟨#[]⟩ f true a), a2) :: st) := by
  obtain ⟨g, cap, rfl, hBg, hgl⟩ := h.own.form (Nat.succ_pos _)
  have m2 : w.cell? ⟨gr, 2, none⟩ = some (.slice (some ⟨g, 0, none⟩) (((v2, f2, a2) :: st).length + 1) cap) := (cell_of_row _ _ 2 _ _ _ h.rd).trans rfl
  obtain ⟨t0, t1, t2, t3⟩ := top_four (st := (v2, f2, a2) :: st) (v := v) (f := f) (a := a)
  have mc := fun j (hj : j < (((v2, f2, a2) :: st).length + 1) * 4) => World.ownsRow.cellAt h.own j hj
  have k0 := (mc (((v2, f2, a2) :: st).length * 4) (by omega)).trans t0
  have k1 := (mc (((v2, f2, a2) :: st).length * 4 + 1) (by omega)).trans t1
  have k2 := (mc (((v2, f2, a2) :: st).length * 4 + 2) (by omega)).trans t2
  have k3 := (mc (((v2, f2, a2) :: st).length * 4 + 3) (by omega)).trans t3
  clear mc t0 t1 t2 t3
  have hfr : w.frozen? ⟨gr, 2, none⟩ = false := by simp [World.frozen?, h.rd]
  have hgr := blk_lt h.rd
  have hgn : ¬ gr = g := fun e => h.far _ (List.mem_cons_self ..) (by rw [e]; rfl)
  have hgn2 : ¬ g = gr := fun e => hgn e.symm
  have hcap : ((v2, f2, a2) :: st).length + 1 ≤ cap := by
    rcases h.own.2 with ⟨e, _⟩ | ⟨g', cap', cur, e, _, _, h5, _⟩
    · cases e
    · injection e with _ _ e3; subst e3; exact h5
  have hlen : ((v2, f2, a2) :: st).length = st.length + 1 := rfl
  obtain ⟨A, cA, hv, hvc, hvm, hdep⟩ := (h.kids _ (List.mem_cons_self ..)).dep (D' := fun _ => True) (fun _ _ => trivial) fun _ _ => trivial
  have hv : v = .slice A f.len cA := hv
  subst hv
  obtain ⟨n, hn⟩ : ∃ n, n = ((v2, f2, a2) :: st).length := ⟨_, rfl⟩
  have hn0 : 0 < n := by omega
  have hn1 : n ≤ 1001 := by omega
  rw [← hn] at m2 k0 k1 k2 k3 hcap
  have HH := Lib.hid (show _ ∧ _ ∧ _ ∧ _ ∧ _ from ⟨h, hN, hst, hn, hi⟩)
  clear h hN hst hn hlen hv hvc hvm hdep hi
  go_enter Tryd.func53, Tryd.ntmps53
  go_wp2_with fail
  refine need_yes.mono ?_
  rintro e w1 ⟨rfl, rfl⟩
  go_wp2_with fail
  obtain ⟨h, hN, hst, hn2, hi⟩ := HH.out
  obtain ⟨w2, hw2⟩ : ∃ w2, w2 = ((w1.setCell ⟨gr, 2, none⟩ (.slice (some ⟨g, 0, none⟩) n cap)).alloc (Obj.cells #[.string ⟨#[]⟩, .slice A f.len cA, .bool true, .int .i64 (a : Int)] 35)).alloc (Obj.cells #[.string ⟨#[]⟩, .slice A f.len cA, .bool true, .int .i64 (a : Int)] 35) := ⟨_, rfl⟩
  have hz1 : (w1.setCell ⟨gr, 2, none⟩ (.slice (some ⟨g, 0, none⟩) n cap)).heap.size = w1.heap.size := by simp
  have hz2 : ((w1.setCell ⟨gr, 2, none⟩ (.slice (some ⟨g, 0, none⟩) n cap)).alloc (Obj.cells #[.string ⟨#[]⟩, .slice A f.len cA, .bool true, .int .i64 (a : Int)] 35)).heap.size = w1.heap.size + 1 := by rw [World.size_alloc, hz1]
  have hold : ∀ m, m < w1.heap.size → w2.heap[m]? = (w1.setCell ⟨gr, 2, none⟩ (.slice (some ⟨g, 0, none⟩) n cap)).heap[m]? := fun m hm => by
    rw [hw2, Below.heap_alloc _ _ _ (by rw [hz2]; omega), Below.heap_alloc _ _ _ (by rw [hz1]; omega)]
  have hnew : w2.heap[w1.heap.size + 1]? = some (.cells #[.string ⟨#[]⟩, .slice A f.len cA, .bool true, .int .i64 (a : Int)] 35 (0, 0)) := by
    rw [hw2, ← hz2]; exact heap_alloc_new _ _
  have hsz : w2.heap.size = w1.heap.size + 2 := by rw [hw2, World.size_alloc, hz2]
  have hb2 : Below B w1 w2 := ⟨by rw [hw2]; rfl, by rw [hw2]; rfl, by rw [hw2]; rfl, by omega, fun m hm => (hold m (by have := h.low; omega)).trans (Below.heap_setCell _ _ _ _ (show m ≠ gr by have := h.low; omega))⟩
  have hpop := h.pop (W' := w2) (by rw [hold gr hgr, ← hn2]; exact three_set2 h.rd) fun m hm hne => (hold m hm).trans (Below.heap_setCell _ _ _ _ hne)
  obtain ⟨hr2, A', cA', hv', hvc, hvm, hdep⟩ := hpop
  injection hv' with e1 e2 e3
  subst e1; subst e3
  have hf : f.len ≤ 1000000 := Nat.le_trans (h.few _ (List.mem_cons_self ..)) hN
  rw [← hw2]
  refine (put_ok hr2 ⟨show (⟨#[]⟩ : ByteArray).size ≤ 140737488355328 from Nat.zero_le _, hvc, hvm, by omega⟩ hdep hnew hN hst).mono ?_
  rintro e w3 ⟨rfl, hb3, v', hr3⟩
  have m1 := hr3.place.2
  have f1 : w3.frozen? ⟨gr, 1, none⟩ = false := by simp [World.frozen?, hr3.rd]
  have HO := Lib.hid (onward_ok m1 f1 (by omega))
  have HF := Lib.hid (show _ ∧ _ from ⟨hr3.below_set 1 (.int .i64 ((i + 1 : Nat) : Int)) (hb2.trans hb3), hr3.step (i + 1)⟩)
  clear h hN hst hn2 hi hz1 hz2 hold hnew hsz hb2 hr2 hvc hvm hdep hf hb3 hr3 m1 f1 hw2 k0 k1 k2 k3 m2 HH
  go_wp2_with fail
  refine HO.out.mono ?_
  rintro e w4 ⟨rfl, rfl⟩
  go_wp2
  go_returns
  exact ⟨rfl, HF.out.1, _, _, HF.out.2⟩
set_option maxRecDepth 100000 in
set_option maxHeartbeats 3200000 in
theorem end_no {v : Value} {f : Fo} {a : Nat} (h : RdS B 35 92 S gr N w i ov [(v, f, a)]) :
    Calls Tryd.prog 53 #[.pointer (some ⟨gr, 0, none⟩)] w fun e w' => e = faultP i 20 ∧ w' = w := by
  obtain ⟨g, cap, rfl, hBg, hgl⟩ := h.own.form (Nat.succ_pos _)
  have m2 : w.cell? ⟨gr, 2, none⟩ = some (.slice (some ⟨g, 0, none⟩) 1 cap) := (cell_of_row _ _ 2 _ _ _ h.rd).trans rfl
  have m1 := h.place.2
  clear h
  go_enter Tryd.func53, Tryd.ntmps53
  go_wp2_with fail
  refine (need_no m1).mono ?_
  rintro e w2 ⟨rfl, rfl⟩
  exact ⟨rfl, rfl, rfl⟩
end Go.Proofs.YtbccknhinmgibaaDoor

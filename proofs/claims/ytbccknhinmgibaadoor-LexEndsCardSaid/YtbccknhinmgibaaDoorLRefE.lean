/- The close of the document's answer of layer 13, walked. Premise: at most 10^6 trees in a row, at most 1000 rows. -/
import Derived.Test.YtbccknhinmgibaaDoorLRefC
import Derived.Test.YtbccknhinmgibaaDoorLRefB
set_option linter.unusedVariables false
set_option linter.unusedSimpArgs false
namespace Go.Proofs.YtbccknhinmgibaaDoor
open Go.RowKit

theorem slice_cap {w : World} {B : Nat} {T : TypeId} {sz n k c : Nat} {g : Nat} {C : List Value} (h : w.ownsRow B T sz (.slice (some ⟨g, 0, none⟩) k c) n C) : k = n ∧ n ≤ c := by
  rcases h.2 with ⟨e, _⟩ | ⟨g', cap', cur, e, _, _, h5, _⟩
  · cases e
  · injection e with _ e2 e3; subst e3; exact ⟨e2, h5⟩
theorem pair_set0 {W : World} {g : Nat} {a b u : Value} {T : TypeId} (h : W.heap[g]? = some (.cells #[a, b] T (0, 0))) : (W.setCell ⟨g, 0, none⟩ u).heap[g]? = some (.cells #[u, b] T (0, 0)) := (heap_setCell_same W g 0 _ T u h).trans rfl
theorem pair_set1 {W : World} {g : Nat} {a b u : Value} {T : TypeId} (h : W.heap[g]? = some (.cells #[a, b] T (0, 0))) : (W.setCell ⟨g, 1, none⟩ u).heap[g]? = some (.cells #[a, u] T (0, 0)) := (heap_setCell_same W g 1 _ T u h).trans rfl
set_option maxRecDepth 100000 in
set_option maxHeartbeats 6400000 in
theorem rclose_ok {B gr N : Nat} {w : World} {lv bv : Value} {st : List (Value × Fo × Nat)} {v v2 : Value} {f f2 : Fo} {a a2 : Nat} (h : RfS B gr N w lv bv ((v, f, a) :: (v2, f2, a2) :: st)) (hN : N ≤ 1000000) (hst : st.length ≤ 999) :
    Calls Tryd.prog 37 #[.pointer (some ⟨gr, 0, none⟩)] w fun e w' => e = .returned (.tuple #[]) ∧ Below B w w' ∧ ∃ lv' bv' v', RfS B gr (N + 1) w' lv' bv' ((v', f2.app (.one ⟨#[]⟩ f true a), a2) :: st) := by
  obtain ⟨n, hn⟩ : ∃ n, n = ((v2, f2, a2) :: st).length := ⟨_, rfl⟩
  obtain ⟨gl, cl, rfl, hBl, hgl⟩ := h.ownl.form (Nat.succ_pos _)
  obtain ⟨gb, cb, rfl, hBb, hgb⟩ := h.ownb.form (Nat.succ_pos _)
  have hlen : ((v, f, a) :: (v2, f2, a2) :: st).length = n + 1 := by rw [hn]; rfl
  rw [hlen] at h
  have m0 : w.cell? ⟨gr, 0, none⟩ = some (.slice (some ⟨gl, 0, none⟩) (n + 1) cl) := (cell_of_row _ _ 0 _ _ _ h.rd).trans rfl
  have m1 : w.cell? ⟨gr, 1, none⟩ = some (.slice (some ⟨gb, 0, none⟩) (n + 1) cb) := (cell_of_row _ _ 1 _ _ _ h.rd).trans rfl
  have ol := h.ownl
  have ob := h.ownb
  rw [hlen] at ol ob
  have mk : w.cell? ⟨gl, n, none⟩ = some v := by
    refine (World.ownsRow.cellAt ol _ (by omega)).trans ?_
    have := rget v (((v2, f2, a2) :: st).map (·.1))
    rwa [List.length_map, ← hn] at this
  have mb : w.cell? ⟨gb, n, none⟩ = some (.int .i64 (a : Int)) := by
    refine (World.ownsRow.cellAt ob _ (by omega)).trans ?_
    have := rget (Value.int .i64 (a : Int)) (((v2, f2, a2) :: st).map (fun q => Value.int .i64 (q.2.2 : Int)))
    rwa [List.length_map, ← hn] at this
  have hcl := (slice_cap ol).2
  have hcb := (slice_cap ob).2
  have fr0 : w.frozen? ⟨gr, 0, none⟩ = false := by simp [World.frozen?, h.rd]
  have fr1 : w.frozen? ⟨gr, 1, none⟩ = false := by simp [World.frozen?, h.rd]
  have hgr := blk_lt h.rd
  obtain ⟨-, A, cA, hv, -⟩ := h.core.pop
  subst hv
  have hn0 : 0 < n := by rw [hn]; exact Nat.succ_pos _
  have hn1 : n ≤ 1000 := by rw [hn]; show st.length + 1 ≤ 1000; omega
  have hnl : n ≤ cl := by omega
  have hnb : n ≤ cb := by omega
  have x1 : (n : Int) < (n : Int) + 1 := by omega
  have hlr : gl ≠ gr := fun e => h.lg (by rw [← e]; rfl)
  have hbr : gb ≠ gr := fun e => h.bg (by rw [← e]; rfl)
  have HH := Lib.hid (show _ ∧ _ ∧ _ ∧ _ from ⟨h, hN, hst, hn⟩)
  have m0a : (w.alloc (.cells #[.string ⟨#[]⟩, .slice none 0 0, .bool false, .int .i64 0] 79)).cell? ⟨gr, 0, none⟩ = some (.slice (some ⟨gl, 0, none⟩) (n + 1) cl) := (cell_congr (Below.heap_alloc _ _ _ hgr)).trans m0
  have m1a : (w.alloc (.cells #[.string ⟨#[]⟩, .slice none 0 0, .bool false, .int .i64 0] 79)).cell? ⟨gr, 1, none⟩ = some (.slice (some ⟨gb, 0, none⟩) (n + 1) cb) := (cell_congr (Below.heap_alloc _ _ _ hgr)).trans m1
  have mka : (w.alloc (.cells #[.string ⟨#[]⟩, .slice none 0 0, .bool false, .int .i64 0] 79)).cell? ⟨gl, n, none⟩ = some (.slice A f.len cA) := (cell_congr (Below.heap_alloc _ _ _ hgl)).trans mk
  have mba : (w.alloc (.cells #[.string ⟨#[]⟩, .slice none 0 0, .bool false, .int .i64 0] 79)).cell? ⟨gb, n, none⟩ = some (.int .i64 (a : Int)) := (cell_congr (Below.heap_alloc _ _ _ hgb)).trans mb
  have HG := Lib.hid (show _ ∧ _ ∧ _ from ⟨hgr, hgl, hgb⟩)
  clear ol ob h hN hst hn hlen hcl hcb hgr hgl hgb
  go_enter Tryd.func37, Tryd.ntmps37
  go_wp2
  go_region
  have hne : ¬ w.heap.size = gr := fun e => by have := HG.out.1; omega
  have hne2 : ¬ gr = w.heap.size := fun e => hne e.symm
  obtain ⟨w2, hw2, hb2, hc2⟩ : ∃ w2, w2 = (w.alloc (.cells #[.string ⟨#[]⟩, .slice A f.len cA, .bool true, .int .i64 (a : Int)] 79)).drew ∧ Below w.heap.size w w2 ∧ w2.heap[w.heap.size]? = some (.cells #[.string ⟨#[]⟩, .slice A f.len cA, .bool true, .int .i64 (a : Int)] 79 (0, 0)) := ⟨_, rfl, ⟨rfl, rfl, rfl, by simp, fun m hm => Below.heap_alloc _ _ _ hm⟩, heap_alloc_new _ _⟩
  rw [← hw2]
  have m0b : w2.cell? ⟨gr, 0, none⟩ = some (.slice (some ⟨gl, 0, none⟩) (n + 1) cl) := (cell_congr (hb2.block _ HG.out.1)).trans m0
  have m1b : w2.cell? ⟨gr, 1, none⟩ = some (.slice (some ⟨gb, 0, none⟩) (n + 1) cb) := (cell_congr (hb2.block _ HG.out.1)).trans m1
  have fr0b : w2.frozen? ⟨gr, 0, none⟩ = false := (World.frozen?_of_block (hb2.block _ HG.out.1)).trans fr0
  have fr1b : w2.frozen? ⟨gr, 1, none⟩ = false := (World.frozen?_of_block (hb2.block _ HG.out.1)).trans fr1
  have t0 : w2.cell? ⟨w.heap.size, 0, none⟩ = some (.string ⟨#[]⟩) := (cell_of_row _ _ 0 _ _ _ hc2).trans rfl
  have t1 : w2.cell? ⟨w.heap.size, 1, none⟩ = some (.slice A f.len cA) := (cell_of_row _ _ 1 _ _ _ hc2).trans rfl
  have t2 : w2.cell? ⟨w.heap.size, 2, none⟩ = some (.bool true) := (cell_of_row _ _ 2 _ _ _ hc2).trans rfl
  have t3 : w2.cell? ⟨w.heap.size, 3, none⟩ = some (.int .i64 (a : Int)) := (cell_of_row _ _ 3 _ _ _ hc2).trans rfl
  have HB2 := Lib.hid hb2
  clear hw2 hc2 hb2 m0a m1a mka mba m0 m1 mk mb fr0 fr1
  go_wp2_with fail
  obtain ⟨h, hN, hst, hn⟩ := HH.out
  have hb2 := HB2.out
  have h2 := (hb2.block _ HG.out.1).trans h.rd
  have hpop := h.pop (w' := (w2.setCell ⟨gr, 0, none⟩ (.slice (some ⟨gl, 0, none⟩) n cl)).setCell ⟨gr, 1, none⟩ (.slice (some ⟨gb, 0, none⟩) n cb)) hn (pair_set1 (pair_set0 h2)) fun m hm hne => (Below.heap_setCell _ _ _ _ hne).trans ((Below.heap_setCell _ _ _ _ hne).trans (hb2.block m hm))
  obtain ⟨hr2, A', cA', hv', hvc, hvm, hdep⟩ := hpop
  injection hv' with e1 e2 e3
  subst e1; subst e3
  have hf : f.len ≤ 1000000 := Nat.le_trans (h.core.few _ (List.mem_cons_self ..)) hN
  have hlow := h.low
  have hbb : Below B w ((w2.setCell ⟨gr, 0, none⟩ (.slice (some ⟨gl, 0, none⟩) n cl)).setCell ⟨gr, 1, none⟩ (.slice (some ⟨gb, 0, none⟩) n cb)) := Below.setCell (Below.setCell (hb2.mono (by have := HG.out.1; omega)) (show B ≤ gr from hlow) _) (show B ≤ gr from hlow) _
  refine (rput_ok hr2 ⟨show (⟨#[]⟩ : ByteArray).size ≤ 140737488355328 from Nat.zero_le _, hvc, hvm, by omega⟩ hdep hN rfl (by omega)).mono ?_
  rintro e w3 ⟨rfl, hb3, v', hr3⟩
  have HF := Lib.hid (show _ ∧ _ from ⟨hbb.trans hb3, hr3⟩)
  clear hbb hb3 hr3 hdep hvc hvm hf hlow hr2 h2 hb2 h hN hst hn HH HB2 HG
  go_wp2
  go_returns
  exact ⟨rfl, HF.out.1, _, _, _, HF.out.2⟩
end Go.Proofs.YtbccknhinmgibaaDoor

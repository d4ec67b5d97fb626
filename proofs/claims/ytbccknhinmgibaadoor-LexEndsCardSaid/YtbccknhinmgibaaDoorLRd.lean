/- What stands while package lex's reader reads: its place, its open rows, the trees that were read. No condition. -/
import Derived.Test.YtbccknhinmgibaaDoorLM
import Derived.Test.YtbccknhinmgibaaDoorChecked
set_option linter.unusedVariables false
set_option linter.unusedSimpArgs false
namespace Go.Proofs.YtbccknhinmgibaaDoor
open Go.RowKit

/-- The cells of rows that are open, the innermost first in the list, the last one in memory. -/
def cellsOf : List (Value × Fo × Nat) → List Value
  | [] => []
  | q :: r => cellsOf r ++ [.string ⟨#[]⟩, q.1, .bool true, .int .i64 (q.2.2 : Int)]
theorem cellsOf_len : ∀ st, (cellsOf st).length = st.length * 4
  | [] => rfl
  | q :: r => by simp only [cellsOf, List.length_append, cellsOf_len r, List.length_cons, List.length_nil]; omega
/-- What is open, as rows. -/
def frames : Up → Fo → List (Fo × Nat)
  | [], ks => [(ks, 0)]
  | (a, js) :: u, ks => (ks, a) :: frames u js
theorem frames_len : ∀ (up : Up) (ks : Fo), (frames up ks).length = up.length + 1
  | [], _ => rfl
  | (a, js) :: u, ks => by simp [frames, frames_len u js]
def OffB (u v : Value) : Prop := ∀ m, u.ownBlock = some m → v.ownBlock ≠ some m
/-- Blocks that are no open row's. -/
def DD (B gr : Nat) (ov : Value) (st : List (Value × Fo × Nat)) (m : Nat) : Prop := B ≤ m ∧ m ≠ gr ∧ ∀ v ∈ ov :: st.map (·.1), v.ownBlock ≠ some m
structure RdS (B : Nat) (T TR : TypeId) (S : ByteArray) (gr N : Nat) (W : World) (i : Nat) (ov : Value) (st : List (Value × Fo × Nat)) : Prop where
  rd : W.heap[gr]? = some (.cells #[.string S, .int .i64 (i : Int), ov] TR (0, 0))
  own : W.ownsRow B T 4 ov st.length (cellsOf st)
  kids : ∀ q ∈ st, RowF B T (DD B gr ov st) W q.1 q.2.1
  apart : (ov :: st.map (·.1)).Pairwise OffB
  far : ∀ v ∈ ov :: st.map (·.1), v.ownBlock ≠ some gr
  low : B ≤ gr
  few : ∀ q ∈ st, q.2.1.len ≤ N
variable {B : Nat} {T TR : TypeId} {S : ByteArray} {gr N : Nat} {W W' : World} {i i' : Nat} {ov ov' : Value} {st : List (Value × Fo × Nat)}
theorem blk_lt {W : World} {g : Nat} {o : Obj} (h : W.heap[g]? = some o) : g < W.heap.size := lt_block h
/-- Where the reader's own block, and new ones, are all that changes. -/
theorem RdS.set (h : RdS B T TR S gr N W i ov st) (hr : W'.heap[gr]? = some (.cells #[.string S, .int .i64 (i' : Int), ov] TR (0, 0))) (hk : ∀ m, m < W.heap.size → m ≠ gr → W'.heap[m]? = W.heap[m]?) : RdS B T TR S gr N W' i' ov st := by
  have hlt : ∀ v ∈ ov :: st.map (·.1), ∀ m, v.ownBlock = some m → W'.heap[m]? = W.heap[m]? := fun v hv m hm => by
    refine hk m ?_ fun e => h.far v hv (by rw [hm, e])
    rcases List.mem_cons.1 hv with rfl | hv
    · exact (World.ownsRow.lt h.own m hm).2
    · obtain ⟨q, hq, rfl⟩ := List.mem_map.1 hv
      exact ((h.kids q hq).lt m hm).2
  refine ⟨hr, ownsRow_same h.own (hlt ov (List.mem_cons_self ..)), fun q hq => ?_, h.apart, h.far, h.low, h.few⟩
  exact (h.kids q hq).to (hlt q.1 (List.mem_cons_of_mem _ (List.mem_map.2 ⟨q, hq, rfl⟩))) fun a u hu hD => ⟨(cell_congr (hk _ (cell_lt hu) hD.2.1)).trans hu, hD⟩
theorem RdS.bel (h : RdS B T TR S gr N W i ov st) (hb : Below W.heap.size W W') : RdS B T TR S gr N W' i ov st := h.set ((hb.block _ (blk_lt h.rd)).trans h.rd) fun m hm _ => hb.block m hm
theorem RdS.more (h : RdS B T TR S gr N W i ov st) {N' : Nat} (hN : N ≤ N') : RdS B T TR S gr N' W i ov st := ⟨h.rd, h.own, h.kids, h.apart, h.far, h.low, fun q hq => Nat.le_trans (h.few q hq) hN⟩
theorem three_set1 {W : World} {g : Nat} {a b c v : Value} {t : TypeId} (h : W.heap[g]? = some (.cells #[a, b, c] t (0, 0))) : (W.setCell ⟨g, 1, none⟩ v).heap[g]? = some (.cells #[a, v, c] t (0, 0)) := by
  simp [World.setCell, Array.getElem?_modify, h]
theorem three_set2 {W : World} {g : Nat} {a b c v : Value} {t : TypeId} (h : W.heap[g]? = some (.cells #[a, b, c] t (0, 0))) : (W.setCell ⟨g, 2, none⟩ v).heap[g]? = some (.cells #[a, b, v] t (0, 0)) := by
  simp [World.setCell, Array.getElem?_modify, h]
theorem RdS.step (h : RdS B T TR S gr N W i ov st) (j : Nat) : RdS B T TR S gr N (W.setCell ⟨gr, 1, none⟩ (.int .i64 (j : Int))) j ov st := h.set (three_set1 h.rd) fun m _ hm => Below.heap_setCell _ _ _ _ hm
theorem RdS.below_set (h : RdS B T TR S gr N W i ov st) (o : Nat) (v : Value) {W0 : World} (hb : Below B W0 W) : Below B W0 (W.setCell ⟨gr, o, none⟩ v) := hb.setCell (show B ≤ gr from h.low) v
/-- A row more is open. -/
theorem RdS.push (h : RdS B T TR S gr N W i ov st) (ho : W'.ownsRow B T 4 ov' (st.length + 1) (cellsOf ((.slice none 0 0, .nil, i) :: st))) (hr : W'.heap[gr]? = some (.cells #[.string S, .int .i64 (i : Int), ov'] TR (0, 0))) (hk : ∀ m, m < W.heap.size → m ≠ gr → ov.ownBlock ≠ some m → W'.heap[m]? = W.heap[m]?)
    (hg : ov'.ownBlock = ov.ownBlock ∨ ∃ g, ov'.ownBlock = some g ∧ W.heap.size ≤ g) : RdS B T TR S gr N W' i ov' ((.slice none 0 0, .nil, i) :: st) := by
  have hap := List.pairwise_cons.1 h.apart
  have hlt : ∀ q ∈ st, ∀ m, q.1.ownBlock = some m → m < W.heap.size := fun q hq m hm => ((h.kids q hq).lt m hm).2
  have hgr := blk_lt h.rd
  have hof : ∀ q ∈ st, ∀ m, ov'.ownBlock = some m → q.1.ownBlock ≠ some m := fun q hq m hm e => by
    rcases hg with hg | ⟨g, hg, hge⟩
    · exact hap.1 q.1 (List.mem_map.2 ⟨q, hq, rfl⟩) m (by rw [← hg, hm]) e
    · have := hlt q hq m e; rw [hg] at hm; injection hm with hm; omega
  have hDD : ∀ m, DD B gr ov st m → m < W.heap.size → DD B gr ov' ((.slice none 0 0, .nil, i) :: st) m := fun m hD hm => by
    refine ⟨hD.1, hD.2.1, fun v hv => ?_⟩
    rcases List.mem_cons.1 hv with rfl | hv
    · rcases hg with hg | ⟨g, hg, hge⟩
      · rw [hg]; exact hD.2.2 ov (List.mem_cons_self ..)
      · rw [hg]; intro e; injection e with e; omega
    · rcases List.mem_cons.1 hv with rfl | hv
      · intro e; cases e
      · exact hD.2.2 v (List.mem_cons_of_mem _ hv)
  refine ⟨hr, ho, fun q hq => ?_, ?_, fun v hv => ?_, h.low, fun q hq => ?_⟩
  · rcases List.mem_cons.1 hq with rfl | hq
    · exact ⟨[], World.ownsRow_nil _ _ _ _, rfl⟩
    · have hne : ∀ m, q.1.ownBlock = some m → ov.ownBlock ≠ some m := fun m hm e => hap.1 q.1 (List.mem_map.2 ⟨q, hq, rfl⟩) m e hm
      refine (h.kids q hq).to (fun m hm => hk m (hlt q hq m hm) (fun e => h.far q.1 (List.mem_cons_of_mem _ (List.mem_map.2 ⟨q, hq, rfl⟩)) (by rw [hm, e])) (hne m hm)) fun a u hu hD => ?_
      exact ⟨(cell_congr (hk _ (cell_lt hu) hD.2.1 (hD.2.2 ov (List.mem_cons_self ..)))).trans hu, hDD _ hD (cell_lt hu)⟩
  · refine List.Pairwise.cons (fun v hv m hm => ?_) (List.Pairwise.cons (fun v _ m hm => by cases hm) hap.2)
    rcases List.mem_cons.1 hv with rfl | hv
    · intro e; cases e
    · obtain ⟨q, hq, rfl⟩ := List.mem_map.1 hv
      exact hof q hq m hm
  · rcases List.mem_cons.1 hv with rfl | hv
    · rcases hg with hg | ⟨g, hg, hge⟩
      · rw [hg]; exact h.far ov (List.mem_cons_self ..)
      · rw [hg]; intro e; injection e with e; omega
    · rcases List.mem_cons.1 hv with rfl | hv
      · intro e; cases e
      · exact h.far v (List.mem_cons_of_mem _ hv)
  · rcases List.mem_cons.1 hq with rfl | hq
    · exact Nat.zero_le _
    · exact h.few q hq
/-- A tree more in the innermost row. -/
theorem RdS.put {v v' : Value} {f k : Fo} {a : Nat} {C : List Value} {s : ByteArray} {b : Bool} {p : Int} {K : Option Addr} {c : Nat} (h : RdS B T TR S gr N W i ov ((v, f, a) :: st)) (hC : W.ownsRow B T 4 v f.len C ∧ KidsC (DD B gr ov ((v, f, a) :: st)) W C f)
    (hb : s.size ≤ 140737488355328 ∧ k.len ≤ c ∧ c ≤ maxLen ∧ k.len ≤ 140737488355328) (hd : DepF (DD B gr ov ((v, f, a) :: st)) W K k) (ho : W'.ownsRow B T 4 ov (st.length + 1) (cellsOf ((v', f.app (.one s k b p), a) :: st))) (hr : W'.heap[gr]? = W.heap[gr]?)
    (hn : W'.ownsRow B T 4 v' (f.len + 1) (C ++ [.string s, .slice K k.len c, .bool b, .int .i64 p])) (hk : ∀ m, m < W.heap.size → ov.ownBlock ≠ some m → v.ownBlock ≠ some m → W'.heap[m]? = W.heap[m]?)
    (hg : v'.ownBlock = v.ownBlock ∨ ∃ g, v'.ownBlock = some g ∧ W.heap.size ≤ g) : RdS B T TR S gr (N + 1) W' i ov ((v', f.app (.one s k b p), a) :: st) := by
  have hap := List.pairwise_cons.1 h.apart
  have hap2 := List.pairwise_cons.1 hap.2
  have hlt : ∀ q ∈ (v, f, a) :: st, ∀ m, q.1.ownBlock = some m → m < W.heap.size := fun q hq m hm => ((h.kids q hq).lt m hm).2
  have hov : ∀ m, ov.ownBlock = some m → m < W.heap.size := fun m hm => (World.ownsRow.lt h.own m hm).2
  have hgr := blk_lt h.rd
  have hDD : ∀ m, DD B gr ov ((v, f, a) :: st) m → m < W.heap.size → DD B gr ov ((v', f.app (.one s k b p), a) :: st) m := fun m hD hm => by
    refine ⟨hD.1, hD.2.1, fun u hu => ?_⟩
    rcases List.mem_cons.1 hu with rfl | hu
    · exact hD.2.2 _ (List.mem_cons_self ..)
    rcases List.mem_cons.1 hu with rfl | hu
    · rcases hg with hg | ⟨g, hg, hge⟩
      · exact fun e => hD.2.2 v (List.mem_cons_of_mem _ (List.mem_cons_self ..)) (hg.symm.trans e)
      · intro e
        have := hg.symm.trans e
        injection this with this; omega
    · exact hD.2.2 u (List.mem_cons_of_mem _ (List.mem_cons_of_mem _ hu))
  have hcell : ∀ a' u, W.cell? a' = some u → DD B gr ov ((v, f, a) :: st) a'.block → W'.cell? a' = some u ∧ DD B gr ov ((v', f.app (.one s k b p), a) :: st) a'.block := fun a' u hu hD =>
    ⟨(cell_congr (hk _ (cell_lt hu) (hD.2.2 ov (List.mem_cons_self ..)) (hD.2.2 v (List.mem_cons_of_mem _ (List.mem_cons_self ..))))).trans hu, hDD _ hD (cell_lt hu)⟩
  refine ⟨hr.trans h.rd, ho, fun q hq => ?_, ?_, fun u hu => ?_, h.low, fun q hq => ?_⟩
  · rcases List.mem_cons.1 hq with rfl | hq
    · refine ⟨_, by rw [Fo.len_app]; exact hn, KidsC.snoc hb (hd.to hcell) f (KidsC.to hcell f hC.2)⟩
    · have hm : q.1 ∈ st.map (·.1) := List.mem_map.2 ⟨q, hq, rfl⟩
      refine (h.kids q (List.mem_cons_of_mem _ hq)).to (fun m hm' => hk m (hlt q (List.mem_cons_of_mem _ hq) m hm') (fun e => ?_) (fun e => ?_)) hcell
      · exact hap.1 q.1 (List.mem_cons_of_mem _ hm) m e hm'
      · exact hap2.1 q.1 hm m e hm'
  · refine List.Pairwise.cons (fun u hu m hm => ?_) (List.Pairwise.cons (fun u hu m hm => ?_) hap2.2)
    · rcases List.mem_cons.1 hu with rfl | hu
      · rcases hg with hg | ⟨g, hg, hge⟩
        · exact fun e => hap.1 v (List.mem_cons_self ..) m hm (hg.symm.trans e)
        · intro e
          have h2 := hov m hm
          have := hg.symm.trans e
          injection this with this; omega
      · exact hap.1 u (List.mem_cons_of_mem _ hu) m hm
    · obtain ⟨q, hq, rfl⟩ := List.mem_map.1 hu
      rcases hg with hg | ⟨g, hg, hge⟩
      · exact hap2.1 q.1 hu m (hg.symm.trans hm)
      · intro e
        have h2 := hlt q (List.mem_cons_of_mem _ hq) m e
        have := hg.symm.trans hm
        injection this with this; omega
  · rcases List.mem_cons.1 hu with rfl | hu
    · exact h.far _ (List.mem_cons_self ..)
    rcases List.mem_cons.1 hu with rfl | hu
    · rcases hg with hg | ⟨g, hg, hge⟩
      · exact fun e => h.far v (List.mem_cons_of_mem _ (List.mem_cons_self ..)) (hg.symm.trans e)
      · intro e
        have := hg.symm.trans e
        injection this with this; omega
    · exact h.far u (List.mem_cons_of_mem _ (List.mem_cons_of_mem _ hu))
  · rcases List.mem_cons.1 hq with rfl | hq
    · have := h.few _ (List.mem_cons_self ..)
      show (f.app _).len ≤ N + 1
      rw [Fo.len_app]
      exact Nat.add_le_add_right this 1
    · exact Nat.le_succ_of_le (h.few q (List.mem_cons_of_mem _ hq))
/-- The innermost row is closed: what stands in it hangs on blocks that are no open row's. -/
theorem RdS.pop {v : Value} {f : Fo} {a n c : Nat} {K : Option Addr} (h : RdS B T TR S gr N W i (.slice K n c) ((v, f, a) :: st)) (hr : W'.heap[gr]? = some (.cells #[.string S, .int .i64 (i : Int), .slice K st.length c] TR (0, 0))) (hk : ∀ m, m < W.heap.size → m ≠ gr → W'.heap[m]? = W.heap[m]?) :
    RdS B T TR S gr N W' i (.slice K st.length c) st ∧ ∃ A cA, v = .slice A f.len cA ∧ f.len ≤ cA ∧ cA ≤ maxLen ∧ DepF (DD B gr (.slice K st.length c) st) W' A f := by
  have hn : n = st.length + 1 := by
    rcases h.own.2 with ⟨e, h0⟩ | ⟨g, cap, cur, e, _⟩
    · simp at h0
    · injection e
  subst hn
  have hap := List.pairwise_cons.1 h.apart
  have hap2 := List.pairwise_cons.1 hap.2
  have ho1 : (Value.slice K (st.length + 1) c).ownBlock = (Value.slice K st.length c).ownBlock := by cases K <;> rfl
  have hlt : ∀ u ∈ Value.slice K (st.length + 1) c :: ((v, f, a) :: st).map (·.1), ∀ m, u.ownBlock = some m → W'.heap[m]? = W.heap[m]? := fun u hu m hm => by
    refine hk m ?_ fun e => h.far u hu (by rw [hm, e])
    rcases List.mem_cons.1 hu with rfl | hu
    · exact (World.ownsRow.lt h.own m hm).2
    · obtain ⟨q, hq, rfl⟩ := List.mem_map.1 hu
      exact ((h.kids q hq).lt m hm).2
  have hDD : ∀ m, DD B gr (.slice K (st.length + 1) c) ((v, f, a) :: st) m → DD B gr (.slice K st.length c) st m := fun m hD => ⟨hD.1, hD.2.1, fun u hu => by
    rcases List.mem_cons.1 hu with rfl | hu
    · rw [← ho1]; exact hD.2.2 _ (List.mem_cons_self ..)
    · exact hD.2.2 u (List.mem_cons_of_mem _ (List.mem_cons_of_mem _ hu))⟩
  have hcell : ∀ a' u, W.cell? a' = some u → DD B gr (.slice K (st.length + 1) c) ((v, f, a) :: st) a'.block → W'.cell? a' = some u ∧ DD B gr (.slice K st.length c) st a'.block := fun a' u hu hD => ⟨(cell_congr (hk _ (cell_lt hu) hD.2.1)).trans hu, hDD _ hD⟩
  have ht : (cellsOf ((v, f, a) :: st)).take (st.length * 4) = cellsOf st := by
    rw [← cellsOf_len st]
    exact List.take_left
  refine ⟨⟨hr, ?_, fun q hq => ?_, List.Pairwise.cons (fun u hu m hm => hap.1 u (List.mem_cons_of_mem _ hu) m (ho1.trans hm)) hap2.2, fun u hu => ?_, h.low, fun q hq => h.few q (List.mem_cons_of_mem _ hq)⟩, ?_⟩
  · have := ownsRow_cut (k := st.length) h.own (by simp)
    rw [ht] at this
    exact ownsRow_same this fun m hm => hlt _ (List.mem_cons_self ..) m (ho1.trans hm)
  · exact (h.kids q (List.mem_cons_of_mem _ hq)).to (hlt q.1 (List.mem_cons_of_mem _ (List.mem_map.2 ⟨q, List.mem_cons_of_mem _ hq, rfl⟩))) hcell
  · rcases List.mem_cons.1 hu with rfl | hu
    · rw [← ho1]; exact h.far _ (List.mem_cons_self ..)
    · exact h.far u (List.mem_cons_of_mem _ (List.mem_cons_of_mem _ hu))
  · have h1 := (h.kids _ (List.mem_cons_self ..)).to (W' := W') (D' := DD B gr (.slice K st.length c) st) (hlt v (List.mem_cons_of_mem _ (List.mem_cons_self ..))) hcell
    refine h1.dep (fun _ h => h) fun m hm => ⟨(h1.lt m hm).1, fun e => h.far v (List.mem_cons_of_mem _ (List.mem_cons_self ..)) (by rw [← e]; exact hm), fun u hu => ?_⟩
    rcases List.mem_cons.1 hu with rfl | hu
    · intro e
      exact hap.1 v (List.mem_cons_self ..) m (ho1.trans e) hm
    · exact hap2.1 u hu m hm
end Go.Proofs.YtbccknhinmgibaaDoor

/- Rows in the making, of the call's own: apart from each other, and from blocks of X. No program's function, no condition. -/
import Derived.Test.YtbccknhinmgibaaDoorLRd
set_option linter.unusedVariables false
set_option linter.unusedSimpArgs false
namespace Go.Proofs.YtbccknhinmgibaaDoor
open Go.RowKit

/-- Blocks from B on that are none of X's, and no open row's. -/
def DX (B : Nat) (X : Nat → Prop) (st : List (Value × Fo × Nat)) (m : Nat) : Prop := B ≤ m ∧ ¬ X m ∧ ∀ q ∈ st, q.1.ownBlock ≠ some m
structure Core (B : Nat) (T : TypeId) (N : Nat) (X : Nat → Prop) (W : World) (st : List (Value × Fo × Nat)) : Prop where
  kids : ∀ q ∈ st, RowF B T (DX B X st) W q.1 q.2.1
  apart : (st.map (·.1)).Pairwise OffB
  far : ∀ q ∈ st, ∀ m, q.1.ownBlock = some m → ¬ X m
  few : ∀ q ∈ st, q.2.1.len ≤ N
variable {B : Nat} {T : TypeId} {N : Nat} {X X' : Nat → Prop} {W W' : World} {st : List (Value × Fo × Nat)}
/-- What changes in blocks of X alone, or is new. -/
theorem Core.outer (h : Core B T N X W st) (hk : ∀ m, m < W.heap.size → ¬ X m → W'.heap[m]? = W.heap[m]?) (hX : ∀ m, X' m → X m ∨ W.heap.size ≤ m) : Core B T N X' W' st := by
  refine ⟨fun q hq => (h.kids q hq).to (fun m hm => hk m ((h.kids q hq).lt m hm).2 (h.far q hq m hm)) fun a u hu hD => ⟨(cell_congr (hk _ (cell_lt hu) hD.2.1)).trans hu, hD.1, fun hx => ?_, hD.2.2⟩, h.apart, fun q hq m hm hx => ?_, h.few⟩
  · rcases hX _ hx with h' | h'
    · exact hD.2.1 h'
    · have := cell_lt hu; omega
  · rcases hX m hx with h' | h'
    · exact h.far q hq m hm h'
    · have := ((h.kids q hq).lt m hm).2; omega
theorem Core.more (h : Core B T N X W st) {N' : Nat} (hN : N ≤ N') : Core B T N' X W st := ⟨h.kids, h.apart, h.far, fun q hq => Nat.le_trans (h.few q hq) hN⟩
/-- A row more. -/
theorem Core.push (h : Core B T N X W st) (a : Nat) : Core B T N X W ((.slice none 0 0, .nil, a) :: st) := by
  refine ⟨fun q hq => ?_, List.Pairwise.cons (fun v _ m hm => by cases hm) h.apart, fun q hq m hm => ?_, fun q hq => ?_⟩
  · rcases List.mem_cons.1 hq with rfl | hq
    · exact ⟨[], World.ownsRow_nil _ _ _ _, rfl⟩
    · refine (h.kids q hq).to (fun _ _ => rfl) fun a u hu hD => ⟨hu, hD.1, hD.2.1, fun q' hq' => ?_⟩
      rcases List.mem_cons.1 hq' with rfl | hq'
      · intro e; cases e
      · exact hD.2.2 q' hq'
  · rcases List.mem_cons.1 hq with rfl | hq
    · cases hm
    · exact h.far q hq m hm
  · rcases List.mem_cons.1 hq with rfl | hq
    · exact Nat.zero_le _
    · exact h.few q hq
/-- The innermost row is closed. -/
theorem Core.pop {v : Value} {f : Fo} {a : Nat} (h : Core B T N X W ((v, f, a) :: st)) : Core B T N X W st ∧ ∃ A c, v = .slice A f.len c ∧ f.len ≤ c ∧ c ≤ maxLen ∧ DepF (DX B X st) W A f := by
  have hap := List.pairwise_cons.1 h.apart
  have hD : ∀ m, DX B X ((v, f, a) :: st) m → DX B X st m := fun m hm => ⟨hm.1, hm.2.1, fun q hq => hm.2.2 q (List.mem_cons_of_mem _ hq)⟩
  refine ⟨⟨fun q hq => (h.kids q (List.mem_cons_of_mem _ hq)).to (fun _ _ => rfl) fun _ _ hu hd => ⟨hu, hD _ hd⟩, hap.2, fun q hq => h.far q (List.mem_cons_of_mem _ hq), fun q hq => h.few q (List.mem_cons_of_mem _ hq)⟩, ?_⟩
  refine (h.kids _ (List.mem_cons_self ..)).dep hD fun m hm => ⟨((h.kids _ (List.mem_cons_self ..)).lt m hm).1, h.far _ (List.mem_cons_self ..) m hm, fun q hq e => ?_⟩
  exact hap.1 q.1 (List.mem_map.2 ⟨q, hq, rfl⟩) m hm e
/-- A tree more in the innermost row. -/
theorem Core.put {v v' : Value} {f k : Fo} {a : Nat} {C : List Value} {s : ByteArray} {b : Bool} {p : Int} {K : Option Addr} {c : Nat} (h : Core B T N X W ((v, f, a) :: st)) (hC : W.ownsRow B T 4 v f.len C ∧ KidsC (DX B X ((v, f, a) :: st)) W C f)
    (hb : s.size ≤ 140737488355328 ∧ k.len ≤ c ∧ c ≤ maxLen ∧ k.len ≤ 140737488355328) (hd : DepF (DX B X ((v, f, a) :: st)) W K k) (hn : W'.ownsRow B T 4 v' (f.len + 1) (C ++ [.string s, .slice K k.len c, .bool b, .int .i64 p]))
    (hk : ∀ m, m < W.heap.size → ¬ X m → v.ownBlock ≠ some m → W'.heap[m]? = W.heap[m]?) (hX : ∀ m, X' m → X m ∨ W.heap.size ≤ m) (hg : ∀ m, v'.ownBlock = some m → (v.ownBlock = some m ∨ W.heap.size ≤ m) ∧ ¬ X' m) : Core B T (N + 1) X' W' ((v', f.app (.one s k b p), a) :: st) := by
  have hap := List.pairwise_cons.1 h.apart
  have hlt : ∀ q ∈ (v, f, a) :: st, ∀ m, q.1.ownBlock = some m → m < W.heap.size := fun q hq m hm => ((h.kids q hq).lt m hm).2
  have hDD : ∀ m, DX B X ((v, f, a) :: st) m → m < W.heap.size → DX B X' ((v', f.app (.one s k b p), a) :: st) m := fun m hD hm => by
    refine ⟨hD.1, fun hx => ?_, fun q hq => ?_⟩
    · rcases hX m hx with h' | h'
      · exact hD.2.1 h'
      · omega
    · rcases List.mem_cons.1 hq with rfl | hq
      · intro e
        rcases (hg m e).1 with h' | h'
        · exact hD.2.2 _ (List.mem_cons_self ..) h'
        · omega
      · exact hD.2.2 q (List.mem_cons_of_mem _ hq)
  have hcell : ∀ a' u, W.cell? a' = some u → DX B X ((v, f, a) :: st) a'.block → W'.cell? a' = some u ∧ DX B X' ((v', f.app (.one s k b p), a) :: st) a'.block := fun a' u hu hD =>
    ⟨(cell_congr (hk _ (cell_lt hu) hD.2.1 (hD.2.2 _ (List.mem_cons_self ..)))).trans hu, hDD _ hD (cell_lt hu)⟩
  refine ⟨fun q hq => ?_, List.Pairwise.cons (fun u hu m hm => ?_) hap.2, fun q hq m hm => ?_, fun q hq => ?_⟩
  · rcases List.mem_cons.1 hq with rfl | hq
    · exact ⟨_, by rw [Fo.len_app]; exact hn, KidsC.snoc hb (hd.to hcell) f (KidsC.to hcell f hC.2)⟩
    · refine (h.kids q (List.mem_cons_of_mem _ hq)).to (fun m hm' => hk m (hlt q (List.mem_cons_of_mem _ hq) m hm') (h.far q (List.mem_cons_of_mem _ hq) m hm') fun e => ?_) hcell
      exact hap.1 q.1 (List.mem_map.2 ⟨q, hq, rfl⟩) m e hm'
  · obtain ⟨q, hq, rfl⟩ := List.mem_map.1 hu
    rcases (hg m hm).1 with h' | h'
    · exact hap.1 q.1 (List.mem_map.2 ⟨q, hq, rfl⟩) m h'
    · intro e
      have := hlt q (List.mem_cons_of_mem _ hq) m e
      omega
  · rcases List.mem_cons.1 hq with rfl | hq
    · exact (hg m hm).2
    · intro hx
      rcases hX m hx with h' | h'
      · exact h.far q (List.mem_cons_of_mem _ hq) m hm h'
      · have := hlt q (List.mem_cons_of_mem _ hq) m hm; omega
  · rcases List.mem_cons.1 hq with rfl | hq
    · have := h.few _ (List.mem_cons_self ..)
      show (f.app _).len ≤ N + 1
      rw [Fo.len_app]
      exact Nat.add_le_add_right this 1
    · exact Nat.le_succ_of_le (h.few q (List.mem_cons_of_mem _ hq))
end Go.Proofs.YtbccknhinmgibaaDoor

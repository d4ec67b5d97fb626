/- The document's answer of layer 13 while it reads: a row more, the innermost closed. No program's function, no condition. -/
import Derived.Test.YtbccknhinmgibaaDoorLRefA
set_option linter.unusedVariables false
set_option linter.unusedSimpArgs false
namespace Go.Proofs.YtbccknhinmgibaaDoor
open Go.RowKit

variable {B gr N n cl cb : Nat} {w w' : World} {lv bv lv' bv' v : Value} {st : List (Value × Fo × Nat)} {f : Fo} {a : Nat} {K L : Option Addr}
theorem take_last {α : Type} (q : α) (r : List α) : (q :: r).reverse.take r.length = r.reverse := by
  rw [List.reverse_cons, ← List.length_reverse]
  exact List.take_left
theorem RfS.pop (h : RfS B gr N w (.slice K (n + 1) cl) (.slice L (n + 1) cb) ((v, f, a) :: st)) (hn : n = st.length) (hr : w'.heap[gr]? = some (.cells #[.slice K n cl, .slice L n cb] 75 (0, 0))) (hk : ∀ m, m < w.heap.size → m ≠ gr → w'.heap[m]? = w.heap[m]?) :
    RfS B gr N w' (.slice K n cl) (.slice L n cb) st ∧ ∃ A c, v = .slice A f.len c ∧ f.len ≤ c ∧ c ≤ maxLen ∧ DepF (DX B (XR gr (.slice K n cl) (.slice L n cb)) st) w' A f := by
  obtain ⟨hc, A, c, e1, e2, e3, hd⟩ := h.core.pop
  have oK : ∀ j, (Value.slice K j cl).ownBlock = (Value.slice K (n + 1) cl).ownBlock := fun j => by cases K <;> rfl
  have oL : ∀ j, (Value.slice L j cb).ownBlock = (Value.slice L (n + 1) cb).ownBlock := fun j => by cases L <;> rfl
  have hX : XR gr (.slice K n cl) (.slice L n cb) = XR gr (.slice K (n + 1) cl) (.slice L (n + 1) cb) := by
    funext m
    show (_ ∨ _ ∨ _) = _
    rw [oK, oL]
    rfl
  have hlen : ((v, f, a) :: st).length = n + 1 := by rw [hn]; rfl
  refine ⟨⟨hr, ?_, ?_, hc.outer (fun m hm hx => hk m hm fun e => hx (.inl e)) (fun m hm => .inl (by rw [← hX]; exact hm)), fun m hm => ?_, by rw [oK]; exact h.lg, by rw [oL]; exact h.bg, h.low⟩, A, c, e1, e2, e3, hd.to fun p u hu hD => ⟨(cell_congr (hk _ (cell_lt hu) fun e => hD.2.1 (.inl e))).trans hu, by rw [hX]; exact hD⟩⟩
  · have ho := h.ownl
    rw [hlen] at ho
    have := ownsRow_cut (k := n) ho (Nat.le_succ n)
    rw [Nat.mul_one, hn, show st.length = (st.map (·.1)).length by simp, List.map_cons, take_last, List.length_map, ← hn] at this
    rw [← hn]
    exact ownsRow_same this fun m hm => hk m (World.ownsRow.lt this m hm).2 fun e => h.lg (by rw [← oK n, hm, e])
  · have ho := h.ownb
    rw [hlen] at ho
    have := ownsRow_cut (k := n) ho (Nat.le_succ n)
    rw [Nat.mul_one, hn, show st.length = (st.map (fun q => Value.int .i64 (q.2.2 : Int))).length by simp, List.map_cons, take_last, List.length_map, ← hn] at this
    rw [← hn]
    exact ownsRow_same this fun m hm => hk m (World.ownsRow.lt this m hm).2 fun e => h.bg (by rw [← oL n, hm, e])
  · rw [oL]
    exact h.lb m (by rw [← oK n]; exact hm)
theorem RfS.push (h : RfS B gr N w lv bv st) (hl : w'.ownsRow B 37 1 lv' (st.length + 1) ((st.map (·.1)).reverse ++ [.slice none 0 0])) (hb : w'.ownsRow B 3 1 bv' (st.length + 1) ((st.map (fun q => Value.int .i64 (q.2.2 : Int))).reverse ++ [.int .i64 (a : Int)]))
    (hr : w'.heap[gr]? = some (.cells #[lv', bv'] 75 (0, 0))) (hk : ∀ m, m < w.heap.size → m ≠ gr → lv.ownBlock ≠ some m → bv.ownBlock ≠ some m → w'.heap[m]? = w.heap[m]?) (hgl : ∀ m, lv'.ownBlock = some m → lv.ownBlock = some m ∨ w.heap.size ≤ m) (hgb : ∀ m, bv'.ownBlock = some m → bv.ownBlock = some m ∨ w.heap.size ≤ m) (hoff : OffB lv' bv') :
    RfS B gr N w' lv' bv' ((.slice none 0 0, .nil, a) :: st) := by
  have hgr := blk_lt h.rd
  refine ⟨hr, by simpa using hl, by simpa using hb, (h.core.outer (X' := XR gr lv' bv') (fun m hm hx => hk m hm (fun e => hx (.inl e)) (fun e => hx (.inr (.inl e))) fun e => hx (.inr (.inr e))) fun m hm => ?_).push a, hoff, fun e => ?_, fun e => ?_, h.low⟩
  · rcases hm with e | e | e
    · exact .inl (.inl e)
    · exact (hgl m e).imp_left fun e => .inr (.inl e)
    · exact (hgb m e).imp_left fun e => .inr (.inr e)
  · rcases hgl gr e with e | e
    · exact h.lg e
    · omega
  · rcases hgb gr e with e | e
    · exact h.bg e
    · omega
theorem RfS.start {gl gb gr : Nat} (hl : w.heap[gl]? = some (.cells #[.slice none 0 0] 37 (0, 0))) (hb : w.heap[gb]? = some (.cells #[.int .i64 0] 3 (0, 0))) (hr : w.heap[gr]? = some (.cells #[.slice (some ⟨gl, 0, none⟩) 1 1, .slice (some ⟨gb, 0, none⟩) 1 1] 75 (0, 0))) (h1 : B ≤ gl) (h2 : B ≤ gb) (h3 : B ≤ gr) (h4 : gl ≠ gb) (h5 : gl ≠ gr) (h6 : gb ≠ gr) :
    RfS B gr 0 w (.slice (some ⟨gl, 0, none⟩) 1 1) (.slice (some ⟨gb, 0, none⟩) 1 1) [(.slice none 0 0, .nil, 0)] := by
  refine ⟨hr, ⟨rfl, .inr ⟨gl, 1, _, rfl, h1, hl, Nat.le_refl _, by unfold maxLen; omega, rfl, rfl⟩⟩, ⟨rfl, .inr ⟨gb, 1, _, rfl, h2, hb, Nat.le_refl _, by unfold maxLen; omega, rfl, rfl⟩⟩, ?_, fun m hm e => ?_, fun e => ?_, fun e => ?_, h3⟩
  · refine ⟨fun q hq => ?_, List.pairwise_singleton .., fun q hq m hm => ?_, fun q hq => ?_⟩
    · obtain rfl := List.mem_singleton.1 hq
      exact ⟨[], World.ownsRow_nil _ _ _ _, rfl⟩
    · obtain rfl := List.mem_singleton.1 hq
      cases hm
    · obtain rfl := List.mem_singleton.1 hq
      exact Nat.zero_le _
  · injection hm with hm
    injection e with e
    exact h4 (hm.trans e.symm)
  · injection e with e; exact h5 e
  · injection e with e; exact h6 e
end Go.Proofs.YtbccknhinmgibaaDoor

/- What stands while the document's answer of layer 13 reads; its put: a tree more in the innermost row. Premise: at most 10^6 trees in a row, at most 1000 rows. -/
import Derived.Test.YtbccknhinmgibaaDoorLCore
import Derived.Test.YtbccknhinmgibaaDoorLBegin
import Derived.Test.YtbccknhinmgibaaDoorChecked
import Derived.Deep.AppendLies
import Derived.Deep.RegionLaw
import Derived.Deep.CutBlock
import Derived.Deep.CutRange
import Derived.BigRegion
import Derived.Tactics
import Derived.Outline
set_option linter.unusedVariables false
set_option linter.unusedSimpArgs false
namespace Go.Proofs.YtbccknhinmgibaaDoor
open Go.RowKit

/-- The blocks of the reader and of its two rows. -/
def XR (gr : Nat) (lv bv : Value) (m : Nat) : Prop := m = gr ∨ lv.ownBlock = some m ∨ bv.ownBlock = some m
structure RfS (B gr N : Nat) (W : World) (lv bv : Value) (st : List (Value × Fo × Nat)) : Prop where
  rd : W.heap[gr]? = some (.cells #[lv, bv] 75 (0, 0))
  ownl : W.ownsRow B 37 1 lv st.length (st.map (·.1)).reverse
  ownb : W.ownsRow B 3 1 bv st.length (st.map (fun q => Value.int .i64 (q.2.2 : Int))).reverse
  core : Core B 79 N (XR gr lv bv) W st
  lb : OffB lv bv
  lg : lv.ownBlock ≠ some gr
  bg : bv.ownBlock ≠ some gr
  low : B ≤ gr
theorem info_tree2 : (Tryd.prog.info? 79).map (fun i => (i.zero, i.size, i.bytes)) = some (some (.agg #[.string ⟨#[]⟩, .slice none 0 0, .bool false, .int .i64 0]), 4, 56) := by kernel_rfl
theorem rget {α : Type} (q : α) (r : List α) : (q :: r).reverse[r.length]? = some q := by
  rw [List.reverse_cons, List.getElem?_append_right (by simp), List.length_reverse, Nat.sub_self]; rfl
theorem rset {α : Type} (q q' : α) (r : List α) : (q :: r).reverse.set r.length q' = (q' :: r).reverse := by
  rw [List.reverse_cons, List.reverse_cons, List.set_append, if_neg (by simp), List.length_reverse, Nat.sub_self]; rfl
theorem one4' {a b c d : Value} (ha : a.oneCell' = true) (hb : b.oneCell' = true) (hc : c.oneCell' = true) (hd : d.oneCell' = true) : ∀ u ∈ [a, b, c, d], u.oneCell' = true := fun u hu => by
  simp at hu
  rcases hu with rfl | rfl | rfl | rfl <;> assumption
theorem four_news (w : World) (T : TypeId) (a b c d : Value) : ∀ j u, [a, b, c, d][j]? = some u → (w.alloc (.cells #[a, b, c, d] T)).drew.cell? ((⟨w.heap.size, 0, none⟩ : Addr).add j) = some u := fun j u hu => by
  rw [add_eq0]
  show (w.alloc (.cells #[a, b, c, d] T)).cell? _ = _
  rw [cell_of_row _ _ j _ _ _ (heap_alloc_new _ _)]
  simpa using hu
/-- Behind the append, and the stores. -/
theorem rput_fin {B gr N n gl cl g4 c4 : Nat} {w wf : World} {bv v : Value} {st : List (Value × Fo × Nat)} {f k : Fo} {a : Nat} {s : ByteArray} {b : Bool} {p : Int} {K : Option Addr} {c : Nat} {C : List Value} (h : RfS B gr N w (.slice (some ⟨gl, 0, none⟩) (n + 1) cl) bv ((v, f, a) :: st)) (hn : n = st.length)
    (hb : s.size ≤ 140737488355328 ∧ k.len ≤ c ∧ c ≤ maxLen ∧ k.len ≤ 140737488355328) (hd : DepF (DX B (XR gr (.slice (some ⟨gl, 0, none⟩) (n + 1) cl) bv) ((v, f, a) :: st)) w K k) (hC : w.ownsRow B 79 4 v f.len C) (hK : KidsC (DX B (XR gr (.slice (some ⟨gl, 0, none⟩) (n + 1) cl) bv) ((v, f, a) :: st)) w C f)
    (hr : wf.ownsRow B 79 4 (.slice (some ⟨g4, 0, none⟩) (f.len + 1) c4) (f.len + 1) (C ++ [.string s, .slice K k.len c, .bool b, .int .i64 p])) (hl : wf.heap[gl]? = (w.setCell ⟨gl, n, none⟩ (.slice (some ⟨g4, 0, none⟩) (f.len + 1) c4)).heap[gl]?) (hk : ∀ m, m < w.heap.size → m ≠ gl → v.ownBlock ≠ some m → wf.heap[m]? = w.heap[m]?)
    (hs : w.heap.size ≤ wf.heap.size) (hos : wf.os = w.os ∧ wf.tape = w.tape ∧ wf.output = w.output) (hg : v.ownBlock = some g4 ∨ w.heap.size ≤ g4) :
    Below B w wf ∧ RfS B gr (N + 1) wf (.slice (some ⟨gl, 0, none⟩) (n + 1) cl) bv ((.slice (some ⟨g4, 0, none⟩) (f.len + 1) c4, f.app (.one s k b p), a) :: st) := by
  have hgl := World.ownsRow.lt h.ownl gl rfl
  have hgr := blk_lt h.rd
  have hfar := h.core.far _ (List.mem_cons_self ..)
  have hvl : v.ownBlock ≠ some gl := fun e => hfar gl e (.inr (.inl rfl))
  have hvr : v.ownBlock ≠ some gr := fun e => hfar gr e (.inl rfl)
  have hlr : gr ≠ gl := fun e => h.lg (by rw [e]; rfl)
  have hvB : ∀ m, v.ownBlock = some m → B ≤ m := fun m hm => (World.ownsRow.lt hC m hm).1
  refine ⟨⟨hos.1, hos.2.1, hos.2.2, hs, fun m hm => hk m (by have := h.low; omega) (by omega) fun e => by have := hvB m e; omega⟩, ?_⟩
  have ho : w.ownsRow B 37 1 (.slice (some ⟨gl, 0, none⟩) (n + 1) cl) (n + 1) (((v, f, a) :: st).map (·.1)).reverse := by
    have := h.ownl
    rwa [show ((v, f, a) :: st).length = n + 1 by simp [hn]] at this
  have hst := (World.ownsRow.stored ho n (.slice (some ⟨g4, 0, none⟩) (f.len + 1) c4)).1
  rw [show (((v, f, a) :: st).map (·.1)).reverse.set n (.slice (some ⟨g4, 0, none⟩) (f.len + 1) c4) = (((Value.slice (some ⟨g4, 0, none⟩) (f.len + 1) c4, f.app (.one s k b p), a) :: st).map (·.1)).reverse by
    rw [List.map_cons, List.map_cons, hn, show st.length = (st.map (·.1)).length by simp]
    exact rset _ _ _] at hst
  refine ⟨(hk gr hgr hlr hvr).trans h.rd, ?_, ?_, ?_, h.lb, h.lg, h.bg, h.low⟩
  · rw [show ((Value.slice (some ⟨g4, 0, none⟩) (f.len + 1) c4, f.app (.one s k b p), a) :: st).length = n + 1 by simp [hn]]
    exact ownsRow_same hst fun m hm => by
      obtain rfl : gl = m := by injection hm
      exact hl
  · have := h.ownb
    refine ownsRow_same (show w.ownsRow B 3 1 bv ((Value.slice (some ⟨g4, 0, none⟩) (f.len + 1) c4, f.app (.one s k b p), a) :: st).length _ from this) fun m hm => hk m (World.ownsRow.lt h.ownb m hm).2 (fun e => ?_) fun e => hfar m e (.inr (.inr hm))
    exact h.lb gl rfl (by rw [← e]; exact hm)
  · refine h.core.put ⟨hC, hK⟩ hb hd hr (fun m hm hx hv => hk m hm (fun e => hx (.inr (.inl (by rw [e]; rfl)))) hv) (fun m hm => .inl hm) fun m hm => ?_
    obtain rfl : g4 = m := by injection hm
    refine ⟨hg, fun hx => ?_⟩
    rcases hg with hg | hg
    · exact hfar g4 hg hx
    · rcases hx with e | e | e
      · omega
      · obtain rfl : gl = g4 := by injection e
        omega
      · have := (World.ownsRow.lt h.ownb g4 e).2; omega
theorem set_os (w : World) (a : Addr) (u : Value) : (w.setCell a u).os = w.os := rfl
theorem set_tape (w : World) (a : Addr) (u : Value) : (w.setCell a u).tape = w.tape := rfl
theorem set_output (w : World) (a : Addr) (u : Value) : (w.setCell a u).output = w.output := rfl
theorem set_congr {w w' : World} {a : Addr} {u : Value} {m : Nat} (hm : m = a.block) (h : w'.heap[m]? = w.heap[m]?) : (w'.setCell a u).heap[m]? = (w.setCell a u).heap[m]? := by
  simp only [World.setCell, Array.getElem?_modify, h]
section
variable {B gr N n gl cl g4 c4 cv : Nat} {w W1 w4 : World} {bv : Value} {Av : Option Addr} {st : List (Value × Fo × Nat)} {f k : Fo} {a : Nat} {s : ByteArray} {b : Bool} {p : Int} {K : Option Addr} {c : Nat} {C : List Value}
theorem rput_five (hh : RfS B gr N w (.slice (some ⟨gl, 0, none⟩) (n + 1) cl) bv ((.slice Av f.len cv, f, a) :: st) ∧ (s.size ≤ 140737488355328 ∧ k.len ≤ c ∧ c ≤ maxLen ∧ k.len ≤ 140737488355328) ∧ DepF (DX B (XR gr (.slice (some ⟨gl, 0, none⟩) (n + 1) cl) bv) ((.slice Av f.len cv, f, a) :: st)) w K k ∧ w.ownsRow B 79 4 (.slice Av f.len cv) f.len C ∧ KidsC (DX B (XR gr (.slice (some ⟨gl, 0, none⟩) (n + 1) cl) bv) ((.slice Av f.len cv, f, a) :: st)) w C f ∧ n = st.length ∧ f.len ≤ 1000000)
    (hW : ∀ m, m < w.heap.size → W1.heap[m]? = w.heap[m]?) (hWs : w.heap.size ≤ W1.heap.size) (hWo : W1.os = w.os ∧ W1.tape = w.tape ∧ W1.output = w.output)
    (hr : w4.ownsRow B 79 4 (.slice (some ⟨g4, 0, none⟩) (f.len + 1) c4) (f.len + 1) (C ++ [.string s, .slice K k.len c, .bool b, .int .i64 p])) (q : W1.grownBy w4 (Value.slice Av f.len cv).ownBlock) (o : (Value.slice Av f.len cv).ownBlock = some g4 ∨ g4 = W1.heap.size) :
    Below B w (w4.setCell ⟨gl, n, none⟩ (.slice (some ⟨g4, 0, none⟩) (f.len + 1) c4)) ∧ RfS B gr (N + 1) (w4.setCell ⟨gl, n, none⟩ (.slice (some ⟨g4, 0, none⟩) (f.len + 1) c4)) (.slice (some ⟨gl, 0, none⟩) (n + 1) cl) bv ((.slice (some ⟨g4, 0, none⟩) (f.len + 1) c4, f.app (.one s k b p), a) :: st) := by
  obtain ⟨h, hb, hd, hC, hK, hn, -⟩ := hh
  have hgl := (World.ownsRow.lt h.ownl gl rfl).2
  have hvl : (Value.slice Av f.len cv).ownBlock ≠ some gl := fun e => h.core.far _ (List.mem_cons_self ..) gl e (.inr (.inl rfl))
  have h4 : g4 ≠ gl := by
    rcases o with o | o
    · intro e; exact hvl (by rw [o, e])
    · omega
  have hsz := q.size
  refine rput_fin h hn hb hd hC hK (ownsRow_same hr fun m hm => ?_) (set_congr rfl ((q.block gl (by omega) fun e => hvl e.symm).trans (hW gl hgl))) (fun m hm h1 h2 => ?_) (by simp; omega) ⟨q.os.trans hWo.1, q.tape.trans hWo.2.1, q.output.trans hWo.2.2⟩ (o.imp_right fun e => by omega)
  · obtain rfl : g4 = m := by injection hm
    exact Below.heap_setCell _ _ _ _ h4
  · exact (Below.heap_setCell _ _ _ _ h1).trans ((q.block m (by omega) fun e => h2 e.symm).trans (hW m hm))
theorem rput_three (hh : RfS B gr N w (.slice (some ⟨gl, 0, none⟩) (n + 1) cl) bv ((.slice Av f.len cv, f, a) :: st) ∧ (s.size ≤ 140737488355328 ∧ k.len ≤ c ∧ c ≤ maxLen ∧ k.len ≤ 140737488355328) ∧ DepF (DX B (XR gr (.slice (some ⟨gl, 0, none⟩) (n + 1) cl) bv) ((.slice Av f.len cv, f, a) :: st)) w K k ∧ w.ownsRow B 79 4 (.slice Av f.len cv) f.len C ∧ KidsC (DX B (XR gr (.slice (some ⟨gl, 0, none⟩) (n + 1) cl) bv) ((.slice Av f.len cv, f, a) :: st)) w C f ∧ n = st.length ∧ f.len ≤ 1000000)
    (hW : ∀ m, m < w.heap.size → W1.heap[m]? = w.heap[m]?) (hWs : w.heap.size ≤ W1.heap.size) (hWo : W1.os = w.os ∧ W1.tape = w.tape ∧ W1.output = w.output) {z0 z1 z2 z3 : Value}
    (hr : w4.ownsRow B 79 4 (.slice (some ⟨g4, 0, none⟩) (f.len + 1) c4) (f.len + 1) (C ++ [z0, z1, z2, z3])) (q : W1.grownBy w4 (Value.slice Av f.len cv).ownBlock) (o : (Value.slice Av f.len cv).ownBlock = some g4 ∨ g4 = W1.heap.size) :
    Below B w (((((w4.setCell ⟨gl, n, none⟩ (.slice (some ⟨g4, 0, none⟩) (f.len + 1) c4)).setCell ⟨g4, f.len * 4, none⟩ (.string s)).setCell ⟨g4, f.len * 4 + 1, none⟩ (.slice K k.len c)).setCell ⟨g4, f.len * 4 + 2, none⟩ (.bool b)).setCell ⟨g4, f.len * 4 + 3, none⟩ (.int .i64 p)) ∧
    RfS B gr (N + 1) (((((w4.setCell ⟨gl, n, none⟩ (.slice (some ⟨g4, 0, none⟩) (f.len + 1) c4)).setCell ⟨g4, f.len * 4, none⟩ (.string s)).setCell ⟨g4, f.len * 4 + 1, none⟩ (.slice K k.len c)).setCell ⟨g4, f.len * 4 + 2, none⟩ (.bool b)).setCell ⟨g4, f.len * 4 + 3, none⟩ (.int .i64 p)) (.slice (some ⟨gl, 0, none⟩) (n + 1) cl) bv ((.slice (some ⟨g4, 0, none⟩) (f.len + 1) c4, f.app (.one s k b p), a) :: st) := by
  obtain ⟨h, hb, hd, hC, hK, hn, -⟩ := hh
  have hgl := (World.ownsRow.lt h.ownl gl rfl).2
  have hvl : (Value.slice Av f.len cv).ownBlock ≠ some gl := fun e => h.core.far _ (List.mem_cons_self ..) gl e (.inr (.inl rfl))
  have h4 : g4 ≠ gl := by
    rcases o with o | o
    · intro e; exact hvl (by rw [o, e])
    · omega
  have hsz := q.size
  have s0 := ownsRow_same (W' := w4.setCell ⟨gl, n, none⟩ (.slice (some ⟨g4, 0, none⟩) (f.len + 1) c4)) hr fun m hm => by
    obtain rfl : g4 = m := by injection hm
    exact Below.heap_setCell _ _ _ _ h4
  have s1 := (World.ownsRow.stored s0 (f.len * 4) (.string s)).1
  have s2 := (World.ownsRow.stored s1 (f.len * 4 + 1) (.slice K k.len c)).1
  have s3 := (World.ownsRow.stored s2 (f.len * 4 + 2) (.bool b)).1
  have s4 := (World.ownsRow.stored s3 (f.len * 4 + 3) (.int .i64 p)).1
  rw [set_four hC.1] at s4
  obtain ⟨w8, hw8⟩ : ∃ w8, w8 = ((((w4.setCell ⟨gl, n, none⟩ (.slice (some ⟨g4, 0, none⟩) (f.len + 1) c4)).setCell ⟨g4, f.len * 4, none⟩ (.string s)).setCell ⟨g4, f.len * 4 + 1, none⟩ (.slice K k.len c)).setCell ⟨g4, f.len * 4 + 2, none⟩ (.bool b)).setCell ⟨g4, f.len * 4 + 3, none⟩ (.int .i64 p) := ⟨_, rfl⟩
  have hoff : ∀ m, m ≠ g4 → w8.heap[m]? = (w4.setCell ⟨gl, n, none⟩ (.slice (some ⟨g4, 0, none⟩) (f.len + 1) c4)).heap[m]? := fun m hm => by
    rw [hw8, Below.heap_setCell _ _ _ _ hm, Below.heap_setCell _ _ _ _ hm, Below.heap_setCell _ _ _ _ hm, Below.heap_setCell _ _ _ _ hm]
  have hs8 : w8.heap.size = w4.heap.size := by rw [hw8]; simp
  have ho8 : w8.os = w4.os ∧ w8.tape = w4.tape ∧ w8.output = w4.output := by
    rw [hw8]
    simp only [set_os, set_tape, set_output, and_self]
  rw [← hw8] at s4 ⊢
  clear hw8 s0 s1 s2 s3
  have h4m : ∀ m, m < w.heap.size → (Value.slice Av f.len cv).ownBlock ≠ some m → m ≠ g4 := fun m hm h2 => by
    rcases o with o | o
    · intro e; exact h2 (by rw [o, e])
    · omega
  refine rput_fin h hn hb hd hC hK s4 ((hoff gl h4.symm).trans (set_congr rfl ((q.block gl (by omega) fun e => hvl e.symm).trans (hW gl hgl)))) (fun m hm h1 h2 => ?_) (by omega) ⟨ho8.1.trans (q.os.trans hWo.1), ho8.2.1.trans (q.tape.trans hWo.2.1), ho8.2.2.trans (q.output.trans hWo.2.2)⟩ (o.imp_right fun e => by omega)
  exact (hoff m (h4m m hm h2)).trans ((Below.heap_setCell _ _ _ _ h1).trans ((q.block m (by omega) fun e => h2 e.symm).trans (hW m hm)))
end
theorem zero_cells {B g4 n c4 : Nat} {w4 : World} {T : TypeId} {C : List Value} {z0 z1 z2 z3 : Value} (hr : w4.ownsRow B T 4 (.slice (some ⟨g4, 0, none⟩) (n + 1) c4) (n + 1) (C ++ [z0, z1, z2, z3])) (hl : C.length = n * 4) :
    w4.cell? ⟨g4, n * 4, none⟩ = some z0 ∧ w4.cell? ⟨g4, n * 4 + 1, none⟩ = some z1 ∧ w4.cell? ⟨g4, n * 4 + 2, none⟩ = some z2 ∧ w4.cell? ⟨g4, n * 4 + 3, none⟩ = some z3 := by
  have hc : ∀ j u, [z0, z1, z2, z3][j]? = some u → w4.cell? ⟨g4, n * 4 + j, none⟩ = some u := fun j u hu => by
    have hj : j < 4 := (List.getElem?_eq_some_iff.1 hu).1
    rw [World.ownsRow.cellAt hr _ (by omega), List.getElem?_append_right (by omega), hl, Nat.add_sub_cancel_left]
    exact hu
  exact ⟨hc 0 _ rfl, hc 1 _ rfl, hc 2 _ rfl, hc 3 _ rfl⟩
end Go.Proofs.YtbccknhinmgibaaDoor

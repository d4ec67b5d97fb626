/- Package lex's put: a tree more in the innermost row. Premise: what stands while the reader reads; at most 2^40 trees. -/
import Derived.Test.YtbccknhinmgibaaDoorLPast
import Derived.Tactics
import Derived.Deep.AppendLies
set_option linter.unusedVariables false
set_option linter.unusedSimpArgs false
namespace Go.Proofs.YtbccknhinmgibaaDoor
open Go.RowKit

theorem info_tree : (Tryd.prog.info? 35).map (fun i => (i.zero, i.size, i.bytes)) = some (some (.agg #[.string ⟨#[]⟩, .slice none 0 0, .bool false, .int .i64 0]), 4, 56) := by kernel_rfl
theorem top_cells {st : List (Value × Fo × Nat)} {v : Value} {f : Fo} {a : Nat} : (cellsOf ((v, f, a) :: st))[st.length * 4 + 1]? = some v := by
  rw [cellsOf, List.getElem?_append_right (by rw [cellsOf_len]; omega), cellsOf_len, Nat.add_sub_cancel_left]
  rfl
theorem cells_set {st : List (Value × Fo × Nat)} {v v' : Value} {f f' : Fo} {a : Nat} : (cellsOf ((v, f, a) :: st)).set (st.length * 4 + 1) v' = cellsOf ((v', f', a) :: st) := by
  rw [cellsOf, cellsOf, List.set_append, if_neg (by rw [cellsOf_len]; omega), cellsOf_len, Nat.add_sub_cancel_left]
  rfl
theorem put_end {B : Nat} {T TR : TypeId} {S : ByteArray} {gr N : Nat} {w w1 w3 : World} {i : Nat} {st : List (Value × Fo × Nat)} {v : Value} {f k : Fo} {a g g' cap cap' : Nat} {s : ByteArray} {b : Bool} {p : Int} {K : Option Addr} {c : Nat} {C : List Value} (h : RdS B T TR S gr N w i (.slice (some ⟨g, 0, none⟩) (st.length + 1) cap) ((v, f, a) :: st))
    (hb : s.size ≤ 140737488355328 ∧ k.len ≤ c ∧ c ≤ maxLen ∧ k.len ≤ 140737488355328) (hd : DepF (DD B gr (.slice (some ⟨g, 0, none⟩) (st.length + 1) cap) ((v, f, a) :: st)) w K k) (hC : w.ownsRow B T 4 v f.len C) (hK : KidsC (DD B gr (.slice (some ⟨g, 0, none⟩) (st.length + 1) cap) ((v, f, a) :: st)) w C f)
    (hd1 : Drawn w w1) (hn : w3.ownsRow B T 4 (.slice (some ⟨g', 0, none⟩) (f.len + 1) cap') (f.len + 1) (C ++ [.string s, .slice K k.len c, .bool b, .int .i64 p])) (hgr : w1.grownBy w3 v.ownBlock) (hat : v.ownBlock = some g' ∨ g' = w1.heap.size) :
    Below B w (w3.setCell ⟨g, st.length * 4 + 1, none⟩ (.slice (some ⟨g', 0, none⟩) (f.len + 1) cap')) ∧ RdS B T TR S gr (N + 1) (w3.setCell ⟨g, st.length * 4 + 1, none⟩ (.slice (some ⟨g', 0, none⟩) (f.len + 1) cap')) i (.slice (some ⟨g, 0, none⟩) (st.length + 1) cap) ((.slice (some ⟨g', 0, none⟩) (f.len + 1) cap', f.app (.one s k b p), a) :: st) := by
  obtain ⟨nd, rfl⟩ := hd1
  have hap := List.pairwise_cons.1 h.apart
  have hap2 := List.pairwise_cons.1 hap.2
  have hBg : B ≤ g ∧ g < w.heap.size := World.ownsRow.lt h.own g rfl
  have hgg' : g ≠ g' := by
    rcases hat with hat | hat
    · intro e
      exact hap.1 v (List.mem_cons_self ..) g rfl (by rw [hat, e])
    · have : (w.drewN nd).heap.size = w.heap.size := rfl
      omega
  have hvo : v.ownBlock ≠ some g := fun e => hap.1 v (List.mem_cons_self ..) g rfl e
  have hvB : ∀ m, v.ownBlock = some m → B ≤ m := fun m hm => (World.ownsRow.lt hC m hm).1
  have hrn : g ≠ gr := fun e => h.far _ (List.mem_cons_self ..) (by rw [← e]; rfl)
  have hvr : v.ownBlock ≠ some gr := h.far v (List.mem_cons_of_mem _ (List.mem_cons_self ..))
  have hsame : ∀ m, m < w.heap.size → m ≠ g → v.ownBlock ≠ some m → (w3.setCell ⟨g, st.length * 4 + 1, none⟩ (.slice (some ⟨g', 0, none⟩) (f.len + 1) cap')).heap[m]? = w.heap[m]? := fun m hm h1 h2 => (Below.heap_setCell _ _ _ _ h1).trans (hgr.block m hm fun e => h2 e.symm)
  have ho3 : w3.ownsRow B T 4 (.slice (some ⟨g, 0, none⟩) (st.length + 1) cap) (st.length + 1) (cellsOf ((v, f, a) :: st)) := ownsRow_same h.own fun m hm => by
    injection hm with hm
    subst hm
    exact hgr.block g hBg.2 fun e => hvo e.symm
  have hos := World.ownsRow.stored ho3 (st.length * 4 + 1) (.slice (some ⟨g', 0, none⟩) (f.len + 1) cap')
  rw [cells_set (f' := f.app (.one s k b p))] at hos
  refine ⟨⟨hgr.os, hgr.tape, hgr.output, by simpa using hgr.size, fun m hm => hsame m (by omega) (by omega) fun e => by have := hvB m e; omega⟩, ?_⟩
  refine h.put ⟨hC, hK⟩ hb hd hos.1 (hsame gr (blk_lt h.rd) hrn.symm hvr) (ownsRow_same hn fun m hm => ?_) (fun m hm h1 h2 => hsame m hm (fun e => h1 (by rw [e]; rfl)) h2) ?_
  · obtain rfl : g' = m := by injection hm
    exact Below.heap_setCell _ _ _ _ (show g' ≠ g from fun e => hgg' e.symm)
  · rcases hat with hat | hat
    · exact .inl hat.symm
    · exact .inr ⟨g', rfl, by rw [hat]; exact Nat.le_refl _⟩
set_option maxRecDepth 100000 in
set_option maxHeartbeats 3200000 in
theorem put_ok {B : Nat} {S : ByteArray} {gr N : Nat} {w : World} {i : Nat} {ov : Value} {st : List (Value × Fo × Nat)} {v : Value} {f k : Fo} {a l : Nat} {s : ByteArray} {b : Bool} {p : Int} {K : Option Addr} {c : Nat} (h : RdS B 35 92 S gr N w i ov ((v, f, a) :: st))
    (hb : s.size ≤ 140737488355328 ∧ k.len ≤ c ∧ c ≤ maxLen ∧ k.len ≤ 140737488355328) (hd : DepF (DD B gr ov ((v, f, a) :: st)) w K k) (hl : w.heap[l]? = some (.cells #[.string s, .slice K k.len c, .bool b, .int .i64 p] 35 (0, 0))) (hN : N ≤ 1000000) (hst : st.length ≤ 1000) :
    Calls Tryd.prog 63 #[.pointer (some ⟨gr, 0, none⟩), .slice (some ⟨l, 0, none⟩) 1 1] w fun e w' => e = .returned (.tuple #[]) ∧ Below B w w' ∧ ∃ v', RdS B 35 92 S gr (N + 1) w' i ov ((v', f.app (.one s k b p), a) :: st) := by
  obtain ⟨g, cap, rfl, hBg, hgl⟩ := h.own.form (Nat.succ_pos _)
  have m2 : w.cell? ⟨gr, 2, none⟩ = some (.slice (some ⟨g, 0, none⟩) (st.length + 1) cap) := (cell_of_row _ _ 2 _ _ _ h.rd).trans rfl
  have mk := World.ownsRow.cellAt h.own (st.length * 4 + 1) (by simp; omega)
  rw [top_cells] at mk
  have fk := World.ownsRow.frozenAt h.own (st.length * 4 + 1)
  obtain ⟨C, hC, hK⟩ := h.kids _ (List.mem_cons_self ..)
  have hfN := h.few _ (List.mem_cons_self ..)
  obtain ⟨n, hn⟩ : ∃ n, n = st.length := ⟨_, rfl⟩
  rw [← hn] at m2 mk fk hst
  have HH := Lib.hid (show _ ∧ _ ∧ _ ∧ _ ∧ _ ∧ _ ∧ _ ∧ _ from ⟨h, hb, hd, hl, hC, hK, hn, hfN⟩)
  clear h hb hd hl hC hK hn hfN
  go_enter Tryd.func63, Tryd.ntmps63
  obtain ⟨i0, hi, hz0, hz1, hz2⟩ := info_parts info_tree
  go_wp2
  go_quiet (fail)
  go_wp2_with (at_builtin; refine wpList_append_lies _ rfl _ _ 27 rfl B 35 i0 _ 4 56 Tryd.underlying27 hi hz0 hz1 hz2 rfl (by decide) v f.len C rfl HH.out.2.2.2.2.1 ⟨l, 0, none⟩ 1 1 [.string s, .slice K k.len c, .bool b, .int .i64 p] rfl rfl ?c1 ?c2 (by decide) ?c3 ?c4 ?c5 _ rfl ?_)
  case c1 =>
    intro j u hu
    rw [add_eq0]
    exact (cell_of_row _ _ j _ _ _ HH.out.2.2.2.1).trans (by simpa using hu)
  case c2 => intro u hu; simp at hu; rcases hu with rfl | rfl | rfl | rfl <;> rfl
  case c3 => have := HH.out.2.2.2.2.2.2.2; unfold maxLen; omega
  case c4 => have := HH.out.2.2.2.2.2.2.2; omega
  case c5 => have := blk_lt HH.out.1.rd; have := HH.out.1.low; simp; omega
  intro g' cap' w3 hn hgr hat hlt
  obtain ⟨h, hb, hd, hl, hC, hK, hn2, hfN⟩ := HH.out
  have hvo : v.ownBlock ≠ some g := fun e => (List.pairwise_cons.1 h.apart).1 v (List.mem_cons_self ..) g rfl e
  have f3 : w3.frozen? ⟨g, n * 4 + 1, none⟩ = false := by
    rw [← fk]
    exact World.frozen?_of_block (hgr.block g (by simpa using hgl) fun e => hvo e.symm)
  have c3 : w3.cell? ⟨g, n * 4 + 1, none⟩ = some v := by
    rw [← mk]
    exact World.cell?_of_block (hgr.block g (by simpa using hgl) fun e => hvo e.symm)
  have HE := Lib.hid (put_end h hb hd hC hK ⟨_, rfl⟩ hn hgr hat)
  have HN := Lib.hid hn2
  clear h hb hd hl hC hK hn2 hfN hvo hn hgr hat hlt HH mk fk
  go_wp2
  go_returns
  obtain rfl := HN.out
  exact ⟨rfl, HE.out.1, _, HE.out.2⟩
end Go.Proofs.YtbccknhinmgibaaDoor

/- The Parse of the document's answer of layer 13, walked: it tells of every text what the pure machine does. -/
import Derived.Test.YtbccknhinmgibaaDoorLRefE
import Derived.Test.YtbccknhinmgibaaDoorLRefS
import Derived.Test.YtbccknhinmgibaaDoorLParseB
set_option linter.unusedVariables false
set_option linter.unusedSimpArgs false
namespace Go.Proofs.YtbccknhinmgibaaDoor
open Go.RowKit

section
variable {S : ByteArray} {i m : Nat}
/-- A word, of which the bytes up to the m-th behind i are gone past. -/
def WordM (S : ByteArray) (i m : Nat) : Prop := i + m < S.size ∧ wordAt S i = (S.data.toList.drop i).take (m + 1) ++ wordAt S (i + m + 1)
theorem take_one {S : ByteArray} {i m : Nat} (h : i + m < S.size) : (S.data.toList.drop i).take (m + 1) = (S.data.toList.drop i).take m ++ [S[i + m]] := by
  have hl : m < (S.data.toList.drop i).length := by rw [List.length_drop]; simp; omega
  rw [List.take_succ_eq_append_getElem hl, List.getElem_drop]
  rfl
theorem WordM.start (h : i < S.size) (hs : signB S[i] = true) : WordM S i 0 := by
  refine ⟨h, ?_⟩
  rw [take_one h, wordAt_cons h hs]
  rfl
theorem WordM.more (h : WordM S i m) (hl : i + m + 1 < S.size) (hs : signB S[i + m + 1] = true) : WordM S i (m + 1) := by
  refine ⟨hl, ?_⟩
  rw [h.2, wordAt_cons hl hs, take_one (m := m + 1) hl, List.append_assoc]
  rfl
theorem WordM.end (h : WordM S i m) (he : S.size ≤ i + m + 1 ∨ ∃ hl : i + m + 1 < S.size, signB S[i + m + 1] = false) : wordAt S i = (S.data.toList.drop i).take (m + 1) ∧ (wordAt S i).length = m + 1 := by
  have e : wordAt S (i + m + 1) = [] := by
    rcases he with he | ⟨hl, hs⟩
    · rw [wordAt, drop_over he]; rfl
    · rw [wordAt, drop_byte hl, List.takeWhile_cons, hs]; rfl
  have h2 := h.2
  rw [e, List.append_nil] at h2
  refine ⟨h2, ?_⟩
  rw [h2, List.length_take, List.length_drop]
  have := h.1
  simp
  omega
end
/-- What holds ahead of each byte. -/
def RAhead (S : ByteArray) (gr : Nat) (w wr : World) (i : Nat) : Prop := ∃ lv bv st up ks N, RfS w.heap.size gr N wr lv bv st ∧ st.map (fun q => (q.2.1, q.2.2)) = frames up ks ∧ go (S.data.toList.drop i) i up ks = go S.data.toList 0 [] .nil ∧ N ≤ i ∧ i ≤ S.size ∧ up.length ≤ 400 ∧ Below w.heap.size w wr
theorem info_rows : (Tryd.prog.info? 37).map (fun i => (i.zero, i.size, i.bytes)) = some (some (.slice none 0 0), 1, 24) := by kernel_rfl
theorem info_begun : (Tryd.prog.info? 3).map (fun i => (i.zero, i.size, i.bytes)) = some (some (.int .i64 0), 1, 8) := by kernel_rfl
section
variable {B gr N q gl cl gb cb g3 c3 g5 c5 a : Nat} {w wr w3 w5 : World} {st : List (Value × Fo × Nat)} {o1 o2 : Obj}
theorem rpush_mid (h : RfS B gr N wr (.slice (some ⟨gl, 0, none⟩) q cl) (.slice (some ⟨gb, 0, none⟩) q cb) st) (hg : (wr.alloc o1).grownBy w3 (some gl)) : w3.heap[gr]? = wr.heap[gr]? ∧ w3.heap[gb]? = wr.heap[gb]? ∧ gr < wr.heap.size ∧ gb < wr.heap.size ∧ gl < wr.heap.size ∧ gr ≠ gl ∧ gb ≠ gl ∧ gb ≠ gr ∧ w3.heap.size ≥ wr.heap.size + 1 := by
  have h1 := blk_lt h.rd
  have h2 := (World.ownsRow.lt h.ownb gb rfl).2
  have h3 := (World.ownsRow.lt h.ownl gl rfl).2
  have n1 : gr ≠ gl := fun e => h.lg (by rw [e]; rfl)
  have n2 : gb ≠ gl := fun e => h.lb gl rfl (by rw [e]; rfl)
  have n3 : gb ≠ gr := fun e => h.bg (by rw [← e]; rfl)
  have hs := hg.size
  rw [World.size_alloc] at hs
  refine ⟨?_, ?_, h1, h2, h3, n1, n2, n3, hs⟩
  · exact (hg.block gr (by rw [World.size_alloc]; omega) fun e => n1 (by injection e)).trans (Below.heap_alloc _ _ _ h1)
  · exact (hg.block gb (by rw [World.size_alloc]; omega) fun e => n2 (by injection e)).trans (Below.heap_alloc _ _ _ h2)
theorem rpush_end (h : RfS B gr N wr (.slice (some ⟨gl, 0, none⟩) q cl) (.slice (some ⟨gb, 0, none⟩) q cb) st) (hq : q = st.length)
    (hr : w3.ownsRow B 37 1 (.slice (some ⟨g3, 0, none⟩) (q + 1) c3) (q + 1) ((st.map (·.1)).reverse ++ [.slice none 0 0])) (hg : (wr.alloc o1).grownBy w3 (some gl)) (ho : some gl = some g3 ∨ g3 = (wr.alloc o1).heap.size)
    (hr2 : w5.ownsRow B 3 1 (.slice (some ⟨g5, 0, none⟩) (q + 1) c5) (q + 1) ((st.map (fun q => Value.int .i64 (q.2.2 : Int))).reverse ++ [.int .i64 (a : Int)])) (hg2 : ((w3.setCell ⟨gr, 0, none⟩ (.slice (some ⟨g3, 0, none⟩) (q + 1) c3)).alloc o2).grownBy w5 (some gb)) (ho2 : some gb = some g5 ∨ g5 = ((w3.setCell ⟨gr, 0, none⟩ (.slice (some ⟨g3, 0, none⟩) (q + 1) c3)).alloc o2).heap.size) :
    Below B wr (w5.setCell ⟨gr, 1, none⟩ (.slice (some ⟨g5, 0, none⟩) (q + 1) c5)) ∧ RfS B gr N (w5.setCell ⟨gr, 1, none⟩ (.slice (some ⟨g5, 0, none⟩) (q + 1) c5)) (.slice (some ⟨g3, 0, none⟩) (q + 1) c3) (.slice (some ⟨g5, 0, none⟩) (q + 1) c5) ((.slice none 0 0, .nil, a) :: st) := by
  obtain ⟨e1, e2, h1, h2, h3, n1, n2, n3, hs⟩ := rpush_mid h hg
  have hBl := (World.ownsRow.lt h.ownl gl rfl).1
  have hBb := (World.ownsRow.lt h.ownb gb rfl).1
  rw [World.size_alloc] at ho
  rw [World.size_alloc, show (w3.setCell ⟨gr, 0, none⟩ (.slice (some ⟨g3, 0, none⟩) (q + 1) c3)).heap.size = w3.heap.size by simp] at ho2
  have hg3 : g3 = gl ∨ g3 = wr.heap.size + 1 := by
    rcases ho with e | e
    · exact .inl (by injection e with e; exact e.symm)
    · exact .inr e
  have hg5 : g5 = gb ∨ g5 = w3.heap.size + 1 := by
    rcases ho2 with e | e
    · exact .inl (by injection e with e; exact e.symm)
    · exact .inr e
  have hl3 := (World.ownsRow.lt hr g3 rfl).2
  have hz := hg2.size
  rw [World.size_alloc, show (w3.setCell ⟨gr, 0, none⟩ (.slice (some ⟨g3, 0, none⟩) (q + 1) c3)).heap.size = w3.heap.size by simp] at hz
  have hb5 : ∀ m, m < w3.heap.size → m ≠ gb → w5.heap[m]? = (w3.setCell ⟨gr, 0, none⟩ (.slice (some ⟨g3, 0, none⟩) (q + 1) c3)).heap[m]? := fun m hm hne => (hg2.block m (by rw [World.size_alloc]; simp; omega) fun e => hne (by injection e)).trans (Below.heap_alloc _ _ _ (by simp; omega))
  have hb3 : ∀ m, m < wr.heap.size → m ≠ gl → w3.heap[m]? = wr.heap[m]? := fun m hm hne => (hg.block m (by rw [World.size_alloc]; omega) fun e => hne (by injection e)).trans (Below.heap_alloc _ _ _ hm)
  have hall : ∀ m, m < wr.heap.size → m ≠ gr → m ≠ gl → m ≠ gb → (w5.setCell ⟨gr, 1, none⟩ (.slice (some ⟨g5, 0, none⟩) (q + 1) c5)).heap[m]? = wr.heap[m]? := fun m hm x1 x2 x3 => (Below.heap_setCell _ _ _ _ x1).trans ((hb5 m (by omega) x3).trans ((Below.heap_setCell _ _ _ _ x1).trans (hb3 m hm x2)))
  have ol := ownsRow_same (W' := w5.setCell ⟨gr, 1, none⟩ (.slice (some ⟨g5, 0, none⟩) (q + 1) c5)) hr fun m hm => by
    obtain rfl : g3 = m := by injection hm
    exact (Below.heap_setCell _ _ _ _ (show g3 ≠ gr by omega)).trans ((hb5 g3 hl3 (by omega)).trans (Below.heap_setCell _ _ _ _ (show g3 ≠ gr by omega)))
  have ob := ownsRow_same (W' := w5.setCell ⟨gr, 1, none⟩ (.slice (some ⟨g5, 0, none⟩) (q + 1) c5)) hr2 fun m hm => by
    obtain rfl : g5 = m := by injection hm
    exact Below.heap_setCell _ _ _ _ (show g5 ≠ gr by omega)
  refine ⟨⟨hg2.os.trans hg.os, hg2.tape.trans hg.tape, hg2.output.trans hg.output, by simp; omega, fun m hm => hall m (by have := h.low; omega) (by have := h.low; omega) (by omega) (by omega)⟩, h.push (by rw [← hq]; exact ol) (by rw [← hq]; exact ob) ?_ (fun m hm x1 x2 x3 => hall m hm x1 (fun e => x2 (by rw [e]; rfl)) fun e => x3 (by rw [e]; rfl)) (fun m hm => ?_) (fun m hm => ?_) fun m hm e => ?_⟩
  · exact pair_set1 ((hb5 gr (by omega) (by omega)).trans (pair_set0 (e1.trans h.rd)))
  · obtain rfl : g3 = m := by injection hm
    exact hg3.elim (fun e => .inl (by rw [e]; rfl)) fun e => .inr (by omega)
  · obtain rfl : g5 = m := by injection hm
    exact hg5.elim (fun e => .inl (by rw [e]; rfl)) fun e => .inr (by omega)
  · obtain rfl : g3 = m := by injection hm
    have : g5 = g3 := by injection e
    omega
end
end Go.Proofs.YtbccknhinmgibaaDoor

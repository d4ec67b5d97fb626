/- The put of the document's answer of layer 13, walked. Premise: at most 10^6 trees in a row, at most 1000 rows. -/
import Derived.Test.YtbccknhinmgibaaDoorLRefA
import Derived.Deep.RegionLaw
import Derived.Deep.CutBlock
import Derived.Deep.CutRange
import Derived.BigRegion
import Derived.Outline
set_option linter.unusedVariables false
set_option linter.unusedSimpArgs false
namespace Go.Proofs.YtbccknhinmgibaaDoor
open Go.RowKit

set_option maxRecDepth 100000 in
set_option maxHeartbeats 6400000 in
theorem rput_ok {B gr N n : Nat} {w : World} {lv bv : Value} {st : List (Value × Fo × Nat)} {v : Value} {f k : Fo} {a : Nat} {s : ByteArray} {b : Bool} {p : Int} {K : Option Addr} {c : Nat} (h : RfS B gr N w lv bv ((v, f, a) :: st))
    (hb : s.size ≤ 140737488355328 ∧ k.len ≤ c ∧ c ≤ maxLen ∧ k.len ≤ 140737488355328) (hd : DepF (DX B (XR gr lv bv) ((v, f, a) :: st)) w K k) (hN : N ≤ 1000000) (hn : n = st.length) (hst : n ≤ 1000) :
    Calls Tryd.prog 39 #[.pointer (some ⟨gr, 0, none⟩), .agg #[.string s, .slice K k.len c, .bool b, .int .i64 p]] w fun e w' => e = .returned (.tuple #[]) ∧ Below B w w' ∧ ∃ v', RfS B gr (N + 1) w' lv bv ((v', f.app (.one s k b p), a) :: st) := by
  obtain ⟨gl, cl, rfl, hBl, hgl⟩ := h.ownl.form (Nat.succ_pos _)
  have m0 : w.cell? ⟨gr, 0, none⟩ = some (.slice (some ⟨gl, 0, none⟩) (n + 1) cl) := by rw [hn]; exact (cell_of_row _ _ 0 _ _ _ h.rd).trans rfl
  have mk : w.cell? ⟨gl, n, none⟩ = some v := by
    rw [hn]
    refine (World.ownsRow.cellAt h.ownl st.length (by simp)).trans ?_
    have := rget v (st.map (·.1))
    rwa [List.length_map] at this
  have fk := World.ownsRow.frozenAt h.ownl n
  have hgr := blk_lt h.rd
  obtain ⟨C, hC, hK⟩ := h.core.kids _ (List.mem_cons_self ..)
  have hfN := h.core.few _ (List.mem_cons_self ..)
  replace hC : w.ownsRow B 79 4 v f.len C := hC
  replace hfN : f.len ≤ N := hfN
  have hlen : ((v, f, a) :: st).length = n + 1 := by simp [hn]
  rw [hlen] at h hd hK
  replace hK : KidsC (DX B (XR gr (.slice (some ⟨gl, 0, none⟩) (n + 1) cl) bv) ((v, f, a) :: st)) w C f := hK
  obtain ⟨Av, cv, hv⟩ : ∃ A cc, v = .slice A f.len cc := by
    rcases hC.2 with ⟨e, h0⟩ | ⟨g', cap', cur, e, _⟩
    · refine ⟨none, 0, ?_⟩
      rw [e, h0]
    · exact ⟨_, _, e⟩
  subst hv
  obtain ⟨i0, hin, hz0, hz1, hz2⟩ := info_parts info_tree2
  have hvl : gl ≠ gr := fun e => h.lg (by rw [← e]; rfl)
  have hgo : (Value.slice Av f.len cv).ownBlock ≠ some gl ∧ (Value.slice Av f.len cv).ownBlock ≠ some gr := ⟨fun e => h.core.far _ (List.mem_cons_self ..) gl e (.inr (.inl rfl)), fun e => h.core.far _ (List.mem_cons_self ..) gr e (.inl rfl)⟩
  have hfl : f.len ≤ 1000000 := Nat.le_trans hfN hN
  have x1 : (n : Int) < (n : Int) + 1 := by omega
  have y1 : (f.len : Int) < (f.len : Int) + 1 := by omega
  have HH := Lib.hid (show _ ∧ _ ∧ _ ∧ _ ∧ _ ∧ _ ∧ _ from ⟨h, hb, hd, hC, hK, hn, hfl⟩)
  have HG := Lib.hid (show _ ∧ _ ∧ _ from ⟨hgo, hgr, hgl⟩)
  have m00 : (w.alloc (.cells #[.string s, .slice K k.len c, .bool b, .int .i64 p] 79)).cell? ⟨gr, 0, none⟩ = some (.slice (some ⟨gl, 0, none⟩) (n + 1) cl) := (cell_congr (Below.heap_alloc _ _ _ hgr)).trans m0
  have hBw : B ≤ w.heap.size := by have := h.low; omega
  clear h hb hd hC hK hn hfN hgo hgr hgl
  go_enter Tryd.func39, Tryd.ntmps39
  go_wp2
  go_region
  · go_wp2
    obtain ⟨w2, hw2, hb2, hc2⟩ : ∃ w2, w2 = ((w.alloc (.cells #[.string s, .slice K k.len c, .bool b, .int .i64 p] 79)).alloc (.cells #[.bool false] 4)).drew ∧ Below w.heap.size w w2 ∧ w2.heap[w.heap.size]? = some (.cells #[.string s, .slice K k.len c, .bool b, .int .i64 p] 79 (0, 0)) := ⟨_, rfl, ⟨rfl, rfl, rfl, by simp; omega, fun m hm => by
      have := ((Below.refl w.heap.size w).alloc (Nat.le_refl _) (.cells #[.string s, .slice K k.len c, .bool b, .int .i64 p] 79)).alloc (by simp) (.cells #[.bool false] 4)
      exact this.block m hm⟩, (Below.heap_alloc _ _ _ (by simp)).trans (heap_alloc_new _ _)⟩
    rw [← hw2]
    obtain ⟨hgo, hgr, hgl⟩ := HG.out
    have m0' : w2.cell? ⟨gr, 0, none⟩ = some (.slice (some ⟨gl, 0, none⟩) (n + 1) cl) := (cell_congr (hb2.block _ hgr)).trans m0
    have mk' : w2.cell? ⟨gl, n, none⟩ = some (.slice Av f.len cv) := (cell_congr (hb2.block _ hgl)).trans mk
    have t0 : w2.cell? ⟨w.heap.size, 0, none⟩ = some (.string s) := (cell_of_row _ _ 0 _ _ _ hc2).trans rfl
    have t1 : w2.cell? ⟨w.heap.size, 1, none⟩ = some (.slice K k.len c) := (cell_of_row _ _ 1 _ _ _ hc2).trans rfl
    have t2 : w2.cell? ⟨w.heap.size, 2, none⟩ = some (.bool b) := (cell_of_row _ _ 2 _ _ _ hc2).trans rfl
    have t3 : w2.cell? ⟨w.heap.size, 3, none⟩ = some (.int .i64 p) := (cell_of_row _ _ 3 _ _ _ hc2).trans rfl
    have hC2 : w2.ownsRow B 79 4 (.slice Av f.len cv) f.len C := ownsRow_same HH.out.2.2.2.1 fun m hm => hb2.block m (World.ownsRow.lt HH.out.2.2.2.1 m hm).2
    have hz := hb2.size
    have hbt := blk_lt hc2
    obtain ⟨o2, ho2⟩ : ∃ o2 : Obj, o2 = (.cells #[.string s, .slice K k.len c, .bool b, .int .i64 p] 79) := ⟨_, rfl⟩
    have hal : ∀ m, m < w2.heap.size → (w2.alloc o2).drew.heap[m]? = w2.heap[m]? := fun m hm => Below.heap_alloc _ _ _ hm
    have m0a : (w2.alloc (.cells #[.string s, .slice K k.len c, .bool b, .int .i64 p] 79)).cell? ⟨gr, 0, none⟩ = some (.slice (some ⟨gl, 0, none⟩) (n + 1) cl) := (cell_congr (Below.heap_alloc _ _ _ (show gr < w2.heap.size by omega))).trans m0'
    have mka : (w2.alloc (.cells #[.string s, .slice K k.len c, .bool b, .int .i64 p] 79)).cell? ⟨gl, n, none⟩ = some (.slice Av f.len cv) := (cell_congr (Below.heap_alloc _ _ _ (show gl < w2.heap.size by omega))).trans mk'
    have t0a : (w2.alloc (.cells #[.string s, .slice K k.len c, .bool b, .int .i64 p] 79)).cell? ⟨w.heap.size, 0, none⟩ = some (.string s) := (cell_congr (Below.heap_alloc _ _ _ hbt)).trans t0
    have t1a : (w2.alloc (.cells #[.string s, .slice K k.len c, .bool b, .int .i64 p] 79)).cell? ⟨w.heap.size, 1, none⟩ = some (.slice K k.len c) := (cell_congr (Below.heap_alloc _ _ _ hbt)).trans t1
    have t2a : (w2.alloc (.cells #[.string s, .slice K k.len c, .bool b, .int .i64 p] 79)).cell? ⟨w.heap.size, 2, none⟩ = some (.bool b) := (cell_congr (Below.heap_alloc _ _ _ hbt)).trans t2
    have t3a : (w2.alloc (.cells #[.string s, .slice K k.len c, .bool b, .int .i64 p] 79)).cell? ⟨w.heap.size, 3, none⟩ = some (.int .i64 p) := (cell_congr (Below.heap_alloc _ _ _ hbt)).trans t3
    have HO := Lib.hid (show (w2.alloc (.cells #[.string s, .slice K k.len c, .bool b, .int .i64 p] 79)).drew.ownsRow B 79 4 (.slice Av f.len cv) f.len C from hC2.alloc _)
    have HB2 := Lib.hid (show _ ∧ _ from ⟨hb2, ho2⟩)
    have hfz : w2.frozen? ⟨gl, n, none⟩ = false := (World.frozen?_of_block (hb2.block _ hgl)).trans fk
    have HF4 := Lib.hid (show ∀ w4, (w2.alloc (.cells #[.string s, .slice K k.len c, .bool b, .int .i64 p] 79)).drew.grownBy w4 (Value.slice Av f.len cv).ownBlock → w4.cell? ⟨gr, 0, none⟩ = some (.slice (some ⟨gl, 0, none⟩) (n + 1) cl) ∧ w4.cell? ⟨gl, n, none⟩ = some (.slice Av f.len cv) ∧ w4.frozen? ⟨gl, n, none⟩ = false from fun w4 q4 => by
      have e1 : w4.heap[gr]? = w2.heap[gr]? := (q4.block gr (by show gr < (w2.alloc (.cells #[.string s, .slice K k.len c, .bool b, .int .i64 p] 79)).heap.size; rw [World.size_alloc]; omega) fun e => hgo.2 e.symm).trans (Below.heap_alloc _ _ _ (by omega))
      have e2 : w4.heap[gl]? = w2.heap[gl]? := (q4.block gl (by show gl < (w2.alloc (.cells #[.string s, .slice K k.len c, .bool b, .int .i64 p] 79)).heap.size; rw [World.size_alloc]; omega) fun e => hgo.1 e.symm).trans (Below.heap_alloc _ _ _ (by omega))
      exact ⟨(cell_congr e1).trans m0', (cell_congr e2).trans mk', (World.frozen?_of_block e2).trans hfz⟩)
    have HE := Lib.hid (fun g4 c4 w4 => rput_five (b := b) (p := p) (w4 := w4) (g4 := g4) (c4 := c4) (W1 := (w2.alloc (.cells #[.string s, .slice K k.len c, .bool b, .int .i64 p] 79)).drew) HH.out (fun m hm => (Below.heap_alloc _ _ _ (show m < w2.heap.size by omega)).trans (hb2.block m hm)) (by show w.heap.size ≤ (w2.alloc _).heap.size; rw [World.size_alloc]; omega) ⟨hb2.os, hb2.tape, hb2.output⟩)
    have HN := Lib.hid (show f.len + 1 ≤ maxLen by unfold maxLen; omega)
    have HN2 := Lib.hid (show (f.len + 1) * 56 ≤ 140737488355328 by omega)
    have HBB := Lib.hid (show B ≤ (w2.alloc (.cells #[.string s, .slice K k.len c, .bool b, .int .i64 p] 79)).drew.heap.size by show B ≤ (w2.alloc (.cells #[.string s, .slice K k.len c, .bool b, .int .i64 p] 79)).heap.size; rw [World.size_alloc]; omega)
    clear hw2 hc2 hC2 hz hbt hal hb2 ho2 hgo hgr hgl
    go_region_law (refine step_append_lies _ rfl (.tmp 37) (.tmp 39) 37 rfl B 79 i0 _ 4 56 Tryd.underlying37 hin hz0 hz1 hz2 rfl (by decide) (.slice Av f.len cv) f.len C (by simp [Act.eval, Act.put]) HO.out ⟨w2.heap.size, 0, none⟩ 1 1 [.string s, .slice K k.len c, .bool b, .int .i64 p] (by simp [Act.eval, Act.put]) rfl (four_news w2 _ _ _ _ _) (one4' rfl rfl rfl rfl) (by decide) HN.out HN2.out HBB.out _ rfl ?_; intro g4 c4 w4 r4 q4 o4 l4; obtain ⟨e1, e2, e3⟩ := HF4.out w4 q4; have R4 := Lib.hid (show _ ∧ _ ∧ _ ∧ _ from ⟨r4, q4, o4, l4⟩); clear r4 q4 o4 l4)
    all_goals
      have HF := Lib.hid (HE.out g4 c4 w4 R4.out.1 R4.out.2.1 R4.out.2.2.1)
      have HL := Lib.hid HH.out.2.2.2.2.2.1
      clear e1 e2 e3 R4 HF4 HE HO HN HN2 HBB HB2 HH m0a mka t0a t1a t2a t3a m0' mk' t0 t1 t2 t3 m00
      go_wp2_with fail
      go_returns
      obtain rfl := HL.out
      exact ⟨rfl, HF.out.1, _, HF.out.2⟩
  · go_wp2
    obtain ⟨w2, hw2, hb2, hc2⟩ : ∃ w2, w2 = ((w.alloc (.cells #[.string s, .slice K k.len c, .bool b, .int .i64 p] 79)).alloc (.cells #[.bool true] 4)).drew ∧ Below w.heap.size w w2 ∧ w2.heap[w.heap.size]? = some (.cells #[.string s, .slice K k.len c, .bool b, .int .i64 p] 79 (0, 0)) := ⟨_, rfl, ⟨rfl, rfl, rfl, by simp; omega, fun m hm => by
      have := ((Below.refl w.heap.size w).alloc (Nat.le_refl _) (.cells #[.string s, .slice K k.len c, .bool b, .int .i64 p] 79)).alloc (by simp) (.cells #[.bool true] 4)
      exact this.block m hm⟩, (Below.heap_alloc _ _ _ (by simp)).trans (heap_alloc_new _ _)⟩
    rw [← hw2]
    obtain ⟨hgo, hgr, hgl⟩ := HG.out
    have m0' : w2.cell? ⟨gr, 0, none⟩ = some (.slice (some ⟨gl, 0, none⟩) (n + 1) cl) := (cell_congr (hb2.block _ hgr)).trans m0
    have mk' : w2.cell? ⟨gl, n, none⟩ = some (.slice Av f.len cv) := (cell_congr (hb2.block _ hgl)).trans mk
    have t0 : w2.cell? ⟨w.heap.size, 0, none⟩ = some (.string s) := (cell_of_row _ _ 0 _ _ _ hc2).trans rfl
    have t1 : w2.cell? ⟨w.heap.size, 1, none⟩ = some (.slice K k.len c) := (cell_of_row _ _ 1 _ _ _ hc2).trans rfl
    have t2 : w2.cell? ⟨w.heap.size, 2, none⟩ = some (.bool b) := (cell_of_row _ _ 2 _ _ _ hc2).trans rfl
    have t3 : w2.cell? ⟨w.heap.size, 3, none⟩ = some (.int .i64 p) := (cell_of_row _ _ 3 _ _ _ hc2).trans rfl
    have hC2 : w2.ownsRow B 79 4 (.slice Av f.len cv) f.len C := ownsRow_same HH.out.2.2.2.1 fun m hm => hb2.block m (World.ownsRow.lt HH.out.2.2.2.1 m hm).2
    have hz := hb2.size
    have hbt := blk_lt hc2
    obtain ⟨o2, ho2⟩ : ∃ o2 : Obj, o2 = (.cells #[.string ⟨#[]⟩, .slice none 0 0, .bool false, .int .i64 0] 79) := ⟨_, rfl⟩
    have hal : ∀ m, m < w2.heap.size → (w2.alloc o2).drew.heap[m]? = w2.heap[m]? := fun m hm => Below.heap_alloc _ _ _ hm
    have m0a : (w2.alloc (.cells #[.string ⟨#[]⟩, .slice none 0 0, .bool false, .int .i64 0] 79)).cell? ⟨gr, 0, none⟩ = some (.slice (some ⟨gl, 0, none⟩) (n + 1) cl) := (cell_congr (Below.heap_alloc _ _ _ (show gr < w2.heap.size by omega))).trans m0'
    have mka : (w2.alloc (.cells #[.string ⟨#[]⟩, .slice none 0 0, .bool false, .int .i64 0] 79)).cell? ⟨gl, n, none⟩ = some (.slice Av f.len cv) := (cell_congr (Below.heap_alloc _ _ _ (show gl < w2.heap.size by omega))).trans mk'
    have t0a : (w2.alloc (.cells #[.string ⟨#[]⟩, .slice none 0 0, .bool false, .int .i64 0] 79)).cell? ⟨w.heap.size, 0, none⟩ = some (.string s) := (cell_congr (Below.heap_alloc _ _ _ hbt)).trans t0
    have t1a : (w2.alloc (.cells #[.string ⟨#[]⟩, .slice none 0 0, .bool false, .int .i64 0] 79)).cell? ⟨w.heap.size, 1, none⟩ = some (.slice K k.len c) := (cell_congr (Below.heap_alloc _ _ _ hbt)).trans t1
    have t2a : (w2.alloc (.cells #[.string ⟨#[]⟩, .slice none 0 0, .bool false, .int .i64 0] 79)).cell? ⟨w.heap.size, 2, none⟩ = some (.bool b) := (cell_congr (Below.heap_alloc _ _ _ hbt)).trans t2
    have t3a : (w2.alloc (.cells #[.string ⟨#[]⟩, .slice none 0 0, .bool false, .int .i64 0] 79)).cell? ⟨w.heap.size, 3, none⟩ = some (.int .i64 p) := (cell_congr (Below.heap_alloc _ _ _ hbt)).trans t3
    have HO := Lib.hid (show (w2.alloc (.cells #[.string ⟨#[]⟩, .slice none 0 0, .bool false, .int .i64 0] 79)).drew.ownsRow B 79 4 (.slice Av f.len cv) f.len C from hC2.alloc _)
    have HB2 := Lib.hid (show _ ∧ _ from ⟨hb2, ho2⟩)
    have hfz : w2.frozen? ⟨gl, n, none⟩ = false := (World.frozen?_of_block (hb2.block _ hgl)).trans fk
    have HF4 := Lib.hid (show ∀ w4, (w2.alloc (.cells #[.string ⟨#[]⟩, .slice none 0 0, .bool false, .int .i64 0] 79)).drew.grownBy w4 (Value.slice Av f.len cv).ownBlock → w4.cell? ⟨gr, 0, none⟩ = some (.slice (some ⟨gl, 0, none⟩) (n + 1) cl) ∧ w4.cell? ⟨gl, n, none⟩ = some (.slice Av f.len cv) ∧ w4.frozen? ⟨gl, n, none⟩ = false from fun w4 q4 => by
      have e1 : w4.heap[gr]? = w2.heap[gr]? := (q4.block gr (by show gr < (w2.alloc (.cells #[.string ⟨#[]⟩, .slice none 0 0, .bool false, .int .i64 0] 79)).heap.size; rw [World.size_alloc]; omega) fun e => hgo.2 e.symm).trans (Below.heap_alloc _ _ _ (by omega))
      have e2 : w4.heap[gl]? = w2.heap[gl]? := (q4.block gl (by show gl < (w2.alloc (.cells #[.string ⟨#[]⟩, .slice none 0 0, .bool false, .int .i64 0] 79)).heap.size; rw [World.size_alloc]; omega) fun e => hgo.1 e.symm).trans (Below.heap_alloc _ _ _ (by omega))
      exact ⟨(cell_congr e1).trans m0', (cell_congr e2).trans mk', (World.frozen?_of_block e2).trans hfz⟩)
    have HE := Lib.hid (fun (g4 c4 : Nat) (w4 : World) => rput_three (z0 := .string ⟨#[]⟩) (z1 := .slice none 0 0) (z2 := .bool false) (z3 := .int .i64 0) (b := b) (p := p) (w4 := w4) (g4 := g4) (c4 := c4) (W1 := (w2.alloc (.cells #[.string ⟨#[]⟩, .slice none 0 0, .bool false, .int .i64 0] 79)).drew) HH.out (fun m hm => (Below.heap_alloc _ _ _ (show m < w2.heap.size by omega)).trans (hb2.block m hm)) (by show w.heap.size ≤ (w2.alloc _).heap.size; rw [World.size_alloc]; omega) ⟨hb2.os, hb2.tape, hb2.output⟩)
    have HZ := Lib.hid (show ∀ g4 c4 w4, World.ownsRow w4 B 79 4 (.slice (some ⟨g4, 0, none⟩) (f.len + 1) c4) (f.len + 1) (C ++ [.string ⟨#[]⟩, .slice none 0 0, .bool false, .int .i64 0]) → ((Value.slice Av f.len cv).ownBlock = some g4 ∨ g4 = (w2.alloc (.cells #[.string ⟨#[]⟩, .slice none 0 0, .bool false, .int .i64 0] 79)).drew.heap.size) → gl ≠ g4 ∧ (w4.cell? ⟨g4, f.len * 4, none⟩ = some (.string ⟨#[]⟩) ∧ w4.cell? ⟨g4, f.len * 4 + 1, none⟩ = some (.slice none 0 0) ∧ w4.cell? ⟨g4, f.len * 4 + 2, none⟩ = some (.bool false) ∧ w4.cell? ⟨g4, f.len * 4 + 3, none⟩ = some (.int .i64 0)) ∧ (w4.frozen? ⟨g4, f.len * 4, none⟩ = false ∧ w4.frozen? ⟨g4, f.len * 4 + 1, none⟩ = false ∧ w4.frozen? ⟨g4, f.len * 4 + 2, none⟩ = false ∧ w4.frozen? ⟨g4, f.len * 4 + 3, none⟩ = false) from fun g4 c4 w4 r4 o4 => by
      refine ⟨?_, zero_cells r4 HH.out.2.2.2.1.1, World.ownsRow.frozenAt r4 _, World.ownsRow.frozenAt r4 _, World.ownsRow.frozenAt r4 _, World.ownsRow.frozenAt r4 _⟩
      have : (w2.alloc (.cells #[.string ⟨#[]⟩, .slice none 0 0, .bool false, .int .i64 0] 79)).drew.heap.size = w2.heap.size + 1 := World.size_alloc ..
      rcases o4 with o | o
      · intro e; exact hgo.1 (by rw [o, e])
      · omega)
    have HN := Lib.hid (show f.len + 1 ≤ maxLen by unfold maxLen; omega)
    have HN2 := Lib.hid (show (f.len + 1) * 56 ≤ 140737488355328 by omega)
    have HBB := Lib.hid (show B ≤ (w2.alloc (.cells #[.string ⟨#[]⟩, .slice none 0 0, .bool false, .int .i64 0] 79)).drew.heap.size by show B ≤ (w2.alloc (.cells #[.string ⟨#[]⟩, .slice none 0 0, .bool false, .int .i64 0] 79)).heap.size; rw [World.size_alloc]; omega)
    clear hw2 hc2 hC2 hz hbt hal hb2 ho2 hgo hgr hgl
    go_region_law (refine step_append_lies _ rfl (.tmp 19) (.tmp 22) 37 rfl B 79 i0 _ 4 56 Tryd.underlying37 hin hz0 hz1 hz2 rfl (by decide) (.slice Av f.len cv) f.len C (by simp [Act.eval, Act.put]) HO.out ⟨w2.heap.size, 0, none⟩ 1 1 [.string ⟨#[]⟩, .slice none 0 0, .bool false, .int .i64 0] (by simp [Act.eval, Act.put]) rfl (four_news w2 _ _ _ _ _) (one4' rfl rfl rfl rfl) (by decide) HN.out HN2.out HBB.out _ rfl ?_; intro g4 c4 w4 r4 q4 o4 l4; obtain ⟨e1, e2, e3⟩ := HF4.out w4 q4; obtain ⟨hne, ⟨y2, y3, y4, y5⟩, y6, y7, y8, y9⟩ := HZ.out g4 c4 w4 r4 o4; have R4 := Lib.hid (show _ ∧ _ ∧ _ ∧ _ from ⟨r4, q4, o4, l4⟩); clear r4 q4 o4 l4)
    all_goals
      have HF := Lib.hid (HE.out g4 c4 w4 R4.out.1 R4.out.2.1 R4.out.2.2.1)
      have HL := Lib.hid HH.out.2.2.2.2.2.1
      clear HZ e1 e2 e3 R4 HF4 HE HO HN HN2 HBB HB2 HH m0a mka t0a t1a t2a t3a m0' mk' t0 t1 t2 t3 m00
      go_wp2_with fail
      go_returns
      obtain rfl := HL.out
      exact ⟨rfl, HF.out.1, _, HF.out.2⟩
end Go.Proofs.YtbccknhinmgibaaDoor

/- Package lex's begin: a row more is open, or the fault. Premise: what stands while the reader reads. -/
import Derived.Test.YtbccknhinmgibaaDoorLEnd
import Derived.RegionDies
import Derived.Deep.RegionWith
import Derived.Deep.RegionLaw
import Derived.Deep.CutBlock
import Derived.Deep.CutRange
set_option linter.unusedVariables false
set_option linter.unusedSimpArgs false
namespace Go.Proofs.YtbccknhinmgibaaDoor
open Go.RowKit

variable {B : Nat} {T TR : TypeId} {S : ByteArray} {gr N : Nat} {w w1 : World} {i : Nat} {ov : Value} {st : List (Value × Fo × Nat)}
theorem one4 {a b c d : Value} (ha : a.oneCell' = true) (hb : b.oneCell' = true) (hc : c.oneCell' = true) (hd : d.oneCell' = true) : ∀ u ∈ [a, b, c, d], u.oneCell' = true := fun u hu => by
  simp at hu
  rcases hu with rfl | rfl | rfl | rfl <;> assumption
theorem zero_news (w : World) (T : TypeId) (a b c d : Value) : ∀ j u, [a, b, c, d][j]? = some u → (w.alloc (.cells #[a, b, c, d] T)).cell? ((⟨w.heap.size, 0, none⟩ : Addr).add j) = some u := fun j u hu => by
  rw [add_eq0]
  rw [cell_of_row _ _ j _ _ _ (heap_alloc_new _ _)]
  simpa using hu
theorem few_63 {n : Nat} (h : n ≤ 1000) : n + 1 ≤ maxLen := by unfold maxLen; omega
theorem few_by {n : Nat} (h : n ≤ 1000) : (n + 1) * 56 ≤ 140737488355328 := by omega
theorem alloc_B {w : World} {o : Obj} (h : B ≤ w.heap.size) : B ≤ (w.alloc o).heap.size := by
  rw [World.size_alloc]; omega
/-- What holds behind the append. -/
structure Pushed (B : Nat) (T TR : TypeId) (S : ByteArray) (gr i : Nat) (w : World) (g n cap g4 c4 : Nat) (w4 : World) : Prop where
  rd : w4.heap[gr]? = some (.cells #[.string S, .int .i64 (i : Int), .slice (some ⟨g, 0, none⟩) n cap] TR (0, 0))
  row : ∃ C, C.length = n * 4 ∧ w4.ownsRow B T 4 (.slice (some ⟨g4, 0, none⟩) (n + 1) c4) (n + 1) (C ++ [.string ⟨#[]⟩, .slice none 0 0, .bool false, .int .i64 0])
  ne : gr ≠ g4
theorem Pushed.facts {g n cap g4 c4 : Nat} {w4 : World} (h : Pushed B T TR S gr i w g n cap g4 c4 w4) :
    w4.cell? ⟨gr, 1, none⟩ = some (.int .i64 (i : Int)) ∧ w4.cell? ⟨gr, 2, none⟩ = some (.slice (some ⟨g, 0, none⟩) n cap) ∧ w4.frozen? ⟨gr, 2, none⟩ = false ∧ (w4.cell? ⟨g4, n * 4, none⟩ = some (.string ⟨#[]⟩) ∧ w4.cell? ⟨g4, n * 4 + 1, none⟩ = some (.slice none 0 0) ∧ w4.cell? ⟨g4, n * 4 + 2, none⟩ = some (.bool false) ∧ w4.cell? ⟨g4, n * 4 + 3, none⟩ = some (.int .i64 0)) ∧
    (w4.frozen? ⟨g4, n * 4, none⟩ = false ∧ w4.frozen? ⟨g4, n * 4 + 1, none⟩ = false ∧ w4.frozen? ⟨g4, n * 4 + 2, none⟩ = false ∧ w4.frozen? ⟨g4, n * 4 + 3, none⟩ = false) := by
  obtain ⟨C, hl, hr⟩ := h.row
  have hc : ∀ j u, [.string ⟨#[]⟩, .slice none 0 0, .bool false, .int .i64 0][j]? = some u → w4.cell? ⟨g4, n * 4 + j, none⟩ = some u := fun j u hu => by
    have hj : j < 4 := (List.getElem?_eq_some_iff.1 hu).1
    rw [World.ownsRow.cellAt hr _ (by omega), List.getElem?_append_right (by omega), hl, Nat.add_sub_cancel_left]
    exact hu
  have hf := fun j => World.ownsRow.frozenAt hr j
  exact ⟨(cell_of_row _ _ 1 _ _ _ h.rd).trans rfl, (cell_of_row _ _ 2 _ _ _ h.rd).trans rfl, by simp [World.frozen?, h.rd], ⟨hc 0 _ rfl, hc 1 _ rfl, hc 2 _ rfl, hc 3 _ rfl⟩, hf _, hf _, hf _, hf _⟩
theorem pushed {n g cap g4 c4 : Nat} {w4 W1 : World} (h : RdS B T TR S gr N w i (.slice (some ⟨g, 0, none⟩) n cap) st) (hn : n = st.length) (hs : 0 < n) (hW : ∀ m, m < w.heap.size → W1.heap[m]? = w.heap[m]?) (hWs : W1.heap.size = w.heap.size + 1)
    (r4 : w4.ownsRow B T 4 (.slice (some ⟨g4, 0, none⟩) (n + 1) c4) (n + 1) (cellsOf st ++ [.string ⟨#[]⟩, .slice none 0 0, .bool false, .int .i64 0])) (q4 : W1.grownBy w4 (some g)) (o4 : (some g = some g4) ∨ g4 = W1.heap.size) : Pushed B T TR S gr i w g n cap g4 c4 w4 := by
  have hgr := blk_lt h.rd
  have hne : gr ≠ g := fun e => h.far _ (List.mem_cons_self ..) (by rw [e]; rfl)
  refine ⟨?_, ⟨cellsOf st, by rw [cellsOf_len, hn], r4⟩, ?_⟩
  · refine (q4.block gr (by omega) fun e => hne (by injection e)).trans ((hW gr hgr).trans h.rd)
  · rcases o4 with e | e
    · injection e with e; omega
    · omega
theorem set_four {C : List Value} {n : Nat} (hl : C.length = n * 4) (z0 z1 z2 z3 a b c d : Value) : ((((C ++ [z0, z1, z2, z3]).set (n * 4) a).set (n * 4 + 1) b).set (n * 4 + 2) c).set (n * 4 + 3) d = C ++ [a, b, c, d] := by
  have h : ∀ (L : List Value) (j : Nat) (u : Value), (C ++ L).set (n * 4 + j) u = C ++ L.set j u := fun L j u => by
    rw [List.set_append, if_neg (by omega), hl, Nat.add_sub_cancel_left]
  have h0 := h [z0, z1, z2, z3] 0 a
  rw [Nat.add_zero] at h0
  rw [h0, h _ 1, h _ 2, h _ 3]
  rfl
theorem push_end {n g cap g4 c4 : Nat} {w4 W1 : World} (h : RdS B T TR S gr N w i (.slice (some ⟨g, 0, none⟩) n cap) st) (hn : n = st.length) (hW : ∀ m, m < w.heap.size → W1.heap[m]? = w.heap[m]?) (hWs : W1.heap.size = w.heap.size + 1) (hWo : W1.os = w.os ∧ W1.tape = w.tape ∧ W1.output = w.output)
    (hh : w4.ownsRow B T 4 (.slice (some ⟨g4, 0, none⟩) (n + 1) c4) (n + 1) (cellsOf st ++ [.string ⟨#[]⟩, .slice none 0 0, .bool false, .int .i64 0]) ∧ W1.grownBy w4 (some g) ∧ (some g = some g4 ∨ g4 = W1.heap.size) ∧ Pushed B T TR S gr i w g n cap g4 c4 w4) :
    Below B w (((((w4.setCell ⟨g4, n * 4, none⟩ (.string ⟨#[]⟩)).setCell ⟨g4, n * 4 + 1, none⟩ (.slice none 0 0)).setCell ⟨g4, n * 4 + 2, none⟩ (.bool true)).setCell ⟨g4, n * 4 + 3, none⟩ (.int .i64 (i : Int))).setCell ⟨gr, 2, none⟩ (.slice (some ⟨g4, 0, none⟩) (n + 1) c4)) ∧
    RdS B T TR S gr N (((((w4.setCell ⟨g4, n * 4, none⟩ (.string ⟨#[]⟩)).setCell ⟨g4, n * 4 + 1, none⟩ (.slice none 0 0)).setCell ⟨g4, n * 4 + 2, none⟩ (.bool true)).setCell ⟨g4, n * 4 + 3, none⟩ (.int .i64 (i : Int))).setCell ⟨gr, 2, none⟩ (.slice (some ⟨g4, 0, none⟩) (n + 1) c4)) i (.slice (some ⟨g4, 0, none⟩) (n + 1) c4) ((.slice none 0 0, .nil, i) :: st) := by
  obtain ⟨r4, q4, o4, hp⟩ := hh
  have hgr := blk_lt h.rd
  have hne : gr ≠ g := fun e => h.far _ (List.mem_cons_self ..) (by rw [e]; rfl)
  have hlg := World.ownsRow.lt h.own g rfl
  have s1 := (World.ownsRow.stored r4 (n * 4) (.string ⟨#[]⟩)).1
  have s2 := (World.ownsRow.stored s1 (n * 4 + 1) (.slice none 0 0)).1
  have s3 := (World.ownsRow.stored s2 (n * 4 + 2) (.bool true)).1
  have s4 := (World.ownsRow.stored s3 (n * 4 + 3) (.int .i64 (i : Int))).1
  rw [set_four (by rw [cellsOf_len, hn])] at s4
  obtain ⟨w8, hw8⟩ : ∃ w8, w8 = (((w4.setCell ⟨g4, n * 4, none⟩ (.string ⟨#[]⟩)).setCell ⟨g4, n * 4 + 1, none⟩ (.slice none 0 0)).setCell ⟨g4, n * 4 + 2, none⟩ (.bool true)).setCell ⟨g4, n * 4 + 3, none⟩ (.int .i64 (i : Int)) := ⟨_, rfl⟩
  have hoff : ∀ m, m ≠ g4 → w8.heap[m]? = w4.heap[m]? := fun m hm => by
    rw [hw8, Below.heap_setCell _ _ _ _ hm, Below.heap_setCell _ _ _ _ hm, Below.heap_setCell _ _ _ _ hm, Below.heap_setCell _ _ _ _ hm]
  have hsz : w8.heap.size = w4.heap.size := by rw [hw8]; simp
  have hos : w8.os = w4.os ∧ w8.tape = w4.tape ∧ w8.output = w4.output := by rw [hw8]; exact ⟨rfl, rfl, rfl⟩
  rw [← hw8] at s4 ⊢
  have h4g : ∀ m, m < w.heap.size → m ≠ g → m ≠ g4 := fun m hm h1 => by
    rcases o4 with e | e
    · injection e with e; omega
    · omega
  have hsame : ∀ m, m < w.heap.size → m ≠ gr → m ≠ g → (w8.setCell ⟨gr, 2, none⟩ (.slice (some ⟨g4, 0, none⟩) (n + 1) c4)).heap[m]? = w.heap[m]? := fun m hm h1 h2 => by
    rw [Below.heap_setCell _ _ _ _ h1, hoff m (h4g m hm h2), q4.block m (by omega) (fun e => h2 (by injection e)), hW m hm]
  refine ⟨⟨hos.1.trans (q4.os.trans hWo.1), hos.2.1.trans (q4.tape.trans hWo.2.1), hos.2.2.trans (q4.output.trans hWo.2.2), ?_, fun m hm => hsame m (by omega) (by have := h.low; omega) (by omega)⟩, ?_⟩
  · have := q4.size
    simp only [World.size_setCell]
    omega
  · refine h.push ?_ (three_set2 ((hoff gr hp.ne).trans hp.rd)) (fun m hm h1 h2 => hsame m hm h1 fun e => h2 (by rw [e]; rfl)) ?_
    · rw [← hn]
      exact ownsRow_same s4 fun m hm => by
        obtain rfl : g4 = m := by injection hm
        exact Below.heap_setCell _ _ _ _ (show g4 ≠ gr from fun e => hp.ne e.symm)
    · rcases o4 with e | e
      · left; show some g4 = some g; rw [e]
      · exact .inr ⟨g4, rfl, by omega⟩
theorem set_swap (w : World) {a b : Addr} (h : a.block ≠ b.block) (u v : Value) : (w.setCell a u).setCell b v = (w.setCell b v).setCell a u := by
  unfold World.setCell
  congr 1
  apply Array.ext_getElem?
  intro k
  simp only [Array.getElem?_modify]
  by_cases h1 : a.block = k <;> by_cases h2 : b.block = k <;> simp [h1, h2] <;> omega
theorem set_late {w : World} {gr g4 a b c d e : Nat} {x u0 u1 u2 u3 : Value} (h : gr ≠ g4) : ((((w.setCell ⟨gr, e, none⟩ x).setCell ⟨g4, a, none⟩ u0).setCell ⟨g4, b, none⟩ u1).setCell ⟨g4, c, none⟩ u2).setCell ⟨g4, d, none⟩ u3 = ((((w.setCell ⟨g4, a, none⟩ u0).setCell ⟨g4, b, none⟩ u1).setCell ⟨g4, c, none⟩ u2).setCell ⟨g4, d, none⟩ u3).setCell ⟨gr, e, none⟩ x := by
  rw [set_swap w (a := ⟨gr, e, none⟩) (b := ⟨g4, a, none⟩) h, set_swap _ (a := ⟨gr, e, none⟩) (b := ⟨g4, b, none⟩) h, set_swap _ (a := ⟨gr, e, none⟩) (b := ⟨g4, c, none⟩) h, set_swap _ (a := ⟨gr, e, none⟩) (b := ⟨g4, d, none⟩) h]
set_option maxRecDepth 100000 in
set_option maxHeartbeats 3200000 in
theorem begin_ok (h : RdS B 35 92 S gr N w i ov st) (hi : i ≤ 262144) (hst : st.length ≤ 400) (hs0 : 0 < st.length) :
    Calls Tryd.prog 52 #[.pointer (some ⟨gr, 0, none⟩)] w fun e w' => e = .returned (.tuple #[]) ∧ Below B w w' ∧ ∃ ov', RdS B 35 92 S gr N w' (i + 1) ov' ((.slice none 0 0, .nil, i) :: st) := by
  obtain ⟨i0, hin, hz0, hz1, hz2⟩ := info_parts info_tree
  obtain ⟨g, cap, rfl, hBg, hgl⟩ := h.own.form hs0
  have m2 : w.cell? ⟨gr, 2, none⟩ = some (.slice (some ⟨g, 0, none⟩) st.length cap) := (cell_of_row _ _ 2 _ _ _ h.rd).trans rfl
  have m1 := h.place.2
  obtain ⟨n, hn⟩ : ∃ n, n = st.length := ⟨_, rfl⟩
  rw [← hn] at m2 hst hs0
  have hle : decide ((n : Int) ≤ 400) = true := decide_eq_true (by omega)
  have HH := Lib.hid (show _ ∧ _ ∧ _ from ⟨h, hn, hi⟩)
  clear h hn hi
  go_enter Tryd.func52, Tryd.ntmps52
  go_wp2_with fail
  go_quiet ((go_at_call 55; exact Calls.quiet_of_same (need_yes.mono fun e w' h => h)))
  go_wp2_with fail
  have HO : Hid (((w.drewN (nq + 1)).alloc (.cells #[.string ⟨#[]⟩, .slice none 0 0, .bool false, .int .i64 0] 35)).ownsRow B 35 4 (.slice (some ⟨g, 0, none⟩) n cap) n (cellsOf st)) := by
    have := HH.out.1.own
    rw [← HH.out.2.1] at this
    exact Lib.hid (this.alloc _)
  have HP : Hid (∀ g4 c4 w4, w4.ownsRow B 35 4 (.slice (some ⟨g4, 0, none⟩) (n + 1) c4) (n + 1) (cellsOf st ++ [.string ⟨#[]⟩, .slice none 0 0, .bool false, .int .i64 0]) → ((w.drewN (nq + 1)).alloc (.cells #[.string ⟨#[]⟩, .slice none 0 0, .bool false, .int .i64 0] 35)).grownBy w4 (some g) → (some g = some g4 ∨ g4 = ((w.drewN (nq + 1)).alloc (.cells #[.string ⟨#[]⟩, .slice none 0 0, .bool false, .int .i64 0] 35)).heap.size) → Pushed B 35 92 S gr i w g n cap g4 c4 w4) := by
    have := HH.out.1
    rw [← HH.out.2.1] at this
    exact Lib.hid fun g4 c4 w4 => pushed this HH.out.2.1 hs0 (fun m hm => Below.heap_alloc _ _ _ hm) (World.size_alloc ..)
  have hBw : B ≤ w.heap.size := Nat.le_trans HH.out.1.low (Nat.le_of_lt (blk_lt HH.out.1.rd))
  have HB := Lib.hid (alloc_B (w := w.drewN (nq + 1)) (o := .cells #[.string ⟨#[]⟩, .slice none 0 0, .bool false, .int .i64 0] 35) hBw)
  have HN := Lib.hid (few_63 (n := n) (by omega))
  have HN2 := Lib.hid (few_by (n := n) (by omega))
  have m1a : ((w.drewN (nq + 1)).alloc (.cells #[.string ⟨#[]⟩, .slice none 0 0, .bool false, .int .i64 0] 35)).cell? ⟨gr, 1, none⟩ = some (.int .i64 (i : Int)) := (cell_congr (Below.heap_alloc _ _ _ (blk_lt HH.out.1.rd))).trans m1
  have m2a : ((w.drewN (nq + 1)).alloc (.cells #[.string ⟨#[]⟩, .slice none 0 0, .bool false, .int .i64 0] 35)).cell? ⟨gr, 2, none⟩ = some (.slice (some ⟨g, 0, none⟩) n cap) := (cell_congr (Below.heap_alloc _ _ _ (blk_lt HH.out.1.rd))).trans m2
  have HE := Lib.hid (fun g4 c4 w4 => push_end (w := w) (w4 := w4) (g4 := g4) (c4 := c4) (W1 := ((w.drewN (nq + 1)).alloc (.cells #[.string ⟨#[]⟩, .slice none 0 0, .bool false, .int .i64 0] 35))) (show RdS B 35 92 S gr N w i (.slice (some ⟨g, 0, none⟩) n cap) st from by have := HH.out.1; rw [← HH.out.2.1] at this; exact this) HH.out.2.1 (fun m hm => Below.heap_alloc (w.drewN (nq + 1)) _ m hm) (World.size_alloc (w.drewN (nq + 1)) _) ⟨rfl, rfl, rfl⟩)
  clear hBw
  have x1 : (n : Int) < (n : Int) + 1 := by omega
  go_upto_region 1 with fail
  go_cut [12] from 12 to 28 (fun _ wc => Hid (Below B w wc ∧ ∃ ov', RdS B 35 92 S gr N wc i ov' ((.slice none 0 0, .nil, i) :: st)))
  case first =>
    go_region_law (refine step_append_lies _ rfl (.tmp 15) (.tmp 23) 27 rfl B 35 i0 _ 4 56 Tryd.underlying27 hin hz0 hz1 hz2 rfl (by decide) (.slice (some ⟨g, 0, none⟩) n cap) n (cellsOf st) (by simp [Act.eval, Act.put]) HO.out ⟨w.heap.size, 0, none⟩ 1 1 [.string ⟨#[]⟩, .slice none 0 0, .bool false, .int .i64 0] (by simp [Act.eval, Act.put]) rfl (zero_news (w.drewN (nq + 1)) _ _ _ _ _) (one4 rfl rfl rfl rfl) (by decide) HN.out HN2.out HB.out _ rfl ?_; intro g4 c4 w4 r4 q4 o4 l4; have P := HP.out g4 c4 w4 r4 q4 o4; have hne := P.ne; obtain ⟨f1, f2, f3, ⟨f4, f5, f6, f7⟩, f8, f9, f10, f11⟩ := P.facts; have R4 := Lib.hid (show _ ∧ _ ∧ _ ∧ _ from ⟨r4, q4, o4, P⟩); clear r4 q4 o4 l4 P)
    all_goals
      have HF := Lib.hid (HE.out g4 c4 w4 R4.out)
      clear f1 f2 f3 f4 f5 f6 f7 f8 f9 f10 f11 R4 HE HP HO HB HN HN2 m1a m2a m1 m2
      try rw [set_late hne]
      go_wp2_with fail
      go_meet
      exact Lib.hid ⟨HF.out.1, _, HF.out.2⟩
  case rest =>
    obtain ⟨hb, ov', hr⟩ := hcut.out
    have g1 := hr.place.2
    have g2 : wc.frozen? ⟨gr, 1, none⟩ = false := by simp [World.frozen?, hr.rd]
    have HO2 := Lib.hid (onward_ok g1 g2 (by have := HH.out.2.2; omega))
    have HF := Lib.hid (show _ ∧ _ from ⟨hr.below_set 1 (.int .i64 ((i + 1 : Nat) : Int)) hb, hr.step (i + 1)⟩)
    clear hb hr g1 g2 HE HP HO HB HN HN2 m1a m2a m1 m2
    go_wp2_with fail
    refine HO2.out.mono ?_
    rintro e w9 ⟨rfl, rfl⟩
    go_wp2
    go_returns
    exact ⟨rfl, HF.out.1, _, HF.out.2⟩
end Go.Proofs.YtbccknhinmgibaaDoor

/- Package lex's Parse, whole: the trees of any text, or the first fault. No condition. -/
import Derived.Test.YtbccknhinmgibaaDoorLParse
set_option linter.unusedVariables false
set_option linter.unusedSimpArgs false
namespace Go.Proofs.YtbccknhinmgibaaDoor
open Go.RowKit

/-- What Parse tells. -/
def ParseE (S : ByteArray) (w : World) (e : Ending) (w' : World) : Prop := Below w.heap.size w w' ∧ ∃ (f : Fo) (p : Nat) (n : Int) (K : Option Addr) (c : Nat), parseP S.data.toList = (f, p, n) ∧ e = .returned (.tuple #[.slice K f.len c, .int .i64 (p : Int), .int .i64 n]) ∧ (f.len ≤ c ∧ c ≤ maxLen ∧ f.len ≤ 262144) ∧ FoAt w' K 0 f
theorem three_alloc (w : World) (o1 o2 o3 : Obj) : (((w.alloc o1).alloc o2).alloc o3).heap[w.heap.size]? = some o1 ∧ (((w.alloc o1).alloc o2).alloc o3).heap[w.heap.size + 1]? = some o2 ∧ (((w.alloc o1).alloc o2).alloc o3).heap[w.heap.size + 2]? = some o3 ∧ (((w.alloc o1).alloc o2).alloc o3).heap.size = w.heap.size + 3 ∧ Below w.heap.size w (((w.alloc o1).alloc o2).alloc o3) := by
  have s1 : (w.alloc o1).heap.size = w.heap.size + 1 := World.size_alloc ..
  have s2 : ((w.alloc o1).alloc o2).heap.size = w.heap.size + 2 := by rw [World.size_alloc, s1]
  have s3 : (((w.alloc o1).alloc o2).alloc o3).heap.size = w.heap.size + 3 := by rw [World.size_alloc, s2]
  refine ⟨?_, ?_, ?_, s3, (((Below.refl _ _).alloc (Nat.le_refl _) _).alloc (by omega) _).alloc (by omega) _⟩
  · rw [Below.heap_alloc _ _ _ (by omega), Below.heap_alloc _ _ _ (by omega)]; exact heap_alloc_new _ _
  · rw [Below.heap_alloc _ _ _ (by omega), ← s1]; exact heap_alloc_new _ _
  · rw [← s2]; exact heap_alloc_new _ _
set_option maxRecDepth 100000 in
set_option maxHeartbeats 6400000 in
theorem parse_ok {S : ByteArray} {w : World} (hS : S.size ≤ 140737488355328) : Calls Tryd.prog 7 #[.string S] w (ParseE S w) := by
  have hmf : ∀ (fn : Fn) (first cap : Array Value) (w : World), (Instr.makeFunc fn first cap).run Tryd.prog w = .ok (.func fn first cap) w := fun _ _ _ _ => rfl
  by_cases hl : 262144 < S.size
  · have b1 : decide ((262144 : Int) < (S.size : Int)) = true := decide_eq_true (by omega)
    have HP := Lib.hid (show parseP S.data.toList = (.nil, 0, 3) by rw [parseP, if_pos (by simpa using hl)])
    clear hl
    go_enter_defers Tryd.func7, Tryd.ntmps7
    go_wp2
    simp [bodyPostD, Leaves, settle, results, Tryd.results7, go_sem]
    exact ⟨(three_alloc w _ _ _).2.2.2.2, .nil, 0, 3, none, 0, HP.out, rfl, ⟨Nat.le_refl _, Nat.zero_le _, Nat.zero_le _⟩, trivial⟩
  · have b1 : decide ((262144 : Int) < (S.size : Int)) = false := decide_eq_false (by omega)
    have hS2 : S.size ≤ 262144 := by omega
    have HP := Lib.hid (show parseP S.data.toList = fin S.size (go S.data.toList 0 [] .nil) by rw [parseP, if_neg (by simpa using hS2)]; simp)
    clear hl
    go_enter_defers Tryd.func7, Tryd.ntmps7
    go_wp2_with fail
    obtain ⟨r1, r2, r3, rz, rb⟩ := three_alloc w (.cells #[.slice none 0 0] 27) (.cells #[.int .i64 0] 3) (.cells #[.int .i64 0] 28)
    obtain ⟨w3, hw3⟩ : ∃ w3, w3 = ((w.alloc (.cells #[.slice none 0 0] 27)).alloc (.cells #[.int .i64 0] 3)).alloc (.cells #[.int .i64 0] 28) := ⟨_, rfl⟩
    rw [← hw3] at r1 r2 r3 rz rb ⊢
    have H3 := Lib.hid (show _ ∧ _ ∧ _ ∧ _ ∧ _ from ⟨r1, r2, r3, rz, rb⟩)
    have HS2 := Lib.hid hS2
    clear r1 r2 r3 rz rb hw3 hS hS2
    refine readerOf_ok.mono ?_
    rintro e w4 ⟨gr, ov, st, rfl, hb4, hr4, hf4⟩
    have HT := Lib.hid (trees_ok hr4 hf4 HS2.out)
    have HB4 := Lib.hid hb4
    clear hb4 hr4 hf4
    go_wp2_with fail
    refine HT.out.mono ?_
    rintro e w5 ⟨hb5, ⟨ks, K, c, hgo, rfl, hc, hd⟩ | ⟨p, n, hfin, hn, rfl⟩⟩
    · have hb := HB4.out.trans hb5
      obtain ⟨r1, r2, r3, rz, rb⟩ := H3.out
      have g1 : w5.heap[w.heap.size]? = some (.cells #[.slice none 0 0] 27 (0, 0)) := (hb.block _ (by omega)).trans r1
      have g2 : w5.heap[w.heap.size + 1]? = some (.cells #[.int .i64 0] 3 (0, 0)) := (hb.block _ (by omega)).trans r2
      have g3 : w5.heap[w.heap.size + 1 + 1]? = some (.cells #[.int .i64 0] 28 (0, 0)) := (hb.block _ (by omega)).trans r3
      have a1 : w5.cell? ⟨w.heap.size, 0, none⟩ = some (.slice none 0 0) := cell_of_row _ _ 0 _ _ _ g1
      have a2 : w5.cell? ⟨w.heap.size + 1, 0, none⟩ = some (.int .i64 0) := cell_of_row _ _ 0 _ _ _ g2
      have a3 : w5.cell? ⟨w.heap.size + 1 + 1, 0, none⟩ = some (.int .i64 0) := cell_of_row _ _ 0 _ _ _ g3
      have f1 : w5.frozen? ⟨w.heap.size, 0, none⟩ = false := by simp [World.frozen?, g1]
      have f2 : w5.frozen? ⟨w.heap.size + 1, 0, none⟩ = false := by simp [World.frozen?, g2]
      have f3 : w5.frozen? ⟨w.heap.size + 1 + 1, 0, none⟩ = false := by simp [World.frozen?, g3]
      have HE := Lib.hid (show ParseE S w (.returned (.tuple #[.slice K ks.len c, .int .i64 ((0 : Nat) : Int), .int .i64 0])) (((w5.setCell ⟨w.heap.size, 0, none⟩ (.slice K ks.len c)).setCell ⟨w.heap.size + 1, 0, none⟩ (.int .i64 0)).setCell ⟨w.heap.size + 1 + 1, 0, none⟩ (.int .i64 0)) from
        ⟨((rb.trans (hb.mono (by omega))).setCell (Nat.le_refl _) _ |>.setCell (Nat.le_succ _) _).setCell (show w.heap.size ≤ w.heap.size + 1 + 1 by omega) _, ks, 0, 0, K, c, by rw [HP.out, hgo]; rfl, rfl, hc, (hd.to (D' := fun _ => True) fun a u hu hD => ⟨(cell_congr ((Below.heap_setCell _ _ _ _ (by have : w3.heap.size ≤ a.block := hD; show a.block ≠ w.heap.size + 1 + 1; omega)).trans ((Below.heap_setCell _ _ _ _ (by have : w3.heap.size ≤ a.block := hD; show a.block ≠ w.heap.size + 1; omega)).trans (Below.heap_setCell _ _ _ _ (by have : w3.heap.size ≤ a.block := hD; show a.block ≠ w.heap.size; omega))))).trans hu, trivial⟩).at⟩)
      have HQ := Lib.hid (show ∀ wf, wf = ((w5.setCell ⟨w.heap.size, 0, none⟩ (.slice K ks.len c)).setCell ⟨w.heap.size + 1, 0, none⟩ (.int .i64 0)).setCell ⟨w.heap.size + 1 + 1, 0, none⟩ (.int .i64 0) → wf.cell? ⟨w.heap.size, 0, none⟩ = some (.slice K ks.len c) ∧ wf.cell? ⟨w.heap.size + 1, 0, none⟩ = some (.int .i64 0) ∧ wf.cell? ⟨w.heap.size + 1 + 1, 0, none⟩ = some (.int .i64 0) from fun wf hwf => by
        have ht := three_told (w := w5) (w1 := w5.alloc (.cells #[] 0)) (o := .cells #[] 0) (x := .slice K ks.len c) (y := .int .i64 0) (z := .int .i64 0) ((Below.heap_alloc _ _ _ (blk_lt g1)).trans g1) ((Below.heap_alloc _ _ _ (blk_lt g2)).trans g2) ((Below.heap_alloc _ _ _ (blk_lt g3)).trans g3) (by omega) (by omega) (by omega) rfl
        have one : ∀ (W : World) (b : Nat) (v u : Value) (T : TypeId), W.heap[b]? = some (.cells #[v] T (0, 0)) → (W.setCell ⟨b, 0, none⟩ u).heap[b]? = some (.cells #[u] T (0, 0)) := fun W b v u T h => by simp [World.setCell, Array.getElem?_modify, h]
        have k1 := one w5 _ _ (.slice K ks.len c) _ g1
        have k2 := one (w5.setCell ⟨w.heap.size, 0, none⟩ (.slice K ks.len c)) _ _ (.int .i64 0) _ ((Below.heap_setCell _ _ _ _ (show w.heap.size + 1 ≠ w.heap.size by omega)).trans g2)
        have k3 := one ((w5.setCell ⟨w.heap.size, 0, none⟩ (.slice K ks.len c)).setCell ⟨w.heap.size + 1, 0, none⟩ (.int .i64 0)) _ _ (.int .i64 0) _ ((Below.heap_setCell _ _ _ _ (show w.heap.size + 1 + 1 ≠ w.heap.size + 1 by omega)).trans ((Below.heap_setCell _ _ _ _ (show w.heap.size + 1 + 1 ≠ w.heap.size by omega)).trans g3))
        rw [hwf]
        exact ⟨cell_of_row _ _ 0 _ _ _ ((Below.heap_setCell _ _ _ _ (show w.heap.size ≠ w.heap.size + 1 + 1 by omega)).trans ((Below.heap_setCell _ _ _ _ (show w.heap.size ≠ w.heap.size + 1 by omega)).trans k1)), cell_of_row _ _ 0 _ _ _ ((Below.heap_setCell _ _ _ _ (show w.heap.size + 1 ≠ w.heap.size + 1 + 1 by omega)).trans k2), cell_of_row _ _ 0 _ _ _ k3⟩)
      clear hb r1 r2 r3 rz rb g1 g2 g3 hb5 hgo hc hd HB4 H3 HT
      go_wp2
      obtain ⟨wf, hwf⟩ : ∃ wf, wf = ((w5.setCell ⟨w.heap.size, 0, none⟩ (.slice K ks.len c)).setCell ⟨w.heap.size + 1, 0, none⟩ (.int .i64 0)).setCell ⟨w.heap.size + 1 + 1, 0, none⟩ (.int .i64 0) := ⟨_, rfl⟩
      rw [← hwf] at HE ⊢
      obtain ⟨q1, q2, q3⟩ := HQ.out wf hwf
      clear hwf HQ
      refine leaves_cons (f := 23) (args := #[.pointer (some ⟨w.heap.size, 0, none⟩), .pointer (some ⟨w.heap.size + 1, 0, none⟩), .pointer (some ⟨w.heap.size + 1 + 1, 0, none⟩)]) (by simp) (by simp [go_sem]) ?_
      refine parse_idle.mono ?_
      rintro e u' w'' ⟨rfl, rfl, rfl⟩
      simp [Leaves, settle, results, Tryd.results7, go_sem, q1, q2, q3]
      exact HE.out
    · have hb := HB4.out.trans hb5
      obtain ⟨r1, r2, r3, rz, rb⟩ := H3.out
      have g1 : w5.heap[w.heap.size]? = some (.cells #[.slice none 0 0] 27 (0, 0)) := (hb.block _ (by omega)).trans r1
      have g2 : w5.heap[w.heap.size + 1]? = some (.cells #[.int .i64 0] 3 (0, 0)) := (hb.block _ (by omega)).trans r2
      have g3 : w5.heap[w.heap.size + 1 + 1]? = some (.cells #[.int .i64 0] 28 (0, 0)) := (hb.block _ (by omega)).trans r3
      refine leaves_cons (f := 23) (args := #[.pointer (some ⟨w.heap.size, 0, none⟩), .pointer (some ⟨w.heap.size + 1, 0, none⟩), .pointer (some ⟨w.heap.size + 1 + 1, 0, none⟩)]) (by simp) (by simp [go_sem]) ?_
      refine (parse_caught g1 g2 g3 (by omega) (by omega) (by omega)).mono ?_
      rintro e u' wf ⟨rfl, rfl, k1, k2, k3, ks, ko, kk⟩
      have q1 : wf.cell? ⟨w.heap.size, 0, none⟩ = some (.slice none 0 0) := cell_of_row _ _ 0 _ _ _ k1
      have q2 : wf.cell? ⟨w.heap.size + 1, 0, none⟩ = some (.int .i64 (p : Int)) := cell_of_row _ _ 0 _ _ _ k2
      have q3 : wf.cell? ⟨w.heap.size + 1 + 1, 0, none⟩ = some (.int .i64 n) := cell_of_row _ _ 0 _ _ _ k3
      have HE : ParseE S w (.returned (.tuple #[.slice none 0 0, .int .i64 (p : Int), .int .i64 n])) wf := by
        have hbw := rb.trans (hb.mono (by omega))
        exact ⟨⟨ko.1.trans hbw.os, ko.2.1.trans hbw.tape, ko.2.2.trans hbw.output, Nat.le_trans hbw.size ks, fun m hm => (kk m (by have := hbw.size; omega) (by omega) (by omega) (by omega)).trans (hbw.block m hm)⟩, .nil, p, n, none, 0, HP.out.trans hfin, rfl, ⟨Nat.le_refl _, Nat.zero_le _, Nat.zero_le _⟩, trivial⟩
      simp [Leaves, settle, results, Tryd.results7, go_sem, q1, q2, q3]
      exact HE
end Go.Proofs.YtbccknhinmgibaaDoor

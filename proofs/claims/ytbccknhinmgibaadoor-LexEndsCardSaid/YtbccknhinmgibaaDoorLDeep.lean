/- Package lex's Deep: how many rows stand within each other. Premise: trees in memory, at most 10^9 of them. -/
import Derived.Test.YtbccknhinmgibaaDoorLThrW
import Derived.Laws.EntriesVeiled
import Derived.Shelf.Abstract
set_option linter.unusedVariables false
set_option linter.unusedSimpArgs false
namespace Go.Proofs.YtbccknhinmgibaaDoor
open Go.RowKit

/-- How deep one stands, and how deep one stood at most. -/
def stepD (q : Int × Int) : Ev → Int × Int
  | .opens => (q.1 + 1, max q.2 (q.1 + 1))
  | .word _ => q
  | .closes => (q.1 - 1, q.2)
def stD (d : List Ev) : Int × Int := d.foldl stepD (0, 0)
theorem stD_snoc (d : List Ev) (ev : Ev) : stD (d ++ [ev]) = stepD (stD d) ev := by simp [stD]
theorem foldD : ∀ (f : Fo) (x m : Int), x ≤ m → (evs f).foldl stepD (x, m) = (x, max m (x + (f.deep : Int)))
  | .nil, x, m, h => by simp only [evs, Fo.deep, List.foldl_nil]; congr 1; omega
  | .cons s k b p r, x, m, h => by
    cases b with
    | false =>
      simp only [evs, Bool.false_eq_true, if_false, List.foldl_append, List.foldl_cons, List.foldl_nil, stepD, Fo.deep]
      rw [foldD r x m h]
      congr 1 <;> omega
    | true =>
      simp only [evs, if_true, List.foldl_append, List.foldl_cons, List.foldl_nil, stepD, Fo.deep]
      rw [foldD k (x + 1) _ (by omega)]
      simp only [stepD]
      rw [foldD r _ _ (by omega)]
      congr 1 <;> omega
theorem deepD (f : Fo) : stD (evs f) = (0, (f.deep : Int)) := by
  rw [stD, foldD f 0 0 (Int.le_refl _)]
  congr 1
  omega
theorem stD_bound (d : List Ev) : -(d.length : Int) ≤ (stD d).1 ∧ (stD d).1 ≤ d.length ∧ 0 ≤ (stD d).2 ∧ (stD d).2 ≤ d.length := by
  have h : ∀ (l : List Ev) (x m : Int), x - (l.length : Int) ≤ (l.foldl stepD (x, m)).1 ∧ (l.foldl stepD (x, m)).1 ≤ x + l.length ∧ m ≤ (l.foldl stepD (x, m)).2 ∧ ((l.foldl stepD (x, m)).2 ≤ m ∨ (l.foldl stepD (x, m)).2 ≤ x + l.length) := by
    intro l
    induction l with
    | nil => intro x m; simp
    | cons ev l ih =>
      intro x m
      simp only [List.foldl_cons, List.length_cons]
      cases ev with
      | opens =>
        have := ih (x + 1) (max m (x + 1)); simp only [stepD]; omega
      | word s => have := ih x m; simp only [stepD]; omega
      | closes => have := ih (x - 1) m; simp only [stepD]; omega
  have := h d 0 0
  rw [stD]
  omega
theorem evs_len : ∀ f : Fo, (evs f).length ≤ 2 * f.nodes
  | .nil => Nat.le_refl _
  | .cons s k b p r => by
    have h1 := evs_len k
    have h2 := evs_len r
    cases b <;> simp [evs, Fo.nodes] <;> omega
/-- What Deep's closures keep. -/
def DeepR (b1 b2 : Nat) (d : List Ev) (X : Nat → Prop) (W : World) : Prop := (∀ m, X m ↔ m = b1 ∨ m = b2) ∧ b1 ≠ b2 ∧ W.heap[b1]? = some (.cells #[.int .i64 (stD d).1] 3 (0, 0)) ∧ W.heap[b2]? = some (.cells #[.int .i64 (stD d).2] 3 (0, 0))
theorem one_at {w : World} {b : Nat} {v : Value} {T : TypeId} (h : w.heap[b]? = some (.cells #[v] T (0, 0))) : w.cell? ⟨b, 0, none⟩ = some v ∧ w.frozen? ⟨b, 0, none⟩ = false := ⟨cell_of_row _ _ 0 _ _ _ h, by simp [World.frozen?, h]⟩
theorem one_put {w : World} {b : Nat} {v u : Value} {T : TypeId} (h : w.heap[b]? = some (.cells #[v] T (0, 0))) : (w.setCell ⟨b, 0, none⟩ u).heap[b]? = some (.cells #[u] T (0, 0)) := by simp [World.setCell, Array.getElem?_modify, h]
set_option maxRecDepth 100000 in
set_option maxHeartbeats 1600000 in
theorem deep1_ok {w : World} {b1 b2 : Nat} {x m : Int} (h1 : w.heap[b1]? = some (.cells #[.int .i64 x] 3 (0, 0))) (h2 : w.heap[b2]? = some (.cells #[.int .i64 m] 3 (0, 0))) (hne : b1 ≠ b2) (hx : -4000000000 ≤ x ∧ x ≤ 4000000000) (hm : 0 ≤ m ∧ m ≤ 4000000000) :
    Calls Tryd.prog 27 #[.pointer (some ⟨b1, 0, none⟩), .pointer (some ⟨b2, 0, none⟩)] w fun e w' => (∃ u, e = .returned u) ∧ w' = (w.setCell ⟨b1, 0, none⟩ (.int .i64 (x + 1))).setCell ⟨b2, 0, none⟩ (.int .i64 (max m (x + 1))) := by
  obtain ⟨c1, f1⟩ := one_at h1
  obtain ⟨c2, f2⟩ := one_at h2
  obtain ⟨hx1, hx2⟩ := hx
  obtain ⟨hm1, hm2⟩ := hm
  have n1 : ¬ b2 = b1 := fun e => hne e.symm
  clear h1 h2
  go_enter Tryd.func27, Tryd.ntmps27
  go_wp2
  go_returns
  exact ⟨⟨_, rfl⟩, rfl⟩
set_option maxRecDepth 100000 in
theorem deep2_ok {w : World} {s : ByteArray} : Calls Tryd.prog 28 #[.string s] w fun e w' => (∃ u, e = .returned u) ∧ w' = w := by
  go_enter Tryd.func28, Tryd.ntmps28
  go_wp2
  go_returns
  exact ⟨⟨_, rfl⟩, rfl⟩
set_option maxRecDepth 100000 in
theorem deep3_ok {w : World} {b1 : Nat} {x : Int} (h1 : w.heap[b1]? = some (.cells #[.int .i64 x] 3 (0, 0))) (hx : -4000000000 ≤ x ∧ x ≤ 4000000000) :
    Calls Tryd.prog 29 #[.pointer (some ⟨b1, 0, none⟩)] w fun e w' => (∃ u, e = .returned u) ∧ w' = w.setCell ⟨b1, 0, none⟩ (.int .i64 (x - 1)) := by
  obtain ⟨c1, f1⟩ := one_at h1
  obtain ⟨hx1, hx2⟩ := hx
  clear h1
  go_enter Tryd.func29, Tryd.ntmps29
  go_wp2
  go_returns
  exact ⟨⟨_, rfl⟩, rfl⟩
/-- Deep's closures, bound to their variables. -/
def deepFun (b1 b2 : Nat) : Ev → Fun
  | .opens => ⟨27, #[], #[.pointer (some ⟨b1, 0, none⟩), .pointer (some ⟨b2, 0, none⟩)]⟩
  | .word _ => ⟨28, #[], #[]⟩
  | .closes => ⟨29, #[], #[.pointer (some ⟨b1, 0, none⟩)]⟩
theorem deep_acts (b1 b2 : Nat) : Acts Tryd.prog (deepFun b1 b2) (fun d => d.length ≤ 2000000000) (DeepR b1 b2) where
  enters := fun ev args w => by
    cases ev
    · exact enters_of Tryd.func27 (by kernel_rfl) rfl args w
    · exact enters_of Tryd.func28 (by kernel_rfl) rfl args w
    · exact enters_of Tryd.func29 (by kernel_rfl) rfl args w
  low := fun {d X W} h m hm => by
    rcases (h.1 m).1 hm with rfl | rfl
    · exact blk_lt h.2.2.1
    · exact blk_lt h.2.2.2
  stay := fun {d X W W'} h hk => ⟨h.1, h.2.1, (hk b1 ((h.1 b1).2 (.inl rfl))).trans h.2.2.1, (hk b2 ((h.1 b2).2 (.inr rfl))).trans h.2.2.2⟩
  step := fun {d X W ev} h hok => by
    have hb := stD_bound d
    simp only [List.length_append, List.length_cons, List.length_nil] at hok
    obtain ⟨hX, hne, h1, h2⟩ := h
    cases ev with
    | opens =>
      refine (deep1_ok h1 h2 hne (by omega) (by omega)).mono ?_
      rintro e w' ⟨hu, rfl⟩
      refine ⟨hu, X, ⟨hX, hne, ?_, ?_⟩, fun m hm => .inl hm, fun m hm hx => ?_, by simp, rfl, rfl, rfl⟩
      · rw [stD_snoc]
        exact (Below.heap_setCell _ _ _ _ hne).trans (one_put h1)
      · rw [stD_snoc]
        exact one_put ((Below.heap_setCell _ _ _ _ (fun e => hne e.symm)).trans h2)
      · refine (Below.heap_setCell _ _ _ _ fun e => hx ((hX m).2 (.inr e))).trans (Below.heap_setCell _ _ _ _ fun e => hx ((hX m).2 (.inl e)))
    | word s =>
      refine (deep2_ok (w := W) (s := s)).mono ?_
      rintro e w' ⟨hu, rfl⟩
      exact ⟨hu, X, ⟨hX, hne, by rw [stD_snoc]; exact h1, by rw [stD_snoc]; exact h2⟩, fun m hm => .inl hm, fun m hm hx => rfl, Nat.le_refl _, rfl, rfl, rfl⟩
    | closes =>
      refine (deep3_ok h1 (by omega)).mono ?_
      rintro e w' ⟨hu, rfl⟩
      refine ⟨hu, X, ⟨hX, hne, ?_, ?_⟩, fun m hm => .inl hm, fun m hm hx => ?_, by simp, rfl, rfl, rfl⟩
      · rw [stD_snoc]
        exact one_put h1
      · rw [stD_snoc]
        exact (Below.heap_setCell _ _ _ _ (fun e => hne e.symm)).trans h2
      · exact Below.heap_setCell _ _ _ _ fun e => hx ((hX m).2 (.inl e))
set_option maxRecDepth 100000 in
set_option maxHeartbeats 3200000 in
theorem Deep_ok {w : World} {K : Option Addr} {c : Nat} {f : Fo} (hf : IsFo w (.slice K f.len c) f) (hn : f.nodes ≤ 1000000000) :
    Calls Tryd.prog 8 #[.slice K f.len c] w fun e w' => e = .returned (.int .i64 (f.deep : Int)) ∧ Below w.heap.size w w' := by
  have hmf : ∀ (fn : Fn) (first cap : Array Value) (w : World), (Instr.makeFunc fn first cap).run Tryd.prog w = .ok (.func fn first cap) w := fun _ _ _ _ => rfl
  have s1 : (w.alloc (.cells #[.int .i64 0] 3)).heap.size = w.heap.size + 1 := World.size_alloc ..
  have hb1 : Below w.heap.size w ((w.alloc (.cells #[.int .i64 0] 3)).alloc (.cells #[.int .i64 0] 3)) := ((Below.refl _ _).alloc (Nat.le_refl _) _).alloc (by omega) _
  have hT := through_ok (deep_acts w.heap.size (w.heap.size + 1)) rfl (fun _ => rfl) rfl hf hb1 (X := fun m => m = w.heap.size ∨ m = w.heap.size + 1) ⟨fun m => Iff.rfl, by omega, by rw [Below.heap_alloc _ _ _ (by omega)]; exact heap_alloc_new _ _, by rw [← s1]; exact heap_alloc_new _ _⟩ (fun m hm => by omega) (fun d r h => by have h1 := congrArg List.length h; have h2 := evs_len f; rw [List.length_append] at h1; show d.length ≤ 2000000000; omega) hn
  have HT := Lib.hid hT
  clear hT hb1 s1 hf
  go_enter Tryd.func8, Tryd.ntmps8
  go_wp2_with fail
  refine HT.out.mono ?_
  rintro e w2 ⟨⟨u, rfl⟩, hb2, X', ⟨_, _, h1, h2⟩, _⟩
  obtain ⟨c2, _⟩ := one_at h2
  rw [deepD] at c2
  have HB := Lib.hid hb2
  clear h1 h2 hb2
  go_wp2
  go_ret
  exact ⟨rfl, HB.out⟩
end Go.Proofs.YtbccknhinmgibaaDoor

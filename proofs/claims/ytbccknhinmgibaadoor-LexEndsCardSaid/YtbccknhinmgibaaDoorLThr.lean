/- Trees gone through in the order of their text: what is done, in turn; what stands while package lex's through goes. No program's function, no condition. -/
import Derived.Test.YtbccknhinmgibaaDoorLSays
import Derived.Test.YtbccknhinmgibaaDoorLTrees
set_option linter.unusedVariables false
set_option linter.unusedSimpArgs false
namespace Go.Proofs.YtbccknhinmgibaaDoor
open Go.RowKit

/-- What is done. -/
inductive Ev where
  | opens
  | word (s : ByteArray)
  | closes
/-- What is done of trees, in turn. -/
def evs : Fo → List Ev
  | .nil => []
  | .cons s k b _ r => (if b then .opens :: (evs k ++ [.closes]) else [.word s]) ++ evs r
/-- What is still to be done, the innermost row first. -/
def pend : List (Value × Fo) → List Ev
  | [] => []
  | [q] => evs q.2
  | q :: r => evs q.2 ++ .closes :: pend r
def nodesL : List (Value × Fo) → Nat
  | [] => 0
  | q :: r => q.2.nodes + nodesL r
theorem FoAt.shift {W : World} {g o : Nat} : ∀ (f : Fo) {j : Nat}, FoAt W (some ⟨g, o, none⟩) (j + 1) f → FoAt W (some ⟨g, o + 4, none⟩) j f
  | .nil, _, _ => trivial
  | .cons s k b p r, j, ⟨⟨g', o', A, c, e, h0, h1, h2, h3, h4, h5⟩, h6⟩ => by
    simp only [Option.some.injEq, Addr.mk.injEq, and_true] at e
    obtain ⟨rfl, rfl⟩ := e
    refine ⟨⟨g, o + 4, A, c, rfl, ?_, ?_, ?_, ?_, h4, h5⟩, FoAt.shift r h6⟩
    · rw [show o + 4 + j * 4 = o + (j + 1) * 4 by omega]; exact h0
    · rw [show o + 4 + j * 4 = o + (j + 1) * 4 by omega]; exact h1
    · rw [show o + 4 + j * 4 = o + (j + 1) * 4 by omega]; exact h2
    · rw [show o + 4 + j * 4 = o + (j + 1) * 4 by omega]; exact h3
/-- A slice that stands for trees. -/
def IsFo (W : World) (v : Value) (f : Fo) : Prop := ∃ K c, v = .slice K f.len c ∧ f.len ≤ c ∧ c ≤ maxLen ∧ f.len ≤ 140737488355328 ∧ FoAt W K 0 f
/-- A function that is called, and what it was bound to. -/
structure Fun where
  F : FuncId
  fs : Array Value
  cs : Array Value
def Fun.val (f : Fun) : Value := .func (.func f.F) f.fs f.cs
def Ev.args : Ev → Array Value
  | .word s => #[.string s]
  | _ => #[]
/-- What is done in turn: R d X W: d is done, in blocks of X alone. -/
structure Acts (P : Program) (fun_ : Ev → Fun) (ok : List Ev → Prop) (R : List Ev → (Nat → Prop) → World → Prop) : Prop where
  enters : ∀ ev args w, (callFunc (fun_ ev).F args).run P w = .ok (.enter (fun_ ev).F args) w
  low : ∀ {d X W}, R d X W → ∀ m, X m → m < W.heap.size
  stay : ∀ {d X W W'}, R d X W → (∀ m, X m → W'.heap[m]? = W.heap[m]?) → R d X W'
  step : ∀ {d X W ev}, R d X W → ok (d ++ [ev]) → Calls P (fun_ ev).F ((fun_ ev).fs ++ ev.args ++ (fun_ ev).cs) W fun e w' => (∃ u, e = .returned u) ∧ ∃ X', R (d ++ [ev]) X' w' ∧ (∀ m, X' m → X m ∨ W.heap.size ≤ m) ∧ (∀ m, m < W.heap.size → ¬ X m → w'.heap[m]? = W.heap[m]?) ∧ W.heap.size ≤ w'.heap.size ∧ (w'.os = W.os ∧ w'.tape = W.tape ∧ w'.output = W.output)
/-- What stands while through goes: wb: the world in which the trees lie. -/
structure ThrS (P : Program) (T : TypeId) (R : List Ev → (Nat → Prop) → World → Prop) (wb : World) (B : Nat) (all : List Ev) (most : Nat) (W : World) (v : Value) (st : List (Value × Fo)) (more : List Ev) (fr : List Nat) : Prop where
  below : Below wb.heap.size wb W
  own : W.ownsRow B T 1 v st.length (st.map (·.1)).reverse
  forest : ∀ q ∈ st, IsFo wb q.1 q.2
  acts : ∃ d X, R d X W ∧ (∀ m, X m → wb.heap.size ≤ m) ∧ (∀ m, v.ownBlock = some m → ¬ X m) ∧ d ++ (more ++ pend st) = all ∧ ∀ m ∈ fr, ¬ X m ∧ m < W.heap.size
  few : st.length + nodesL st ≤ most
  base : wb.heap.size ≤ B ∧ B ≤ W.heap.size
theorem IsFo.below {W W' : World} {v : Value} {f : Fo} (h : IsFo W v f) (hb : Below W.heap.size W W') : IsFo W' v f := by
  obtain ⟨K, c, h1, h2, h3, h4, h5⟩ := h
  exact ⟨K, c, h1, h2, h3, h4, h5.bel hb⟩
theorem pend_cons {q : Value × Fo} {r : List (Value × Fo)} (h : r ≠ []) : pend (q :: r) = evs q.2 ++ .closes :: pend r := by
  cases r with
  | nil => exact absurd rfl h
  | cons a r => rfl
theorem pend_head {q q' : Value × Fo} {r : List (Value × Fo)} {l : List Ev} (h : evs q.2 = l ++ evs q'.2) : pend (q :: r) = l ++ pend (q' :: r) := by
  cases r with
  | nil => exact h
  | cons a r =>
    have hne : a :: r ≠ [] := fun e => by cases e
    rw [pend_cons hne, pend_cons hne, h, List.append_assoc]
theorem rev_get {α : Type} (q : α) (r : List α) : (q :: r).reverse[r.length]? = some q := by
  rw [List.reverse_cons, List.getElem?_append_right (by simp), List.length_reverse, Nat.sub_self]; rfl
theorem rev_take {α : Type} (q : α) (r : List α) : (q :: r).reverse.take r.length = r.reverse := by
  rw [List.reverse_cons, List.take_append_of_le_length (by simp), List.take_of_length_le (by simp)]
theorem rev_set {α : Type} (q q' : α) (r : List α) : (q :: r).reverse.set r.length q' = (q' :: r).reverse := by
  rw [List.reverse_cons, List.reverse_cons, List.set_append, if_neg (by simp), List.length_reverse, Nat.sub_self]; rfl
/-- The first of some trees, and what is behind it. -/
structure Head (W : World) (g o n c : Nat) (s : ByteArray) (k : Fo) (b : Bool) (p : Int) (r : Fo) (A : Option Addr) (cA : Nat) : Prop where
  c0 : W.cell? ⟨g, o, none⟩ = some (.string s)
  c1 : W.cell? ⟨g, o + 1, none⟩ = some (.slice A k.len cA)
  c2 : W.cell? ⟨g, o + 2, none⟩ = some (.bool b)
  c3 : W.cell? ⟨g, o + 3, none⟩ = some (.int .i64 p)
  kids : IsFo W (.slice A k.len cA) k
  rest : ∀ v, (v = .slice (some ⟨g, o + 4, none⟩) r.len (c - 1) ∨ (c = 1 ∧ ∃ a, v = .slice (some a) r.len (c - 1))) → IsFo W v r
theorem IsFo.head {W : World} {v : Value} {s : ByteArray} {k : Fo} {b : Bool} {p : Int} {r : Fo} (h : IsFo W v (.cons s k b p r)) : ∃ g o c A cA, v = .slice (some ⟨g, o, none⟩) (r.len + 1) c ∧ r.len + 1 ≤ c ∧ c ≤ maxLen ∧ r.len ≤ 140737488355328 ∧ s.size ≤ 140737488355328 ∧ Head W g o (r.len + 1) c s k b p r A cA := by
  obtain ⟨K, c, rfl, hc, hm, hl, ⟨⟨g, o, A, cA, rfl, h0, h1, h2, h3, h4, h5⟩, h6⟩⟩ := h
  simp only [Nat.zero_mul, Nat.add_zero] at h0 h1 h2 h3
  simp only [Fo.len] at hc hl
  refine ⟨g, o, c, A, cA, rfl, hc, hm, by omega, h4.1, h0, h1, h2, h3, ⟨A, cA, rfl, h4.2.1, h4.2.2.1, h4.2.2.2, h5⟩, fun v hv => ?_⟩
  rcases hv with rfl | ⟨rfl, a, rfl⟩
  · exact ⟨_, _, rfl, by omega, by omega, by omega, h6.shift r⟩
  · have hr : r = .nil := Fo.len_nil (by omega)
    subst hr
    exact ⟨_, _, rfl, Nat.zero_le _, Nat.zero_le _, Nat.zero_le _, trivial⟩
/-- What through itself does: its own row changes, and new blocks come. -/
theorem ThrS.own_ {P : Program} {T : TypeId} {R : List Ev → (Nat → Prop) → World → Prop} {wb W W1 : World} {B most : Nat} {all m0 m1 : List Ev} {v v1 : Value} {st st1 : List (Value × Fo)} {fun_ : Ev → Fun} {ok : List Ev → Prop} {fr0 fr1 : List Nat} (hA : Acts P fun_ ok R) (h : ThrS P T R wb B all most W v st m0 fr0)
    (ho : W1.ownsRow B T 1 v1 st1.length (st1.map (·.1)).reverse) (hf : ∀ q ∈ st1, IsFo wb q.1 q.2) (hk : ∀ m, m < W.heap.size → v.ownBlock ≠ some m → W1.heap[m]? = W.heap[m]?) (hs : W.heap.size ≤ W1.heap.size) (hos : W1.os = W.os ∧ W1.tape = W.tape ∧ W1.output = W.output) (hg : v1.ownBlock = v.ownBlock ∨ ∃ g, v1.ownBlock = some g ∧ W.heap.size ≤ g) (hp : m0 ++ pend st = m1 ++ pend st1) (hw : st1.length + nodesL st1 ≤ most) (hfr : ∀ m ∈ fr1, W.heap.size ≤ m ∧ m < W1.heap.size) : ThrS P T R wb B all most W1 v1 st1 m1 fr1 := by
  obtain ⟨d, X, hr, hX, hv, hd, _⟩ := h.acts
  have hvB : ∀ m, v.ownBlock = some m → B ≤ m := fun m hm => (World.ownsRow.lt h.own m hm).1
  refine ⟨⟨hos.1.trans h.below.os, hos.2.1.trans h.below.tape, hos.2.2.trans h.below.output, Nat.le_trans h.below.size hs, fun m hm => (hk m (Nat.lt_of_lt_of_le hm h.below.size) fun e => ?_).trans (h.below.block m hm)⟩, ho, hf, ⟨d, X, hA.stay hr fun m hm => hk m (hA.low hr m hm) fun e => hv m e hm, hX, fun m hm hx => ?_, by rw [← hp]; exact hd, fun m hm => ⟨fun hx => by have := hA.low hr m hx; have := hfr m hm; omega, (hfr m hm).2⟩⟩, hw, h.base.1, Nat.le_trans h.base.2 hs⟩
  · have := hvB m e; have := h.base.1; omega
  · rcases hg with hg | ⟨g, hg, hge⟩
    · exact hv m (hg.symm.trans hm) hx
    · have := hA.low hr m hx
      have := hg.symm.trans hm
      injection this with this
      omega
/-- One thing is done. -/
theorem ThrS.step {P : Program} {T : TypeId} {R : List Ev → (Nat → Prop) → World → Prop} {wb W : World} {B most : Nat} {all m1 : List Ev} {v : Value} {st : List (Value × Fo)} {fun_ : Ev → Fun} {ok : List Ev → Prop} {ev : Ev} {fr : List Nat} (hA : Acts P fun_ ok R) (h : ThrS P T R wb B all most W v st (ev :: m1) fr) (hok : ∀ d r, d ++ r = all → ok d) : Calls P (fun_ ev).F ((fun_ ev).fs ++ ev.args ++ (fun_ ev).cs) W fun e w' => (∃ u, e = .returned u) ∧ ThrS P T R wb B all most w' v st m1 [] ∧ ∀ m ∈ fr, w'.heap[m]? = W.heap[m]? := by
  obtain ⟨d, X, hr, hX, hv, hd, hfr⟩ := h.acts
  refine (hA.step hr (hok (d ++ [ev]) (m1 ++ pend st) (by rw [← hd]; simp))).mono ?_
  rintro e w' ⟨hu, X', hr', h1, h2, h3, h4⟩
  have hvw : ∀ m, v.ownBlock = some m → w'.heap[m]? = W.heap[m]? := fun m hm => h2 m (World.ownsRow.lt h.own m hm).2 (hv m hm)
  refine ⟨hu, ⟨⟨h4.1.trans h.below.os, h4.2.1.trans h.below.tape, h4.2.2.trans h.below.output, Nat.le_trans h.below.size h3, fun m hm => (h2 m (Nat.lt_of_lt_of_le hm h.below.size) fun hx => ?_).trans (h.below.block m hm)⟩, ownsRow_same h.own hvw, h.forest, ⟨d ++ [ev], X', hr', fun m hm => ?_, fun m hm hx => ?_, by rw [← hd]; simp, fun m hm => by cases hm⟩, h.few, h.base.1, Nat.le_trans h.base.2 h3⟩, fun m hm => h2 m (hfr m hm).2 (hfr m hm).1⟩
  · have := hX m hx; omega
  · rcases h1 m hm with h | h'
    · exact hX m h
    · have := h.below.size; omega
  · rcases h1 m hx with h' | h'
    · exact hv m hm h'
    · have := (World.ownsRow.lt h.own m hm).2; omega
end Go.Proofs.YtbccknhinmgibaaDoor

/- The parts of terms in their order (plain lists); what is ahead as a row of turns; a term at an address. -/
import Derived.Test.YtlikpnaffpngiaaGreatDoorTEach
import Derived.Test.YtlikpnaffpngiaaGreatDoorWeigh
set_option linter.unusedVariables false
set_option linter.unusedSimpArgs false
namespace Go.Proofs.YtlikpnaffpngiaaGreatDoor

open Go.RowKit
theorem add_eq (b o j : Nat) : (⟨b, o, none⟩ : Addr).add j = ⟨b, o + j, none⟩ := by
  unfold Addr.add
  split
  · next h => rw [h]; rfl
  · rfl
mutual
/-- A term's parts, each ahead of its kids. -/
def preT : Tm → List Tm
  | .mk k s n ds l => .mk k s n ds l :: preL l
def preL : List Tm → List Tm
  | [] => []
  | t :: l => preT t ++ preL l
end
theorem preT_eq (t : Tm) : preT t = t :: preL t.kids := by
  cases t; rw [preT]; rfl
theorem preL_nil : preL [] = [] := by rw [preL]
theorem preL_cons (t : Tm) (l : List Tm) : preL (t :: l) = t :: (preL t.kids ++ preL l) := by rw [preL, preT_eq]; rfl
theorem preL_append : ∀ (a b : List Tm), preL (a ++ b) = preL a ++ preL b
  | [], b => by rw [List.nil_append, preL_nil, List.nil_append]
  | t :: a, b => by rw [List.cons_append, preL_cons, preL_cons, preL_append a b, List.cons_append, List.append_assoc]
theorem preL_len (l : List Tm) : l.length ≤ (preL l).length := by
  induction l with
  | nil => exact Nat.zero_le _
  | cons t l ih => rw [preL_cons]; simp; omega
/-- The turns of parts that are ahead: the first one's last. -/
def turnsOf (f : Value) : List Addr → List Value
  | [] => []
  | a :: l => turnsOf f l ++ [.pointer (some a), f]
theorem turnsOf_append (f : Value) : ∀ (a b : List Addr), turnsOf f (a ++ b) = turnsOf f b ++ turnsOf f a
  | [], b => by rw [List.nil_append]; exact (List.append_nil _).symm
  | x :: a, b => by
    show turnsOf f (a ++ b) ++ _ = _
    rw [turnsOf_append f a b, List.append_assoc]; rfl
def kidsAt (A : Addr) : Nat → List Tm → List (Addr × Tm)
  | _, [] => []
  | i, t :: l => (A.add (i * 5), t) :: kidsAt A (i + 1) l
theorem kidsAt_snd (A : Addr) : ∀ (i : Nat) (l : List Tm), (kidsAt A i l).map (·.2) = l
  | _, [] => rfl
  | i, t :: l => by show t :: _ = _; rw [kidsAt_snd A (i + 1) l]
theorem kidsAt_turns (f : Value) (A : Addr) : ∀ (l : List Tm) (i : Nat), rowTurns f (some A) (i + l.length) = turnsOf f ((kidsAt A i l).map (·.1)) ++ rowTurns f (some A) i
  | [], i => rfl
  | t :: l, i => by
    rw [show i + (t :: l).length = (i + 1) + l.length by simp; omega, kidsAt_turns f A l (i + 1)]
    show _ ++ ([_, f] ++ _) = (_ ++ [_, f]) ++ _
    rw [List.append_assoc]; rfl
/-- A term at an address. -/
def PtrTm (W : World) (p : Addr) (t : Tm) : Prop := ∃ u0 u1 u2 u3 u4, (W.cell? p = some u0 ∧ W.cell? (p.add 1) = some u1 ∧ W.cell? (p.add 2) = some u2 ∧ W.cell? (p.add 3) = some u3 ∧ W.cell? (p.add 4) = some u4) ∧ TmV W (.agg #[u0, u1, u2, u3, u4]) t
theorem kidsAt_ptr {W : World} {A : Addr} {all : List Tm} (h : TmsAt W (some A) all) : ∀ (l : List Tm) (i : Nat), (∀ j t, l[j]? = some t → all[i + j]? = some t) → ∀ p ∈ kidsAt A i l, PtrTm W p.1 p.2
  | [], _, _, p, hp => nomatch hp
  | t :: l, i, hl, p, hp => by
    rcases List.mem_cons.1 hp with rfl | hp
    · obtain ⟨ad, u0, u1, u2, u3, u4, e, hc, ht⟩ := h (i + 0) t (hl 0 t rfl)
      cases e
      exact ⟨u0, u1, u2, u3, u4, hc, ht⟩
    · exact kidsAt_ptr h l (i + 1) (fun j t' ht => by
        rw [show i + 1 + j = i + (j + 1) by omega]; exact hl (j + 1) t' ht) p hp
/-- The kids of a term at an address. -/
theorem PtrTm.kids {W : World} {p : Addr} {t : Tm} (h : PtrTm W p t) : ∃ K c, W.cell? (p.add 4) = some (.slice K t.kids.length c) ∧ t.kids.length ≤ 140737488355328 ∧ ((t.kids = [] ∧ True) ∨ ∃ A, K = some A ∧ ∀ q ∈ kidsAt A 0 t.kids, PtrTm W q.1 q.2) := by
  obtain ⟨u0, u1, u2, u3, u4, hc, ht⟩ := h
  obtain ⟨A, K, c, c', e, _, _, _, _, _, hl, hk⟩ := ht.parts
  simp only [Value.agg.injEq, Array.mk.injEq, List.cons.injEq, and_true] at e
  obtain ⟨rfl, rfl, rfl, rfl, rfl⟩ := e
  refine ⟨K, c', hc.2.2.2.2, hl, ?_⟩
  cases hkk : t.kids with
  | nil => exact .inl ⟨rfl, trivial⟩
  | cons t' l =>
    rw [hkk] at hk
    obtain ⟨ad, _, _, _, _, _, e, _⟩ := hk 0 t' rfl
    subst e
    exact .inr ⟨ad, rfl, kidsAt_ptr hk _ 0 fun j t ht => by rw [Nat.zero_add]; exact ht⟩
theorem PtrTm.bel {W W' : World} {p : Addr} {t : Tm} (h : PtrTm W p t) (hb : Below W.heap.size W W') : PtrTm W' p t := by
  obtain ⟨u0, u1, u2, u3, u4, ⟨h0, h1, h2, h3, h4⟩, ht⟩ := h
  exact ⟨u0, u1, u2, u3, u4, ⟨(hb.cell (cell_lt h0)).trans h0, (hb.cell (cell_lt h1)).trans h1, (hb.cell (cell_lt h2)).trans h2, (hb.cell (cell_lt h3)).trans h3, (hb.cell (cell_lt h4)).trans h4⟩, ht.bel hb⟩
end Go.Proofs.YtlikpnaffpngiaaGreatDoor

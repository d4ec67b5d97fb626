/- Trees in memory: what trees are, in whatever memory they lie; rows of trees in the making, of the call's own. No program's function, no condition. -/
import Derived.Test.YtbccknhinmgibaaDoorMem
import Derived.Test.YtbccknhinmgibaaDoorLP
import Derived.Laws.AppendOwn
import Derived.Laws.OwnMore
import Derived.Deep.AppendLies
set_option linter.unusedVariables false
set_option linter.unusedSimpArgs false
namespace Go.Proofs.YtbccknhinmgibaaDoor
open Go.RowKit

theorem cell_congr {a b : World} {p : Addr} (h : b.heap[p.block]? = a.heap[p.block]?) : b.cell? p = a.cell? p := by
  simp [World.cell?, h]
/-- Trees one behind the other, from the j-th place at K on: four cells each. -/
def FoAt (W : World) : Option Addr → Nat → Fo → Prop
  | _, _, .nil => True
  | K, j, .cons s k b p r => (∃ g o A c, K = some ⟨g, o, none⟩ ∧ W.cell? ⟨g, o + j * 4, none⟩ = some (.string s) ∧ W.cell? ⟨g, o + j * 4 + 1, none⟩ = some (.slice A k.len c) ∧ W.cell? ⟨g, o + j * 4 + 2, none⟩ = some (.bool b) ∧ W.cell? ⟨g, o + j * 4 + 3, none⟩ = some (.int .i64 p) ∧
      (s.size ≤ 140737488355328 ∧ k.len ≤ c ∧ c ≤ maxLen ∧ k.len ≤ 140737488355328) ∧ FoAt W A 0 k) ∧ FoAt W K (j + 1) r
theorem FoAt.keep {W W' : World} : ∀ (f : Fo) {K : Option Addr} {j : Nat}, FoAt W K j f → (∀ a u, W.cell? a = some u → W'.cell? a = some u) → FoAt W' K j f
  | .nil, _, _, _, _ => trivial
  | .cons s k b p r, K, j, ⟨⟨g, o, A, c, e, h0, h1, h2, h3, h4, h5⟩, h6⟩, hk =>
    ⟨⟨g, o, A, c, e, hk _ _ h0, hk _ _ h1, hk _ _ h2, hk _ _ h3, h4, FoAt.keep k h5 hk⟩, FoAt.keep r h6 hk⟩
theorem FoAt.bel {W W' : World} {f : Fo} {K : Option Addr} {j : Nat} (h : FoAt W K j f) (hb : Below W.heap.size W W') : FoAt W' K j f := h.keep f fun a u hu => (hb.cell (cell_lt hu)).trans hu
/-- These trees hang on cells in blocks of D alone. -/
def DepF (D : Nat → Prop) (W : World) (K : Option Addr) (f : Fo) : Prop := ∀ W' : World, (∀ a u, W.cell? a = some u → D a.block → W'.cell? a = some u) → FoAt W' K 0 f
theorem DepF.to {D D' : Nat → Prop} {W W' : World} {K : Option Addr} {f : Fo} (h : DepF D W K f) (hk : ∀ a u, W.cell? a = some u → D a.block → W'.cell? a = some u ∧ D' a.block) : DepF D' W' K f := fun W2 h2 => h W2 fun a u hu hd => h2 a u (hk a u hu hd).1 (hk a u hu hd).2
theorem DepF.nil (D : Nat → Prop) (W : World) (K : Option Addr) : DepF D W K .nil := fun _ _ => trivial
theorem DepF.at {D : Nat → Prop} {W : World} {K : Option Addr} {f : Fo} (h : DepF D W K f) : FoAt W K 0 f := h W fun _ _ h _ => h
/-- The cells of a row of trees in the making. -/
def KidsC (D : Nat → Prop) (W : World) : List Value → Fo → Prop
  | C, .nil => C = []
  | C, .cons s k b p r => ∃ A c C', C = .string s :: .slice A k.len c :: .bool b :: .int .i64 p :: C' ∧ (s.size ≤ 140737488355328 ∧ k.len ≤ c ∧ c ≤ maxLen ∧ k.len ≤ 140737488355328) ∧ DepF D W A k ∧ KidsC D W C' r
theorem KidsC.to {D D' : Nat → Prop} {W W' : World} (hk : ∀ a u, W.cell? a = some u → D a.block → W'.cell? a = some u ∧ D' a.block) : ∀ (f : Fo) {C : List Value}, KidsC D W C f → KidsC D' W' C f
  | .nil, C, h => h
  | .cons s k b p r, C, ⟨A, c, C', e, h1, h2, h3⟩ => ⟨A, c, C', e, h1, h2.to hk, KidsC.to hk r h3⟩
theorem KidsC.len {D : Nat → Prop} {W : World} : ∀ (f : Fo) {C : List Value}, KidsC D W C f → C.length = f.len * 4
  | .nil, C, h => by rw [show C = [] from h]; rfl
  | .cons s k b p r, C, ⟨A, c, C', e, h1, h2, h3⟩ => by
    have := KidsC.len r h3
    subst e
    simp only [List.length_cons, Fo.len]
    omega
theorem KidsC.snoc {D : Nat → Prop} {W : World} {s : ByteArray} {k : Fo} {b : Bool} {p : Int} {A : Option Addr} {c : Nat} (hb : s.size ≤ 140737488355328 ∧ k.len ≤ c ∧ c ≤ maxLen ∧ k.len ≤ 140737488355328) (hd : DepF D W A k) : ∀ (f : Fo) {C : List Value}, KidsC D W C f → KidsC D W (C ++ [.string s, .slice A k.len c, .bool b, .int .i64 p]) (f.app (.one s k b p))
  | .nil, C, h => by
    rw [show C = [] from h]
    exact ⟨A, c, [], rfl, hb, hd, rfl⟩
  | .cons s' k' b' p' r, C, ⟨A', c', C', e, h1, h2, h3⟩ => by
    subst e
    exact ⟨A', c', _, rfl, h1, h2, KidsC.snoc hb hd r h3⟩
theorem add_eq0 (g n : Nat) : (⟨g, 0, none⟩ : Addr).add n = ⟨g, n, none⟩ := by unfold Addr.add; split <;> simp_all
theorem add_eq1 (g o n : Nat) : (⟨g, o, none⟩ : Addr).add n = ⟨g, o + n, none⟩ := by unfold Addr.add; split <;> simp_all
/-- What stands in a row, closed. -/
theorem KidsC.at {D : Nat → Prop} {W W' : World} {g : Nat} (hW : ∀ a u, W.cell? a = some u → D a.block → W'.cell? a = some u) : ∀ (f : Fo) {C : List Value} {j : Nat}, KidsC D W C f → (∀ i u, C[i]? = some u → W'.cell? ⟨g, j * 4 + i, none⟩ = some u) → FoAt W' (some ⟨g, 0, none⟩) j f
  | .nil, C, j, h, _ => trivial
  | .cons s k b p r, C, j, ⟨A, c, C', e, h1, h2, h3⟩, hc => by
    subst e
    refine ⟨⟨g, 0, A, c, rfl, ?_, ?_, ?_, ?_, h1, h2 W' hW⟩, KidsC.at hW r h3 fun i u hu => ?_⟩
    · rw [Nat.zero_add]; exact hc 0 _ rfl
    · rw [Nat.zero_add]; exact hc 1 _ rfl
    · rw [Nat.zero_add]; exact hc 2 _ rfl
    · rw [Nat.zero_add]; exact hc 3 _ rfl
    · have := hc (i + 4) u (by simpa using hu)
      rwa [show j * 4 + (i + 4) = (j + 1) * 4 + i by omega] at this
/-- A row of the call's own, and what stands in it. -/
def RowF (B : Nat) (T : TypeId) (D : Nat → Prop) (W : World) (v : Value) (f : Fo) : Prop := ∃ C, W.ownsRow B T 4 v f.len C ∧ KidsC D W C f
theorem RowF.dep {B : Nat} {T : TypeId} {D D' : Nat → Prop} {W : World} {v : Value} {f : Fo} (h : RowF B T D W v f) (hD : ∀ m, D m → D' m) (hv : ∀ m, v.ownBlock = some m → D' m) : ∃ K c, v = .slice K f.len c ∧ f.len ≤ c ∧ c ≤ maxLen ∧ DepF D' W K f := by
  obtain ⟨C, ho, hk⟩ := h
  rcases ho.2 with ⟨rfl, h0⟩ | ⟨g, cap, cur, rfl, hb, hg, hnc, hcm, hcs, htake⟩
  · obtain rfl := Fo.len_nil h0
    exact ⟨none, 0, rfl, Nat.le_refl _, Nat.zero_le _, .nil _ _ _⟩
  · refine ⟨_, cap, rfl, hnc, hcm, fun W' hW => KidsC.at (j := 0) (fun a u hu hd => hW a u hu (hD _ hd)) f hk fun i u hu => ?_⟩
    have h1 := ho.cells (g := g) rfl i u hu
    rw [add_eq0] at h1
    rw [Nat.zero_mul, Nat.zero_add]
    exact hW _ _ h1 (hv g rfl)
theorem RowF.lt {B : Nat} {T : TypeId} {D : Nat → Prop} {W : World} {v : Value} {f : Fo} (h : RowF B T D W v f) : ∀ m, v.ownBlock = some m → B ≤ m ∧ m < W.heap.size := by
  obtain ⟨C, ho, _⟩ := h
  exact World.ownsRow.lt ho
theorem ownsRow_same {W W' : World} {B : Nat} {T : TypeId} {n sz : Nat} {v : Value} {C : List Value} (h : W.ownsRow B T sz v n C) (hb : ∀ m, v.ownBlock = some m → W'.heap[m]? = W.heap[m]?) : W'.ownsRow B T sz v n C := by
  refine ⟨h.1, ?_⟩
  rcases h.2 with hn | ⟨g, cap, cur, rfl, hB, hg, rest⟩
  · exact .inl hn
  · exact .inr ⟨g, cap, cur, rfl, hB, (hb g rfl).trans hg, rest⟩
theorem RowF.to {B : Nat} {T : TypeId} {D D' : Nat → Prop} {W W' : World} {v : Value} {f : Fo} (h : RowF B T D W v f) (hb : ∀ m, v.ownBlock = some m → W'.heap[m]? = W.heap[m]?) (hk : ∀ a u, W.cell? a = some u → D a.block → W'.cell? a = some u ∧ D' a.block) : RowF B T D' W' v f := by
  obtain ⟨C, ho, hK⟩ := h
  exact ⟨C, ownsRow_same ho hb, KidsC.to hk f hK⟩
/-- A row of the call's own, cut shorter. -/
theorem ownsRow_cut {W : World} {B : Nat} {T : TypeId} {n sz k c : Nat} {K : Option Addr} {C : List Value} (h : W.ownsRow B T sz (.slice K n c) n C) (hk : k ≤ n) : W.ownsRow B T sz (.slice K k c) k (C.take (k * sz)) := by
  obtain ⟨hl, h⟩ := h
  have hle : k * sz ≤ n * sz := Nat.mul_le_mul_right _ hk
  refine ⟨by rw [List.length_take, hl]; omega, ?_⟩
  rcases h with ⟨e, h0⟩ | ⟨g, cap, cur, e, hB, hg, hnc, hcm, hcs, htake⟩
  · left
    injection e with e1 e2 e3
    subst e1; subst e3
    have : k = 0 := by omega
    subst this
    exact ⟨rfl, rfl⟩
  · right
    injection e with e1 e2 e3
    subst e1; subst e3
    refine ⟨g, c, cur, rfl, hB, hg, by omega, hcm, hcs, ?_⟩
    rw [← htake, List.take_take, Nat.min_eq_left hle]
end Go.Proofs.YtbccknhinmgibaaDoor

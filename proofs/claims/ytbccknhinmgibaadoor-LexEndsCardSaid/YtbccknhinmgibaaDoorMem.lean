/- Words on memory for the texts of this seat: a slice that reads as a list of cells ('Row'), a row of the call's own that is known whole ('Own'), and how both stand behind new blocks, stores, draws. No condition. -/
import Derived.WalkKit
import Derived.Lib.Hide
import Derived.Deep.Draws
import Derived.BigQuiet
import Derived.Deep.QuietTactic
import Derived.Handy
namespace Go.Proofs.YtbccknhinmgibaaDoor
open Go.RowKit

/-- The slice at A reads, cell by cell, as xs. -/
def Row (w : World) (A : Option Addr) (xs : List Value) : Prop := ∀ j v, xs[j]? = some v → ∃ ad, A = some ad ∧ w.cell? (ad.add j) = some v

theorem add_block (a : Addr) (n : Nat) : (a.add n).block = a.block := by unfold Addr.add; split <;> rfl

theorem cell_lt {w : World} {p : Addr} {v : Value} (h : w.cell? p = some v) : p.block < w.heap.size := by
  rcases Nat.lt_or_ge p.block w.heap.size with hl | hl
  · exact hl
  · simp [World.cell?, Array.getElem?_eq_none hl] at h

theorem Row.below {w w' : World} {A : Option Addr} {xs : List Value} (h : Row w A xs) (hb : Below w.heap.size w w') : Row w' A xs := by
  intro j v hv
  obtain ⟨ad, ha, hc⟩ := h j v hv
  exact ⟨ad, ha, (hb.cell (cell_lt hc)).trans hc⟩

/-- w' is w but for draws. -/
def Drawn (w w' : World) : Prop := ∃ m, w' = w.drewN m
theorem Drawn.refl (w : World) : Drawn w w := ⟨0, rfl⟩
theorem Drawn.trans {a b c : World} (h : Drawn a b) (k : Drawn b c) : Drawn a c := by
  obtain ⟨m, rfl⟩ := h
  obtain ⟨n, rfl⟩ := k
  exact ⟨m + n, by rw [World.drewN_drewN]⟩
theorem Drawn.more {a b : World} (h : Drawn a b) (n : Nat) : Drawn a (b.drewN n) := h.trans ⟨n, rfl⟩
theorem Drawn.below {w w' : World} (h : Drawn w w') : Below w.heap.size w w' := by
  obtain ⟨m, rfl⟩ := h
  exact ⟨rfl, rfl, rfl, Nat.le_refl _, fun _ _ => rfl⟩
theorem Row.drewN {w : World} {A : Option Addr} {xs : List Value} (h : Row w A xs) (m : Nat) : Row (w.drewN m) A xs := h
theorem Row.drawn {w w' : World} {A : Option Addr} {xs : List Value} (h : Row w A xs) (hd : Drawn w w') : Row w' A xs := h.below hd.below

theorem Row.nil (w : World) (A : Option Addr) : Row w A [] := fun j v h => by simp at h

/-- At an index: the address and the cell. -/
theorem Row.at_ {w : World} {A : Option Addr} {xs : List Value} (h : Row w A xs) {k : Nat} (hk : k < xs.length) : ∃ ad, A = some ad ∧ w.cell? (ad.add k) = some xs[k] :=
  h k xs[k] (List.getElem?_eq_getElem hk)

theorem Row.take {w : World} {A : Option Addr} {xs : List Value} (h : Row w A xs) (k : Nat) : Row w A (xs.take k) := by
  intro j v hv
  rw [List.getElem?_take] at hv
  split at hv
  · exact h j v hv
  · cases hv

/-- A row of the call's own, from block B on: elements of type T, one cell each. -/
def Own (w : World) (B T : Nat) (v : Value) (xs : List Value) : Prop := w.ownsRow B T 1 v xs.length xs

theorem Own.mk_ {w : World} {B T : Nat} {v : Value} {n : Nat} {xs : List Value} (h : w.ownsRow B T 1 v n xs) : Own w B T v xs := by
  have : xs.length = n := by simpa using h.1
  subst this; exact h

theorem Own.slice {w : World} {B T : Nat} {v : Value} {xs : List Value} (h : Own w B T v xs) : ∃ A c, v = .slice A xs.length c ∧ Row w A xs ∧ xs.length ≤ c ∧ (A = none → c = 0) := by
  have hh : w.ownsRow B T 1 v xs.length xs := h
  rcases hh.2 with ⟨rfl, h0⟩ | ⟨g, cap, cur, rfl, _, hg, hle, _, hsz, ht⟩
  · have : xs = [] := List.eq_nil_of_length_eq_zero h0
    subst this
    exact ⟨none, 0, rfl, Row.nil _ _, Nat.le_refl _, fun _ => rfl⟩
  · refine ⟨some ⟨g, 0, none⟩, cap, rfl, fun j u hu => ⟨_, rfl, hh.cells (g := g) rfl j u hu⟩, hle, fun h => by cases h⟩

theorem Own.lt {w : World} {B T : Nat} {A : Option Addr} {n c : Nat} {xs : List Value} (h : Own w B T (.slice A n c) xs) : n = xs.length ∧ (∀ ad, A = some ad → ∃ g, ad = ⟨g, 0, none⟩ ∧ B ≤ g ∧ g < w.heap.size) := by
  have hh : w.ownsRow B T 1 (.slice A n c) xs.length xs := h
  rcases hh.2 with ⟨e, h0⟩ | ⟨g, cap, cur, e, hB, hg, _⟩
  · injection e with e1 e2 e3
    subst e1; subst e2
    exact ⟨h0.symm, fun ad h => by cases h⟩
  · injection e with e1 e2 e3
    subst e1; subst e2
    exact ⟨rfl, fun ad h => by cases h; exact ⟨g, rfl, hB, cell_lt' hg⟩⟩
where
  cell_lt' {w : World} {g : Nat} {o : Obj} (h : w.heap[g]? = some o) : g < w.heap.size := by
    rcases Nat.lt_or_ge g w.heap.size with hl | hl
    · exact hl
    · rw [Array.getElem?_eq_none hl] at h; cases h

theorem Own.nil (w : World) (B T : Nat) : Own w B T (.slice none 0 0) [] := World.ownsRow_nil w B T 1

theorem Own.mono {w : World} {B B' T : Nat} {v : Value} {xs : List Value} (h : Own w B T v xs) (hB : B' ≤ B) : Own w B' T v xs := by
  have hh : w.ownsRow B T 1 v xs.length xs := h
  refine ⟨hh.1, ?_⟩
  rcases hh.2 with h0 | ⟨g, cap, cur, e, hb, r⟩
  · exact .inl h0
  · exact .inr ⟨g, cap, cur, e, Nat.le_trans hB hb, r⟩

/-- What lies wholly below the blocks that are new stays. -/
theorem Own.below {w w' : World} {B T : Nat} {v : Value} {xs : List Value} (h : Own w B T v xs) (hb : Below w.heap.size w w') : Own w' B T v xs := by
  have hh : w.ownsRow B T 1 v xs.length xs := h
  refine ⟨hh.1, ?_⟩
  rcases hh.2 with h0 | ⟨g, cap, cur, e, hB, hg, r⟩
  · exact .inl h0
  · refine .inr ⟨g, cap, cur, e, hB, ?_, r⟩
    rw [hb.block g (Own.lt.cell_lt' hg)]; exact hg

/-- A row cut at its end. -/
theorem Own.cut {w : World} {B T : Nat} {A : Option Addr} {n c : Nat} {xs : List Value} (h : Own w B T (.slice A n c) xs) (k : Nat) (hk : k ≤ xs.length) : Own w B T (.slice A k c) (xs.take k) := by
  have hh : w.ownsRow B T 1 (.slice A n c) xs.length xs := h
  have hl : (xs.take k).length = k := by rw [List.length_take]; omega
  refine ⟨by simp, ?_⟩
  rcases hh.2 with ⟨e, h0⟩ | ⟨g, cap, cur, e, hB, hg, hle, hm, hsz, ht⟩
  · injection e with e1 e2 e3
    subst e1; subst e3
    have : k = 0 := by omega
    subst this
    exact .inl ⟨rfl, by simp⟩
  · injection e with e1 e2 e3
    subst e1; subst e3
    refine .inr ⟨g, c, cur, by rw [hl], hB, hg, by omega, hm, hsz, ?_⟩
    rw [hl, ← ht, List.take_take]
    congr 1
    omega

/-- The lists of cells. -/
def u32s (ds : List Nat) : List Value := ds.map fun (d : Nat) => Value.int .u32 (d : Int)
def u8s (ds : List Nat) : List Value := ds.map fun (d : Nat) => Value.int .u8 (d : Int)

theorem u32s_length (ds : List Nat) : (u32s ds).length = ds.length := by simp [u32s]
theorem u8s_length (ds : List Nat) : (u8s ds).length = ds.length := by simp [u8s]
theorem u32s_take (ds : List Nat) (k : Nat) : (u32s ds).take k = u32s (ds.take k) := by simp [u32s, List.map_take]
theorem u8s_take (ds : List Nat) (k : Nat) : (u8s ds).take k = u8s (ds.take k) := by simp [u8s, List.map_take]
theorem u32s_snoc (ds : List Nat) (d : Nat) : u32s ds ++ [.int .u32 (d : Int)] = u32s (ds ++ [d]) := by simp [u32s]
theorem u8s_snoc (ds : List Nat) (d : Nat) : u8s ds ++ [.int .u8 (d : Int)] = u8s (ds ++ [d]) := by simp [u8s]

/-- A digit at its place. -/
theorem Row.u32 {w : World} {A : Option Addr} {ds : List Nat} (h : Row w A (u32s ds)) {k : Nat} (hk : k < ds.length) : ∃ ad, A = some ad ∧ w.cell? (ad.add k) = some (.int .u32 ((ds.getD k 0 : Nat) : Int)) := by
  refine h k _ ?_
  simp [u32s, List.getD, hk]
theorem Row.u8 {w : World} {A : Option Addr} {ds : List Nat} (h : Row w A (u8s ds)) {k : Nat} (hk : k < ds.length) : ∃ ad, A = some ad ∧ w.cell? (ad.add k) = some (.int .u8 ((ds.getD k 0 : Nat) : Int)) := by
  refine h k _ ?_
  simp [u8s, List.getD, hk]

theorem Row.dig {w : World} {A : Option Addr} {ds : List Nat} (h : Row w A (u32s ds)) {k : Nat} (hk : k < ds.length) : ∃ (ad : Addr) (x : Nat), A = some ad ∧ w.cell? (ad.add k) = some (.int .u32 (x : Int)) ∧ Hid (ds.getD k 0 = x) ∧ x ∈ ds := by
  obtain ⟨ad, e, hc⟩ := h.u32 hk
  refine ⟨ad, _, e, hc, rfl, ?_⟩
  rw [List.getD_eq_getElem?_getD, List.getElem?_eq_getElem hk]
  exact List.getElem_mem hk
theorem Row.byte {w : World} {A : Option Addr} {ds : List Nat} (h : Row w A (u8s ds)) {k : Nat} (hk : k < ds.length) : ∃ (ad : Addr) (x : Nat), A = some ad ∧ w.cell? (ad.add k) = some (.int .u8 (x : Int)) ∧ Hid (ds.getD k 0 = x) ∧ x ∈ ds := by
  obtain ⟨ad, e, hc⟩ := h.u8 hk
  refine ⟨ad, _, e, hc, rfl, ?_⟩
  rw [List.getD_eq_getElem?_getD, List.getElem?_eq_getElem hk]
  exact List.getElem_mem hk
theorem one_news {w : World} {u v : Value} {T : TypeId} (e : v = u) : ∀ j z, [u][j]? = some z → (w.alloc (.cells #[v] T)).cell? ((⟨w.heap.size, 0, none⟩ : Addr).add j) = some z := by
  subst e
  intro j z hj
  match j, hj with
  | 0, hj => simp at hj; subst hj; simp [Addr.add]
theorem one_cell {k : IntKind} {a : Int} : ∀ u ∈ [Value.int k a], u.oneCell' = true := by
  intro u hu
  rw [List.mem_singleton.1 hu]; rfl
/-- Behind an append to a row of the call's own: what was there stays. -/
theorem below_app {w wr w2 : World} {B T : Nat} {v : Value} {xs : List Value} {o : Obj} (hb : Below w.heap.size w wr) (ho : Own wr B T v xs) (hB : Hid (B = w.heap.size)) (hg : (wr.alloc o).grownBy w2 v.ownBlock) : Below w.heap.size w w2 :=
  (hb.alloc hb.size o).grown hg (Nat.le_trans hb.size (by simp)) (fun k hk => by
    have hh : wr.ownsRow B T 1 v xs.length xs := ho
    have := (hh.lt k hk).1
    rw [hB.out] at this
    exact this)
theorem int_eq {k : IntKind} {a b : Int} (h : a = b) : Value.int k a = .int k b := by rw [h]
theorem own_app32 {w : World} {B n : Nat} {v : Value} {ds : List Nat} {d : Nat} (h : w.ownsRow B 83 1 v n (u32s ds ++ [.int .u32 (d : Int)])) : Own w B 83 v (u32s (ds ++ [d])) := by
  rw [← u32s_snoc]; exact Own.mk_ h
/-- The block that a call made first stands behind what it called. -/
theorem first_block {w w1 : World} {o : Obj} (hb : Below (w.alloc o).heap.size (w.alloc o) w1) : w1.heap[w.heap.size]? = some o :=
  (hb.block _ (by simp)).trans (heap_alloc_new w o)
theorem Own.setBelow {w : World} {B T : Nat} {v : Value} {xs : List Value} (h : Own w B T v xs) {p : Addr} (hp : p.block < B) (u : Value) : Own (w.setCell p u) B T v xs :=
  ownsRow_setCell_below (w := w) h hp u
theorem below_first {w w1 : World} {o : Obj} (hb : Below (w.alloc o).heap.size (w.alloc o) w1) : Below w.heap.size w w1 :=
  ((Below.refl _ _).alloc (Nat.le_refl _) o).trans (hb.mono (by simp))
theorem Row.alloc {w : World} {A : Option Addr} {xs : List Value} (h : Row w A xs) (o : Obj) : Row (w.alloc o) A xs := h.below ((Below.refl _ _).alloc (Nat.le_refl _) o)
theorem lt_block {w : World} {g : Nat} {o : Obj} (h : w.heap[g]? = some o) : g < w.heap.size := Own.lt.cell_lt' h
/-- Two boxes and a cell for the result, then a make. -/
theorem three_new {w w1 : World} {o1 o2 o3 : Obj} (hg : (((w.alloc o1).alloc o2).alloc o3).grownBy w1 none) :
    Below w.heap.size w w1 ∧ w.heap.size + 3 ≤ w1.heap.size ∧ w1.heap[w.heap.size]? = some o1 ∧ w1.heap[w.heap.size + 1]? = some o2 ∧ w1.heap[w.heap.size + 1 + 1]? = some o3 := by
  have hb : Below (((w.alloc o1).alloc o2).alloc o3).heap.size (((w.alloc o1).alloc o2).alloc o3) w1 := (Below.refl _ _).grown hg (Nat.le_refl _) (fun k h => by cases h)
  have e1 : (((w.alloc o1).alloc o2).alloc o3).heap.size = w.heap.size + 3 := by simp
  have b2 : Below (w.alloc o1).heap.size (w.alloc o1) w1 := below_first (below_first hb)
  have e2 : (w.alloc o1).heap.size = w.heap.size + 1 := by simp
  have e3 : ((w.alloc o1).alloc o2).heap.size = w.heap.size + 1 + 1 := by simp
  refine ⟨below_first b2, ?_, first_block b2, ?_, ?_⟩
  · have := hb.size; omega
  · have := first_block (w := w.alloc o1) (below_first hb); rw [e2] at this; exact this
  · have := first_block (w := (w.alloc o1).alloc o2) hb; rw [e3] at this; exact this
/-- Behind an append to a row from block B on: what lies below B stays. -/
theorem below_app' {w1 wr w2 : World} {B T : Nat} {v : Value} {xs : List Value} {o : Obj} (hb : Below B w1 wr) (ho : Own wr B T v xs) (hB : B ≤ w1.heap.size) (hg : (wr.alloc o).grownBy w2 v.ownBlock) : Below B w1 w2 :=
  (hb.alloc (Nat.le_trans hB hb.size) o).grown hg (by have := hb.size; simp; omega) (fun k hk => by
    have hh : wr.ownsRow B T 1 v xs.length xs := ho
    exact (hh.lt k hk).1)
theorem below_trans {w w1 w2 : World} {B : Nat} (h1 : Below w.heap.size w w1) (h2 : Below B w1 w2) (hB : w.heap.size ≤ B) : Below w.heap.size w w2 := h1.trans (h2.mono hB)
theorem below_drewN {w w' : World} {B : Nat} (h : Below B w w') (m : Nat) : Below B w (w'.drewN m) := h.trans ⟨rfl, rfl, rfl, Nat.le_refl _, fun _ _ => rfl⟩
theorem Own.slice32 {w : World} {B T : Nat} {v : Value} {ds : List Nat} (h : Own w B T v (u32s ds)) : ∃ A c, v = .slice A ds.length c ∧ Row w A (u32s ds) ∧ ds.length ≤ c ∧ (A = none → c = 0) := by
  have := h.slice
  rwa [u32s_length] at this
theorem Own.slice8 {w : World} {B T : Nat} {v : Value} {ds : List Nat} (h : Own w B T v (u8s ds)) : ∃ A c, v = .slice A ds.length c ∧ Row w A (u8s ds) ∧ ds.length ≤ c ∧ (A = none → c = 0) := by
  have := h.slice
  rwa [u8s_length] at this
theorem Own.row32 {w : World} {B T n c : Nat} {A : Option Addr} {ds : List Nat} (h : Own w B T (.slice A n c) (u32s ds)) : Row w A (u32s ds) := by
  obtain ⟨A', c', e, hr, _⟩ := h.slice
  injection e with e1
  subst e1; exact hr
theorem Own.row8 {w : World} {B T n c : Nat} {A : Option Addr} {ds : List Nat} (h : Own w B T (.slice A n c) (u8s ds)) : Row w A (u8s ds) := by
  obtain ⟨A', c', e, hr, _⟩ := h.slice
  injection e with e1
  subst e1; exact hr
/-- A store into a block of another element type does not touch the row. -/
theorem Own.setOther {w : World} {B T T' : Nat} {v u0 : Value} {xs : List Value} (h : Own w B T v xs) {g : Nat} (hg : w.heap[g]? = some (.cells #[u0] T' (0, 0))) (hne : T ≠ T') (u : Value) : Own (w.setCell ⟨g, 0, none⟩ u) B T v xs := by
  have hh : w.ownsRow B T 1 v xs.length xs := h
  refine ownsRow_setCell_other hh ?_ u
  rcases hh.2 with ⟨rfl, _⟩ | ⟨g', cap, cur, rfl, _, hg', _⟩
  · simp [Value.ownBlock]
  · intro he
    have : g' = g := by simpa [Value.ownBlock] using he
    subst this
    rw [hg'] at hg
    injection hg with hg
    injection hg with _ ht
    exact hne ht
/-- A store into a row of the call's own. -/
theorem own_set32 {w : World} {B g n c : Nat} {ds : List Nat} (h : Own w B 83 (.slice (some ⟨g, 0, none⟩) n c) (u32s ds)) (k d : Nat) :
    Own (w.setCell ⟨g, k, none⟩ (.int .u32 (d : Int))) B 83 (.slice (some ⟨g, 0, none⟩) n c) (u32s (ds.set k d)) := by
  have hn := h.lt.1
  have hh : w.ownsRow B 83 1 (.slice (some ⟨g, 0, none⟩) n c) n (u32s ds) := by rw [hn]; rw [hn] at h; exact h
  have := (hh.stored k (.int .u32 (d : Int))).1
  rw [show (u32s ds).set k (.int .u32 (d : Int)) = u32s (ds.set k d) from by simp [u32s, List.map_set]] at this
  exact Own.mk_ this
theorem own_cell {w : World} {B T g n c : Nat} {xs : List Value} (h : Own w B T (.slice (some ⟨g, 0, none⟩) n c) xs) {k : Nat} (hk : k < xs.length) : w.cell? ⟨g, k, none⟩ = some xs[k] ∧ w.frozen? ⟨g, k, none⟩ = false := by
  have hn := h.lt.1
  have hh : w.ownsRow B T 1 (.slice (some ⟨g, 0, none⟩) n c) n xs := by rw [hn]; rw [hn] at h; exact h
  refine ⟨?_, hh.frozenAt k⟩
  rw [hh.cellAt k (by omega)]
  exact List.getElem?_eq_getElem hk
theorem own_zeros {w : World} {B n : Nat} {v : Value} (h : w.ownsRow B 83 1 v n (madeCells #[Value.int .u32 0] n).toList) : Own w B 83 v (u32s (List.replicate n 0)) := by
  rw [toList_madeCells_one, show List.replicate n (Value.int .u32 0) = u32s (List.replicate n 0) from by simp [u32s]] at h
  exact Own.mk_ h
theorem own_lit32 (w : World) {B : Nat} (d : Nat) (hB : B ≤ w.heap.size) : Own (w.alloc (.cells #[Value.int .u32 (d : Int)] 83)) B 83 (.slice (some ⟨w.heap.size, 0, none⟩) 1 1) (u32s [d]) :=
  Own.mk_ (World.ownsRow_lit w #[Value.int .u32 (d : Int)] 1 hB (by decide) rfl)
/-- Two cells of results, stored one behind the other. -/
theorem two_cells {w : World} {g1 g2 : Nat} {a1 a2 u1 u2 : Value} {t1 t2 : TypeId} (h1 : w.heap[g1]? = some (.cells #[a1] t1 (0, 0))) (h2 : w.heap[g2]? = some (.cells #[a2] t2 (0, 0))) (hne : g1 ≠ g2) :
    (w.setCell ⟨g1, 0, none⟩ u1).heap[g2]? = some (.cells #[a2] t2 (0, 0)) ∧ ((w.setCell ⟨g1, 0, none⟩ u1).setCell ⟨g2, 0, none⟩ u2).heap[g1]? = some (.cells #[u1] t1 (0, 0)) ∧ ((w.setCell ⟨g1, 0, none⟩ u1).setCell ⟨g2, 0, none⟩ u2).heap[g2]? = some (.cells #[u2] t2 (0, 0)) := by
  have e1 : (w.setCell ⟨g1, 0, none⟩ u1).heap[g2]? = some (.cells #[a2] t2 (0, 0)) := (Below.heap_setCell _ _ _ _ (fun e => hne e.symm)).trans h2
  exact ⟨e1, (Below.heap_setCell _ _ _ _ hne).trans (one_setCell h1), one_setCell e1⟩
theorem new_at {w : World} {o : Obj} {k : Nat} (h : k = w.heap.size) : (w.alloc o).heap[k]? = some o := by subst h; exact heap_alloc_new w o
/-- Two boxes and two cells for the results. -/
theorem four_new {w W : World} {o1 o2 o3 o4 : Obj} (h : W = (((w.alloc o1).alloc o2).alloc o3).alloc o4) :
    Below w.heap.size w W ∧ W.heap.size = w.heap.size + 4 ∧ W.heap[w.heap.size]? = some o1 ∧ W.heap[w.heap.size + 1]? = some o2 ∧ W.heap[w.heap.size + 1 + 1]? = some o3 ∧ W.heap[w.heap.size + 1 + 1 + 1]? = some o4 := by
  subst h
  refine ⟨below_first (below_first (below_first ((Below.refl _ _).alloc (Nat.le_refl _) _))), by simp, ?_, ?_, ?_, ?_⟩
  · rw [Below.heap_alloc _ _ _ (by simp <;> omega), Below.heap_alloc _ _ _ (by simp <;> omega), Below.heap_alloc _ _ _ (by simp)]; exact new_at rfl
  · rw [Below.heap_alloc _ _ _ (by simp <;> omega), Below.heap_alloc _ _ _ (by simp)]; exact new_at (by simp)
  · rw [Below.heap_alloc _ _ _ (by simp)]; exact new_at (by simp)
  · exact new_at (by simp)
/-- The two rules by which the walk reads an old cell behind a call. -/
theorem bcell {W w1 : World} (hb : Below W.heap.size W w1) : (∀ b o, b < W.heap.size → w1.cell? ⟨b, o, none⟩ = W.cell? ⟨b, o, none⟩) ∧ (∀ b o, b < W.heap.size → w1.frozen? ⟨b, o, none⟩ = W.frozen? ⟨b, o, none⟩) :=
  ⟨fun b o h => hb.cell (p := ⟨b, o, none⟩) h, fun b o h => hb.frozen (p := ⟨b, o, none⟩) h⟩
theorem ret_of {k : IntKind} {a b : Int} (h : a = b) : Ending.returned (.int k a) = .returned (.int k b) := by rw [h]

end Go.Proofs.YtbccknhinmgibaaDoor

/- Terms that hang on some blocks alone; a row of terms of the call's own. No program's function, no condition. -/
import Derived.Test.YtdkgpnkcdnfniaaDoorTOfA
set_option linter.unusedVariables false
set_option linter.unusedSimpArgs false
namespace Go.Proofs.YtdkgpnkcdnfniaaDoor
open Go.RowKit

/-- v stands for t, and hangs on blocks of D alone. -/
def DepTm (D : Nat → Prop) (W : World) (v : Value) (t : Tm) : Prop := ∀ W' : World, (∀ a u, W.cell? a = some u → D a.block → W'.cell? a = some u) → TmV W' v t
def DepTms (D : Nat → Prop) (W : World) (K : Option Addr) (l : List Tm) : Prop := ∀ W' : World, (∀ a u, W.cell? a = some u → D a.block → W'.cell? a = some u) → TmsAt W' K l
theorem DepTm.to {D D' : Nat → Prop} {W W' : World} {v : Value} {t : Tm} (h : DepTm D W v t) (hk : ∀ a u, W.cell? a = some u → D a.block → W'.cell? a = some u ∧ D' a.block) : DepTm D' W' v t := fun W2 h2 => h W2 fun a u hu hd => h2 a u (hk a u hu hd).1 (hk a u hu hd).2
theorem DepTms.to {D D' : Nat → Prop} {W W' : World} {K : Option Addr} {l : List Tm} (h : DepTms D W K l) (hk : ∀ a u, W.cell? a = some u → D a.block → W'.cell? a = some u ∧ D' a.block) : DepTms D' W' K l := fun W2 h2 => h W2 fun a u hu hd => h2 a u (hk a u hu hd).1 (hk a u hu hd).2
theorem DepTm.tm {D : Nat → Prop} {W : World} {v : Value} {t : Tm} (h : DepTm D W v t) : TmV W v t := h W fun _ _ h _ => h
/-- A row of terms of the call's own, in blocks from B on: each hangs on blocks from B on, and not on the row's own. -/
structure CT (B : Nat) (l : List Tm) (wr : World) (ov : Value) (k : Nat) (E : List Value) : Prop where
  row : wr.ownsRow B 28 5 ov k E
  dep : ∀ j t, l[j]? = some t → j < k → ∃ u0 u1 u2 u3 u4, E[j * 5]? = some u0 ∧ E[j * 5 + 1]? = some u1 ∧ E[j * 5 + 2]? = some u2 ∧ E[j * 5 + 3]? = some u3 ∧ E[j * 5 + 4]? = some u4 ∧ DepTm (fun m => B ≤ m ∧ ov.ownBlock ≠ some m) wr (.agg #[u0, u1, u2, u3, u4]) t
theorem CT.end {B : Nat} {l : List Tm} {wr : World} {K : Option Addr} {c : Nat} {E : List Value} (h : CT B l wr (.slice K l.length c) l.length E) : DepTms (fun m => B ≤ m) wr K l := fun W' hW j t hj => by
  have hjl : j < l.length := (List.getElem?_eq_some_iff.1 hj).1
  obtain ⟨u0, u1, u2, u3, u4, e0, e1, e2, e3, e4, hd⟩ := h.dep j t hj hjl
  obtain ⟨g, cap, e, hB, _⟩ := h.row.form (by omega)
  injection e with eK _ ec
  subst eK; subst ec
  have hc : ∀ i u, i < 5 → E[j * 5 + i]? = some u → W'.cell? ⟨g, j * 5 + i, none⟩ = some u := fun i u hi hu => hW _ _ ((World.ownsRow.cellAt h.row (j * 5 + i) (by omega)).trans hu) hB
  refine ⟨⟨g, 0, none⟩, u0, u1, u2, u3, u4, rfl, ?_, hd W' fun a u hu hD => hW a u hu hD.1⟩
  rw [add_eq, add_eq, add_eq, add_eq, add_eq, Nat.zero_add]
  exact ⟨hc 0 u0 (by decide) e0, hc 1 u1 (by decide) e1, hc 2 u2 (by decide) e2, hc 3 u3 (by decide) e3, hc 4 u4 (by decide) e4⟩
/-- One term more. -/
theorem CT.more {B : Nat} {l : List Tm} {wr w1 w2 w3 : World} {ov ov' : Value} {k : Nat} {E : List Value} {t : Tm} {v0 v1 v2 v3 v4 : Value} (h : CT B l wr ov k E) (ht : l[k]? = some t) (hB : B ≤ wr.heap.size) (hd : DepTm (fun m => wr.heap.size ≤ m) w1 (.agg #[v0, v1, v2, v3, v4]) t) (hb1 : Below wr.heap.size wr w1) (hb2 : Below w1.heap.size w1 w2) (hr : w3.ownsRow B 28 5 ov' (k + 1) (E ++ [v0, v1, v2, v3, v4])) (hg : w2.grownBy w3 ov.ownBlock) (hw : ov'.ownBlock = ov.ownBlock ∨ ov'.ownBlock = some w2.heap.size) : CT B l w3 ov' (k + 1) (E ++ [v0, v1, v2, v3, v4]) := by
  have hEl : E.length = k * 5 := h.row.1
  have hown : ∀ m, ov.ownBlock = some m → m < wr.heap.size := fun m hm => (World.ownsRow.lt h.row m hm).2
  have s1 := hb1.size
  have s2 := hb2.size
  have keep : ∀ a u, w1.cell? a = some u → ov.ownBlock ≠ some a.block → w3.cell? a = some u := fun a u hu hne => (cell_congr ((hg.block _ (by have := cell_lt hu; omega) (fun e => hne e.symm)).trans (hb2.block _ (cell_lt hu)))).trans hu
  have newb : ∀ m, m < w1.heap.size → ov.ownBlock ≠ some m → ov'.ownBlock ≠ some m := fun m hm hne e => by
    rcases hw with hw | hw
    · rw [hw] at e; exact hne e
    · rw [hw] at e; injection e with e; omega
  refine ⟨hr, fun j t' hj hjk => ?_⟩
  by_cases hjk2 : j < k
  · obtain ⟨u0, u1, u2, u3, u4, e0, e1, e2, e3, e4, hdj⟩ := h.dep j t' hj hjk2
    refine ⟨u0, u1, u2, u3, u4, ?_, ?_, ?_, ?_, ?_, hdj.to fun a u hu hD => ?_⟩
    · rw [List.getElem?_append_left (by omega)]; exact e0
    · rw [List.getElem?_append_left (by omega)]; exact e1
    · rw [List.getElem?_append_left (by omega)]; exact e2
    · rw [List.getElem?_append_left (by omega)]; exact e3
    · rw [List.getElem?_append_left (by omega)]; exact e4
    · exact ⟨keep a u ((hb1.cell (cell_lt hu)).trans hu) hD.2, hD.1, newb _ (by have := cell_lt hu; omega) hD.2⟩
  · have : j = k := by omega
    subst this
    rw [ht] at hj
    obtain rfl := Option.some.inj hj
    refine ⟨v0, v1, v2, v3, v4, ?_, ?_, ?_, ?_, ?_, hd.to fun a u hu hD => ?_⟩
    · rw [List.getElem?_append_right (by omega), hEl, Nat.sub_self]; rfl
    · rw [List.getElem?_append_right (by omega), hEl, show j * 5 + 1 - j * 5 = 1 by omega]; rfl
    · rw [List.getElem?_append_right (by omega), hEl, show j * 5 + 2 - j * 5 = 2 by omega]; rfl
    · rw [List.getElem?_append_right (by omega), hEl, show j * 5 + 3 - j * 5 = 3 by omega]; rfl
    · rw [List.getElem?_append_right (by omega), hEl, show j * 5 + 4 - j * 5 = 4 by omega]; rfl
    · have hne : ov.ownBlock ≠ some a.block := fun e => by have := hown _ e; omega
      exact ⟨keep a u hu hne, by omega, newb _ (cell_lt hu) hne⟩
theorem add_pos (p : Addr) {j : Nat} (h : 0 < j) : p.add j = { block := p.block, off := p.off + j } := by
  unfold Addr.add; rw [if_neg (by omega)]
theorem five_news {w : World} {o : Obj} {v0 v1 v2 v3 v4 : Value} {T : TypeId} : ∀ j z, [v0, v1, v2, v3, v4][j]? = some z → ((w.alloc o).alloc (.cells #[v0, v1, v2, v3, v4] T)).cell? ((⟨w.heap.size + 1, 0, none⟩ : Addr).add j) = some z := by
  intro j z hj
  have s1 : (w.alloc o).heap.size = w.heap.size + 1 := World.size_alloc ..
  have h1 : ((w.alloc o).alloc (.cells #[v0, v1, v2, v3, v4] T)).heap[w.heap.size + 1]? = some (.cells #[v0, v1, v2, v3, v4] T (0, 0)) := by rw [← s1]; exact heap_alloc_new _ _
  rw [add_eq, Nat.zero_add, cell_of_row _ _ j _ _ _ h1]
  simpa using hj
theorem below_set {M g o : Nat} (h : M ≤ g) (w : World) (v : Value) : Below M w (w.setCell ⟨g, o, none⟩ v) := ⟨rfl, rfl, rfl, by simp, fun k hk => Below.heap_setCell _ _ _ _ (show k ≠ g by omega)⟩
theorem dep_of {N : Nat} {wf : World} {t : Tm} {A' K' : Option Addr} {c' cK' : Nat} (hg : Good t) (hrow : ∀ j v, (u32s t.ds)[j]? = some v → ∃ a, A' = some a ∧ wf.cell? (a.add j) = some v ∧ N ≤ a.block) (hdep : DepTms (fun m => N ≤ m) wf K' t.kids) :
    DepTm (fun k => N ≤ k) wf (.agg #[.int .u8 t.kind, .string t.name, .bool t.neg, .slice A' t.ds.length c', .slice K' t.kids.length cK']) t := by
  intro W' hW
  obtain ⟨kind, name, neg, ds, kids⟩ := t
  refine TmV.of ?_ hg.name (fun j v hj => ?_) hg.ds hg.dl hg.kl (hdep W' hW)
  · have e1 : IntKind.u8.min = 0 := rfl
    have e2 : IntKind.u8.max = 255 := rfl
    have := hg.kind
    simp only [Tm.kind] at this ⊢
    simp only [Lit.wf, Bool.and_eq_true, decide_eq_true_eq, e1, e2]
    omega
  · obtain ⟨a, ha, hc, hb⟩ := hrow j v hj
    exact ⟨a, ha, hW _ v hc (by rw [add_block]; exact hb)⟩
end Go.Proofs.YtdkgpnkcdnfniaaDoor

/- Terms put for names, as plain terms; what is still to be made of a term, part by part. Terms that hang on some cells alone; what holds while terms are put for names. Terms put for names: behind a part that is kept as it is. Terms put for names: behind a name for which a term is put. -/
import Derived.Test.YtlikpnaffpngiaaGreatDoorTEachW
set_option linter.unusedVariables false
set_option linter.unusedSimpArgs false
namespace Go.Proofs.YtlikpnaffpngiaaGreatDoor
open Go.RowKit

mutual
/-- The terms that s tells put for the names of a term. -/
def subT (s : ByteArray → Option Tm) : Tm → Tm
  | .mk k n neg ds l => match (if k = 1 then s n else none) with
    | some t => t
    | none => .mk k n neg ds (subL s l)
def subL (s : ByteArray → Option Tm) : List Tm → List Tm
  | [] => []
  | t :: l => subT s t :: subL s l
end
/-- What is put for a term itself. -/
def hit (s : ByteArray → Option Tm) (t : Tm) : Option Tm := if t.kind = 1 then s t.name else none
theorem subT_eq (s : ByteArray → Option Tm) (t : Tm) : subT s t = match hit s t with
    | some u => u
    | none => .mk t.kind t.name t.neg t.ds (subL s t.kids) := by
  cases t; rw [subT]; rfl
theorem subT_hit {s : ByteArray → Option Tm} {t u : Tm} (h : hit s t = some u) : subT s t = u := by rw [subT_eq, h]
theorem subT_none {s : ByteArray → Option Tm} {t : Tm} (h : hit s t = none) : subT s t = .mk t.kind t.name t.neg t.ds (subL s t.kids) := by rw [subT_eq, h]
theorem subL_len (s : ByteArray → Option Tm) : ∀ l : List Tm, (subL s l).length = l.length
  | [] => by rw [subL]
  | t :: l => by rw [subL, List.length_cons, List.length_cons, subL_len s l]
theorem subL_map (s : ByteArray → Option Tm) : ∀ l : List Tm, subL s l = l.map (subT s)
  | [] => by rw [subL]; rfl
  | t :: l => by rw [subL, subL_map s l]; rfl
/-- A part that is to be made: where, out of what, and whether terms are put for names in it. -/
structure Pd where
  at_ : Addr
  src : Tm
  put : Bool
def Pd.tgt (s : ByteArray → Option Tm) (q : Pd) : Tm := if q.put then subT s q.src else q.src
def Pd.inC (p : List Pd) (a : Addr) : Prop := ∃ q ∈ p, a.block = q.at_.block ∧ q.at_.off ≤ a.off ∧ a.off < q.at_.off + 5
def Pd.Apart (x y : Pd) : Prop := x.at_.block ≠ y.at_.block ∨ x.at_.off + 5 ≤ y.at_.off ∨ y.at_.off + 5 ≤ x.at_.off
def kidsP (A : Addr) (put : Bool) : Nat → List Tm → List Pd
  | _, [] => []
  | i, t :: l => ⟨A.add (i * 5), t, put⟩ :: kidsP A put (i + 1) l
def kidsPO (K : Option Addr) (put : Bool) (l : List Tm) : List Pd := match K with
  | none => []
  | some A => kidsP A put 0 l
theorem kidsP_len (A : Addr) (put : Bool) : ∀ (i : Nat) (l : List Tm), (kidsP A put i l).length = l.length
  | _, [] => rfl
  | i, t :: l => by show _ + 1 = _ + 1; rw [kidsP_len A put (i + 1) l]
theorem kidsP_mem {b : Nat} {put : Bool} : ∀ {l : List Tm} {i : Nat} {q : Pd}, q ∈ kidsP ⟨b, 0, none⟩ put i l → ∃ j, i ≤ j ∧ j < i + l.length ∧ q = ⟨⟨b, j * 5, none⟩, q.src, put⟩ ∧ l[j - i]? = some q.src
  | [], _, _, h => nomatch h
  | t :: l, i, q, h => by
    rcases List.mem_cons.1 h with rfl | h
    · exact ⟨i, Nat.le_refl _, by simp, by rw [add_eq, Nat.zero_add], by simp⟩
    · obtain ⟨j, h1, h2, h3, h4⟩ := kidsP_mem h
      refine ⟨j, by omega, by simp; omega, h3, ?_⟩
      rw [show j - i = (j - (i + 1)) + 1 by omega]
      exact h4
theorem kidsP_get {b : Nat} {put : Bool} : ∀ {l : List Tm} {i j : Nat} {t : Tm}, l[j]? = some t → (⟨⟨b, (i + j) * 5, none⟩, t, put⟩ : Pd) ∈ kidsP ⟨b, 0, none⟩ put i l
  | [], _, _, _, h => by simp at h
  | x :: l, i, 0, t, h => by
    simp at h
    subst h
    refine List.mem_cons.2 (.inl ?_)
    rw [add_eq, Nat.zero_add, Nat.add_zero]
  | x :: l, i, j + 1, t, h => by
    refine List.mem_cons_of_mem _ ?_
    have := kidsP_get (b := b) (put := put) (l := l) (i := i + 1) (j := j) (t := t) (by simpa using h)
    rw [show i + (j + 1) = i + 1 + j by omega]
    exact this
theorem kidsP_apart {b : Nat} {put : Bool} : ∀ (l : List Tm) (i : Nat), (kidsP ⟨b, 0, none⟩ put i l).Pairwise Pd.Apart
  | [], _ => List.Pairwise.nil
  | t :: l, i => by
    refine List.Pairwise.cons (fun q hq => ?_) (kidsP_apart l (i + 1))
    obtain ⟨j, h1, _, h3, _⟩ := kidsP_mem hq
    right; left
    rw [h3, add_eq]
    show 0 + i * 5 + 5 ≤ j * 5
    omega
/-- The turns of the parts that are to be made: those that are put for (df) and those that are copied (cf); the first one's last. -/
def turnsP (df cf : Value) : List Pd → List Value
  | [] => []
  | q :: l => turnsP df cf l ++ [.pointer (some q.at_), if q.put then df else cf]
theorem turnsP_append (df cf : Value) : ∀ (a b : List Pd), turnsP df cf (a ++ b) = turnsP df cf b ++ turnsP df cf a
  | [], b => by rw [List.nil_append]; exact (List.append_nil _).symm
  | x :: a, b => by
    show turnsP df cf (a ++ b) ++ _ = _
    rw [turnsP_append df cf a b, List.append_assoc]; rfl
theorem kidsP_turns (df cf : Value) (A : Addr) (put : Bool) : ∀ (l : List Tm) (i : Nat), rowTurns (if put then df else cf) (some A) (i + l.length) = turnsP df cf (kidsP A put i l) ++ rowTurns (if put then df else cf) (some A) i
  | [], i => rfl
  | t :: l, i => by
    rw [show i + (t :: l).length = (i + 1) + l.length by simp; omega, kidsP_turns df cf A put l (i + 1)]
    show _ ++ ([_, _] ++ _) = (_ ++ [_, _]) ++ _
    rw [List.append_assoc]; rfl
/-- How many parts are still to be made, the parts that are to come themselves not counted; how many turns there are at most. -/
def owed (s : ByteArray → Option Tm) : List Pd → Nat
  | [] => 0
  | q :: l => (preL (q.tgt s).kids).length + owed s l
def turnsLeft (s : ByteArray → Option Tm) : List Pd → Nat
  | [] => 0
  | q :: l => (if q.put then 2 else 1) * (preT (q.tgt s)).length + turnsLeft s l
theorem owed_append (s : ByteArray → Option Tm) : ∀ (a b : List Pd), owed s (a ++ b) = owed s a + owed s b
  | [], b => by rw [List.nil_append, owed, Nat.zero_add]
  | x :: a, b => by rw [List.cons_append, owed, owed, owed_append s a b]; omega
theorem turnsLeft_append (s : ByteArray → Option Tm) : ∀ (a b : List Pd), turnsLeft s (a ++ b) = turnsLeft s a + turnsLeft s b
  | [], b => by rw [List.nil_append, turnsLeft, Nat.zero_add]
  | x :: a, b => by rw [List.cons_append, turnsLeft, turnsLeft, turnsLeft_append s a b]; omega
theorem preT_len (t : Tm) : (preT t).length = (preL t.kids).length + 1 := by rw [preT_eq, List.length_cons]
def tgtOf (s : ByteArray → Option Tm) (put : Bool) (t : Tm) : Tm := if put then subT s t else t
theorem owed_kids (s : ByteArray → Option Tm) (A : Addr) (put : Bool) : ∀ (l : List Tm) (i : Nat), owed s (kidsP A put i l) + l.length = (preL (l.map (tgtOf s put))).length
  | [], i => by rw [List.map_nil, preL_nil]; rfl
  | t :: l, i => by
    have ih := owed_kids s A put l (i + 1)
    rw [kidsP, owed, List.map_cons, preL_cons]
    simp only [List.length_cons, List.length_append]
    show (preL (tgtOf s put t).kids).length + _ + _ = _
    omega
theorem left_kids (s : ByteArray → Option Tm) (A : Addr) (put : Bool) : ∀ (l : List Tm) (i : Nat), turnsLeft s (kidsP A put i l) = (if put then 2 else 1) * (preL (l.map (tgtOf s put))).length
  | [], i => by rw [List.map_nil, preL_nil]; rfl
  | t :: l, i => by
    have ih := left_kids s A put l (i + 1)
    rw [kidsP, turnsLeft, List.map_cons, preL_cons, ih]
    simp only [List.length_cons, List.length_append]
    show _ * (preT (tgtOf s put t)).length + _ = _
    rw [preT_len]
    split <;> omega
/-- What the kids come to be, of a part that is no name that is put for. -/
theorem tgt_kids {s : ByteArray → Option Tm} {q : Pd} (h : q.put = true → hit s q.src = none) : q.tgt s = .mk q.src.kind q.src.name q.src.neg q.src.ds (q.src.kids.map (tgtOf s q.put)) := by
  unfold Pd.tgt
  split
  · next hp =>
    rw [subT_none (h hp), subL_map, hp]; rfl
  · next hp =>
    have e : tgtOf s q.put = id := by funext t; unfold tgtOf; rw [if_neg hp]; rfl
    rw [e, List.map_id]
    cases q.src; rfl
end Go.Proofs.YtlikpnaffpngiaaGreatDoor

namespace Go.Proofs.YtlikpnaffpngiaaGreatDoor
open Go.RowKit

theorem add_add (a : Addr) (m n : Nat) : (a.add m).add n = a.add (m + n) := by
  unfold Addr.add
  by_cases hm : m = 0
  · subst hm; simp
  · by_cases hn : n = 0
    · subst hn; simp [hm]
    · simp [hm, hn, Nat.add_assoc]
def RowC (c : Addr → Option Value) (A : Option Addr) (xs : List Value) : Prop := ∀ j v, xs[j]? = some v → ∃ ad, A = some ad ∧ c (ad.add j) = some v
/-- v is the term t, by the cells that c tells. -/
inductive TmC (c : Addr → Option Value) : Value → Tm → Prop where
  | mk (kind : Int) (name : ByteArray) (neg : Bool) (ds : List Nat) (kids : List Tm) (A K : Option Addr) (p p' : Nat) (u : Nat → Nat → Value)
      (hkd : (Lit.int .u8 kind).wf = true) (hnm : name.size ≤ 140737488355328) (hr : RowC c A (u32s ds)) (hs : small 4294967296 ds) (hdl : ds.length ≤ 140737488355328) (hkl : kids.length ≤ 140737488355328)
      (hc : ∀ j, j < kids.length → ∃ ad, K = some ad ∧ c (ad.add (j * 5)) = some (u j 0) ∧ c ((ad.add (j * 5)).add 1) = some (u j 1) ∧ c ((ad.add (j * 5)).add 2) = some (u j 2) ∧ c ((ad.add (j * 5)).add 3) = some (u j 3) ∧ c ((ad.add (j * 5)).add 4) = some (u j 4))
      (hk : ∀ j kid, kids[j]? = some kid → TmC c (.agg #[u j 0, u j 1, u j 2, u j 3, u j 4]) kid) :
      TmC c (.agg #[.int .u8 kind, .string name, .bool neg, .slice A ds.length p, .slice K kids.length p']) (.mk kind name neg ds kids)
theorem TmV.toC {W : World} {c : Addr → Option Value} {v : Value} {t : Tm} (h : TmV W v t) (hk : ∀ a u, W.cell? a = some u → c a = some u) : TmC c v t := by
  induction h with
  | mk kind name neg ds kids A K p p' u hkd hnm hr hs hdl hkl hc hk2 ih =>
    exact .mk kind name neg ds kids A K p p' u hkd hnm (fun j v hv => by
      obtain ⟨ad, ha, hc⟩ := hr j v hv
      exact ⟨ad, ha, hk _ _ hc⟩) hs hdl hkl (fun j hj => by
      obtain ⟨ad, e, h0, h1, h2, h3, h4⟩ := hc j hj
      exact ⟨ad, e, hk _ _ h0, hk _ _ h1, hk _ _ h2, hk _ _ h3, hk _ _ h4⟩) ih
theorem TmC.toV {W : World} {v : Value} {t : Tm} (h : TmC (fun a => W.cell? a) v t) : TmV W v t := by
  induction h with
  | mk kind name neg ds kids A K p p' u hkd hnm hr hs hdl hkl hc hk2 ih =>
    exact .mk kind name neg ds kids A K p p' u hkd hnm hr hs hdl hkl hc ih
theorem TmC.mono {c c' : Addr → Option Value} {v : Value} {t : Tm} (h : TmC c v t) (hk : ∀ a u, c a = some u → c' a = some u) : TmC c' v t := by
  induction h with
  | mk kind name neg ds kids A K p p' u hkd hnm hr hs hdl hkl hc hk2 ih =>
    exact .mk kind name neg ds kids A K p p' u hkd hnm (fun j v hv => by
      obtain ⟨ad, ha, hc⟩ := hr j v hv
      exact ⟨ad, ha, hk _ _ hc⟩) hs hdl hkl (fun j hj => by
      obtain ⟨ad, e, h0, h1, h2, h3, h4⟩ := hc j hj
      exact ⟨ad, e, hk _ _ h0, hk _ _ h1, hk _ _ h2, hk _ _ h3, hk _ _ h4⟩) ih
/-- A term at an address, by the cells that c tells; terms one behind the other. -/
def PtrC (c : Addr → Option Value) (p : Addr) (t : Tm) : Prop := ∃ u0 u1 u2 u3 u4, (c p = some u0 ∧ c (p.add 1) = some u1 ∧ c (p.add 2) = some u2 ∧ c (p.add 3) = some u3 ∧ c (p.add 4) = some u4) ∧ TmC c (.agg #[u0, u1, u2, u3, u4]) t
def TmsC (c : Addr → Option Value) (K : Option Addr) (l : List Tm) : Prop := ∀ j t, l[j]? = some t → ∃ ad, K = some ad ∧ PtrC c (ad.add (j * 5)) t
theorem PtrC.mono {c c' : Addr → Option Value} {p : Addr} {t : Tm} (h : PtrC c p t) (hk : ∀ a u, c a = some u → c' a = some u) : PtrC c' p t := by
  obtain ⟨u0, u1, u2, u3, u4, ⟨h0, h1, h2, h3, h4⟩, ht⟩ := h
  exact ⟨u0, u1, u2, u3, u4, ⟨hk _ _ h0, hk _ _ h1, hk _ _ h2, hk _ _ h3, hk _ _ h4⟩, ht.mono hk⟩
theorem PtrC.toV {W : World} {p : Addr} {t : Tm} (h : PtrC (fun a => W.cell? a) p t) : PtrTm W p t := by
  obtain ⟨u0, u1, u2, u3, u4, hc, ht⟩ := h
  exact ⟨u0, u1, u2, u3, u4, hc, ht.toV⟩
theorem TmC.parts {c : Addr → Option Value} {v : Value} {t : Tm} (h : TmC c v t) : ∃ A K p p', v = .agg #[.int .u8 t.kind, .string t.name, .bool t.neg, .slice A t.ds.length p, .slice K t.kids.length p'] ∧ (Lit.int .u8 t.kind).wf = true ∧ t.name.size ≤ 140737488355328 ∧ RowC c A (u32s t.ds) ∧ small 4294967296 t.ds ∧ t.ds.length ≤ 140737488355328 ∧ t.kids.length ≤ 140737488355328 ∧ TmsC c K t.kids := by
  cases h with
  | mk kind name neg ds kids A K p p' u hkd hnm hr hs hdl hkl hc hk =>
    refine ⟨A, K, p, p', rfl, hkd, hnm, hr, hs, hdl, hkl, fun j t hj => ?_⟩
    have hjl : j < kids.length := (List.getElem?_eq_some_iff.1 hj).1
    obtain ⟨ad, e, h0⟩ := hc j hjl
    exact ⟨ad, e, _, _, _, _, _, h0, hk j t hj⟩
theorem TmC.of {c : Addr → Option Value} {kind : Int} {name : ByteArray} {neg : Bool} {ds : List Nat} {kids : List Tm} {A K : Option Addr} {p p' : Nat} (hkd : (Lit.int .u8 kind).wf = true) (hnm : name.size ≤ 140737488355328) (hr : RowC c A (u32s ds)) (hs : small 4294967296 ds) (hdl : ds.length ≤ 140737488355328) (hkl : kids.length ≤ 140737488355328) (h : TmsC c K kids) :
    TmC c (.agg #[.int .u8 kind, .string name, .bool neg, .slice A ds.length p, .slice K kids.length p']) (.mk kind name neg ds kids) := by
  have hex : ∀ j, ∃ u : Nat → Value, ∀ t, kids[j]? = some t → (∃ ad, K = some ad ∧ c (ad.add (j * 5)) = some (u 0) ∧ c ((ad.add (j * 5)).add 1) = some (u 1) ∧ c ((ad.add (j * 5)).add 2) = some (u 2) ∧ c ((ad.add (j * 5)).add 3) = some (u 3) ∧ c ((ad.add (j * 5)).add 4) = some (u 4)) ∧ TmC c (.agg #[u 0, u 1, u 2, u 3, u 4]) t := fun j => by
    cases hj : kids[j]? with
    | none => exact ⟨fun _ => undef, fun t ht => by cases ht⟩
    | some t =>
      obtain ⟨ad, e, u0, u1, u2, u3, u4, hc, ht⟩ := h j t hj
      refine ⟨fun i => match i with | 0 => u0 | 1 => u1 | 2 => u2 | 3 => u3 | _ => u4, fun t' ht' => ?_⟩
      obtain rfl := Option.some.inj ht'
      exact ⟨⟨ad, e, hc⟩, ht⟩
  obtain ⟨u, hu⟩ := Classical.axiomOfChoice hex
  exact .mk kind name neg ds kids A K p p' u hkd hnm hr hs hdl hkl (fun j hj => (hu j _ (List.getElem?_eq_getElem hj)).1) fun j t hj => (hu j t hj).2
/-- The cells of F alone. -/
noncomputable def cutC (F : Addr → Prop) (W : World) : Addr → Option Value := fun a => open Classical in if F a then W.cell? a else none
theorem cutC_some {F : Addr → Prop} {W : World} {a : Addr} {u : Value} : cutC F W a = some u ↔ F a ∧ W.cell? a = some u := by
  unfold cutC
  by_cases h : F a
  · simp [h]
  · simp [h]
/-- The cells that stay: old ones, and made ones that are not to come any more. -/
def FixC (M : Nat) (X : Nat → Prop) (p : List Pd) (a : Addr) : Prop := a.block < M ∨ (X a.block ∧ ¬ Pd.inC p a)
/-- What holds while terms are put for names: p are to come, X are the blocks of what is made, root is where T0 comes to be, fb the block of those that came in first. -/
structure PutS (M fb : Nat) (s : ByteArray → Option Tm) (ts : List Tm) (root : Addr) (T0 : Tm) (p : List Pd) (X : Nat → Prop) (parts : Nat) (W : World) : Prop where
  low : ∀ k, X k → M ≤ k ∧ k < W.heap.size
  pend : ∀ q ∈ p, X q.at_.block ∧ ∃ b o cs u0 u1 u2 u3 u4, q.at_ = ⟨b, o, none⟩ ∧ W.heap[b]? = some (.cells cs 28 (0, 0)) ∧ o + 5 ≤ cs.size ∧ (cs[o]? = some u0 ∧ cs[o + 1]? = some u1 ∧ cs[o + 2]? = some u2 ∧ cs[o + 3]? = some u3 ∧ cs[o + 4]? = some u4) ∧ TmC (cutC (FixC M X p) W) (.agg #[u0, u1, u2, u3, u4]) q.src
  apart : p.Pairwise Pd.Apart
  modes : p.Pairwise fun x y => x.put = true → y.put = true
  build : ∀ c : Addr → Option Value, (∀ a v, W.cell? a = some v → X a.block → ¬ Pd.inC p a → c a = some v) → (∀ q ∈ p, PtrC c q.at_ (q.tgt s)) → PtrC c root T0
  sum : parts + owed s p = (preT T0).length
  first : ∀ i t, ts[i]? = some t → ∃ o, W.cell? ⟨fb, i, none⟩ = some (.pointer o) ∧ ∀ a, o = some a → X a.block ∧ (∃ b j, a = ⟨b, j, none⟩) ∧ (∀ q ∈ p, q.put = true → Pd.Apart ⟨a, t, true⟩ q) ∧ ∀ c : Addr → Option Value, (∀ a v, W.cell? a = some v → X a.block → ¬ Pd.inC p a → c a = some v) → (∀ q ∈ p, q.put = false → PtrC c q.at_ q.src) → PtrC c a t
  size : M ≤ W.heap.size
theorem PutS.stay {M fb : Nat} {s : ByteArray → Option Tm} {ts : List Tm} {root : Addr} {T0 : Tm} {p : List Pd} {X : Nat → Prop} {parts : Nat} {W W' : World} (h : PutS M fb s ts root T0 p X parts W) (hf : fb < W.heap.size) (hs : W.heap.size ≤ W'.heap.size) (hk : ∀ k, k < W.heap.size → k < M ∨ X k ∨ k = fb → W'.heap[k]? = W.heap[k]?) : PutS M fb s ts root T0 p X parts W' := by
  have hc : ∀ a v, W.cell? a = some v → a.block < M ∨ X a.block ∨ a.block = fb → W'.cell? a = some v := fun a v hv hx => (cell_congr (hk _ (cell_lt hv) hx)).trans hv
  refine ⟨fun k hx => ⟨(h.low k hx).1, Nat.lt_of_lt_of_le (h.low k hx).2 hs⟩, fun q hq => ?_, h.apart, h.modes, fun c h1 h2 => h.build c (fun a v hv hx hi => h1 a v (hc a v hv (.inr (.inl hx))) hx hi) h2, h.sum, fun i t ht => ?_, Nat.le_trans h.size hs⟩
  · obtain ⟨h1, b, o, cs, u0, u1, u2, u3, u4, e, h2, h3, h4, h5⟩ := h.pend q hq
    have hx : X b := by have := h1; rw [e] at this; exact this
    refine ⟨h1, b, o, cs, u0, u1, u2, u3, u4, e, (hk b (h.low b hx).2 (.inr (.inl hx))).trans h2, h3, h4, h5.mono fun a u hu => ?_⟩
    obtain ⟨hF, hu⟩ := cutC_some.1 hu
    refine cutC_some.2 ⟨hF, hc a u hu ?_⟩
    rcases hF with hF | hF
    · exact .inl hF
    · exact .inr (.inl hF.1)
  · obtain ⟨o, h1, h2⟩ := h.first i t ht
    refine ⟨o, hc _ _ h1 (.inr (.inr rfl)), fun a ha => ?_⟩
    obtain ⟨h3, h4, h5, h6⟩ := h2 a ha
    exact ⟨h3, h4, h5, fun c h7 h8 => h6 c (fun a v hv hx hi => h7 a v (hc a v hv (.inr (.inl hx))) hx hi) h8⟩
theorem own_row1 {W : World} {B c m : Nat} {A : Option Addr} {ds : List Nat} (hh : W.ownsRow B 91 1 (.slice A m c) m (u32s ds)) : m = ds.length ∧ Row W A (u32s ds) ∧ ∀ a, A = some a → B ≤ a.block := by
  have hl : (u32s ds).length = ds.length := by unfold u32s; simp
  have hm : m = ds.length := by have := hh.1; omega
  refine ⟨hm, ?_⟩
  rcases hh.2 with ⟨e, h0⟩ | ⟨g, cap, cur, e, hB, _⟩
  · have e1 : ds = [] := List.length_eq_zero_iff.1 (by omega)
    subst e1
    injection e with e _ _
    subst e
    exact ⟨Row.nil _ _, fun a e => by cases e⟩
  · injection e with e1 _ e3
    subst e1; subst e3
    refine ⟨fun j v hj => ⟨_, rfl, ?_⟩, fun a e => by injection e with e; rw [← e]; exact hB⟩
    have hjl : j < ds.length := by
      have := (List.getElem?_eq_some_iff.1 hj).1
      omega
    have := World.ownsRow.cellAt hh j (by omega)
    rw [hj] at this
    rw [add_eq, Nat.zero_add]
    exact this
/-- Behind the two appends of keep: the part has digits and kids of its own. -/
structure KeepMid (W : World) (gm pb o : Nat) (cs : Array Value) (n m : Nat) (ds : List Nat) (A : Option Addr) (cA : Nat) (K : Option Addr) (cK : Nat) (E : List Value) (w3 : World) : Prop where
  os : w3.os = W.os
  tape : w3.tape = W.tape
  output : w3.output = W.output
  size : W.heap.size ≤ w3.heap.size
  blk : w3.heap[pb]? = some (.cells ((cs.setIfInBounds (o + 3) (.slice A m cA)).setIfInBounds (o + 4) (.slice K n cK)) 28 (0, 0))
  other : ∀ k, k < W.heap.size → k ≠ pb → k ≠ gm → w3.heap[k]? = W.heap[k]?
  digs : w3.ownsRow W.heap.size 91 1 (.slice A m cA) m (u32s ds)
  kids : w3.ownsRow W.heap.size 28 5 (.slice K n cK) n E
  src : ∀ K0 c0, cs[o + 4]? = some (.slice K0 n c0) → Row W K0 E
  apart : ∀ a b, A = some a → K = some b → n ≠ 0 → m ≠ 0 → a.block ≠ b.block
end Go.Proofs.YtlikpnaffpngiaaGreatDoor

namespace Go.Proofs.YtlikpnaffpngiaaGreatDoor
open Go.RowKit

theorem set34 (cs : Array Value) (o : Nat) (x y : Value) (ho : o + 5 ≤ cs.size) : ((cs.setIfInBounds (o + 3) x).setIfInBounds (o + 4) y)[o + 3]? = some x ∧ ((cs.setIfInBounds (o + 3) x).setIfInBounds (o + 4) y)[o + 4]? = some y ∧ ∀ j, j ≠ o + 3 → j ≠ o + 4 → ((cs.setIfInBounds (o + 3) x).setIfInBounds (o + 4) y)[j]? = cs[j]? := by
  refine ⟨?_, ?_, fun j h3 h4 => ?_⟩
  · rw [Array.getElem?_setIfInBounds_ne (by omega), Array.getElem?_setIfInBounds_self_of_lt (by omega)]
  · rw [Array.getElem?_setIfInBounds_self_of_lt (by simp; omega)]
  · rw [Array.getElem?_setIfInBounds_ne (by omega), Array.getElem?_setIfInBounds_ne (by omega)]
theorem cell_blk {w : World} {b o : Nat} {cs : Array Value} {T : TypeId} {fz : Nat × Nat} (h : w.heap[b]? = some (.cells cs T fz)) : w.cell? ⟨b, o, none⟩ = cs[o]? := by
  unfold World.cell?; rw [h]; rfl
theorem cell_blk' {w : World} {a : Addr} {u : Value} {cs : Array Value} {T : TypeId} {fz : Nat × Nat} (h : w.heap[a.block]? = some (.cells cs T fz)) (hc : w.cell? a = some u) : a.spot = none ∧ cs[a.off]? = some u := by
  unfold World.cell? at hc
  rw [h] at hc
  simp only at hc
  split at hc
  · cases hc
  · next hs => exact ⟨by simpa using hs, hc⟩
theorem kidsPO_mem {K : Option Addr} {n cK B : Nat} {w3 : World} {E : List Value} {put : Bool} {l : List Tm} (hk : w3.ownsRow B 28 5 (.slice K n cK) n E) (hn : n = l.length) {x : Pd} (hx : x ∈ kidsPO K put l) :
    ∃ g cur j, K = some ⟨g, 0, none⟩ ∧ x.at_ = ⟨g, j * 5, none⟩ ∧ x.put = put ∧ l[j]? = some x.src ∧ B ≤ g ∧ w3.heap[g]? = some (.cells cur 28 (0, 0)) ∧ j * 5 + 5 ≤ cur.size ∧ ∀ i, i < n * 5 → cur[i]? = E[i]? := by
  rcases K with _ | A
  · exact nomatch hx
  rcases hk.2 with ⟨e, _⟩ | ⟨g, cap, cur, e, hB, hg, hle, _, hsz, _⟩
  · cases e
  injection e with eK _ ec
  injection eK with eK
  subst eK
  obtain ⟨j, _, h2, h3, h4⟩ := kidsP_mem (show x ∈ kidsP ⟨g, 0, none⟩ put 0 l from hx)
  rw [Nat.sub_zero] at h4
  rw [Nat.zero_add] at h2
  refine ⟨g, cur, j, rfl, by rw [h3], by rw [h3], h4, hB, hg, by omega, fun i hi => ?_⟩
  have h5 := World.ownsRow.cellAt (show w3.ownsRow B 28 5 (.slice (some ⟨g, 0, none⟩) n cK) n E from hk) i (by omega)
  rw [← h5, cell_blk hg]
theorem put_keep {M gm fb pb o parts cA cK : Nat} {s : ByteArray → Option Tm} {ts : List Tm} {root : Addr} {T0 : Tm} {q : Pd} {r : List Pd} {X : Nat → Prop} {W w3 : World} {cs : Array Value} {A K : Option Addr} {E : List Value}
    (h : PutS M fb s ts root T0 (q :: r) X parts W) (hat : q.at_ = ⟨pb, o, none⟩) (hcs : W.heap[pb]? = some (.cells cs 28 (0, 0))) (hq : q.put = true → hit s q.src = none) (hMg : M ≤ gm) (hXg : ¬ X gm) (hMf : M ≤ fb) (hXf : ¬ X fb) (hfg : fb ≠ gm) (hf : fb < W.heap.size)
    (hm : KeepMid W gm pb o cs q.src.kids.length q.src.ds.length q.src.ds A cA K cK E w3) :
    PutS M fb s ts root T0 (kidsPO K q.put q.src.kids ++ r) (fun k => X k ∨ (W.heap.size ≤ k ∧ k < w3.heap.size)) (parts + q.src.kids.length) w3 := by
  obtain ⟨hXp, b', o', cs', u0, u1, u2, u3, u4, e', hcs', ho, ⟨c0, c1, c2, c3, c4⟩, hT⟩ := h.pend q (List.mem_cons_self ..)
  rw [hat] at e' hXp
  injection e' with e1 e2
  subst e1; subst e2
  rw [hcs] at hcs'
  injection hcs' with hcs'
  injection hcs' with hcs'
  subst hcs'
  have hXp : X pb := hXp
  have hpW : pb < W.heap.size := (h.low pb hXp).2
  have hpg : pb ≠ gm := fun e => hXg (e ▸ hXp)
  have hpf : fb ≠ pb := fun e => hXf (e ▸ hXp)
  have hap := List.pairwise_cons.1 h.apart
  have hmo := List.pairwise_cons.1 h.modes
  obtain ⟨A0, K0, p0, p0', ev, hkd, hnm, hr0, hs0, hdl, hkl, hk0⟩ := hT.parts
  simp only [Value.agg.injEq, Array.mk.injEq, List.cons.injEq, and_true] at ev
  obtain ⟨rfl, rfl, rfl, rfl, rfl⟩ := ev
  have hE := hm.src K0 p0' c4
  have hEl : E.length = q.src.kids.length * 5 := hm.kids.1
  have hsz := hm.size
  have hset := set34 cs o (.slice A q.src.ds.length cA) (.slice K q.src.kids.length cK) ho
  have hkp : ∀ x ∈ kidsPO K q.put q.src.kids, ∃ g cur j, K = some ⟨g, 0, none⟩ ∧ x.at_ = ⟨g, j * 5, none⟩ ∧ x.put = q.put ∧ q.src.kids[j]? = some x.src ∧ W.heap.size ≤ g ∧ w3.heap[g]? = some (.cells cur 28 (0, 0)) ∧ j * 5 + 5 ≤ cur.size ∧ ∀ i, i < q.src.kids.length * 5 → cur[i]? = E[i]? := fun x hx => kidsPO_mem hm.kids rfl hx
  have hkb : ∀ x ∈ kidsPO K q.put q.src.kids, W.heap.size ≤ x.at_.block := fun x hx => by
    obtain ⟨g, cur, j, _, e, _, _, hB, _⟩ := hkp x hx
    rw [e]; exact hB
  have hrb : ∀ x ∈ r, x.at_.block < W.heap.size := fun x hx => (h.low _ (h.pend x (List.mem_cons_of_mem _ hx)).1).2
  -- old cells that stay
  have hkeep : ∀ a v, W.cell? a = some v → a.block < M ∨ X a.block → (a.block = pb → a.off < o ∨ o + 5 ≤ a.off) → w3.cell? a = some v := fun a v hv hx hof => by
    by_cases hb : a.block = pb
    · obtain ⟨ab, ao, sp⟩ := a
      simp only at hb hof
      subst hb
      obtain ⟨h1, h2⟩ := cell_blk' hcs hv
      simp only at h1
      subst h1
      rw [cell_blk hm.blk, hset.2.2 ao (by have := hof rfl; omega) (by have := hof rfl; omega)]
      exact h2
    · exact (cell_congr (hm.other _ (cell_lt hv) hb (fun e => by
        rcases hx with hx | hx
        · omega
        · exact hXg (e ▸ hx)))).trans hv
  have hnotq : ∀ a : Addr, ¬ Pd.inC (q :: r) a → a.block = pb → a.off < o ∨ o + 5 ≤ a.off := fun a hn hb => by
    refine Classical.byContradiction fun hno => hn ⟨q, List.mem_cons_self .., by rw [hat]; exact hb, ?_, ?_⟩
    · rw [hat]; show o ≤ a.off; omega
    · rw [hat]; show a.off < o + 5; omega
  have hin : ∀ a : Addr, a.block < W.heap.size → Pd.inC (kidsPO K q.put q.src.kids ++ r) a → ∃ x ∈ r, a.block = x.at_.block ∧ x.at_.off ≤ a.off ∧ a.off < x.at_.off + 5 := fun a ha hc => by
    obtain ⟨x, hx, e1, e2, e3⟩ := hc
    rcases List.mem_append.1 hx with hx | hx
    · have := hkb x hx; omega
    · exact ⟨x, hx, e1, e2, e3⟩
  have hfix : ∀ a u, cutC (FixC M X (q :: r)) W a = some u → cutC (FixC M (fun k => X k ∨ (W.heap.size ≤ k ∧ k < w3.heap.size)) (kidsPO K q.put q.src.kids ++ r)) w3 a = some u := fun a u hu => by
    obtain ⟨hF, hu⟩ := cutC_some.1 hu
    rcases hF with hF | ⟨hF, hn⟩
    · exact cutC_some.2 ⟨.inl hF, hkeep a u hu (.inl hF) fun e => absurd (h.low pb hXp).1 (by omega)⟩
    · refine cutC_some.2 ⟨.inr ⟨.inl hF, fun hc => ?_⟩, hkeep a u hu (.inr hF) (hnotq a hn)⟩
      obtain ⟨x, hx, e⟩ := hin a (cell_lt hu) hc
      exact hn ⟨x, List.mem_cons_of_mem _ hx, e⟩
  -- the part itself, behind its kids
  have hptr : ∀ c : Addr → Option Value, (∀ a v, w3.cell? a = some v → X a.block ∨ (W.heap.size ≤ a.block ∧ a.block < w3.heap.size) → ¬ Pd.inC (kidsPO K q.put q.src.kids ++ r) a → c a = some v) → (∀ x ∈ kidsPO K q.put q.src.kids, PtrC c x.at_ (x.tgt s)) → PtrC c q.at_ (q.tgt s) := fun c h1 h2 => by
    have hpart : ∀ j, j < 5 → ∀ u, w3.cell? ⟨pb, o + j, none⟩ = some u → c ⟨pb, o + j, none⟩ = some u := fun j hj u hu => by
      refine h1 _ u hu (.inl hXp) fun hc2 => ?_
      obtain ⟨x, hx, e1, e2, e3⟩ := hin _ hpW hc2
      have := hap.1 x hx
      unfold Pd.Apart at this
      rw [hat] at this
      simp only at this e1 e2 e3
      omega
    rw [tgt_kids hq, hat]
    refine ⟨_, _, _, _, _, ⟨hpart 0 (by decide) _ (by rw [cell_blk hm.blk, hset.2.2 (o + 0) (by omega) (by omega)]; exact c0), by rw [add_eq]; exact hpart 1 (by decide) _ (by rw [cell_blk hm.blk, hset.2.2 _ (by omega) (by omega)]; exact c1), by rw [add_eq]; exact hpart 2 (by decide) _ (by rw [cell_blk hm.blk, hset.2.2 _ (by omega) (by omega)]; exact c2), by rw [add_eq]; exact hpart 3 (by decide) _ (by rw [cell_blk hm.blk]; exact hset.1), by rw [add_eq]; exact hpart 4 (by decide) _ (by rw [cell_blk hm.blk]; exact hset.2.1)⟩, ?_⟩
    have key := TmC.of (c := c) (kind := q.src.kind) (name := q.src.name) (neg := q.src.neg) (ds := q.src.ds) (kids := q.src.kids.map (tgtOf s q.put)) (A := A) (K := K) (p := cA) (p' := cK) hkd hnm (fun j v hj => by
      obtain ⟨_, hrow, hAb⟩ := own_row1 hm.digs
      obtain ⟨a, ha, hc⟩ := hrow j v hj
      refine ⟨a, ha, h1 _ v hc (.inr ⟨by rw [add_block]; exact hAb a ha, cell_lt hc⟩) fun hc2 => ?_⟩
      obtain ⟨x, hx, e1, _⟩ := hc2
      rw [add_block] at e1
      rcases List.mem_append.1 hx with hx | hx
      · obtain ⟨g, cur, j2, eK, e, _, hj2, _⟩ := hkp x hx
        have hj3 := (List.getElem?_eq_some_iff.1 hj2).1
        have hj4 := (List.getElem?_eq_some_iff.1 hj).1
        have : (u32s q.src.ds).length = q.src.ds.length := by unfold u32s; simp
        exact hm.apart a ⟨g, 0, none⟩ ha eK (by omega) (by omega) (by rw [e1, e])
      · have := hrb x hx
        have := hAb a ha
        omega) hs0 hdl (by rw [List.length_map]; exact hkl) (fun j t hj => by
      rw [List.getElem?_map] at hj
      obtain ⟨t0, hj0, e0⟩ := Option.map_eq_some_iff.1 hj
      subst e0
      have hjl := (List.getElem?_eq_some_iff.1 hj0).1
      obtain ⟨g, cap, cur, e, _⟩ : ∃ g cap cur, K = some ⟨g, 0, none⟩ ∧ w3.heap[g]? = some (.cells cur 28 (0, 0)) ∧ cap = cap := by
        rcases hm.kids.2 with ⟨_, h0⟩ | ⟨g, cap, cur, e, hB, hg, _⟩
        · omega
        · injection e with eK
          exact ⟨g, cap, cur, eK, hg, rfl⟩
      subst e
      have hx : (⟨⟨g, (0 + j) * 5, none⟩, t0, q.put⟩ : Pd) ∈ kidsPO (some ⟨g, 0, none⟩) q.put q.src.kids := kidsP_get hj0
      have hp : PtrC c ⟨g, (0 + j) * 5, none⟩ (tgtOf s q.put t0) := h2 _ hx
      refine ⟨⟨g, 0, none⟩, rfl, ?_⟩
      rw [add_eq, Nat.zero_add]
      rw [Nat.zero_add] at hp
      exact hp)
    rw [List.length_map] at key
    exact key
  have hmix : ∀ c : Addr → Option Value, (∀ a v, w3.cell? a = some v → X a.block ∨ (W.heap.size ≤ a.block ∧ a.block < w3.heap.size) → ¬ Pd.inC (kidsPO K q.put q.src.kids ++ r) a → c a = some v) → ∀ a v, W.cell? a = some v → X a.block → ¬ Pd.inC (q :: r) a → c a = some v := fun c h1 a v hv hx hn => by
    refine h1 a v (hkeep a v hv (.inr hx) (hnotq a hn)) (.inl hx) fun hc => ?_
    obtain ⟨x, hx2, e⟩ := hin a (cell_lt hv) hc
    exact hn ⟨x, List.mem_cons_of_mem _ hx2, e⟩
  refine ⟨fun k hk => ?_, fun x hx => ?_, ?_, ?_, fun c h1 h2 => ?_, ?_, fun i t ht => ?_, Nat.le_trans h.size hsz⟩
  · rcases hk with hk | hk
    · exact ⟨(h.low k hk).1, Nat.lt_of_lt_of_le (h.low k hk).2 hsz⟩
    · exact ⟨Nat.le_trans h.size hk.1, hk.2⟩
  · rcases List.mem_append.1 hx with hx | hx
    · obtain ⟨g, cur, j, eK, e, ep, hj, hB, hg, hsz2, hcur⟩ := hkp x hx
      have hjl := (List.getElem?_eq_some_iff.1 hj).1
      obtain ⟨ad, ead, v0, v1, v2, v3, v4, ⟨d0, d1, d2, d3, d4⟩, ht⟩ := hk0 j x.src hj
      have hEj : ∀ i u, i < 5 → cutC (FixC M X (q :: r)) W (ad.add (j * 5 + i)) = some u → cur[j * 5 + i]? = some u := fun i u hi hu => by
        rw [hcur _ (by omega)]
        have hl : j * 5 + i < E.length := by omega
        obtain ⟨ad', ea, hc⟩ := hE (j * 5 + i) _ (List.getElem?_eq_getElem hl)
        rw [ead] at ea
        injection ea with ea
        subst ea
        rw [(cutC_some.1 hu).2] at hc
        rw [List.getElem?_eq_getElem hl, hc]
      rw [add_add] at d1 d2 d3 d4
      refine ⟨?_, g, j * 5, cur, v0, v1, v2, v3, v4, e, hg, hsz2, ⟨hEj 0 _ (by decide) d0, hEj 1 _ (by decide) d1, hEj 2 _ (by decide) d2, hEj 3 _ (by decide) d3, hEj 4 _ (by decide) d4⟩, ht.mono hfix⟩
      rw [e]
      exact .inr ⟨hB, Own.lt.cell_lt' hg⟩
    · obtain ⟨k1, b, oo, cs2, v0, v1, v2, v3, v4, e, k3, k4, k5, k6⟩ := h.pend x (List.mem_cons_of_mem _ hx)
      have hbX : X b := by have := k1; rw [e] at this; exact this
      by_cases hb : b = pb
      · subst hb
        rw [hcs] at k3
        injection k3 with k3
        injection k3 with k3
        subst k3
        have hax := hap.1 x hx
        unfold Pd.Apart at hax
        rw [hat, e] at hax
        simp only at hax
        refine ⟨.inl k1, b, oo, _, v0, v1, v2, v3, v4, e, hm.blk, by simpa using k4, ?_, k6.mono hfix⟩
        refine ⟨?_, ?_, ?_, ?_, ?_⟩
        · rw [hset.2.2 _ (by omega) (by omega)]; exact k5.1
        · rw [hset.2.2 _ (by omega) (by omega)]; exact k5.2.1
        · rw [hset.2.2 _ (by omega) (by omega)]; exact k5.2.2.1
        · rw [hset.2.2 _ (by omega) (by omega)]; exact k5.2.2.2.1
        · rw [hset.2.2 _ (by omega) (by omega)]; exact k5.2.2.2.2
      · exact ⟨.inl k1, b, oo, cs2, v0, v1, v2, v3, v4, e, (hm.other b (h.low b hbX).2 hb (fun e => hXg (e ▸ hbX))).trans k3, k4, k5, k6.mono hfix⟩
  · refine List.pairwise_append.2 ⟨?_, hap.2, fun x hx y hy => .inl ?_⟩
    · rcases K with _ | A1
      · exact List.Pairwise.nil
      · rcases hm.kids.2 with ⟨e, _⟩ | ⟨g, cap, cur, e, _⟩
        · cases e
        · injection e with eK
          injection eK with eK
          subst eK
          exact kidsP_apart _ _
    · have := hkb x hx
      have := hrb y hy
      omega
  · refine List.pairwise_append.2 ⟨?_, hmo.2, fun x hx y hy hp => ?_⟩
    · refine List.pairwise_iff_forall_sublist.2 fun {x y} hs hp => ?_
      obtain ⟨_, _, _, _, _, e1, _⟩ := hkp x (hs.subset (List.mem_cons_self ..))
      obtain ⟨_, _, _, _, _, e2, _⟩ := hkp y (hs.subset (List.mem_cons_of_mem _ (List.mem_cons_self ..)))
      rw [e2, ← e1]; exact hp
    · obtain ⟨_, _, _, _, _, e1, _⟩ := hkp x hx
      exact hmo.1 y hy (e1 ▸ hp)
  · refine h.build c (hmix c h1) fun x hx => ?_
    rcases List.mem_cons.1 hx with rfl | hx
    · exact hptr c h1 fun x hx => h2 x (List.mem_append_left _ hx)
    · exact h2 x (List.mem_append_right _ hx)
  · have h1 := h.sum
    rw [owed, tgt_kids hq] at h1
    rw [owed_append]
    have h2 : owed s (kidsPO K q.put q.src.kids) + q.src.kids.length = (preL (q.src.kids.map (tgtOf s q.put))).length := by
      rcases K with _ | A1
      · have h0 : q.src.kids.length = 0 := by
          rcases hm.kids.2 with ⟨_, h0⟩ | ⟨g, cap, cur, e, _⟩
          · exact h0
          · cases e
        rw [List.length_eq_zero_iff.1 h0, List.map_nil, preL_nil]; rfl
      · exact owed_kids s A1 q.put q.src.kids 0
    have h3 : (Tm.mk q.src.kind q.src.name q.src.neg q.src.ds (q.src.kids.map (tgtOf s q.put))).kids = q.src.kids.map (tgtOf s q.put) := rfl
    rw [h3] at h1
    omega
  · obtain ⟨oo, h1, h2⟩ := h.first i t ht
    refine ⟨oo, (cell_congr (hm.other fb hf hpf hfg)).trans h1, fun a ha => ?_⟩
    obtain ⟨h3, h4, h5, h6⟩ := h2 a ha
    refine ⟨.inl h3, h4, fun x hx hp => ?_, fun c h7 h8 => h6 c (hmix c h7) fun x hx hp => ?_⟩
    · rcases List.mem_append.1 hx with hx | hx
      · left
        have := hkb x hx
        have := (h.low _ h3).2
        show a.block ≠ x.at_.block
        omega
      · exact h5 x (List.mem_cons_of_mem _ hx) hp
    · rcases List.mem_cons.1 hx with rfl | hx
      · have := hptr c h7 fun y hy => by
          obtain ⟨_, _, _, _, _, e1, _⟩ := hkp y hy
          have := h8 y (List.mem_append_left _ hy) (e1.trans hp)
          unfold Pd.tgt
          rw [if_neg (by rw [e1, hp]; simp)]
          exact this
        unfold Pd.tgt at this
        rw [if_neg (by rw [hp]; simp)] at this
        exact this
      · exact h8 x (List.mem_append_right _ hx) hp
end Go.Proofs.YtlikpnaffpngiaaGreatDoor

namespace Go.Proofs.YtlikpnaffpngiaaGreatDoor
open Go.RowKit

def set5 (cs : Array Value) (o : Nat) (u0 u1 u2 u3 u4 : Value) : Array Value := ((((cs.setIfInBounds o u0).setIfInBounds (o + 1) u1).setIfInBounds (o + 2) u2).setIfInBounds (o + 3) u3).setIfInBounds (o + 4) u4
theorem set5_size (cs : Array Value) (o : Nat) (u0 u1 u2 u3 u4 : Value) : (set5 cs o u0 u1 u2 u3 u4).size = cs.size := by simp [set5]
theorem set5_at (cs : Array Value) (o : Nat) (u0 u1 u2 u3 u4 : Value) (h : o + 5 ≤ cs.size) : (set5 cs o u0 u1 u2 u3 u4)[o]? = some u0 ∧ (set5 cs o u0 u1 u2 u3 u4)[o + 1]? = some u1 ∧ (set5 cs o u0 u1 u2 u3 u4)[o + 2]? = some u2 ∧ (set5 cs o u0 u1 u2 u3 u4)[o + 3]? = some u3 ∧ (set5 cs o u0 u1 u2 u3 u4)[o + 4]? = some u4 := by
  unfold set5
  refine ⟨?_, ?_, ?_, ?_, ?_⟩
  · rw [Array.getElem?_setIfInBounds_ne (by omega), Array.getElem?_setIfInBounds_ne (by omega), Array.getElem?_setIfInBounds_ne (by omega), Array.getElem?_setIfInBounds_ne (by omega), Array.getElem?_setIfInBounds_self_of_lt (by omega)]
  · rw [Array.getElem?_setIfInBounds_ne (by omega), Array.getElem?_setIfInBounds_ne (by omega), Array.getElem?_setIfInBounds_ne (by omega), Array.getElem?_setIfInBounds_self_of_lt (by simp; omega)]
  · rw [Array.getElem?_setIfInBounds_ne (by omega), Array.getElem?_setIfInBounds_ne (by omega), Array.getElem?_setIfInBounds_self_of_lt (by simp; omega)]
  · rw [Array.getElem?_setIfInBounds_ne (by omega), Array.getElem?_setIfInBounds_self_of_lt (by simp; omega)]
  · rw [Array.getElem?_setIfInBounds_self_of_lt (by simp; omega)]
theorem set5_off (cs : Array Value) (o : Nat) (u0 u1 u2 u3 u4 : Value) {j : Nat} (h : j < o ∨ o + 5 ≤ j) : (set5 cs o u0 u1 u2 u3 u4)[j]? = cs[j]? := by
  unfold set5
  rw [Array.getElem?_setIfInBounds_ne (by omega), Array.getElem?_setIfInBounds_ne (by omega), Array.getElem?_setIfInBounds_ne (by omega), Array.getElem?_setIfInBounds_ne (by omega), Array.getElem?_setIfInBounds_ne (by omega)]
theorem put_named {M fb pb o parts : Nat} {s : ByteArray → Option Tm} {ts : List Tm} {root : Addr} {T0 τ : Tm} {q : Pd} {r : List Pd} {X : Nat → Prop} {W W' : World} {cs : Array Value} {u0 u1 u2 u3 u4 : Value}
    (h : PutS M fb s ts root T0 (q :: r) X parts W) (hat : q.at_ = ⟨pb, o, none⟩) (hcs : W.heap[pb]? = some (.cells cs 28 (0, 0))) (hput : q.put = true) (hh : hit s q.src = some τ) (hMf : M ≤ fb) (hXf : ¬ X fb)
    (hu : TmC (cutC (FixC M X (q :: r)) W) (.agg #[u0, u1, u2, u3, u4]) τ) (hblk : W'.heap[pb]? = some (.cells (set5 cs o u0 u1 u2 u3 u4) 28 (0, 0))) (hother : ∀ k, k < W.heap.size → k ≠ pb → k ≠ fb → W'.heap[k]? = W.heap[k]?) (hsz : W.heap.size ≤ W'.heap.size)
    (hfirst : ∀ j t, ts[j]? = some t → W'.cell? ⟨fb, j, none⟩ = W.cell? ⟨fb, j, none⟩ ∨ (W'.cell? ⟨fb, j, none⟩ = some (.pointer (some q.at_)) ∧ t = τ)) :
    PutS M fb s ts root T0 (⟨q.at_, τ, false⟩ :: r) X parts W' := by
  obtain ⟨hXp, b', o', cs', v0, v1, v2, v3, v4, e', hcs', ho, _, hT⟩ := h.pend q (List.mem_cons_self ..)
  rw [hat] at e' hXp
  injection e' with e1 e2
  subst e1; subst e2
  rw [hcs] at hcs'
  injection hcs' with hcs'
  injection hcs' with hcs'
  subst hcs'
  have hXp : X pb := hXp
  have hpW : pb < W.heap.size := (h.low pb hXp).2
  have hpf : pb ≠ fb := fun e => hXf (e ▸ hXp)
  have hap := List.pairwise_cons.1 h.apart
  have hmo := List.pairwise_cons.1 h.modes
  have hrp : ∀ y ∈ r, y.put = true := fun y hy => hmo.1 y hy hput
  have hset := set5_at cs o u0 u1 u2 u3 u4 ho
  have hinc : ∀ a, Pd.inC (⟨q.at_, τ, false⟩ :: r) a ↔ Pd.inC (q :: r) a := fun a => by
    unfold Pd.inC
    constructor
    · rintro ⟨x, hx, e⟩
      rcases List.mem_cons.1 hx with rfl | hx
      · exact ⟨q, List.mem_cons_self .., e⟩
      · exact ⟨x, List.mem_cons_of_mem _ hx, e⟩
    · rintro ⟨x, hx, e⟩
      rcases List.mem_cons.1 hx with rfl | hx
      · exact ⟨_, List.mem_cons_self .., e⟩
      · exact ⟨x, List.mem_cons_of_mem _ hx, e⟩
  have hkeep : ∀ a v, W.cell? a = some v → a.block < M ∨ X a.block → (a.block = pb → a.off < o ∨ o + 5 ≤ a.off) → W'.cell? a = some v := fun a v hv hx hof => by
    by_cases hb : a.block = pb
    · obtain ⟨ab, ao, sp⟩ := a
      simp only at hb hof
      subst hb
      obtain ⟨h1, h2⟩ := cell_blk' hcs hv
      simp only at h1
      subst h1
      rw [cell_blk hblk, set5_off _ _ _ _ _ _ _ (hof rfl)]
      exact h2
    · exact (cell_congr (hother _ (cell_lt hv) hb (fun e => by
        rcases hx with hx | hx
        · omega
        · exact hXf (e ▸ hx)))).trans hv
  have hnotq : ∀ a : Addr, ¬ Pd.inC (q :: r) a → a.block = pb → a.off < o ∨ o + 5 ≤ a.off := fun a hn hb => by
    refine Classical.byContradiction fun hno => hn ⟨q, List.mem_cons_self .., by rw [hat]; exact hb, ?_, ?_⟩
    · rw [hat]; show o ≤ a.off; omega
    · rw [hat]; show a.off < o + 5; omega
  have hfix : ∀ a u, cutC (FixC M X (q :: r)) W a = some u → cutC (FixC M X (⟨q.at_, τ, false⟩ :: r)) W' a = some u := fun a u hu => by
    obtain ⟨hF, hu⟩ := cutC_some.1 hu
    rcases hF with hF | ⟨hF, hn⟩
    · exact cutC_some.2 ⟨.inl hF, hkeep a u hu (.inl hF) fun e => absurd (h.low pb hXp).1 (by omega)⟩
    · exact cutC_some.2 ⟨.inr ⟨hF, fun hc => hn ((hinc a).1 hc)⟩, hkeep a u hu (.inr hF) (hnotq a hn)⟩
  have hmix : ∀ c : Addr → Option Value, (∀ a v, W'.cell? a = some v → X a.block → ¬ Pd.inC (⟨q.at_, τ, false⟩ :: r) a → c a = some v) → ∀ a v, W.cell? a = some v → X a.block → ¬ Pd.inC (q :: r) a → c a = some v := fun c h1 a v hv hx hn =>
    h1 a v (hkeep a v hv (.inr hx) (hnotq a hn)) hx fun hc => hn ((hinc a).1 hc)
  refine ⟨fun k hk => ⟨(h.low k hk).1, Nat.lt_of_lt_of_le (h.low k hk).2 hsz⟩, fun x hx => ?_, List.pairwise_cons.2 ⟨fun y hy => hap.1 y hy, hap.2⟩, List.pairwise_cons.2 ⟨fun y hy e => hrp y hy, hmo.2⟩, fun c h1 h2 => ?_, ?_, fun i t ht => ?_, Nat.le_trans h.size hsz⟩
  · rcases List.mem_cons.1 hx with rfl | hx
    · refine ⟨by show X q.at_.block; rw [hat]; exact hXp, pb, o, _, u0, u1, u2, u3, u4, hat, hblk, by rw [set5_size]; exact ho, hset, hu.mono hfix⟩
    · obtain ⟨k1, b, oo, cs2, w0, w1, w2, w3, w4, e, k3, k4, k5, k6⟩ := h.pend x (List.mem_cons_of_mem _ hx)
      have hbX : X b := by have := k1; rw [e] at this; exact this
      by_cases hb : b = pb
      · subst hb
        rw [hcs] at k3
        injection k3 with k3
        injection k3 with k3
        subst k3
        have hax := hap.1 x hx
        unfold Pd.Apart at hax
        rw [hat, e] at hax
        simp only at hax
        refine ⟨k1, b, oo, _, w0, w1, w2, w3, w4, e, hblk, by rw [set5_size]; exact k4, ?_, k6.mono hfix⟩
        refine ⟨?_, ?_, ?_, ?_, ?_⟩
        · rw [set5_off _ _ _ _ _ _ _ (by omega)]; exact k5.1
        · rw [set5_off _ _ _ _ _ _ _ (by omega)]; exact k5.2.1
        · rw [set5_off _ _ _ _ _ _ _ (by omega)]; exact k5.2.2.1
        · rw [set5_off _ _ _ _ _ _ _ (by omega)]; exact k5.2.2.2.1
        · rw [set5_off _ _ _ _ _ _ _ (by omega)]; exact k5.2.2.2.2
      · exact ⟨k1, b, oo, cs2, w0, w1, w2, w3, w4, e, (hother b (h.low b hbX).2 hb (fun e => hXf (e ▸ hbX))).trans k3, k4, k5, k6.mono hfix⟩
  · refine h.build c (hmix c h1) fun x hx => ?_
    rcases List.mem_cons.1 hx with rfl | hx
    · have := h2 _ (List.mem_cons_self ..)
      unfold Pd.tgt at this ⊢
      rw [if_neg (by simp)] at this
      rw [if_pos hput, subT_hit hh]
      exact this
    · exact h2 x (List.mem_cons_of_mem _ hx)
  · have h1 := h.sum
    unfold owed Pd.tgt at h1 ⊢
    rw [if_pos hput, subT_hit hh] at h1
    rw [if_neg (by simp)]
    exact h1
  · obtain ⟨oo, h1, h2⟩ := h.first i t ht
    rcases hfirst i t ht with hf | ⟨hf, rfl⟩
    · refine ⟨oo, hf.trans h1, fun a ha => ?_⟩
      obtain ⟨h3, h4, h5, h6⟩ := h2 a ha
      refine ⟨h3, h4, fun x hx hp => ?_, fun c h7 h8 => h6 c (hmix c h7) fun x hx hp => ?_⟩
      · rcases List.mem_cons.1 hx with rfl | hx
        · cases hp
        · exact h5 x (List.mem_cons_of_mem _ hx) hp
      · rcases List.mem_cons.1 hx with rfl | hx
        · rw [hput] at hp; cases hp
        · rw [hrp x hx] at hp; cases hp
    · refine ⟨_, hf, fun a ha => ?_⟩
      injection ha with ha
      subst ha
      refine ⟨by rw [hat]; exact hXp, ⟨pb, o, hat⟩, fun x hx hp => ?_, fun c h7 h8 => h8 _ (List.mem_cons_self ..) rfl⟩
      rcases List.mem_cons.1 hx with rfl | hx
      · cases hp
      · exact hap.1 x hx
/-- What came in first for a name is all made by the time a name comes again. -/
theorem put_again {M fb parts i : Nat} {s : ByteArray → Option Tm} {ts : List Tm} {root : Addr} {T0 τ : Tm} {q : Pd} {r : List Pd} {X : Nat → Prop} {W : World} {a : Addr}
    (h : PutS M fb s ts root T0 (q :: r) X parts W) (hput : q.put = true) (ht : ts[i]? = some τ) (ha : W.cell? ⟨fb, i, none⟩ = some (.pointer (some a))) :
    ∃ b j u0 u1 u2 u3 u4, a = ⟨b, j, none⟩ ∧ (W.cell? ⟨b, j, none⟩ = some u0 ∧ W.cell? ⟨b, j + 1, none⟩ = some u1 ∧ W.cell? ⟨b, j + 2, none⟩ = some u2 ∧ W.cell? ⟨b, j + 3, none⟩ = some u3 ∧ W.cell? ⟨b, j + 4, none⟩ = some u4) ∧ TmC (cutC (FixC M X (q :: r)) W) (.agg #[u0, u1, u2, u3, u4]) τ := by
  have hmo := List.pairwise_cons.1 h.modes
  obtain ⟨oo, h1, h2⟩ := h.first i τ ht
  rw [ha] at h1
  injection h1 with h1
  injection h1 with h1
  obtain ⟨h3, ⟨b, j, rfl⟩, _, h6⟩ := h2 a h1.symm
  obtain ⟨u0, u1, u2, u3, u4, hc, hT⟩ := h6 (cutC (FixC M X (q :: r)) W) (fun a v hv hx hn => cutC_some.2 ⟨.inr ⟨hx, hn⟩, hv⟩) fun x hx hp => by
    rcases List.mem_cons.1 hx with rfl | hx
    · rw [hput] at hp; cases hp
    · rw [hmo.1 x hx hput] at hp; cases hp
  rw [add_eq, add_eq, add_eq, add_eq] at hc
  exact ⟨b, j, u0, u1, u2, u3, u4, rfl, ⟨(cutC_some.1 hc.1).2, (cutC_some.1 hc.2.1).2, (cutC_some.1 hc.2.2.1).2, (cutC_some.1 hc.2.2.2.1).2, (cutC_some.1 hc.2.2.2.2).2⟩, hT⟩
theorem add_posK (p : Addr) {j : Nat} (h : 0 < j) : p.add j = { block := p.block, off := p.off + j } := by
  unfold Addr.add; rw [if_neg (by omega)]
theorem cell_other {w : World} {a b : Addr} {v : Value} (h : b ≠ a) : (w.setCell a v).cell? b = w.cell? b := by
  exact World.cell?_setCell_other _ _ _ _ (Ne.symm h)
theorem frozen_blk {w : World} {b o : Nat} {cs : Array Value} {T : TypeId} (h : w.heap[b]? = some (.cells cs T (0, 0))) : w.frozen? ⟨b, o, none⟩ = false := by simp [World.frozen?, h]
theorem own_keep {w w' : World} {B e sz n : Nat} {v : Value} {xs : List Value} (h : w.ownsRow B e sz v n xs) (hb : ∀ k, v.ownBlock = some k → B ≤ k → k < w.heap.size → w'.heap[k]? = w.heap[k]?) : w'.ownsRow B e sz v n xs := by
  refine ⟨h.1, ?_⟩
  rcases h.2 with h0 | ⟨g, cap, cur, e, hB, hg, r⟩
  · exact .inl h0
  · refine .inr ⟨g, cap, cur, e, hB, ?_, r⟩
    rw [hb g (by rw [e]; rfl) hB (Own.lt.cell_lt' hg)]; exact hg
theorem four_alloc (w : World) (o0 o1 o2 o3 : Obj) : ((((w.alloc o0).alloc o1).alloc o2).alloc o3).heap[w.heap.size]? = some o0 ∧ ((((w.alloc o0).alloc o1).alloc o2).alloc o3).heap[w.heap.size + 1]? = some o1 ∧ ((((w.alloc o0).alloc o1).alloc o2).alloc o3).heap[w.heap.size + 1 + 1]? = some o2 ∧ ((((w.alloc o0).alloc o1).alloc o2).alloc o3).heap[w.heap.size + 1 + 1 + 1]? = some o3 ∧ ((((w.alloc o0).alloc o1).alloc o2).alloc o3).heap.size = w.heap.size + 4 ∧ Below w.heap.size w ((((w.alloc o0).alloc o1).alloc o2).alloc o3) := by
  obtain ⟨a0, a1, a2, s3, ab⟩ := three_alloc w o0 o1 o2
  have a3 : ((((w.alloc o0).alloc o1).alloc o2).alloc o3).heap[w.heap.size + 3]? = some o3 := by rw [← s3]; exact heap_alloc_new _ _
  exact ⟨(Below.heap_alloc _ _ _ (by omega)).trans a0, (Below.heap_alloc _ _ _ (by omega)).trans a1, (Below.heap_alloc _ _ _ (by omega)).trans a2, a3, by rw [World.size_alloc, s3], ab.alloc (by omega) _⟩
end Go.Proofs.YtlikpnaffpngiaaGreatDoor

/- Package term's each: it hands all parts to visit, each ahead of its kids. -/
import Derived.Test.YtlikpnaffpngiaaGreatDoorTPre
import Derived.Shelf.Abstract
set_option linter.unusedVariables false
set_option linter.unusedSimpArgs false
namespace Go.Proofs.YtlikpnaffpngiaaGreatDoor
open Go.RowKit

/-- No block of bytes. -/
def NoBytes (W : World) (k : Nat) : Prop := ∀ c fz, W.heap[k]? ≠ some (.cells c 5 fz)
theorem NoBytes.of {W : World} {k : Nat} {c : Array Value} {T : TypeId} {fz : Nat × Nat} (h : W.heap[k]? = some (.cells c T fz)) (hT : T ≠ 5) : NoBytes W k := fun c' fz' e => hT (by rw [h] at e; injection e with e; injection e)
theorem NoBytes.to {W W' : World} {k : Nat} (h : NoBytes W k) (e : W'.heap[k]? = W.heap[k]?) : NoBytes W' k := fun c fz => by rw [e]; exact h c fz
/-- Of the old blocks only those of X, and such of bytes, have changed; those of X' are X's, or new. -/
structure Touch (X X' : Nat → Prop) (W W' : World) : Prop where
  os : W'.os = W.os
  tape : W'.tape = W.tape
  output : W'.output = W.output
  size : W.heap.size ≤ W'.heap.size
  block : ∀ k, k < W.heap.size → ¬ X k → NoBytes W k → W'.heap[k]? = W.heap[k]?
  own : ∀ k, X' k → X k ∨ W.heap.size ≤ k ∨ ¬ NoBytes W k
theorem Touch.refl (X : Nat → Prop) (W : World) : Touch X X W W := ⟨rfl, rfl, rfl, Nat.le_refl _, fun _ _ _ _ => rfl, fun _ h => .inl h⟩
/-- All cells that a has are b's, too. -/
def Sub (a b : World) : Prop := ∀ p v, a.cell? p = some v → b.cell? p = some v
theorem Sub.refl (a : World) : Sub a a := fun _ _ h => h
theorem Sub.trans {a b c : World} (h : Sub a b) (k : Sub b c) : Sub a c := fun p v e => k p v (h p v e)
theorem sub_below {a b : World} (h : Below a.heap.size a b) : Sub a b := fun p v e => (h.cell (cell_lt e)).trans e
theorem cell_congr {a b : World} {p : Addr} (h : b.heap[p.block]? = a.heap[p.block]?) : b.cell? p = a.cell? p := by
  unfold World.cell?; rw [h]
theorem Sub.kept {a b c : World} (h : Sub a b) (k : ∀ i, i < a.heap.size → c.heap[i]? = b.heap[i]?) : Sub a c := fun p v e => (cell_congr (k _ (cell_lt e))).trans (h p v e)
theorem TmV.sub {W W' : World} {v : Value} {t : Tm} (h : TmV W v t) (hb : Sub W W') : TmV W' v t := by
  induction h with
  | mk kind name neg ds kids A K c c' u hkd hnm hr hs hdl hkl hc hk ih =>
    exact .mk kind name neg ds kids A K c c' u hkd hnm (fun j v hv => by
      obtain ⟨ad, ha, hc⟩ := hr j v hv
      exact ⟨ad, ha, hb _ _ hc⟩) hs hdl hkl (fun j hj => by
      obtain ⟨ad, e, h0, h1, h2, h3, h4⟩ := hc j hj
      exact ⟨ad, e, hb _ _ h0, hb _ _ h1, hb _ _ h2, hb _ _ h3, hb _ _ h4⟩) ih
theorem PtrTm.sub {W W' : World} {p : Addr} {t : Tm} (h : PtrTm W p t) (hb : Sub W W') : PtrTm W' p t := by
  obtain ⟨u0, u1, u2, u3, u4, ⟨h0, h1, h2, h3, h4⟩, ht⟩ := h
  exact ⟨u0, u1, u2, u3, u4, ⟨hb _ _ h0, hb _ _ h1, hb _ _ h2, hb _ _ h3, hb _ _ h4⟩, ht.sub hb⟩
/-- The parts that lie at K. -/
def kidsOf (K : Option Addr) (l : List Tm) : List (Addr × Tm) := match K with
  | none => []
  | some A => kidsAt A 0 l
theorem kidsOf_snd {K : Option Addr} {l : List Tm} (h : l ≠ [] → ∃ A, K = some A) : (kidsOf K l).map (·.2) = l := by
  cases K with
  | some A => exact kidsAt_snd A 0 l
  | none =>
    cases l with
    | nil => rfl
    | cons t l => obtain ⟨A, e⟩ := h (by simp); cases e
theorem kidsOf_turns (f : Value) {K : Option Addr} {l : List Tm} (h : l ≠ [] → ∃ A, K = some A) : rowTurns f K l.length = turnsOf f ((kidsOf K l).map (·.1)) := by
  cases K with
  | some A =>
    have := kidsAt_turns f A l 0
    rw [Nat.zero_add] at this
    exact this.trans (List.append_nil _)
  | none =>
    cases l with
    | nil => rfl
    | cons t l => obtain ⟨A, e⟩ := h (by simp); cases e
theorem kidsOf_ptr {W : World} {K : Option Addr} {l : List Tm} (h : TmsAt W K l) : ∀ q ∈ kidsOf K l, PtrTm W q.1 q.2 := by
  cases K with
  | none => intro q hq; exact nomatch hq
  | some A => exact kidsAt_ptr h l 0 fun j t ht => by rw [Nat.zero_add]; exact ht
theorem TmsAt.some {W : World} {K : Option Addr} {l : List Tm} (h : TmsAt W K l) : l ≠ [] → ∃ A, K = some A := by
  intro h0
  cases l with
  | nil => exact absurd rfl h0
  | cons t l =>
    obtain ⟨A, _, _, _, _, _, e, _⟩ := h 0 t rfl
    exact ⟨A, e⟩
/-- What visit does, part by part: S d p X W tells what holds behind the parts d, those of p (and theirs) being ahead; X are visit's own blocks; what lay below N stays while others work. -/
structure Visits (N M : Nat) (FV : FuncId) (fv cv : Array Value) (all : List Tm) (S : List Tm → List (Addr × Tm) → (Nat → Prop) → World → Prop) : Prop where
  enters : ∀ args w, (callFunc FV args).run Tryz.prog w = .ok (.enter FV args) w
  low : ∀ {d p X W}, S d p X W → ∀ k, X k → k < W.heap.size
  stay : ∀ {d p X W W'}, S d p X W → (∀ k, k < W.heap.size → k < N ∨ X k → W'.heap[k]? = W.heap[k]?) → Below M W W' → S d p X W'
  visit : ∀ {d r X W ad t}, S d ((ad, t) :: r) X W → d ++ preL (t :: r.map (·.2)) = all → Calls Tryz.prog FV (fv ++ #[.pointer (some ad)] ++ cv) W fun e w' => (∃ u, e = .returned u) ∧ ∃ X' K c, S (d ++ [t]) (kidsOf K t.kids ++ r) X' w' ∧ w'.cell? (ad.add 4) = some (.slice K t.kids.length c) ∧ (t.kids ≠ [] → ∃ A, K = some A) ∧ Touch X X' W w' ∧ Below M W w'
/-- each's own variables: visit's box, the walker, its closure's. -/
def eachF (b : Nat) : Value := .func (.func 52) #[] #[.pointer (some ⟨b, 0, none⟩), .pointer (some ⟨b + 1, 0, none⟩), .pointer (some ⟨b + 2, 0, none⟩)]
structure EachR (w : World) (b M : Nat) (fv : Value) (all : List Tm) (S : List Tm → List (Addr × Tm) → (Nat → Prop) → World → Prop) (X0 : Nat → Prop) (k : Nat) (v : Value) (n : Nat) (E : List Value) (W : World) (pend : List (Addr × Tm)) (d : List Tm) (X : Nat → Prop) : Prop where
  row : E = turnsOf (eachF b) (pend.map (·.1))
  len : n = pend.length
  left : k = (preL (pend.map (·.2))).length
  done : d ++ preL (pend.map (·.2)) = all
  state : S d pend X W
  ahead : TRow W (b + 3) v n E
  walker : WK W (b + 1) v 103 []
  box : W.heap[b]? = some (.cells #[fv] 97 (0, 0))
  var : W.heap[b + 2]? = some (.cells #[eachF b] 97 (0, 0))
  touch : Touch X0 X w W
  below : Below M w W
  apart : ∀ k, X k → k ≠ b ∧ k ≠ b + 1 ∧ k ≠ b + 2 ∧ v.ownBlock ≠ some k
  size : b + 3 ≤ W.heap.size
theorem cell_one0 {W : World} {b : Nat} {v : Value} {T : TypeId} (h : W.heap[b]? = some (.cells #[v] T (0, 0))) : W.cell? ⟨b, 0, none⟩ = some v := by simp [World.cell?, h]
theorem TRow.kept {W W' : World} {B n : Nat} {v : Value} {E : List Value} (h : TRow W B v n E) (hb : ∀ k, v.ownBlock = some k → k < W.heap.size → W'.heap[k]? = W.heap[k]?) : TRow W' B v n E := by
  have hh : W.ownsRow B 123 2 v n E := h
  refine ⟨hh.1, ?_⟩
  rcases hh.2 with h0 | ⟨g, cap, cur, e, hB, hg, r⟩
  · exact .inl h0
  · refine .inr ⟨g, cap, cur, e, hB, ?_, r⟩
    rw [hb g (by rw [e]; rfl) (Own.lt.cell_lt' hg)]; exact hg
set_option maxRecDepth 100000 in
set_option maxHeartbeats 3200000 in
theorem each_runs {w : World} {M : Nat} {FV : FuncId} {fv cv : Array Value} {all : List Tm} {S : List Tm → List (Addr × Tm) → (Nat → Prop) → World → Prop} {X0 : Nat → Prop} (hV : Visits w.heap.size M FV fv cv all S) (hall : all.length ≤ 1000000) (hM : M ≤ w.heap.size) :
    Runs (w.heap.size + 1) (w.heap.size + 3) 103 fun k v n E W => ∃ pend d X, EachR w w.heap.size M (.func (.func FV) fv cv) all S X0 k v n E W pend d X := by
  obtain ⟨b, hb⟩ : ∃ b, b = w.heap.size := ⟨_, rfl⟩
  rw [← hb] at hV hM ⊢
  constructor
  · rintro k v n E W ⟨pend, d, X, h⟩
    refine ⟨h.ahead, h.size, ⟨_, h.walker⟩, ?_⟩
    have h1 := congrArg List.length h.done
    have h2 := preL_len (pend.map (·.2))
    rw [List.length_append] at h1
    rw [List.length_map] at h2
    have := h.len
    omega
  · rintro k v n E W ⟨pend, d, X, h⟩
    rcases pend with _ | ⟨⟨ad, t⟩, rest⟩
    · exact absurd h.len (by simp)
    have hn : n = rest.length := by have := h.len; simp at this; exact this
    subst hn
    have hE := h.row
    subst hE
    refine ⟨ad, 52, _, _, turnsOf (eachF b) (rest.map (·.1)), rfl, enters_of Tryz.func52 (by kernel_rfl) rfl, ?_⟩
    rintro g cap x rfl hwk W' hrow hgw hT
    have hX := h.apart
    have hlow := hV.low h.state
    have hkeep : ∀ k, k < W.heap.size → k ≠ b + 1 → W'.heap[k]? = W.heap[k]? := fun k hk hne => hT.block k hk hne (by intro e; cases e)
    have hS' : S d ((ad, t) :: rest) X W' := hV.stay h.state (fun k hk ho => hkeep k hk (by
      rcases ho with ho | ho
      · omega
      · exact (hX k ho).2.1)) ⟨hT.os, hT.tape, hT.output, hT.size, fun k hk => hkeep k (by have := h.size; omega) (by omega)⟩
    have hdone := h.done
    have hcall := hV.visit hS' hdone
    rw [List.map_cons, preL_cons] at hdone
    have hsz := h.size
    have n0 : NoBytes W' b := .of ((hkeep b (by omega) (by omega)).trans h.box) (by decide)
    have n2 : NoBytes W' (b + 2) := .of ((hkeep (b + 2) (by omega) (by omega)).trans h.var) (by decide)
    have hwk' : WK W' (b + 1) (.slice (some ⟨g, 0, none⟩) rest.length cap) 103 [] := by
      have e1 := hwk; have e2 := h.walker
      unfold WK at e1 e2
      rw [e1] at e2
      injection e2 with e2
      injection e2 with e2 e3 e4
      have : x = [] := by injection e2 with e2; injection e2
      subst this
      exact hgw
    have nrow : ∀ k, (Value.slice (some ⟨g, 0, none⟩) rest.length cap).ownBlock = some k → NoBytes W' k := fun k hk => by
      have hh : W'.ownsRow (b + 3) 123 2 (.slice (some ⟨g, 0, none⟩) rest.length cap) rest.length (turnsOf (eachF b) (rest.map (·.1))) := hrow
      rcases hh.2 with ⟨e, _⟩ | ⟨g', cap', cur, e, _, hg, _⟩
      · cases e
      · cases e
        injection hk with hk
        subst hk
        exact .of hg (by decide)
    have hszW := hT.size
    have hd := do_any (T := 103) (x := []) (F := 52) (fs := #[]) (cs := #[.pointer (some ⟨b, 0, none⟩), .pointer (some ⟨b + 1, 0, none⟩), .pointer (some ⟨b + 2, 0, none⟩)]) (b1 := b) (gw := b + 1) (b3 := b + 2) (B := b + 3) (m := rest.length) (n := t.kids.length) (v := .slice (some ⟨g, 0, none⟩) rest.length cap) (E := turnsOf (eachF b) (rest.map (·.1))) (Q1 := fun K c w2 => ∃ X', S (d ++ [t]) (kidsOf K t.kids ++ rest) X' w2 ∧ w2.cell? (ad.add 4) = some (.slice K t.kids.length c) ∧ (t.kids ≠ [] → ∃ A, K = some A) ∧ Touch X X' W' w2 ∧ Below M W' w2)
      (cell_one0 ((hkeep b (by omega) (by omega)).trans h.box)) hV.enters (hcall.mono fun e w2 hq => ⟨hq.1, (by
        obtain ⟨_, X', K, c, q⟩ := hq
        exact ⟨K, c, X', q⟩)⟩) ?h2 (by omega) ?hn
    case h2 =>
      rintro w2 K c ⟨X', hS2, hk4, hKn, hT2, hb2⟩
      have k2 : ∀ k, k < W'.heap.size → ¬ X k → NoBytes W' k → w2.heap[k]? = W'.heap[k]? := hT2.block
      refine ⟨cell_one0 (((k2 (b + 2) (by omega) (fun e => (hX _ e).2.2.1 rfl) n2).trans (hkeep _ (by omega) (by omega))).trans h.var), hk4, hrow.kept fun k hk hkW => k2 k hkW (fun e => (hX k e).2.2.2 hk) (nrow k hk), hwk'.to (k2 _ (by omega) (fun e => (hX _ e).2.1 rfl) (.of hwk' (by decide))), by have := hT2.size; omega, fun h0 => hKn fun e => h0 (by rw [e]; rfl)⟩
    case hn =>
      have h1 := congrArg List.length hdone
      have h2 := preL_len (rest.map (·.2))
      have h3 := preL_len t.kids
      simp at h1 h2
      omega
    refine Calls.mono hd ?_
    rintro e w' ⟨hu, w2, v', K, c, ⟨X', hS2, _, hKn, hT2, hb2⟩, hr, hg2, hTu⟩
    refine ⟨hu, ?_⟩
    have hsnd := kidsOf_snd hKn
    have hturn := kidsOf_turns (eachF b) hKn
    obtain ⟨kp, hkp⟩ : ∃ kp, kp = kidsOf K t.kids := ⟨_, rfl⟩
    rw [← hkp] at hsnd hturn hS2
    have hkl : kp.length = t.kids.length := by rw [← hsnd, List.length_map]
    have hlow2 := hV.low hS2
    have hgl : b + 3 ≤ g ∧ g < W'.heap.size := World.ownsRow.lt hrow g rfl
    have hap : ∀ k, X' k → k ≠ b ∧ k ≠ b + 1 ∧ k ≠ b + 2 ∧ k ≠ g := fun k hk => by
      rcases hT2.own k hk with e | e | e
      · obtain ⟨p1, p2, p3, p4⟩ := hX k e
        exact ⟨p1, p2, p3, fun e => p4 (by rw [e]; rfl)⟩
      · omega
      · exact ⟨fun h => e (h ▸ n0), fun h => e (h ▸ .of hwk' (by decide)), fun h => e (h ▸ n2), fun h => e (nrow k (by rw [h]; rfl))⟩
    have own_ne : ∀ {k : Nat}, k ≠ g → (Value.slice (some ⟨g, 0, none⟩) rest.length cap).ownBlock ≠ some k := fun hne e => hne (by injection e with e; exact e.symm)
    have k3 : ∀ k, k < w2.heap.size → k ≠ b + 1 → k ≠ g → w'.heap[k]? = w2.heap[k]? := fun k h1 h2 h3 => hTu.block k h1 h2 (own_ne h3)
    have s2 := hT2.size
    have s3 := hTu.size
    refine ⟨(preL ((kp ++ rest).map (·.2))).length, v', rest.length + t.kids.length, _, ?lt, kp ++ rest, d ++ [t], X', ?_, ?_, rfl, ?_, hV.stay hS2 (fun k hk ho => by
      rcases ho with ho | ho
      · exact k3 k hk (by omega) (by omega)
      · exact k3 k hk (hap k ho).2.1 (hap k ho).2.2.2) ⟨hTu.os, hTu.tape, hTu.output, s3, fun k hk => k3 k (by omega) (by omega) (by omega)⟩, hr, hg2, ?_, ?_, ?_, ?_, ?_, by omega⟩
    case lt =>
      rw [h.left, List.map_cons, preL_cons, List.map_append, hsnd, preL_append]
      exact Nat.lt_succ_self _
    · rw [List.map_append, turnsOf_append]
      exact congrArg _ hturn
    · rw [List.length_append, hkl]; omega
    · rw [List.map_append, hsnd, preL_append, List.append_assoc]; exact hdone
    · exact ((k3 b (by omega) (by omega) (by omega)).trans (hT2.block b (by omega) (fun e => (hX _ e).1 rfl) n0)).trans ((hkeep b (by omega) (by omega)).trans h.box)
    · exact ((k3 (b + 2) (by omega) (by omega) (by omega)).trans (hT2.block (b + 2) (by omega) (fun e => (hX _ e).2.2.1 rfl) n2)).trans ((hkeep (b + 2) (by omega) (by omega)).trans h.var)
    · have ht := h.touch
      have s0 := ht.size
      refine ⟨hTu.os.trans (hT2.os.trans (hT.os.trans ht.os)), hTu.tape.trans (hT2.tape.trans (hT.tape.trans ht.tape)), hTu.output.trans (hT2.output.trans (hT.output.trans ht.output)), by omega, fun k hk hx hn => ?_, fun k hk => ?_⟩
      · have hxk : ¬ X k := fun e => by
          rcases ht.own k e with e | e | e
          · exact hx e
          · omega
          · exact e hn
        have e1 := (hkeep k (by omega) (by omega)).trans (ht.block k hk hx hn)
        exact (k3 k (by omega) (by omega) (by omega)).trans ((hT2.block k (by omega) hxk (hn.to e1)).trans e1)
      · refine Classical.byContradiction fun hno => ?_
        have h1 : ¬ X0 k := fun h => hno (.inl h)
        have h2 : k < w.heap.size := Nat.lt_of_not_le fun h => hno (.inr (.inl h))
        have h3 : NoBytes w k := Classical.byContradiction fun h => hno (.inr (.inr h))
        rcases hT2.own k hk with e | e | e
        · exact hno (ht.own k e)
        · omega
        · exact e ((h3.to (ht.block k h2 h1 h3)).to (hkeep k (by omega) (by omega)))
    · refine h.below.trans (Below.trans (b := W') ⟨hT.os, hT.tape, hT.output, hT.size, fun k hk => hkeep k ?_ (by omega)⟩ (hb2.trans ⟨hTu.os, hTu.tape, hTu.output, s3, fun k hk => k3 k ?_ (by omega) (by omega)⟩))
      · omega
      · omega
    · intro k hk
      obtain ⟨p1, p2, p3, p4⟩ := hap k hk
      refine ⟨p1, p2, p3, fun e => ?_⟩
      rcases hTu.own k e with e | e
      · exact own_ne p4 e
      · have := hlow2 k hk; omega
/-- A visit that leaves the parts as they are: these stand in w1. -/
def SS (w1 : World) (S0 : List Tm → (Nat → Prop) → World → Prop) (d : List Tm) (p : List (Addr × Tm)) (X : Nat → Prop) (W : World) : Prop := S0 d X W ∧ Sub w1 W ∧ ∀ q ∈ p, PtrTm w1 q.1 q.2
theorem Visits.static {N M : Nat} {w1 : World} {FV : FuncId} {fv cv : Array Value} {all : List Tm} {S0 : List Tm → (Nat → Prop) → World → Prop} (hw1 : w1.heap.size ≤ N) (enters : ∀ args w, (callFunc FV args).run Tryz.prog w = .ok (.enter FV args) w)
    (low : ∀ {d X W}, S0 d X W → ∀ k, X k → k < W.heap.size) (stay : ∀ {d X W W'}, S0 d X W → (∀ k, X k → W'.heap[k]? = W.heap[k]?) → Below M W W' → S0 d X W')
    (visit : ∀ {d X W ad t r}, S0 d X W → d ++ t :: r = all → PtrTm w1 ad t → Sub w1 W → Calls Tryz.prog FV (fv ++ #[.pointer (some ad)] ++ cv) W fun e w' => (∃ u, e = .returned u) ∧ ∃ X', S0 (d ++ [t]) X' w' ∧ Touch X X' W w' ∧ Below M W w' ∧ Sub w1 w') : Visits N M FV fv cv all (SS w1 S0) := by
  refine ⟨enters, fun h => low h.1, fun {d p X W W'} h hk hs => ⟨stay h.1 (fun k hx => hk k (low h.1 k hx) (.inr hx)) hs, fun p v e => ?_, h.2.2⟩, fun {d r X W ad t} h hd => ?_⟩
  · have e1 := h.2.1 p v e
    exact (cell_congr (hk _ (cell_lt e1) (.inl (Nat.lt_of_lt_of_le (cell_lt e) hw1)))).trans e1
  · rw [preL_cons] at hd
    have hp := h.2.2 (ad, t) (List.mem_cons_self ..)
    obtain ⟨u0, u1, u2, u3, u4, hc, ht⟩ := hp
    obtain ⟨A, K, c, c', e, _, _, _, _, _, hl, hk⟩ := ht.parts
    simp only [Value.agg.injEq, Array.mk.injEq, List.cons.injEq, and_true] at e
    refine (visit h.1 hd (h.2.2 (ad, t) (List.mem_cons_self ..)) h.2.1).mono ?_
    rintro e w' ⟨hu, X', r1, r2, r3, r4⟩
    refine ⟨hu, X', K, c', ⟨r1, r4, fun q hq => ?_⟩, ?_, hk.some, r2, r3⟩
    · rcases List.mem_append.1 hq with hq | hq
      · exact kidsOf_ptr hk q hq
      · exact h.2.2 q (List.mem_cons_of_mem _ hq)
    · have e4 := e
      exact r4 _ _ (by rw [hc.2.2.2.2]; simp_all)
end Go.Proofs.YtlikpnaffpngiaaGreatDoor

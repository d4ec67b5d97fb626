/- Package term's gatherer: what is ahead of it, and what will be told: plain lists. No condition. Package term's gatherer: all turns, one after the other: the sort of a term. Condition: of sizes. Package term's gatherer, walked; sorter.of. Condition: of sizes. Package term's Sort: the sort of a term, or the error. Condition: of sizes. -/
import Derived.Test.YtlikpnaffpngiaaGreatDoorSTellN
import Derived.Test.YtlikpnaffpngiaaGreatDoorTEachW
import Derived.Test.YtlikpnaffpngiaaGreatDoorTStop
set_option linter.unusedVariables false
set_option linter.unusedSimpArgs false
namespace Go.Proofs.YtlikpnaffpngiaaGreatDoor
open Go.RowKit

/-- What is ahead, the next one first: a part's turn ahead of its kids (true), or behind them. -/
def turnsG (H : Nat) : List (Bool × Addr × Tm) → List Value
  | [] => []
  | p :: l => turnsG H l ++ [.pointer (some p.2.1), if p.1 then doF H else tellF H]
def kidsG (A : Addr) (i : Nat) (l : List Tm) : List (Bool × Addr × Tm) := (kidsAt A i l).map fun q => (true, q.1, q.2)
theorem turnsG_append (H : Nat) : ∀ (a b : List (Bool × Addr × Tm)), turnsG H (a ++ b) = turnsG H b ++ turnsG H a
  | [], b => by rw [List.nil_append]; exact (List.append_nil _).symm
  | x :: a, b => by
    show turnsG H (a ++ b) ++ _ = _
    rw [turnsG_append H a b, List.append_assoc]; rfl
theorem turnsG_kids (H : Nat) (A : Addr) : ∀ (l : List Tm) (i : Nat), turnsG H (kidsG A i l) = turnsOf (doF H) ((kidsAt A i l).map (·.1))
  | [], _ => rfl
  | t :: l, i => by
    show turnsG H (kidsG A (i + 1) l) ++ _ = turnsOf _ _ ++ _
    rw [turnsG_kids H A l (i + 1)]
    rfl
theorem turnsG_row (H : Nat) (A : Addr) (l : List Tm) : rowTurns (doF H) (some A) l.length = turnsG H (kidsG A 0 l) := by
  have := kidsAt_turns (doF H) A l 0
  rw [Nat.zero_add] at this
  rw [this, turnsG_kids]
  show _ ++ [] = _
  exact List.append_nil _
/-- What will be told, told being what is told now. -/
noncomputable def evalP (D : List DtT) (S : List (ByteArray × ByteArray)) : List ByteArray → List (Bool × Addr × Tm) → Option (List ByteArray)
  | told, [] => some told
  | told, p :: l => if p.1 then (sortT D S p.2.2).bind fun s => evalP D S (told ++ [s]) l else (lvK D S p.2.2.kind p.2.2.name (told.drop (told.length - p.2.2.kids.length))).bind fun s => evalP D S (told.take (told.length - p.2.2.kids.length) ++ [s]) l
/-- There is enough told for each part's own turn. -/
def okN : Nat → List (Bool × Addr × Tm) → Prop
  | _, [] => True
  | m, p :: l => if p.1 then okN (m + 1) l else p.2.2.kids.length ≤ m ∧ okN (m - p.2.2.kids.length + 1) l
theorem sortL_len {D : List DtT} {S : List (ByteArray × ByteArray)} : ∀ (l : List Tm) (r : List ByteArray), sortL D S l = some r → r.length = l.length
  | [], r, h => by rw [sortL] at h; cases h; rfl
  | t :: l, r, h => by
    rw [sortL] at h
    cases h1 : sortT D S t with
    | none => rw [h1] at h; cases h
    | some s =>
      rw [h1] at h
      cases h2 : sortL D S l with
      | none => rw [h2] at h; cases h
      | some r' =>
        rw [h2] at h
        cases h
        simp [sortL_len l r' h2]
theorem evalP_kids {D : List DtT} {S : List (ByteArray × ByteArray)} (A : Addr) (rest : List (Bool × Addr × Tm)) : ∀ (l : List Tm) (i : Nat) (told : List ByteArray), evalP D S told (kidsG A i l ++ rest) = (sortL D S l).bind fun ss => evalP D S (told ++ ss) rest
  | [], i, told => by rw [sortL]; show evalP D S told rest = evalP D S (told ++ []) rest; rw [List.append_nil]
  | t :: l, i, told => by
    show evalP D S told ((true, A.add (i * 5), t) :: (kidsG A (i + 1) l ++ rest)) = _
    rw [evalP, sortL]
    simp only [if_true]
    cases h1 : sortT D S t with
    | none => rfl
    | some s =>
      show evalP D S (told ++ [s]) (kidsG A (i + 1) l ++ rest) = _
      rw [evalP_kids A rest l (i + 1)]
      cases h2 : sortL D S l with
      | none => rfl
      | some r => show evalP D S (told ++ [s] ++ r) rest = evalP D S (told ++ s :: r) rest; rw [List.append_assoc]; rfl
theorem sortT_eq (D : List DtT) (S : List (ByteArray × ByteArray)) (t : Tm) : sortT D S t = if entK t then (sortL D S t.kids).bind (lvK D S t.kind t.name) else none := by
  cases t
  rw [sortT]
  rfl
theorem evalP_do {D : List DtT} {S : List (ByteArray × ByteArray)} (A a a' : Addr) (t : Tm) (l : List (Bool × Addr × Tm)) (told : List ByteArray) (he : entK t = true) : evalP D S told ((true, a, t) :: l) = evalP D S told (kidsG A 0 t.kids ++ (false, a', t) :: l) := by
  rw [evalP_kids, evalP]
  simp only [if_true]
  rw [sortT_eq, if_pos he]
  cases h2 : sortL D S t.kids with
  | none => rfl
  | some r =>
    have hl := sortL_len _ _ h2
    show (lvK D S t.kind t.name r).bind _ = evalP D S (told ++ r) ((false, a', t) :: l)
    rw [evalP]
    simp only [Bool.false_eq_true, if_false]
    rw [List.length_append, hl, Nat.add_sub_cancel, List.drop_left, List.take_left]
theorem okN_kids (A : Addr) (rest : List (Bool × Addr × Tm)) : ∀ (l : List Tm) (i m : Nat), okN (m + l.length) rest → okN m (kidsG A i l ++ rest)
  | [], i, m, h => h
  | t :: l, i, m, h => by
    show okN m ((true, A.add (i * 5), t) :: (kidsG A (i + 1) l ++ rest))
    rw [okN]
    simp only [if_true]
    exact okN_kids A rest l (i + 1) (m + 1) (by rw [show m + 1 + l.length = m + (t :: l).length by simp; omega]; exact h)
theorem okN_do (A a a' : Addr) (t : Tm) (l : List (Bool × Addr × Tm)) (m : Nat) (h : okN m ((true, a, t) :: l)) : okN m (kidsG A 0 t.kids ++ (false, a', t) :: l) := by
  rw [okN] at h
  simp only [if_true] at h
  refine okN_kids A _ _ 0 m ?_
  rw [okN]
  simp only [Bool.false_eq_true, if_false]
  exact ⟨by omega, by rw [Nat.add_sub_cancel]; exact h⟩
/-- How many turns are to come. -/
def stepsG : List (Bool × Addr × Tm) → Nat
  | [] => 0
  | p :: l => (if p.1 then 2 * (preT p.2.2).length else 1) + stepsG l
theorem stepsG_append : ∀ (a b : List (Bool × Addr × Tm)), stepsG (a ++ b) = stepsG a + stepsG b
  | [], b => by rw [List.nil_append]; exact (Nat.zero_add _).symm
  | x :: a, b => by
    show _ + stepsG (a ++ b) = (_ + stepsG a) + stepsG b
    rw [stepsG_append a b]; omega
theorem stepsG_kids (A : Addr) : ∀ (l : List Tm) (i : Nat), stepsG (kidsG A i l) = 2 * (preL l).length
  | [], _ => by rw [preL]; rfl
  | t :: l, i => by
    show (2 * (preT t).length) + stepsG (kidsG A (i + 1) l) = _
    rw [stepsG_kids A l (i + 1), preL, List.length_append]; omega
theorem stepsG_do (A a a' : Addr) (t : Tm) (l : List (Bool × Addr × Tm)) : stepsG (kidsG A 0 t.kids ++ (false, a', t) :: l) + 1 = stepsG ((true, a, t) :: l) := by
  rw [stepsG_append, stepsG_kids]
  show 2 * (preL t.kids).length + (1 + stepsG l) + 1 = 2 * (preT t).length + stepsG l
  rw [preT_eq]
  simp only [List.length_cons]
  omega
theorem stepsG_len : ∀ (l : List (Bool × Addr × Tm)), l.length ≤ stepsG l
  | [] => Nat.le_refl _
  | p :: l => by
    have := stepsG_len l
    show l.length + 1 ≤ (if p.1 then 2 * (preT p.2.2).length else 1) + stepsG l
    split
    · rw [preT_eq]; simp only [List.length_cons]; omega
    · omega
end Go.Proofs.YtlikpnaffpngiaaGreatDoor

namespace Go.Proofs.YtlikpnaffpngiaaGreatDoor
open Go.RowKit

/-- No part's number is too long. -/
def okD (t : Tm) : Prop := ∀ p ∈ preT t, p.ds.length ≤ 1000000
theorem okD.head {t : Tm} (h : okD t) : t.ds.length ≤ 1000000 := h t (by rw [preT_eq]; exact .head _)
theorem okD_preL : ∀ (l : List Tm), (∀ p ∈ preL l, p.ds.length ≤ 1000000) → ∀ t ∈ l, okD t
  | [], _, t, ht => nomatch ht
  | u :: l, h, t, ht => by
    rw [preL] at h
    rcases List.mem_cons.1 ht with rfl | ht
    · exact fun p hp => h p (List.mem_append_left _ hp)
    · exact okD_preL l (fun p hp => h p (List.mem_append_right _ hp)) t ht
theorem okD.kids {t : Tm} (h : okD t) : ∀ u ∈ t.kids, okD u := okD_preL _ fun p hp => h p (by rw [preT_eq]; exact .tail _ hp)
theorem preL_mem {u : Tm} : ∀ {l : List Tm}, u ∈ l → (preT u).length ≤ (preL l).length
  | [], h => nomatch h
  | a :: l, h => by
    rw [preL, List.length_append]
    rcases List.mem_cons.1 h with e | h
    · rw [e]; omega
    · have := preL_mem h; omega
theorem kids_le (t : Tm) : t.kids.length ≤ (preT t).length := by
  rw [preT_eq]
  have := preL_len t.kids
  simp only [List.length_cons]
  omega
theorem ent_kids {t : Tm} (h : entK t = true) : t.kind = 7 ∨ t.kind = 8 → t.kids ≠ [] := by
  intro h78 h0
  unfold entK at h
  rcases h78 with e | e <;> (rw [e] at h; simp [manyK, fitsN, h0] at h)
/-- All that stays while the gatherer runs. -/
structure GFix (w0 : World) (gs H B : Nat) (vD vS : Value) (D : List DtT) (S : List (ByteArray × ByteArray)) : Prop where
  gs0 : w0.heap.size ≤ gs
  gsH : gs < H
  HB : H + 5 ≤ B
  d : DatasV w0 vD D
  s : ScopeV w0 vS S
  few : DFew D
  fewS : S.length ≤ 1000000
/-- What holds with k turns at most to come. -/
structure GIn (w0 w1 : World) (gs H B : Nat) (vD vS : Value) (D : List DtT) (S : List (ByteArray × ByteArray)) (T0 : Tm) (M k : Nat) (v : Value) (n : Nat) (E : List Value) (W : World) (P : List (Bool × Addr × Tm)) (told : List ByteArray) (vt : Value) : Prop where
  len : n = P.length
  e : E = turnsG H P
  row : TRow W B v n E
  g : WK W gs v 107 [vt, vD, vS]
  tr : W.ownsRow B 9 1 vt told.length (told.map Value.string)
  ap : ∀ k, v.ownBlock = some k → vt.ownBlock ≠ some k
  at' : GAt W gs H
  low : Below w0.heap.size w0 W
  size : B ≤ W.heap.size
  ev : evalP D S told P = (sortT D S T0).map fun s => [s]
  ok : okN told.length P
  ps : ∀ p ∈ P, PtrTm w0 p.2.1 p.2.2 ∧ (p.1 = true → okD p.2.2 ∧ (preT p.2.2).length ≤ 1000000) ∧ (p.1 = false → entK p.2.2 = true)
  steps : stepsG P ≤ k
  most : told.length + k ≤ M
  kp : ∀ i, i < H → i ≠ gs → W.heap[i]? = w1.heap[i]?
theorem GIn.srt {w0 : World} {gs H B : Nat} {vD vS : Value} {D : List DtT} {S : List (ByteArray × ByteArray)} (hF : GFix w0 gs H B vD vS D S) {W : World} {v vt : Value} (hl : Below w0.heap.size w0 W) (hg : WK W gs v 107 [vt, vD, vS]) : SorterAt W gs D S := by
  unfold WK at hg
  refine ⟨⟨vD, by simp [World.cell?, hg], hF.d.sub (sub_below hl)⟩, ⟨vS, by simp [World.cell?, hg], hF.s.sub (sub_below hl)⟩, hF.few, hF.fewS⟩
/-- An error was thrown: there is no sort. -/
def GZ (w0 w1 : World) (gs H : Nat) (D : List DtT) (S : List (ByteArray × ByteArray)) (T0 : Tm) (m : Int) (w' : World) : Prop := m ≠ 0 ∧ sortT D S T0 = none ∧ Below w0.heap.size w0 w' ∧ ∀ i, i < H → i ≠ gs → w'.heap[i]? = w1.heap[i]?
theorem own_popped {g n cap : Nat} {k : Nat} (h : (Value.slice (some ⟨g, 0, none⟩) n cap).ownBlock = some k) : g = k := by
  injection h
theorem gather_runs {w0 w1 : World} {gs H B : Nat} {vD vS : Value} {D : List DtT} {S : List (ByteArray × ByteArray)} (hF : GFix w0 gs H B vD vS D S) (T0 : Tm) (M : Nat) (hM : M ≤ 1000000) :
    RunsT gs B 107 (fun k v n E W => ∃ P told vt, GIn w0 w1 gs H B vD vS D S T0 M k v n E W P told vt) (GZ w0 w1 gs H D S T0) where
  row := by
    rintro k v n E W ⟨P, told, vt, h⟩
    refine ⟨h.row, h.size, ⟨_, h.g⟩, ?_⟩
    have h1 := stepsG_len P
    have h2 := h.steps
    have h3 := h.most
    rw [h.len]
    omega
  step := by
    rintro k v n E W ⟨P, told, vt, h⟩
    cases P with
    | nil => exact absurd h.len (by simp)
    | cons p P =>
    obtain ⟨b, ad, t⟩ := p
    have hPn : n = P.length := by have := h.len; simp at this; omega
    obtain ⟨hp, hpd, hpt⟩ := h.ps (b, ad, t) (.head _)
    have hlow := hF.gs0
    have hgH := hF.gsH
    have hHB := hF.HB
    cases b with
    | true =>
      refine ⟨ad, 73, #[], #[.pointer (some ⟨H + 1, 0, none⟩), .pointer (some ⟨H, 0, none⟩), .pointer (some ⟨H + 3, 0, none⟩), .pointer (some ⟨H + 4, 0, none⟩)], turnsG H P, h.e, run_enters (by kernel_rfl), ?_⟩
      intro g cap x hv hx W' hr' hg' ht
      subst hv
      have hx' : x = [vt, vD, vS] := by
        have h1 := h.g
        unfold WK at h1 hx
        rw [h1] at hx
        simpa using hx.symm
      subst hx'
      have hb' : Below w0.heap.size w0 W' := ⟨ht.os.trans h.low.os, ht.tape.trans h.low.tape, ht.output.trans h.low.output, Nat.le_trans h.low.size ht.size, fun i hi => (ht.block i (by have := h.low.size; omega) (by omega) (by intro e; cases e)).trans (h.low.block i hi)⟩
      have hWs : W.heap.size ≤ W'.heap.size := ht.size
      have hBs := h.size
      have hG' : GAt W' gs H := h.at'.to fun i h1 h2 => ht.block i (by omega) (by omega) (by intro e; cases e)
      have htold : W'.ownsRow B 9 1 vt told.length (told.map Value.string) := own_keep h.tr fun i hi h1 h2 => ht.block i h2 (by omega) (by intro e; cases e)
      have hkp : ∀ i, i < H → i ≠ gs → W'.heap[i]? = w1.heap[i]? := fun i h1 h2 => (ht.block i (by omega) h2 (by intro e; cases e)).trans (h.kp i h1 h2)
      have hst : stepsG ((true, ad, t) :: P) ≤ k := h.steps
      have hst' : 2 * (preT t).length + stepsG P ≤ k := hst
      have hmo := h.most
      have hkl := kids_le t
      have hln := stepsG_len P
      refine (do_ok (t := t) (ad := ad) hb' hp (hpd rfl).1.head (by omega) hG' hlow hgH hHB (by omega) hr' hg' (by omega)).mono ?_
      rintro e w' (⟨m, rfl, hm, he, hb⟩ | ⟨⟨u, rfl⟩, he, K, c, v', hK, r1, r2, r3⟩)
      · refine .inl ⟨m, rfl, hm, ?_, hb'.trans (hb.mono hb'.size), fun i h1 h2 => (hb.block i (by omega)).trans (hkp i h1 h2)⟩
        have h1 := h.ev
        rw [evalP] at h1
        simp only [if_true] at h1
        rw [sortT_eq D S t, he] at h1
        cases h2 : sortT D S T0 with
        | none => rfl
        | some s => rw [h2] at h1; cases h1
      · obtain ⟨A, hA⟩ : ∃ A, rowTurns (doF H) K t.kids.length = turnsG H (kidsG A 0 t.kids) ∧ ∀ q ∈ kidsAt A 0 t.kids, PtrTm w0 q.1 q.2 := by
          obtain ⟨K1, c1, h1, -, h2⟩ := hp.kids
          rw [hK] at h1
          injection h1 with h1
          injection h1 with h1
          subst h1
          rcases h2 with ⟨h2, _⟩ | ⟨A, rfl, h2⟩
          · exact ⟨⟨0, 0, none⟩, by rw [h2]; rfl, by rw [h2]; intro q hq; cases hq⟩
          · exact ⟨A, turnsG_row H A t.kids, h2⟩
        have hE : turnsG H P ++ [.pointer (some ad), tellF H] ++ rowTurns (doF H) K t.kids.length = turnsG H (kidsG A 0 t.kids ++ (false, ad, t) :: P) := by
          rw [turnsG_append, hA.1]
          rfl
        refine .inr ⟨⟨u, rfl⟩, stepsG (kidsG A 0 t.kids ++ (false, ad, t) :: P), v', n + 1 + t.kids.length, turnsG H (kidsG A 0 t.kids ++ (false, ad, t) :: P), ?_, kidsG A 0 t.kids ++ (false, ad, t) :: P, told, vt, ?_⟩
        · have := stepsG_do A ad ad t P
          omega
        · rw [hE] at r1
          have hne : ∀ i, vt.ownBlock = some i → g ≠ i := fun i hi e => h.ap g rfl (by rw [e]; exact hi)
          refine ⟨?_, rfl, r1, r2, own_keep htold fun i hi h1 h2 => r3.block i h2 (by omega) fun e => hne i hi (own_popped e), ?_, hG'.turned r3 hr' hgH hHB (by omega), turned_below hb' r3 hr' hlow (by omega) (by omega), Nat.le_trans (by omega) r3.size, ?_, okN_do A ad ad t P _ h.ok, ?_, Nat.le_refl _, ?_, fun i h1 h2 => (r3.block i (by omega) h2 fun e => by have := (World.ownsRow.lt hr' i e).1; omega).trans (hkp i h1 h2)⟩
          · rw [List.length_append, kidsG, List.length_map]
            have : (kidsAt A 0 t.kids).length = t.kids.length := by
              have := congrArg List.length (kidsAt_snd A 0 t.kids)
              simpa using this
            rw [this]
            simp only [List.length_cons]
            omega
          · intro i hi
            rcases r3.own i hi with e | e
            · exact h.ap i (by rw [← own_popped e]; rfl)
            · intro e2
              have := (World.ownsRow.lt htold i e2).2
              omega
          · rw [← evalP_do A ad ad t P told he]
            exact h.ev
          · intro q hq
            rcases List.mem_append.1 hq with hq | hq
            · obtain ⟨q', hq', rfl⟩ := List.mem_map.1 hq
              refine ⟨hA.2 q' hq', fun _ => ?_, fun h => by cases h⟩
              have hm : q'.2 ∈ t.kids := by
                rw [← kidsAt_snd A 0 t.kids]
                exact List.mem_map_of_mem hq'
              refine ⟨(hpd rfl).1.kids _ hm, ?_⟩
              have := (hpd rfl).2
              have h2 := preL_mem hm
              have h3 : (preT t).length ≤ 1000000 := this
              rw [preT_eq] at h3
              simp only [List.length_cons] at h3
              show (preT q'.2).length ≤ 1000000
              omega
            · rcases List.mem_cons.1 hq with rfl | hq
              · exact ⟨hp, (fun h => by cases h), fun _ => he⟩
              · exact h.ps q (.tail _ hq)
          · have := stepsG_do A ad ad t P
            omega
    | false =>
      refine ⟨ad, 72, #[], #[.pointer (some ⟨H, 0, none⟩), .pointer (some ⟨H + 2, 0, none⟩)], turnsG H P, h.e, run_enters (by kernel_rfl), ?_⟩
      intro g cap x hv hx W' hr' hg' ht
      subst hv
      have hx' : x = [vt, vD, vS] := by
        have h1 := h.g
        unfold WK at h1 hx
        rw [h1] at hx
        simpa using hx.symm
      subst hx'
      have hb' : Below w0.heap.size w0 W' := ⟨ht.os.trans h.low.os, ht.tape.trans h.low.tape, ht.output.trans h.low.output, Nat.le_trans h.low.size ht.size, fun i hi => (ht.block i (by have := h.low.size; omega) (by omega) (by intro e; cases e)).trans (h.low.block i hi)⟩
      have hWs : W.heap.size ≤ W'.heap.size := ht.size
      have hBs := h.size
      have hG' : GAt W' gs H := h.at'.to fun i h1 h2 => ht.block i (by omega) (by omega) (by intro e; cases e)
      have htold : W'.ownsRow B 9 1 vt told.length (told.map Value.string) := own_keep h.tr fun i hi h1 h2 => ht.block i h2 (by omega) (by intro e; cases e)
      have hkp : ∀ i, i < H → i ≠ gs → W'.heap[i]? = w1.heap[i]? := fun i h1 h2 => (ht.block i (by omega) h2 (by intro e; cases e)).trans (h.kp i h1 h2)
      have hst : 1 + stepsG P ≤ k := h.steps
      have hmo := h.most
      have hok := h.ok
      rw [okN] at hok
      simp only [Bool.false_eq_true, if_false] at hok
      have he : entK t = true := hpt rfl
      have hgB : g < W'.heap.size := by
        have := (World.ownsRow.lt h.row g rfl).2
        omega
      have hgB' : B ≤ g := (World.ownsRow.lt h.row g rfl).1
      refine (tell_ok (ad := ad) (t := t) (D := D) (S := S) ⟨hg', hG'.b0, hG'.b2, htold, GIn.srt hF hb' hg', ⟨by omega, by omega⟩, ⟨by omega, by omega, by omega⟩, by omega⟩ (hp.bel hb') hok.1 (by omega) (ent_kids he)).mono ?_
      rintro e w' (⟨m, rfl, hm, he, hb⟩ | ⟨⟨u, rfl⟩, s, vt', hs, ho⟩)
      · refine .inl ⟨m, rfl, hm, ?_, hb'.trans (hb.mono hb'.size), fun i h1 h2 => (hb.block i (by omega)).trans (hkp i h1 h2)⟩
        have h1 := h.ev
        rw [evalP] at h1
        simp only [Bool.false_eq_true, if_false] at h1
        rw [he] at h1
        cases h2 : sortT D S T0 with
        | none => rfl
        | some s => rw [h2] at h1; cases h1
      · have htl : (told.take (told.length - t.kids.length)).length = told.length - t.kids.length := by rw [List.length_take]; omega
        have hvt : ∀ i, vt.ownBlock = some i → B ≤ i ∧ i < W'.heap.size := fun i hi => World.ownsRow.lt htold i hi
        refine .inr ⟨⟨u, rfl⟩, stepsG P, .slice (some ⟨g, 0, none⟩) n cap, n, turnsG H P, by omega, P, told.take (told.length - t.kids.length) ++ [s], vt', ?_⟩
        refine ⟨hPn, rfl, own_keep hr' fun i hi h1 h2 => ho.turned.block i h2 (by omega) fun e => h.ap g rfl (by rw [own_popped hi]; exact e), ho.g, ho.row, ?_, ?_, ?_, Nat.le_trans (by omega) ho.turned.size, ?_, ?_, fun q hq => h.ps q (.tail _ hq), Nat.le_refl _, ?_, fun i h1 h2 => (ho.turned.block i (by omega) h2 fun e => by have := (hvt i e).1; omega).trans (hkp i h1 h2)⟩
        · intro i hi e2
          have hgi := own_popped hi
          rcases ho.turned.own i e2 with e | e
          · exact h.ap g rfl (by rw [hgi]; exact e)
          · omega
        · exact hG'.to fun i h1 h2 => ho.turned.block i (by omega) (by omega) fun e => by have := (hvt i e).1; omega
        · exact ⟨ho.turned.os.trans hb'.os, ho.turned.tape.trans hb'.tape, ho.turned.output.trans hb'.output, Nat.le_trans hb'.size ho.turned.size, fun i hi => (ho.turned.block i (by have := hb'.size; omega) (by omega) fun e => by have := (hvt i e).1; omega).trans (hb'.block i hi)⟩
        · have h1 := h.ev
          rw [evalP] at h1
          simp only [Bool.false_eq_true, if_false] at h1
          rw [hs] at h1
          exact h1
        · rw [List.length_append, htl]
          exact hok.2
        · rw [List.length_append, htl]
          simp only [List.length_cons, List.length_nil]
          omega
end Go.Proofs.YtlikpnaffpngiaaGreatDoor

namespace Go.Proofs.YtlikpnaffpngiaaGreatDoor
open Go.RowKit

theorem five_alloc (w : World) (o0 o1 o2 o3 o4 : Obj) : (((((w.alloc o0).alloc o1).alloc o2).alloc o3).alloc o4).heap[w.heap.size]? = some o0 ∧ (((((w.alloc o0).alloc o1).alloc o2).alloc o3).alloc o4).heap[w.heap.size + 1]? = some o1 ∧ (((((w.alloc o0).alloc o1).alloc o2).alloc o3).alloc o4).heap[w.heap.size + 2]? = some o2 ∧ (((((w.alloc o0).alloc o1).alloc o2).alloc o3).alloc o4).heap[w.heap.size + 3]? = some o3 ∧ (((((w.alloc o0).alloc o1).alloc o2).alloc o3).alloc o4).heap[w.heap.size + 4]? = some o4 ∧ (((((w.alloc o0).alloc o1).alloc o2).alloc o3).alloc o4).heap.size = w.heap.size + 5 ∧ Below w.heap.size w (((((w.alloc o0).alloc o1).alloc o2).alloc o3).alloc o4) := by
  obtain ⟨a0, a1, a2, a3, a4⟩ := three_alloc w o0 o1 o2
  generalize ((w.alloc o0).alloc o1).alloc o2 = v at *
  have s1 : (v.alloc o3).heap.size = w.heap.size + 4 := by rw [World.size_alloc, a3]
  have b3 : (v.alloc o3).heap[w.heap.size + 3]? = some o3 := by rw [← a3]; exact heap_alloc_new v _
  have b4 : ((v.alloc o3).alloc o4).heap[w.heap.size + 4]? = some o4 := by rw [← s1]; exact heap_alloc_new _ _
  have kp : ∀ k, k < w.heap.size + 3 → ((v.alloc o3).alloc o4).heap[k]? = v.heap[k]? := fun k hk => (Below.heap_alloc _ _ _ (by omega)).trans (Below.heap_alloc _ _ _ (by omega))
  refine ⟨(kp _ (by omega)).trans a0, (kp _ (by omega)).trans a1, (kp _ (by omega)).trans a2, (Below.heap_alloc _ _ _ (by omega)).trans b3, b4, by rw [World.size_alloc, s1], (a4.alloc (by omega) _).alloc (by omega) _⟩
/-- The boxes are laid. -/
def gatW (w : World) (gs : Nat) : World := ((((w.alloc (.cells #[.pointer (some ⟨gs, 0, none⟩)] 134)).alloc (.cells #[.func (.func 62) #[] #[] ] 97)).alloc (.cells #[.func (.func 63) #[.pointer (some ⟨gs, 0, none⟩)] #[] ] 119)).alloc (.cells #[tellF w.heap.size] 97)).alloc (.cells #[doF w.heap.size] 97)
theorem gatW_at (w : World) (gs : Nat) : GAt (gatW w gs) gs w.heap.size ∧ (gatW w gs).heap.size = w.heap.size + 5 ∧ Below w.heap.size w (gatW w gs) := by
  obtain ⟨a0, a1, a2, a3, a4, a5, a6⟩ := five_alloc w (.cells #[.pointer (some ⟨gs, 0, none⟩)] 134) (.cells #[.func (.func 62) #[] #[] ] 97) (.cells #[.func (.func 63) #[.pointer (some ⟨gs, 0, none⟩)] #[] ] 119) (.cells #[tellF w.heap.size] 97) (.cells #[doF w.heap.size] 97)
  exact ⟨⟨a0, a1, a2, a3, a4⟩, a5, a6⟩
/-- What the gatherer tells, or the error that it throws. -/
def GatRet (w0 W : World) (gs : Nat) (D : List DtT) (S : List (ByteArray × ByteArray)) (t : Tm) (e : Ending) (w' : World) : Prop := Thrown (GZ w0 W gs W.heap.size D S t) e w' ∨ ∃ s, sortT D S t = some s ∧ e = .returned (.string s) ∧ Below w0.heap.size w0 w' ∧ ∀ i, i < W.heap.size → i ≠ gs → w'.heap[i]? = W.heap[i]?
set_option maxRecDepth 100000 in
set_option maxHeartbeats 6400000 in
theorem gather_ok {w0 w : World} {gs : Nat} {ad : Addr} {t : Tm} {vD vS : Value} {D : List DtT} {S : List (ByteArray × ByteArray)} (hg : WK w gs (.slice none 0 0) 107 [.slice none 0 0, vD, vS]) (hb : Below w0.heap.size w0 w) (hgs : w0.heap.size ≤ gs) (hDv : DatasV w0 vD D) (hSv : ScopeV w0 vS S) (hfew : DFew D) (hfewS : S.length ≤ 1000000) (hp : PtrTm w0 ad t) (hd : okD t) (hsz : 2 * (preT t).length ≤ 1000000) :
    Calls Tryz.prog 61 #[.pointer (some ⟨gs, 0, none⟩), .pointer (some ad), .func (.func 62) #[] #[], .func (.func 63) #[.pointer (some ⟨gs, 0, none⟩)] #[] ] w fun e w' => GatRet w0 w gs D S t e w' := by
  have HF := Lib.hid (show GFix w0 gs w.heap.size (w.heap.size + 5) vD vS D S from ⟨hgs, hg.lt, Nat.le_refl _, hDv, hSv, hfew, hfewS⟩)
  have HH := Lib.hid (show _ ∧ _ ∧ _ ∧ _ ∧ _ from ⟨hg, hb, hp, hd, hsz⟩)
  clear hg hb hgs hDv hSv hfew hfewS hp hd hsz
  go_enter Tryz.func61, Tryz.ntmps61
  go_wp2_with fail
  change Code.wp _ _ _ _ (gatW w gs)
  obtain ⟨hG5, hs5, hb5⟩ := gatW_at w gs
  obtain ⟨w5, hw5⟩ : ∃ w5, w5 = gatW w gs := ⟨_, rfl⟩
  rw [← hw5] at hG5 hs5 hb5 ⊢
  clear hw5
  obtain ⟨hg, hb, hp, hd, hsz⟩ := HH.out
  have d0 : w5.cell? ⟨w.heap.size, 0, none⟩ = some (.pointer (some ⟨gs, 0, none⟩)) := cell_one0 hG5.b0
  have d4 : w5.cell? ⟨w.heap.size + 1 + 1 + 1 + 1, 0, none⟩ = some (doF w.heap.size) := cell_one0 hG5.b4
  have hg5 : WK w5 gs (.slice none 0 0) 107 [.slice none 0 0, vD, vS] := hg.to (hb5.block gs hg.lt)
  have HX := Lib.hid (next_any (w := w5.drew) (p := ad) (F := 73) (fs := #[]) (cs := #[.pointer (some ⟨w.heap.size + 1, 0, none⟩), .pointer (some ⟨w.heap.size, 0, none⟩), .pointer (some ⟨w.heap.size + 3, 0, none⟩), .pointer (some ⟨w.heap.size + 4, 0, none⟩)]) (show TRow w5.drew (w.heap.size + 5) (.slice none 0 0) 0 [] from TRow.nil _ _) (show WK w5.drew gs (.slice none 0 0) 107 [.slice none 0 0, vD, vS] from hg5) (by have := hg.lt; omega) (show w.heap.size + 5 ≤ w5.heap.size from by omega) (by decide))
  have H5 := Lib.hid (show _ ∧ _ ∧ _ ∧ _ from ⟨hG5, hs5, hb5, hg5⟩)
  clear hG5 hs5 hb5 hg5 hg hb hp hd hsz
  go_region_with (go_at_call 64; refine HX.out.mono ?_; rintro e w6 ⟨⟨u, rfl⟩, HE⟩; have HX' := Lib.hid HE; clear HE)
  all_goals
    obtain ⟨v', r1, r2, r3⟩ := HX'.out
    obtain ⟨hG5, hs5, hb5, hg5⟩ := H5.out
    obtain ⟨hg, hb, hp, hd, hsz⟩ := HH.out
    have hgl := hg.lt
    have h6 := undrawn r3
    have hG6 : GAt w6 gs w.heap.size := hG5.turned h6 (TRow.nil w5 (w.heap.size + 5)) hgl (Nat.le_refl _) (by omega)
    have hb05 : Below w0.heap.size w0 w5 := hb.trans (hb5.mono hb.size)
    have hIn : GIn w0 w gs w.heap.size (w.heap.size + 5) vD vS D S t (2 * (preT t).length) (2 * (preT t).length) v' 1 _ w6 [(true, ad, t)] [] (.slice none 0 0) :=
      ⟨rfl, rfl, r1, r2, World.ownsRow_nil _ _ _ _, fun k _ e => (by cases e), hG6, turned_below hb05 h6 (TRow.nil w5 (w.heap.size + 5)) HF.out.gs0 (by omega) (by omega), Nat.le_trans (by omega) h6.size, (by
        rw [evalP]
        simp only [if_true]
        cases sortT D S t <;> rfl), trivial, (fun q hq => by
        rcases List.mem_cons.1 hq with rfl | hq
        · exact ⟨hp, fun _ => ⟨hd, (by show (preT t).length ≤ 1000000; omega)⟩, fun h => by cases h⟩
        · cases hq), Nat.le_of_eq rfl, (by simp), fun i h1 h2 => (h6.block i (by omega) h2 (by intro e; cases e)).trans (hb5.block i h1)⟩
    have HR := Lib.hid (run_anyT (gather_runs (w1 := w) HF.out t (2 * (preT t).length) hsz) (by omega) ⟨_, _, _, hIn⟩)
    have g0 : w6.cell? ⟨w.heap.size, 0, none⟩ = some (.pointer (some ⟨gs, 0, none⟩)) := cell_one0 hG6.b0
    clear r1 r2 r3 hG5 hs5 hb5 hg5 hg hb hp hd hsz hgl h6 hG6 hb05 hIn d0 d4 HX HX'
    go_wp2_with fail
    refine HR.out.mono ?_
    rintro e w7 (⟨m, rfl, hz⟩ | ⟨⟨u7, rfl⟩, k7, v7, P7, told7, vt7, h7⟩)
    · have HZ := Lib.hid hz
      clear hz HR
      go_wp2
      exact ⟨rfl, .inl ⟨m, rfl, HZ.out⟩⟩
  all_goals
    have hP7 : P7 = [] := List.length_eq_zero_iff.1 h7.len.symm
    subst hP7
    have hev := h7.ev
    rw [evalP] at hev
    obtain ⟨s, hs, ht7⟩ : ∃ s, sortT D S t = some s ∧ told7 = [s] := by
      cases h2 : sortT D S t with
      | none => rw [h2] at hev; cases hev
      | some s => rw [h2] at hev; injection hev with hev; exact ⟨s, rfl, hev⟩
    subst ht7
    obtain ⟨g7, c7, hv7, hc7⟩ : ∃ g7 c7, vt7 = .slice (some ⟨g7, 0, none⟩) 1 c7 ∧ w7.cell? ⟨g7, 0, none⟩ = some (.string s) := by
      rcases h7.tr.2 with ⟨_, h0⟩ | ⟨g7, cap, cur, e, _⟩
      · exact absurd h0 (by simp)
      · refine ⟨g7, cap, e, ?_⟩
        have h8 := h7.tr
        rw [e] at h8
        exact World.ownsRow.cellAt h8 0 (by simp)
    subst hv7
    have k0 : w7.cell? ⟨w.heap.size, 0, none⟩ = some (.pointer (some ⟨gs, 0, none⟩)) := cell_one0 h7.at'.b0
    have k1 : w7.cell? ⟨gs, 1, none⟩ = some (.slice (some ⟨g7, 0, none⟩) 1 c7) := by
      have := h7.g
      unfold WK at this
      simp [World.cell?, this]
    have HE := Lib.hid (show _ ∧ _ ∧ _ from ⟨hs, h7.low, h7.kp⟩)
    clear hs h7 hev HR
    go_wp2
    go_returns
    exact .inr ⟨s, HE.out.1, rfl, HE.out.2.1, HE.out.2.2⟩
set_option maxRecDepth 100000 in
set_option maxHeartbeats 3200000 in
theorem sof_ok {w0 w : World} {gs : Nat} {ad : Addr} {t : Tm} {vD vS : Value} {D : List DtT} {S : List (ByteArray × ByteArray)} (hg : WK w gs (.slice none 0 0) 107 [.slice none 0 0, vD, vS]) (hb : Below w0.heap.size w0 w) (hgs : w0.heap.size ≤ gs) (hDv : DatasV w0 vD D) (hSv : ScopeV w0 vS S) (hfew : DFew D) (hfewS : S.length ≤ 1000000) (hp : PtrTm w0 ad t) (hd : okD t) (hsz : 2 * (preT t).length ≤ 1000000) :
    Calls Tryz.prog 50 #[.pointer (some ⟨gs, 0, none⟩), .pointer (some ad)] w fun e w' => GatRet w0 w gs D S t e w' := by
  have hmf : ∀ (fn : Fn) (first cap : Array Value) (w : World), (Instr.makeFunc fn first cap).run Tryz.prog w = .ok (.func fn first cap) w := fun _ _ _ _ => rfl
  have HC := Lib.hid (gather_ok hg hb hgs hDv hSv hfew hfewS hp hd hsz)
  clear hg hb hgs hDv hSv hfew hfewS hp hd hsz
  go_enter Tryz.func50, Tryz.ntmps50
  go_wp2_with fail
  refine HC.out.mono ?_
  rintro e w1 (⟨m, rfl, hz⟩ | ⟨s, hs, rfl, hk⟩)
  · have HZ := Lib.hid hz
    clear hz HC
    go_wp2
    exact ⟨rfl, .inl ⟨m, rfl, HZ.out⟩⟩
  · have HZ := Lib.hid (show _ ∧ _ from ⟨hs, hk⟩)
    clear hs hk HC
    go_wp2
    go_returns
    exact .inr ⟨s, HZ.out.1, rfl, HZ.out.2⟩
set_option maxRecDepth 100000 in
set_option maxHeartbeats 3200000 in
/-- What Sort's closure does: the sort is laid into its box. -/
theorem sort1_ok {w0 w : World} {gs bs : Nat} {ad : Addr} {t : Tm} {vD vS : Value} {D : List DtT} {S : List (ByteArray × ByteArray)} (hg : WK w gs (.slice none 0 0) 107 [.slice none 0 0, vD, vS]) (hb : Below w0.heap.size w0 w) (hgs : w0.heap.size ≤ gs) (hDv : DatasV w0 vD D) (hSv : ScopeV w0 vS S) (hfew : DFew D) (hfewS : S.length ≤ 1000000) (hp : PtrTm w0 ad t) (hd : okD t) (hsz : 2 * (preT t).length ≤ 1000000) (hbs : w.heap[bs]? = some (.cells #[.string ⟨#[]⟩] 9 (0, 0))) (hne : bs ≠ gs) (hlo : w0.heap.size ≤ bs) :
    Calls Tryz.prog 49 #[.pointer (some ⟨gs, 0, none⟩), .pointer (some ad), .pointer (some ⟨bs, 0, none⟩)] w fun e w' => Thrown (GZ w0 w gs w.heap.size D S t) e w' ∨ ((∃ u, e = .returned u) ∧ ∃ s, sortT D S t = some s ∧ Below w0.heap.size w0 w' ∧ (∀ i, i < w.heap.size → i ≠ gs → i ≠ bs → w'.heap[i]? = w.heap[i]?) ∧ w'.heap[bs]? = some (.cells #[.string s] 9 (0, 0))) := by
  have HC := Lib.hid (sof_ok hg hb hgs hDv hSv hfew hfewS hp hd hsz)
  have HH := Lib.hid (show _ ∧ _ ∧ _ from ⟨hbs, hne, hlo⟩)
  clear hg hb hgs hDv hSv hfew hfewS hp hd hsz hbs hne hlo
  go_enter Tryz.func49, Tryz.ntmps49
  go_wp2_with fail
  refine HC.out.mono ?_
  rintro e w1 (⟨m, rfl, hz⟩ | ⟨s, hs, rfl, hk1, hk2⟩)
  · have HZ := Lib.hid hz
    clear hz HC
    go_wp2
    exact ⟨rfl, .inl ⟨m, rfl, HZ.out⟩⟩
  · have hbl : bs < w.heap.size := cell_lt (cell_one0 HH.out.1)
    have hb1 : w1.heap[bs]? = some (.cells #[.string ⟨#[]⟩] 9 (0, 0)) := (hk2 bs hbl HH.out.2.1).trans HH.out.1
    have m0 : w1.cell? ⟨bs, 0, none⟩ = some (.string ⟨#[]⟩) := cell_one0 hb1
    have f0 : w1.frozen? ⟨bs, 0, none⟩ = false := by simp [World.frozen?, hb1]
    have hlo := HH.out.2.2
    have HZ := Lib.hid (show (∃ s', sortT D S t = some s' ∧ Below w0.heap.size w0 (w1.setCell ⟨bs, 0, none⟩ (.string s)) ∧ (∀ i, i < w.heap.size → i ≠ gs → i ≠ bs → (w1.setCell ⟨bs, 0, none⟩ (.string s)).heap[i]? = w.heap[i]?) ∧ (w1.setCell ⟨bs, 0, none⟩ (.string s)).heap[bs]? = some (.cells #[.string s'] 9 (0, 0))) from
      ⟨s, hs, hk1.setCell hlo _, fun i h1 h2 h3 => (Below.heap_setCell _ _ _ _ h3).trans (hk2 i h1 h2), one_set hb1⟩)
    clear hs hk1 hk2 HC hb1
    go_wp2
    go_returns
    exact .inr ⟨⟨_, rfl⟩, HZ.out⟩
end Go.Proofs.YtlikpnaffpngiaaGreatDoor

namespace Go.Proofs.YtlikpnaffpngiaaGreatDoor
open Go.RowKit

/-- What Sort tells: the sort and no error; no sort and an error. -/
def SortEnd (o : Option ByteArray) (e : Ending) : Prop := (∃ s, o = some s ∧ e = .returned (.tuple #[.string s, .int .i64 0])) ∨ (o = none ∧ ∃ m : Int, m ≠ 0 ∧ e = .returned (.tuple #[.string ⟨#[]⟩, .int .i64 m]))
set_option maxRecDepth 100000 in
set_option maxHeartbeats 3200000 in
theorem sort_ok {w : World} {u0 u1 u2 u3 u4 vD vS : Value} {t : Tm} {D : List DtT} {S : List (ByteArray × ByteArray)} (hDv : DatasV w vD D) (hSv : ScopeV w vS S) (hfew : DFew D) (hfewS : S.length ≤ 1000000) (ht : TmV w (.agg #[u0, u1, u2, u3, u4]) t) (hd : okD t) (hsz : 2 * (preT t).length ≤ 1000000) :
    Calls Tryz.prog 41 #[vD, vS, .agg #[u0, u1, u2, u3, u4]] w fun e w' => SortEnd (sortT D S t) e ∧ Below w.heap.size w w' := by
  have hmf : ∀ (fn : Fn) (first cap : Array Value) (w : World), (Instr.makeFunc fn first cap).run Tryz.prog w = .ok (.func fn first cap) w := fun _ _ _ _ => rfl
  obtain ⟨AD, cD, rfl⟩ : ∃ A c, vD = .slice A D.length c := by obtain ⟨A, c, e, _⟩ := hDv; exact ⟨A, c, e⟩
  obtain ⟨AS, cS, rfl⟩ : ∃ A c, vS = .slice A S.length c := by obtain ⟨A, c, e, _⟩ := hSv; exact ⟨A, c, e⟩
  have HH := Lib.hid (show _ ∧ _ ∧ _ ∧ _ ∧ _ ∧ _ ∧ _ from ⟨hDv, hSv, hfew, hfewS, ht, hd, hsz⟩)
  clear hDv hSv hfew hfewS ht hd hsz
  go_enter Tryz.func41, Tryz.ntmps41
  go_wp2_with fail
  obtain ⟨hDv, hSv, hfew, hfewS, ht, hd, hsz⟩ := HH.out
  obtain ⟨f0, f1, f2, fs, fb⟩ := three_alloc w (.cells #[u0, u1, u2, u3, u4] 28) (.cells #[.slice none 0 0, .slice none 0 0, .slice AD D.length cD, .slice AS S.length cS] 107) (.cells #[.string ⟨#[]⟩] 9)
  obtain ⟨w0, hw0⟩ : ∃ w0, w0 = w.alloc (.cells #[u0, u1, u2, u3, u4] 28) := ⟨_, rfl⟩
  obtain ⟨wS, hwS⟩ : ∃ wS, wS = ((w.alloc (.cells #[u0, u1, u2, u3, u4] 28)).alloc (.cells #[.slice none 0 0, .slice none 0 0, .slice AD D.length cD, .slice AS S.length cS] 107)).alloc (.cells #[.string ⟨#[]⟩] 9) := ⟨_, rfl⟩
  have s0 : w0.heap.size = w.heap.size + 1 := by rw [hw0]; exact World.size_alloc ..
  have b0 : Below w.heap.size w w0 := by rw [hw0]; exact (Below.refl _ _).alloc (Nat.le_refl _) _
  have b0S : Below w0.heap.size w0 wS := by rw [hwS, ← hw0]; exact ((Below.refl _ _).alloc (Nat.le_refl _) _).alloc (by rw [World.size_alloc]; omega) _
  rw [← hwS] at f0 f1 f2 fs fb ⊢
  obtain ⟨wA, hwA⟩ : ∃ wA, wA = wS.alloc (.cells #[.int .i64 0] 32) := ⟨_, rfl⟩
  have eA : wA.heap[wS.heap.size]? = some (.cells #[.int .i64 0] 32 (0, 0)) := by rw [hwA]; exact heap_alloc_new _ _
  have sA : wA.heap.size = w.heap.size + 4 := by rw [hwA, World.size_alloc, fs]
  have kA : ∀ k, k < wS.heap.size → wA.heap[k]? = wS.heap[k]? := fun k hk => by rw [hwA]; exact Below.heap_alloc _ _ _ hk
  have b0A : Below w0.heap.size w0 wA := by rw [hwA]; exact b0S.alloc (by omega) _
  have f2A : wA.heap[w.heap.size + 2]? = some (.cells #[.string ⟨#[]⟩] 9 (0, 0)) := (kA _ (by omega)).trans f2
  have hp : PtrTm w0 ⟨w.heap.size, 0, none⟩ t := by
    have hz : w0.heap[w.heap.size]? = some (.cells #[u0, u1, u2, u3, u4] 28 (0, 0)) := by rw [hw0]; exact heap_alloc_new _ _
    refine ⟨u0, u1, u2, u3, u4, ⟨cell_blk hz, ?_, ?_, ?_, ?_⟩, ht.bel b0⟩
    all_goals rw [add_eq]
    · exact cell_blk hz
    · exact cell_blk hz
    · exact cell_blk hz
    · exact cell_blk hz
  have hS1 := sort1_ok (w0 := w0) (w := wA) (gs := w.heap.size + 1) (bs := w.heap.size + 2) (ad := ⟨w.heap.size, 0, none⟩) (t := t) (D := D) (S := S) ((kA _ (by omega)).trans f1) b0A (by omega) (hDv.sub (sub_below b0)) (hSv.sub (sub_below b0)) hfew hfewS hp hd hsz f2A (by omega) (by omega)
  have HC := Lib.hid (stopped_any (w := wS) (F := 49) (fs := #[]) (cs := #[.pointer (some ⟨w.heap.size + 1, 0, none⟩), .pointer (some ⟨w.heap.size, 0, none⟩), .pointer (some ⟨w.heap.size + 1 + 1, 0, none⟩)]) (Z := GZ w0 wA (w.heap.size + 1) wA.heap.size D S t) (run_enters (by kernel_rfl)) (by rw [← hwA]; exact hS1) (fun w' hP => by
    rcases hP with ⟨s, _, _, hP, _⟩ | ⟨n, _, _, _, hP⟩
    · exact (hP _ (by omega) (by omega) (by omega)).trans eA
    · exact (hP _ (by omega) (by omega)).trans eA))
  have HA := Lib.hid (show _ ∧ _ ∧ _ ∧ _ ∧ _ from ⟨s0, b0, sA, fs, f2A⟩)
  clear hDv hSv hfew hfewS ht hd hsz f0 f1 f2 fs fb s0 b0 b0S eA sA kA b0A f2A hp hS1 hwA hwS hw0 HH
  refine HC.out.mono ?_
  rintro e w5 hcase
  have hgen : ∃ (n : Int) (s : ByteArray), e = .returned (.int .i64 n) ∧ w5.cell? ⟨w.heap.size + 1 + 1, 0, none⟩ = some (.string s) ∧ Below w.heap.size w w5 ∧ ((sortT D S t = some s ∧ n = 0) ∨ (sortT D S t = none ∧ n ≠ 0 ∧ s = ⟨#[]⟩)) := by
    obtain ⟨s0, b0, sA, fs, f2A⟩ := HA.out
    have hbel : ∀ {w2 : World} {u : Value}, Below w0.heap.size w0 w2 → Below w.heap.size w (w2.setCell ⟨wS.heap.size, 0, none⟩ u) := fun h => (b0.trans (h.mono (by omega))).setCell (by show w.heap.size ≤ wS.heap.size; omega) _
    rcases hcase with ⟨n, w2, ⟨hn, hno, hb2, hkp⟩, rfl, rfl⟩ | ⟨rfl, w2, ⟨s, hs, hb2, hkp, hbs⟩, rfl⟩
    · refine ⟨n, ⟨#[]⟩, rfl, ?_, hbel hb2, .inr ⟨hno, hn, rfl⟩⟩
      have h9 : (w2.setCell ⟨wS.heap.size, 0, none⟩ (.int .i64 n)).heap[w.heap.size + 2]? = some (.cells #[.string ⟨#[]⟩] 9 (0, 0)) := (Below.heap_setCell _ _ _ _ (by show w.heap.size + 2 ≠ wS.heap.size; omega)).trans ((hkp _ (by omega) (by omega)).trans f2A)
      exact cell_one0 h9
    · refine ⟨0, s, rfl, ?_, hbel hb2, .inl ⟨hs, rfl⟩⟩
      have h9 : (w2.setCell ⟨wS.heap.size, 0, none⟩ (.int .i64 0)).heap[w.heap.size + 2]? = some (.cells #[.string s] 9 (0, 0)) := (Below.heap_setCell _ _ _ _ (by show w.heap.size + 2 ≠ wS.heap.size; omega)).trans hbs
      exact cell_one0 h9
  obtain ⟨n, s, rfl, m0, hb5, hres⟩ := hgen
  have HE := Lib.hid (show SortEnd (sortT D S t) (.returned (.tuple #[.string s, .int .i64 n])) ∧ Below w.heap.size w w5 from by
    refine ⟨?_, hb5⟩
    rcases hres with ⟨h1, rfl⟩ | ⟨h1, h2, rfl⟩
    · exact .inl ⟨s, h1, rfl⟩
    · exact .inr ⟨h1, n, h2, rfl⟩)
  clear hcase hb5 hres HC HA
  go_wp2
  go_returns
  exact HE.out
end Go.Proofs.YtlikpnaffpngiaaGreatDoor

namespace Go.Proofs.YtlikpnaffpngiaaGreatDoor
open Go.RowKit

/-- A name alone. -/
def varT (x : ByteArray) : Tm := .mk 1 x false [] []
theorem sort_var (D : List DtT) (S : List (ByteArray × ByteArray)) (x : ByteArray) : sortT D S (varT x) = varK D S x := by
  unfold varT
  rw [sortT, sortL]
  have he : entK (.mk 1 x false [] []) = true := by
    unfold entK
    simp [manyK, fitsN, Tm.kind, Tm.kids]
  rw [if_pos he]
  show lvK D S 1 x [] = _
  unfold lvK
  rw [if_pos rfl]
end Go.Proofs.YtlikpnaffpngiaaGreatDoor

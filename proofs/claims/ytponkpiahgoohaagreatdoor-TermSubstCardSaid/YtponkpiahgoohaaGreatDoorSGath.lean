/- Package term's gatherer: what is ahead of it, and what will be told: plain lists. No condition. Package term's gatherer: all turns, one after the other: the sort of a term. Condition: of sizes. -/
import Derived.Test.YtponkpiahgoohaaGreatDoorSTellN
set_option linter.unusedVariables false
set_option linter.unusedSimpArgs false
namespace Go.Proofs.YtponkpiahgoohaaGreatDoor
open Go.RowKit

/-- What is ahead, the next one first: a part's turn ahead of its kids (true), or behind them. -/
def turnsG (H : Nat) : List (Bool × Addr × Tm) → List Value
  | [] => []
  | p :: l => turnsG H l ++ [.pointer (some p.2.1), if p.1 then doF H else tellF H]
def kidsG (A : Addr) (i : Nat) (l : List Tm) : List (Bool × Addr × Tm) := (kidsAt A i l).map fun q => (true, q.1, q.2)
theorem turnsG_append (H : Nat) : ∀ (a b : List (Bool × Addr × Tm)), turnsG H (a ++ b) = turnsG H b ++ turnsG H a
  | [], b => by rw [List.nil_append]; exact (List.append_nil _).symm
  | x :: a, b => by
    show turnsG H (a ++ b) ++ _ = _
    rw [turnsG_append H a b, List.append_assoc]; rfl
theorem turnsG_kids (H : Nat) (A : Addr) : ∀ (l : List Tm) (i : Nat), turnsG H (kidsG A i l) = turnsOf (doF H) ((kidsAt A i l).map (·.1))
  | [], _ => rfl
  | t :: l, i => by
    show turnsG H (kidsG A (i + 1) l) ++ _ = turnsOf _ _ ++ _
    rw [turnsG_kids H A l (i + 1)]
    rfl
theorem turnsG_row (H : Nat) (A : Addr) (l : List Tm) : rowTurns (doF H) (some A) l.length = turnsG H (kidsG A 0 l) := by
  have := kidsAt_turns (doF H) A l 0
  rw [Nat.zero_add] at this
  rw [this, turnsG_kids]
  show _ ++ [] = _
  exact List.append_nil _
/-- What will be told, told being what is told now. -/
noncomputable def evalP (D : List DtT) (S : List (ByteArray × ByteArray)) : List ByteArray → List (Bool × Addr × Tm) → Option (List ByteArray)
  | told, [] => some told
  | told, p :: l => if p.1 then (sortT D S p.2.2).bind fun s => evalP D S (told ++ [s]) l else (lvK D S p.2.2.kind p.2.2.name (told.drop (told.length - p.2.2.kids.length))).bind fun s => evalP D S (told.take (told.length - p.2.2.kids.length) ++ [s]) l
/-- There is enough told for each part's own turn. -/
def okN : Nat → List (Bool × Addr × Tm) → Prop
  | _, [] => True
  | m, p :: l => if p.1 then okN (m + 1) l else p.2.2.kids.length ≤ m ∧ okN (m - p.2.2.kids.length + 1) l
theorem sortL_len {D : List DtT} {S : List (ByteArray × ByteArray)} : ∀ (l : List Tm) (r : List ByteArray), sortL D S l = some r → r.length = l.length
  | [], r, h => by rw [sortL] at h; cases h; rfl
  | t :: l, r, h => by
    rw [sortL] at h
    cases h1 : sortT D S t with
    | none => rw [h1] at h; cases h
    | some s =>
      rw [h1] at h
      cases h2 : sortL D S l with
      | none => rw [h2] at h; cases h
      | some r' =>
        rw [h2] at h
        cases h
        simp [sortL_len l r' h2]
theorem evalP_kids {D : List DtT} {S : List (ByteArray × ByteArray)} (A : Addr) (rest : List (Bool × Addr × Tm)) : ∀ (l : List Tm) (i : Nat) (told : List ByteArray), evalP D S told (kidsG A i l ++ rest) = (sortL D S l).bind fun ss => evalP D S (told ++ ss) rest
  | [], i, told => by rw [sortL]; show evalP D S told rest = evalP D S (told ++ []) rest; rw [List.append_nil]
  | t :: l, i, told => by
    show evalP D S told ((true, A.add (i * 5), t) :: (kidsG A (i + 1) l ++ rest)) = _
    rw [evalP, sortL]
    simp only [if_true]
    cases h1 : sortT D S t with
    | none => rfl
    | some s =>
      show evalP D S (told ++ [s]) (kidsG A (i + 1) l ++ rest) = _
      rw [evalP_kids A rest l (i + 1)]
      cases h2 : sortL D S l with
      | none => rfl
      | some r => show evalP D S (told ++ [s] ++ r) rest = evalP D S (told ++ s :: r) rest; rw [List.append_assoc]; rfl
theorem sortT_eq (D : List DtT) (S : List (ByteArray × ByteArray)) (t : Tm) : sortT D S t = if entK t then (sortL D S t.kids).bind (lvK D S t.kind t.name) else none := by
  cases t
  rw [sortT]
  rfl
theorem evalP_do {D : List DtT} {S : List (ByteArray × ByteArray)} (A a a' : Addr) (t : Tm) (l : List (Bool × Addr × Tm)) (told : List ByteArray) (he : entK t = true) : evalP D S told ((true, a, t) :: l) = evalP D S told (kidsG A 0 t.kids ++ (false, a', t) :: l) := by
  rw [evalP_kids, evalP]
  simp only [if_true]
  rw [sortT_eq, if_pos he]
  cases h2 : sortL D S t.kids with
  | none => rfl
  | some r =>
    have hl := sortL_len _ _ h2
    show (lvK D S t.kind t.name r).bind _ = evalP D S (told ++ r) ((false, a', t) :: l)
    rw [evalP]
    simp only [Bool.false_eq_true, if_false]
    rw [List.length_append, hl, Nat.add_sub_cancel, List.drop_left, List.take_left]
theorem okN_kids (A : Addr) (rest : List (Bool × Addr × Tm)) : ∀ (l : List Tm) (i m : Nat), okN (m + l.length) rest → okN m (kidsG A i l ++ rest)
  | [], i, m, h => h
  | t :: l, i, m, h => by
    show okN m ((true, A.add (i * 5), t) :: (kidsG A (i + 1) l ++ rest))
    rw [okN]
    simp only [if_true]
    exact okN_kids A rest l (i + 1) (m + 1) (by rw [show m + 1 + l.length = m + (t :: l).length by simp; omega]; exact h)
theorem okN_do (A a a' : Addr) (t : Tm) (l : List (Bool × Addr × Tm)) (m : Nat) (h : okN m ((true, a, t) :: l)) : okN m (kidsG A 0 t.kids ++ (false, a', t) :: l) := by
  rw [okN] at h
  simp only [if_true] at h
  refine okN_kids A _ _ 0 m ?_
  rw [okN]
  simp only [Bool.false_eq_true, if_false]
  exact ⟨by omega, by rw [Nat.add_sub_cancel]; exact h⟩
/-- How many turns are to come. -/
def stepsG : List (Bool × Addr × Tm) → Nat
  | [] => 0
  | p :: l => (if p.1 then 2 * (preT p.2.2).length else 1) + stepsG l
theorem stepsG_append : ∀ (a b : List (Bool × Addr × Tm)), stepsG (a ++ b) = stepsG a + stepsG b
  | [], b => by rw [List.nil_append]; exact (Nat.zero_add _).symm
  | x :: a, b => by
    show _ + stepsG (a ++ b) = (_ + stepsG a) + stepsG b
    rw [stepsG_append a b]; omega
theorem stepsG_kids (A : Addr) : ∀ (l : List Tm) (i : Nat), stepsG (kidsG A i l) = 2 * (preL l).length
  | [], _ => by rw [preL]; rfl
  | t :: l, i => by
    show (2 * (preT t).length) + stepsG (kidsG A (i + 1) l) = _
    rw [stepsG_kids A l (i + 1), preL, List.length_append]; omega
theorem stepsG_do (A a a' : Addr) (t : Tm) (l : List (Bool × Addr × Tm)) : stepsG (kidsG A 0 t.kids ++ (false, a', t) :: l) + 1 = stepsG ((true, a, t) :: l) := by
  rw [stepsG_append, stepsG_kids]
  show 2 * (preL t.kids).length + (1 + stepsG l) + 1 = 2 * (preT t).length + stepsG l
  rw [preT_eq]
  simp only [List.length_cons]
  omega
theorem stepsG_len : ∀ (l : List (Bool × Addr × Tm)), l.length ≤ stepsG l
  | [] => Nat.le_refl _
  | p :: l => by
    have := stepsG_len l
    show l.length + 1 ≤ (if p.1 then 2 * (preT p.2.2).length else 1) + stepsG l
    split
    · rw [preT_eq]; simp only [List.length_cons]; omega
    · omega
end Go.Proofs.YtponkpiahgoohaaGreatDoor

namespace Go.Proofs.YtponkpiahgoohaaGreatDoor
open Go.RowKit

/-- No part's number is too long. -/
def okD (t : Tm) : Prop := ∀ p ∈ preT t, p.ds.length ≤ 1000000
theorem okD.head {t : Tm} (h : okD t) : t.ds.length ≤ 1000000 := h t (by rw [preT_eq]; exact .head _)
theorem okD_preL : ∀ (l : List Tm), (∀ p ∈ preL l, p.ds.length ≤ 1000000) → ∀ t ∈ l, okD t
  | [], _, t, ht => nomatch ht
  | u :: l, h, t, ht => by
    rw [preL] at h
    rcases List.mem_cons.1 ht with rfl | ht
    · exact fun p hp => h p (List.mem_append_left _ hp)
    · exact okD_preL l (fun p hp => h p (List.mem_append_right _ hp)) t ht
theorem okD.kids {t : Tm} (h : okD t) : ∀ u ∈ t.kids, okD u := okD_preL _ fun p hp => h p (by rw [preT_eq]; exact .tail _ hp)
theorem preL_mem {u : Tm} : ∀ {l : List Tm}, u ∈ l → (preT u).length ≤ (preL l).length
  | [], h => nomatch h
  | a :: l, h => by
    rw [preL, List.length_append]
    rcases List.mem_cons.1 h with e | h
    · rw [e]; omega
    · have := preL_mem h; omega
theorem kids_le (t : Tm) : t.kids.length ≤ (preT t).length := by
  rw [preT_eq]
  have := preL_len t.kids
  simp only [List.length_cons]
  omega
theorem ent_kids {t : Tm} (h : entK t = true) : t.kind = 7 ∨ t.kind = 8 → t.kids ≠ [] := by
  intro h78 h0
  unfold entK at h
  rcases h78 with e | e <;> (rw [e] at h; simp [manyK, fitsN, h0] at h)
/-- All that stays while the gatherer runs. -/
structure GFix (w0 : World) (gs H B : Nat) (vD vS : Value) (D : List DtT) (S : List (ByteArray × ByteArray)) : Prop where
  gs0 : w0.heap.size ≤ gs
  gsH : gs < H
  HB : H + 5 ≤ B
  d : DatasV w0 vD D
  s : ScopeV w0 vS S
  few : DFew D
  fewS : S.length ≤ 1000000
/-- What holds with k turns at most to come. -/
structure GIn (w0 w1 : World) (gs H B : Nat) (vD vS : Value) (D : List DtT) (S : List (ByteArray × ByteArray)) (T0 : Tm) (M k : Nat) (v : Value) (n : Nat) (E : List Value) (W : World) (P : List (Bool × Addr × Tm)) (told : List ByteArray) (vt : Value) : Prop where
  len : n = P.length
  e : E = turnsG H P
  row : TRow W B v n E
  g : WK W gs v 100 [vt, vD, vS]
  tr : W.ownsRow B 9 1 vt told.length (told.map Value.string)
  ap : ∀ k, v.ownBlock = some k → vt.ownBlock ≠ some k
  at' : GAt W gs H
  low : Below w0.heap.size w0 W
  size : B ≤ W.heap.size
  ev : evalP D S told P = (sortT D S T0).map fun s => [s]
  ok : okN told.length P
  ps : ∀ p ∈ P, PtrTm w0 p.2.1 p.2.2 ∧ (p.1 = true → okD p.2.2 ∧ (preT p.2.2).length ≤ 1000000) ∧ (p.1 = false → entK p.2.2 = true)
  steps : stepsG P ≤ k
  most : told.length + k ≤ M
  kp : ∀ i, i < H → i ≠ gs → W.heap[i]? = w1.heap[i]?
theorem GIn.srt {w0 : World} {gs H B : Nat} {vD vS : Value} {D : List DtT} {S : List (ByteArray × ByteArray)} (hF : GFix w0 gs H B vD vS D S) {W : World} {v vt : Value} (hl : Below w0.heap.size w0 W) (hg : WK W gs v 100 [vt, vD, vS]) : SorterAt W gs D S := by
  unfold WK at hg
  refine ⟨⟨vD, by simp [World.cell?, hg], hF.d.sub (sub_below hl)⟩, ⟨vS, by simp [World.cell?, hg], hF.s.sub (sub_below hl)⟩, hF.few, hF.fewS⟩
/-- An error was thrown: there is no sort. -/
def GZ (w0 w1 : World) (gs H : Nat) (D : List DtT) (S : List (ByteArray × ByteArray)) (T0 : Tm) (m : Int) (w' : World) : Prop := m ≠ 0 ∧ sortT D S T0 = none ∧ Below w0.heap.size w0 w' ∧ ∀ i, i < H → i ≠ gs → w'.heap[i]? = w1.heap[i]?
theorem own_popped {g n cap : Nat} {k : Nat} (h : (Value.slice (some ⟨g, 0, none⟩) n cap).ownBlock = some k) : g = k := by
  injection h
theorem gather_runs {w0 w1 : World} {gs H B : Nat} {vD vS : Value} {D : List DtT} {S : List (ByteArray × ByteArray)} (hF : GFix w0 gs H B vD vS D S) (T0 : Tm) (M : Nat) (hM : M ≤ 1000000) :
    RunsT gs B 100 (fun k v n E W => ∃ P told vt, GIn w0 w1 gs H B vD vS D S T0 M k v n E W P told vt) (GZ w0 w1 gs H D S T0) where
  row := by
    rintro k v n E W ⟨P, told, vt, h⟩
    refine ⟨h.row, h.size, ⟨_, h.g⟩, ?_⟩
    have h1 := stepsG_len P
    have h2 := h.steps
    have h3 := h.most
    rw [h.len]
    omega
  step := by
    rintro k v n E W ⟨P, told, vt, h⟩
    cases P with
    | nil => exact absurd h.len (by simp)
    | cons p P =>
    obtain ⟨b, ad, t⟩ := p
    have hPn : n = P.length := by have := h.len; simp at this; omega
    obtain ⟨hp, hpd, hpt⟩ := h.ps (b, ad, t) (.head _)
    have hlow := hF.gs0
    have hgH := hF.gsH
    have hHB := hF.HB
    cases b with
    | true =>
      refine ⟨ad, 77, #[], #[.pointer (some ⟨H + 1, 0, none⟩), .pointer (some ⟨H, 0, none⟩), .pointer (some ⟨H + 3, 0, none⟩), .pointer (some ⟨H + 4, 0, none⟩)], turnsG H P, h.e, run_enters (by kernel_rfl), ?_⟩
      intro g cap x hv hx W' hr' hg' ht
      subst hv
      have hx' : x = [vt, vD, vS] := by
        have h1 := h.g
        unfold WK at h1 hx
        rw [h1] at hx
        simpa using hx.symm
      subst hx'
      have hb' : Below w0.heap.size w0 W' := ⟨ht.os.trans h.low.os, ht.tape.trans h.low.tape, ht.output.trans h.low.output, Nat.le_trans h.low.size ht.size, fun i hi => (ht.block i (by have := h.low.size; omega) (by omega) (by intro e; cases e)).trans (h.low.block i hi)⟩
      have hWs : W.heap.size ≤ W'.heap.size := ht.size
      have hBs := h.size
      have hG' : GAt W' gs H := h.at'.to fun i h1 h2 => ht.block i (by omega) (by omega) (by intro e; cases e)
      have htold : W'.ownsRow B 9 1 vt told.length (told.map Value.string) := own_keep h.tr fun i hi h1 h2 => ht.block i h2 (by omega) (by intro e; cases e)
      have hkp : ∀ i, i < H → i ≠ gs → W'.heap[i]? = w1.heap[i]? := fun i h1 h2 => (ht.block i (by omega) h2 (by intro e; cases e)).trans (h.kp i h1 h2)
      have hst : stepsG ((true, ad, t) :: P) ≤ k := h.steps
      have hst' : 2 * (preT t).length + stepsG P ≤ k := hst
      have hmo := h.most
      have hkl := kids_le t
      have hln := stepsG_len P
      refine (do_ok (t := t) (ad := ad) hb' hp (hpd rfl).1.head (by omega) hG' hlow hgH hHB (by omega) hr' hg' (by omega)).mono ?_
      rintro e w' (⟨m, rfl, hm, he, hb⟩ | ⟨⟨u, rfl⟩, he, K, c, v', hK, r1, r2, r3⟩)
      · refine .inl ⟨m, rfl, hm, ?_, hb'.trans (hb.mono hb'.size), fun i h1 h2 => (hb.block i (by omega)).trans (hkp i h1 h2)⟩
        have h1 := h.ev
        rw [evalP] at h1
        simp only [if_true] at h1
        rw [sortT_eq D S t, he] at h1
        cases h2 : sortT D S T0 with
        | none => rfl
        | some s => rw [h2] at h1; cases h1
      · obtain ⟨A, hA⟩ : ∃ A, rowTurns (doF H) K t.kids.length = turnsG H (kidsG A 0 t.kids) ∧ ∀ q ∈ kidsAt A 0 t.kids, PtrTm w0 q.1 q.2 := by
          obtain ⟨K1, c1, h1, -, h2⟩ := hp.kids
          rw [hK] at h1
          injection h1 with h1
          injection h1 with h1
          subst h1
          rcases h2 with ⟨h2, _⟩ | ⟨A, rfl, h2⟩
          · exact ⟨⟨0, 0, none⟩, by rw [h2]; rfl, by rw [h2]; intro q hq; cases hq⟩
          · exact ⟨A, turnsG_row H A t.kids, h2⟩
        have hE : turnsG H P ++ [.pointer (some ad), tellF H] ++ rowTurns (doF H) K t.kids.length = turnsG H (kidsG A 0 t.kids ++ (false, ad, t) :: P) := by
          rw [turnsG_append, hA.1]
          rfl
        refine .inr ⟨⟨u, rfl⟩, stepsG (kidsG A 0 t.kids ++ (false, ad, t) :: P), v', n + 1 + t.kids.length, turnsG H (kidsG A 0 t.kids ++ (false, ad, t) :: P), ?_, kidsG A 0 t.kids ++ (false, ad, t) :: P, told, vt, ?_⟩
        · have := stepsG_do A ad ad t P
          omega
        · rw [hE] at r1
          have hne : ∀ i, vt.ownBlock = some i → g ≠ i := fun i hi e => h.ap g rfl (by rw [e]; exact hi)
          refine ⟨?_, rfl, r1, r2, own_keep htold fun i hi h1 h2 => r3.block i h2 (by omega) fun e => hne i hi (own_popped e), ?_, hG'.turned r3 hr' hgH hHB (by omega), turned_below hb' r3 hr' hlow (by omega) (by omega), Nat.le_trans (by omega) r3.size, ?_, okN_do A ad ad t P _ h.ok, ?_, Nat.le_refl _, ?_, fun i h1 h2 => (r3.block i (by omega) h2 fun e => by have := (World.ownsRow.lt hr' i e).1; omega).trans (hkp i h1 h2)⟩
          · rw [List.length_append, kidsG, List.length_map]
            have : (kidsAt A 0 t.kids).length = t.kids.length := by
              have := congrArg List.length (kidsAt_snd A 0 t.kids)
              simpa using this
            rw [this]
            simp only [List.length_cons]
            omega
          · intro i hi
            rcases r3.own i hi with e | e
            · exact h.ap i (by rw [← own_popped e]; rfl)
            · intro e2
              have := (World.ownsRow.lt htold i e2).2
              omega
          · rw [← evalP_do A ad ad t P told he]
            exact h.ev
          · intro q hq
            rcases List.mem_append.1 hq with hq | hq
            · obtain ⟨q', hq', rfl⟩ := List.mem_map.1 hq
              refine ⟨hA.2 q' hq', fun _ => ?_, fun h => by cases h⟩
              have hm : q'.2 ∈ t.kids := by
                rw [← kidsAt_snd A 0 t.kids]
                exact List.mem_map_of_mem hq'
              refine ⟨(hpd rfl).1.kids _ hm, ?_⟩
              have := (hpd rfl).2
              have h2 := preL_mem hm
              have h3 : (preT t).length ≤ 1000000 := this
              rw [preT_eq] at h3
              simp only [List.length_cons] at h3
              show (preT q'.2).length ≤ 1000000
              omega
            · rcases List.mem_cons.1 hq with rfl | hq
              · exact ⟨hp, (fun h => by cases h), fun _ => he⟩
              · exact h.ps q (.tail _ hq)
          · have := stepsG_do A ad ad t P
            omega
    | false =>
      refine ⟨ad, 76, #[], #[.pointer (some ⟨H, 0, none⟩), .pointer (some ⟨H + 2, 0, none⟩)], turnsG H P, h.e, run_enters (by kernel_rfl), ?_⟩
      intro g cap x hv hx W' hr' hg' ht
      subst hv
      have hx' : x = [vt, vD, vS] := by
        have h1 := h.g
        unfold WK at h1 hx
        rw [h1] at hx
        simpa using hx.symm
      subst hx'
      have hb' : Below w0.heap.size w0 W' := ⟨ht.os.trans h.low.os, ht.tape.trans h.low.tape, ht.output.trans h.low.output, Nat.le_trans h.low.size ht.size, fun i hi => (ht.block i (by have := h.low.size; omega) (by omega) (by intro e; cases e)).trans (h.low.block i hi)⟩
      have hWs : W.heap.size ≤ W'.heap.size := ht.size
      have hBs := h.size
      have hG' : GAt W' gs H := h.at'.to fun i h1 h2 => ht.block i (by omega) (by omega) (by intro e; cases e)
      have htold : W'.ownsRow B 9 1 vt told.length (told.map Value.string) := own_keep h.tr fun i hi h1 h2 => ht.block i h2 (by omega) (by intro e; cases e)
      have hkp : ∀ i, i < H → i ≠ gs → W'.heap[i]? = w1.heap[i]? := fun i h1 h2 => (ht.block i (by omega) h2 (by intro e; cases e)).trans (h.kp i h1 h2)
      have hst : 1 + stepsG P ≤ k := h.steps
      have hmo := h.most
      have hok := h.ok
      rw [okN] at hok
      simp only [Bool.false_eq_true, if_false] at hok
      have he : entK t = true := hpt rfl
      have hgB : g < W'.heap.size := by
        have := (World.ownsRow.lt h.row g rfl).2
        omega
      have hgB' : B ≤ g := (World.ownsRow.lt h.row g rfl).1
      refine (tell_ok (ad := ad) (t := t) (D := D) (S := S) ⟨hg', hG'.b0, hG'.b2, htold, GIn.srt hF hb' hg', ⟨by omega, by omega⟩, ⟨by omega, by omega, by omega⟩, by omega⟩ (hp.bel hb') hok.1 (by omega) (ent_kids he)).mono ?_
      rintro e w' (⟨m, rfl, hm, he, hb⟩ | ⟨⟨u, rfl⟩, s, vt', hs, ho⟩)
      · refine .inl ⟨m, rfl, hm, ?_, hb'.trans (hb.mono hb'.size), fun i h1 h2 => (hb.block i (by omega)).trans (hkp i h1 h2)⟩
        have h1 := h.ev
        rw [evalP] at h1
        simp only [Bool.false_eq_true, if_false] at h1
        rw [he] at h1
        cases h2 : sortT D S T0 with
        | none => rfl
        | some s => rw [h2] at h1; cases h1
      · have htl : (told.take (told.length - t.kids.length)).length = told.length - t.kids.length := by rw [List.length_take]; omega
        have hvt : ∀ i, vt.ownBlock = some i → B ≤ i ∧ i < W'.heap.size := fun i hi => World.ownsRow.lt htold i hi
        refine .inr ⟨⟨u, rfl⟩, stepsG P, .slice (some ⟨g, 0, none⟩) n cap, n, turnsG H P, by omega, P, told.take (told.length - t.kids.length) ++ [s], vt', ?_⟩
        refine ⟨hPn, rfl, own_keep hr' fun i hi h1 h2 => ho.turned.block i h2 (by omega) fun e => h.ap g rfl (by rw [own_popped hi]; exact e), ho.g, ho.row, ?_, ?_, ?_, Nat.le_trans (by omega) ho.turned.size, ?_, ?_, fun q hq => h.ps q (.tail _ hq), Nat.le_refl _, ?_, fun i h1 h2 => (ho.turned.block i (by omega) h2 fun e => by have := (hvt i e).1; omega).trans (hkp i h1 h2)⟩
        · intro i hi e2
          have hgi := own_popped hi
          rcases ho.turned.own i e2 with e | e
          · exact h.ap g rfl (by rw [hgi]; exact e)
          · omega
        · exact hG'.to fun i h1 h2 => ho.turned.block i (by omega) (by omega) fun e => by have := (hvt i e).1; omega
        · exact ⟨ho.turned.os.trans hb'.os, ho.turned.tape.trans hb'.tape, ho.turned.output.trans hb'.output, Nat.le_trans hb'.size ho.turned.size, fun i hi => (ho.turned.block i (by have := hb'.size; omega) (by omega) fun e => by have := (hvt i e).1; omega).trans (hb'.block i hi)⟩
        · have h1 := h.ev
          rw [evalP] at h1
          simp only [Bool.false_eq_true, if_false] at h1
          rw [hs] at h1
          exact h1
        · rw [List.length_append, htl]
          exact hok.2
        · rw [List.length_append, htl]
          simp only [List.length_cons, List.length_nil]
          omega
end Go.Proofs.YtponkpiahgoohaaGreatDoor

/- A region that draws its order and stores into nothing that was there: what its operations yield is told by predicates that hold on while memory grows. No condition. -/
import Derived.Test.YtbccknhinmgibaaDoorStepN
set_option linter.unusedVariables false
set_option linter.unusedSimpArgs false
namespace Go.Proofs.YtbccknhinmgibaaDoor
open Go.RowKit

/-- What an operation yields. -/
structure BK where
  f : Value → World → Prop
  hb : ∀ v w w', f v w → Below w.heap.size w w' → f v w'
def bIs (V : Value) : BK := ⟨fun v _ => v = V, fun _ _ _ h _ => h⟩
def bat (ks : List BK) (i : Nat) : BK := ks.getD i (bIs undef)
def BStep (P : Program) (W0 : World) (ks : List BK) (a0 : Act) (i : Nat) (o : Oper) (es : List (Nat × Option Tmp)) : Prop :=
  ∀ w x, Below W0.heap.size W0 w → (∀ p ∈ es, (bat ks p.1).f (x p.1) w) → ∀ K : Value → World → Prop, (∀ v w', Below w.heap.size w w' → (bat ks i).f v w' → K v w') →
    o.wp P (putE x a0 es) w (fun a' w' => a'.defers = (putE x a0 es).defers ∧ K (retOf o.dst a') w') (fun _ _ _ => False)
def BFrom (P : Program) (ops : Array Oper) (es : List (List (Nat × Option Tmp))) (sk : List Nat) (W0 : World) (ks : List BK) (a0 : Act) (i : Nat) : Prop :=
  ∀ j o, i ≤ j → ops[j]? = some o → sk.contains j = false → BStep P W0 ks a0 j o (es.getD j [])
section
variable {P : Program} {ops : Array Oper} {es : List (List (Nat × Option Tmp))} {sk : List Nat} {W0 : World} {ks : List BK} {a0 : Act} {i : Nat}
theorem b_cons {o : Oper} {e : List (Nat × Option Tmp)} (ho : ops[i]? = some o) (he : es.getD i [] = e) (h : BStep P W0 ks a0 i o e) (hr : BFrom P ops es sk W0 ks a0 (i + 1)) : BFrom P ops es sk W0 ks a0 i := fun j o' hj ho' hs => by
  by_cases e : j = i
  · subst e
    rw [ho] at ho'
    injection ho' with ho'
    subst ho'
    rw [he]; exact h
  · exact hr j o' (by omega) ho' hs
theorem b_skip (h : sk.contains i = true) (hr : BFrom P ops es sk W0 ks a0 (i + 1)) : BFrom P ops es sk W0 ks a0 i := fun j o' hj ho' hs => by
  by_cases e : j = i
  · subst e
    rw [h] at hs; cases hs
  · exact hr j o' (by omega) ho' hs
theorem b_nil (h : ops.size = i) : BFrom P ops es sk W0 ks a0 i := fun j o hj ho _ => by
  have := (Array.getElem?_eq_some_iff.1 ho).1
  omega
end
theorem wp_region_bk {P : Program} {id : Nat} {draw : Bool} {ops : Array Oper} {Q : Exit → Act → World → Prop} {a0 : Act} {W0 : World} {N : Nat} (hN : a0.tmps.size = N) (ks : List BK) (es : List (List (Nat × Option Tmp))) (all : List (Nat × Option Tmp)) (bs : List (Nat × Bool)) (sk : List Nat) (hm : P.follows .mixedOrders = true) (hchk : growOK ops (fun i => !sk.contains i) es all N = true) (hgu : guardOK ops bs sk = true) (hbs : bs.map (fun p => bat ks p.1) = bs.map fun p => bIs (.bool p.2)) (hsk : sk.map (bat ks) = sk.map fun _ => bIs undef)
    (hs : BFrom P ops es sk W0 ks a0 0) (hend : ∀ w' x, Below W0.heap.size W0 w' → (∀ i, i < ops.size → (bat ks i).f (x i) w') → Q .normal (putE x a0 all) w') : (Code.region id ops draw).wp P Q a0 W0 := by
  subst hN
  have hchk' := hchk
  unfold growOK at hchk'
  simp only [Bool.and_eq_true, decide_eq_true_eq] at hchk'
  have hops := hchk'.2
  have hlt : ∀ i o, ops[i]? = some o → ∀ p ∈ es.getD i [], p.1 < ops.size := fun i o ho p hp => by
    have hl : i < ops.size := (Array.getElem?_eq_some_iff.1 ho).1
    have h := List.all_eq_true.1 hops i (List.mem_range.2 hl)
    rw [ho] at h
    simp only [Bool.and_eq_true] at h
    have := List.all_eq_true.1 h.1.2 p hp
    simp only [Bool.and_eq_true, decide_eq_true_eq] at this
    exact this.1.2
  have hgo : ∀ i, i < ops.size → ∀ (L : Nat → Bool) (x : Nat → Value) w, (Below W0.heap.size W0 w ∧ ∀ j, j < ops.size → L j = true → (bat ks j).f (x j) w) → ∀ v w', Below w.heap.size w w' → (bat ks i).f v w' → (Below W0.heap.size W0 w' ∧ ∀ j, j < ops.size → upd L i true j = true → (bat ks j).f (upd x i v j) w') := fun i hi L x w hI v w' hb hf => by
    refine ⟨hI.1.trans (hb.mono hI.1.size), fun j hj hLj => ?_⟩
    by_cases e : j = i
    · subst e; rw [upd_same]; exact hf
    · rw [upd_ne _ _ e] at hLj ⊢
      exact (bat ks j).hb _ _ _ (hI.2 j hj hLj) hb
  refine wp_region_grow hm (fun L x w => Below W0.heap.size W0 w ∧ ∀ j, j < ops.size → L j = true → (bat ks j).f (x j) w) (fun i => !sk.contains i) es all hchk ?_ (fun i o g ho hg L x w hI hL => ?_) (fun i hil hWi L x w hI hi => ?_) (fun i o ho hW L x w hI hi hd K hK => ?_) (fun L x w' hL hI => ?_)
  · intro W' hW'
    refine ⟨?_, fun j hj h => absurd (of_decide_eq_true h) (by omega)⟩
    rcases hW' with rfl | rfl
    · exact Below.refl _ _
    · exact (Below.refl _ _).drew
  · have hil : i < ops.size := (Array.getElem?_eq_some_iff.1 ho).1
    have h := List.all_eq_true.1 hgu i (List.mem_range.2 hil)
    rw [ho] at h
    simp only [hg, Bool.or_eq_true] at h
    rcases h with h | h
    · obtain ⟨p, hp, hh⟩ := List.any_eq_true.1 h
      simp only [Bool.and_eq_true, decide_eq_true_eq, beq_iff_eq] at hh
      obtain ⟨⟨h1, h2⟩, h3⟩ := hh
      have hs1 := hI.2 g.1 h2 hL
      have hk1 : bat ks g.1 = bIs (.bool p.2) := by
        rw [← h1]
        exact List.map_inj_left.1 hbs p hp
      rw [hk1] at hs1
      exact .inl ⟨p.2, hs1, h3⟩
    · simp only [Bool.and_eq_true, decide_eq_true_eq] at h
      obtain ⟨⟨h1, h2⟩, h3⟩ := h
      have hs1 := hI.2 g.1 h1 hL
      have hk1 : bat ks g.1 = bIs undef := List.map_inj_left.1 hsk g.1 (by simpa using h2)
      rw [hk1] at hs1
      exact .inr ⟨hs1, by rw [h3]; rfl⟩
  · have hm : i ∈ sk := by simpa using hWi
    have hk1 : bat ks i = bIs undef := List.map_inj_left.1 hsk i hm
    exact hgo i hil L x w hI undef w (Below.refl _ _) (by rw [hk1]; rfl)
  · have hil : i < ops.size := (Array.getElem?_eq_some_iff.1 ho).1
    exact hs i o (Nat.zero_le _) ho (by simpa using hW) w x hI.1 (fun p hp => hI.2 p.1 (hlt i o ho p hp) (hd p hp)) K fun v w' h1 h2 => hK v w' (hgo i hil L x w hI v w' h1 h2)
  · exact hend w' x hI.1 fun i hi => hI.2 i hi (hL i hi)
section
variable {P : Program} {W0 : World} {ks : List BK} {a0 : Act} {i N : Nat} {es : List (Nat × Option Tmp)}
/-- A call whose arguments are known by where they come from. -/
theorem b_call {d F : Nat} {args : Array Operand} {ats : Array TypeId} {T : TypeId} {pos : String} {af : Array Edge} {g : Option (Nat × Bool)} (ss : List Src) (hN : a0.tmps.size = N) (he : esIn es N = true) (hd : decide (d < N) = true) (hF : enters P F = true) (hs : args.toList.map (src es) = ss)
    (h : ∀ w x, Below W0.heap.size W0 w → (∀ p ∈ es, (bat ks p.1).f (x p.1) w) → Calls P F (ss.map (Src.get x a0)).toArray w fun e w' => ∃ v, e = .returned v ∧ Below w.heap.size w w' ∧ (bat ks i).f v w') :
    BStep P W0 ks a0 i { dst := some d, op := .call { callee := .value (.func F), args := args, argTypes := ats }, type := T, pos := pos, after := af, guard := g } es := by
  intro w x hC hdeps K hK
  have hargs : args.map (putE x a0 es).eval = (ss.map (Src.get x a0)).toArray := by
    apply Array.ext'
    rw [Array.toList_map, ← hs, List.map_map]
    refine List.map_congr_left fun y _ => ?_
    exact eval_src hN he y
  refine wp_ent (F := F) (args := (ss.map (Src.get x a0)).toArray) rfl (by rw [putE_size, hN]) hd ?_ ?_
  · rw [← hargs]
    simp [go_sem, run_enters hF]
  · exact (h w x hC hdeps).mono fun e w' hh => by
      obtain ⟨v, h1, h2, h3⟩ := hh
      exact ⟨v, h1, hK v w' h2 h3⟩
theorem b_vals {x : Nat → Value} {w : World} : ∀ (es : List (Nat × Option Tmp)) (vs : List Value), es.map (fun p => bat ks p.1) = vs.map bIs → (∀ p ∈ es, (bat ks p.1).f (x p.1) w) → ∀ p ∈ es.zip vs, x p.1.1 = p.2
  | [], _, _, _, p, hp => by simp at hp
  | _ :: _, [], h, _, _, _ => by simp at h
  | q :: r, v :: vs, h, hd, p, hp => by
    rw [List.map_cons, List.map_cons] at h
    injection h with h1 h2
    rcases List.mem_cons.1 (by simpa using hp : p ∈ (q, v) :: r.zip vs) with rfl | hp
    · have := hd q List.mem_cons_self
      rw [h1] at this
      exact this
    · exact b_vals r vs h2 (fun p hp => hd p (List.mem_cons_of_mem _ hp)) p hp
/-- An operation that moves nothing, of values that are known. -/
theorem b_pure {o : Oper} {d : Nat} (vs : List Value) (olds : List (Tmp × Value)) (V' V : Value) (e : V' = V) (hd : o.dst = some d) (hN : a0.tmps.size = N) (he : esIn es N = true) (hdN : decide (d < N) = true)
    (hc : es.map (fun p => bat ks p.1) = vs.map bIs) (ho : ∀ p ∈ olds, a0.eval (.tmp p.1) = p.2) (hsel : (match o.op with | .select _ _ => false | _ => true) = true) (hk : o.op.operands.all (known es olds) = true) (hV : bat ks i = bIs V)
    (hr : ∀ w, (execOp (look es vs olds) o).run P w = .ok (.value V') w) : BStep P W0 ks a0 i o es := by
  subst e
  intro w x hC hdeps K hK
  have hl : es.length = vs.length := by simpa using congrArg List.length hc
  have hx := b_vals es vs hc hdeps
  have hev : execOp (putE x a0 es).eval o = execOp (look es vs olds) o := by
    refine execOp_congr o (fun cs b e => by rw [e] at hsel; cases hsel) fun y hy => ?_
    rw [eval_src hN he y]
    cases y with
    | tmp t =>
      show Src.get x a0 (match slotAt es t with | some i => .dep i | none => .old t) = match lookS es vs t with | some v => v | none => match olds.find? (fun p => p.1 == t) with | some p => p.2 | none => undef
      rw [lookS_eq es vs hl hx]
      have hkn := Array.all_eq_true'.1 hk _ hy
      simp only [known, Bool.or_eq_true] at hkn
      cases hs : slotAt es t with
      | some j => rfl
      | none =>
        rw [hs] at hkn
        rcases hkn with h | h
        · cases h
        · obtain ⟨q, hq, hqt⟩ := List.any_eq_true.1 h
          cases hf : olds.find? (fun p => p.1 == t) with
          | none => exact absurd hqt (by simpa using List.find?_eq_none.1 hf q hq)
          | some p =>
            have h1 := List.mem_of_find?_eq_some hf
            have h2 : p.1 = t := by simpa using List.find?_some hf
            show a0.eval (.tmp t) = p.2
            rw [← h2]; exact ho p h1
    | const v => rfl
    | global g => rfl
    | func f => rfl
  refine wp_val (v := V') (w' := w) hd (by rw [putE_size, hN]) hdN (by rw [hev]; exact hr w) (hK V' w (Below.refl _ _) ?_)
  rw [hV]; rfl
end
end Go.Proofs.YtbccknhinmgibaaDoor

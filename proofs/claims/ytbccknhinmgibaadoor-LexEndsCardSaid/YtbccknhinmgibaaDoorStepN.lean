/- A frame that is known by its slots alone; one step an operation for regions in such frames: values, calls, lists, variables. No condition. Whole numbers, by whatever sign and digits they are told: 'Zd' any, 'Zr' a right one; lists of them; package num's calls over them. Sizes by powers of the base, the 4000th at most. One step an operation over whole numbers: loads, lists, calls, variables, in frames that are known by their slots. No condition. What the laws over three numbers share: the first region, whether they are great. No condition. A number of package api that came in: its sign, its digits; how many digits there may be. No condition. -/
import Derived.Test.YtbccknhinmgibaaDoorPk
import Derived.Lib.Hide
namespace Go.Proofs.YtbccknhinmgibaaDoor
open Go.RowKit

/-- Which operation of those put wrote the slot t last. -/
def slotAt : List (Nat × Option Tmp) → Tmp → Option Nat
  | [], _ => none
  | p :: r, t => match slotAt r t with
    | some i => some i
    | none => if p.2 = some t then some p.1 else none
theorem put_size (a : Act) (d : Option Tmp) (v : Value) : (a.put d v).tmps.size = a.tmps.size := by
  cases d <;> simp [Act.put]
theorem put_defers (a : Act) (d : Option Tmp) (v : Value) : (a.put d v).defers = a.defers := by
  cases d <;> rfl
theorem putE_size (x : Nat → Value) : ∀ (es : List (Nat × Option Tmp)) (a : Act), (putE x a es).tmps.size = a.tmps.size
  | [], _ => rfl
  | p :: r, a => by rw [putE, putE_size x r, put_size]
theorem putE_defers (x : Nat → Value) : ∀ (es : List (Nat × Option Tmp)) (a : Act), (putE x a es).defers = a.defers
  | [], _ => rfl
  | p :: r, a => by rw [putE, putE_defers x r, put_defers]
theorem put_eval_ne (a : Act) {d : Option Tmp} {t : Tmp} (v : Value) (h : d ≠ some t) : (a.put d v).eval (.tmp t) = a.eval (.tmp t) := by
  cases d with
  | none => rfl
  | some d =>
    have hne : d ≠ t := fun e => h (by rw [e])
    show (a.tmps.setIfInBounds d v).getD t undef = a.tmps.getD t undef
    simp only [Array.getD_eq_getD_getElem?]
    rw [Array.getElem?_setIfInBounds_ne hne]
theorem putE_old {x : Nat → Value} {t : Tmp} : ∀ (es : List (Nat × Option Tmp)) (a : Act), slotAt es t = none → (putE x a es).eval (.tmp t) = a.eval (.tmp t)
  | [], _, _ => rfl
  | p :: r, a, h => by
    unfold slotAt at h
    split at h
    · cases h
    · rename_i hr
      split at h
      · cases h
      · rename_i hp
        rw [putE, putE_old r _ hr, put_eval_ne _ _ hp]
theorem putE_new {x : Nat → Value} {t : Tmp} {i : Nat} : ∀ (es : List (Nat × Option Tmp)) (a : Act), t < a.tmps.size → slotAt es t = some i → (putE x a es).eval (.tmp t) = x i
  | [], _, _, h => by cases h
  | p :: r, a, hs, h => by
    unfold slotAt at h
    split at h
    · rename_i hr
      injection h with h
      subst h
      rw [putE]
      exact putE_new r _ (by rw [put_size]; exact hs) hr
    · rename_i hr
      split at h
      · rename_i hp
        injection h with h
        rw [putE, putE_old r _ hr, hp, ← h]
        exact put_eval _ _ _ hs
      · cases h

/-- Where an operand comes from. -/
inductive Src where
  | dep (i : Nat)
  | old (t : Tmp)
  | val (v : Value)
def src (es : List (Nat × Option Tmp)) : Operand → Src
  | .tmp t => match slotAt es t with
    | some i => .dep i
    | none => .old t
  | .const v => .val v
  | .global g => .val (.pointer (some ⟨g, 0, none⟩))
  | .func f => .val (.func (.func f) #[] #[])
def Src.get (x : Nat → Value) (a : Act) : Src → Value
  | .dep i => x i
  | .old t => a.eval (.tmp t)
  | .val v => v
def esIn (es : List (Nat × Option Tmp)) (N : Nat) : Bool := es.all fun p => match p.2 with | some t => decide (t < N) | none => true
theorem slotAt_lt {N : Nat} {t : Tmp} {i : Nat} : ∀ es : List (Nat × Option Tmp), esIn es N = true → slotAt es t = some i → t < N
  | [], _, h => by cases h
  | p :: r, he, h => by
    unfold esIn at he
    rw [List.all_cons, Bool.and_eq_true] at he
    unfold slotAt at h
    split at h
    · rename_i hr
      exact slotAt_lt r he.2 hr
    · split at h
      · rename_i hp
        have := he.1
        rw [hp] at this
        exact of_decide_eq_true this
      · cases h
theorem eval_src {x : Nat → Value} {a : Act} {es : List (Nat × Option Tmp)} {N : Nat} (hN : a.tmps.size = N) (he : esIn es N = true) (y : Operand) : (putE x a es).eval y = (src es y).get x a := by
  cases y with
  | tmp t =>
    show _ = Src.get x a (match slotAt es t with | some i => .dep i | none => .old t)
    cases h : slotAt es t with
    | none => exact putE_old es a h
    | some i => exact putE_new es a (by rw [hN]; exact slotAt_lt es he h) h
  | const v => rfl
  | global g => rfl
  | func f => rfl

/-- A slot behind a region. -/
theorem slot_new {x : Nat → Value} {a b : Act} {es : List (Nat × Option Tmp)} {N t i : Nat} (hb : b = putE x a es) (hN : a.tmps.size = N) (h : slotAt es t = some i) (ht : decide (t < N) = true) : b.eval (.tmp t) = x i := by
  subst hb; exact putE_new es a (by rw [hN]; exact of_decide_eq_true ht) h
theorem slot_old {x : Nat → Value} {a b : Act} {es : List (Nat × Option Tmp)} {t : Nat} {v : Value} (hb : b = putE x a es) (h : slotAt es t = none) (hv : a.eval (.tmp t) = v) : b.eval (.tmp t) = v := by
  subst hb; exact (putE_old es a h).trans hv
theorem size_behind {x : Nat → Value} {a b : Act} {es : List (Nat × Option Tmp)} {N : Nat} (hb : b = putE x a es) (hN : a.tmps.size = N) : b.tmps.size = N := by
  subst hb; rw [putE_size, hN]
theorem defers_behind {x : Nat → Value} {a b : Act} {es : List (Nat × Option Tmp)} (hb : b = putE x a es) (hN : a.defers = []) : b.defers = [] := by
  subst hb; rw [putE_defers, hN]

theorem deps_all {S0 : Nat} {ks : List PK} {x : Nat → Value} {w : World} {G : Prop} : ∀ es : List (Nat × Option Tmp), ((∀ p ∈ es, (at_ ks p.1).sem S0 x (x p.1) w) → G) → deps S0 ks x w es G
  | [], h => h fun p hp => by cases hp
  | p :: r, h => fun hp => deps_all r fun hr => h fun q hq => by
    rcases List.mem_cons.1 hq with e | hq
    · rw [e]; exact hp
    · exact hr q hq

/-- A step that ends with a value; one without; one that enters a function. -/
theorem wp_val {P : Program} {o : Oper} {a : Act} {w w' : World} {v : Value} {K : Value → World → Prop} {d N : Nat} (hd : o.dst = some d) (hN : a.tmps.size = N) (hs : decide (d < N) = true) (h : (execOp a.eval o).run P w = .ok (.value v) w') (hk : K v w') :
    o.wp P a w (fun a' w' => a'.defers = a.defers ∧ K (retOf o.dst a') w') (fun _ _ _ => False) := by
  unfold Oper.wp
  rw [h]
  show (a.put o.dst v).defers = a.defers ∧ K (retOf o.dst (a.put o.dst v)) w'
  refine ⟨put_defers _ _ _, ?_⟩
  rw [hd]
  show K ((a.put (some d) v).eval (.tmp d)) w'
  rw [put_eval a d v (by rw [hN]; exact of_decide_eq_true hs)]
  exact hk
theorem wp_skp {P : Program} {o : Oper} {a : Act} {w w' : World} {K : Value → World → Prop} (hd : o.dst = none) (h : (execOp a.eval o).run P w = .ok .skip w') (hk : K undef w') :
    o.wp P a w (fun a' w' => a'.defers = a.defers ∧ K (retOf o.dst a') w') (fun _ _ _ => False) := by
  unfold Oper.wp
  rw [h]
  show (a.put o.dst undef).defers = a.defers ∧ K (retOf o.dst (a.put o.dst undef)) w'
  refine ⟨put_defers _ _ _, ?_⟩
  rw [hd]
  exact hk
theorem wp_ent {P : Program} {o : Oper} {a : Act} {w : World} {K : Value → World → Prop} {d N F : Nat} {args : Array Value} (hd : o.dst = some d) (hN : a.tmps.size = N) (hs : decide (d < N) = true) (h : (execOp a.eval o).run P w = .ok (.enter F args) w)
    (hc : Calls P F args w fun e w' => ∃ v, e = .returned v ∧ K v w') :
    o.wp P a w (fun a' w' => a'.defers = a.defers ∧ K (retOf o.dst a') w') (fun _ _ _ => False) := by
  unfold Oper.wp
  rw [h]
  refine Calls.mono hc fun e w' hh => ?_
  obtain ⟨v, rfl, hk⟩ := hh
  show (a.put o.dst v).defers = a.defers ∧ K (retOf o.dst (a.put o.dst v)) w'
  refine ⟨put_defers _ _ _, ?_⟩
  rw [hd]
  show K ((a.put (some d) v).eval (.tmp d)) w'
  rw [put_eval a d v (by rw [hN]; exact of_decide_eq_true hs)]
  exact hk

/-- A function of Go's with a body that a call enters. -/
def enters (P : Program) (F : FuncId) : Bool := match P.funcs[F]? with
  | some fn => !(fn.name == "runtime.NumGoroutine") && fn.body.isSome
  | none => false
theorem run_enters {P : Program} {F : FuncId} (h : enters P F = true) (args : Array Value) (w : World) : (callFunc F args).run P w = .ok (.enter F args) w := by
  unfold enters at h
  cases hf : P.funcs[F]? with
  | none => rw [hf] at h; cases h
  | some fn =>
    rw [hf] at h
    simp only [Bool.and_eq_true, Bool.not_eq_true'] at h
    have hn : fn.name ≠ "runtime.NumGoroutine" := by simpa using h.1
    have hb : fn.body ≠ none := fun e => by
      have := h.2
      rw [e] at this; cases this
    simp [callFunc, go_sem, hf, hn, hb]

section
variable {P : Program} {C : World → Prop} {S0 : Nat} {ks : List PK} {a0 : Act} {i : Nat} {es : List (Nat × Option Tmp)} {N : Nat}

/-- A call whose arguments are known by where they come from. -/
theorem st_call {d F : Nat} {args : Array Operand} {ats : Array TypeId} {T : TypeId} {pos : String} {af : Array Edge} {g : Option (Nat × Bool)} (ss : List Src) (hN : a0.tmps.size = N) (he : esIn es N = true) (hd : decide (d < N) = true) (hF : enters P F = true) (hs : args.toList.map (src es) = ss)
    (h : ∀ w x, C w → (∀ p ∈ es, (at_ ks p.1).sem S0 x (x p.1) w) → Calls P F (ss.map (Src.get x a0)).toArray w fun e w' => ∃ v, e = .returned v ∧ (at_ ks i).move S0 x v w w' ∧ (at_ ks i).sem S0 x v w') :
    PkStep P C S0 ks a0 i { dst := some d, op := .call { callee := .value (.func F), args := args, argTypes := ats }, type := T, pos := pos, after := af, guard := g } es := by
  intro w x hC
  refine deps_all es fun hdeps K hK => ?_
  have hargs : args.map (putE x a0 es).eval = (ss.map (Src.get x a0)).toArray := by
    apply Array.ext'
    rw [Array.toList_map, ← hs, List.map_map]
    refine List.map_congr_left fun y _ => ?_
    exact eval_src hN he y
  refine wp_ent (F := F) (args := (ss.map (Src.get x a0)).toArray) rfl (by rw [putE_size, hN]) hd ?_ ?_
  · rw [← hargs]
    simp [go_sem, run_enters hF]
  · exact (h w x hC hdeps).mono fun e w' hh => by
      obtain ⟨v, h1, h2, h3⟩ := hh
      exact ⟨v, h1, hK v w' h2 h3⟩

/-- Values of slots that are known. -/
def lookS : List (Nat × Option Tmp) → List Value → Tmp → Option Value
  | p :: r, v :: vs, t => match lookS r vs t with
    | some u => some u
    | none => if p.2 = some t then some v else none
  | _, _, _ => none
def look (es : List (Nat × Option Tmp)) (vs : List Value) (olds : List (Tmp × Value)) : Operand → Value
  | .tmp t => match lookS es vs t with
    | some v => v
    | none => match olds.find? (fun p => p.1 == t) with
      | some p => p.2
      | none => undef
  | .const v => v
  | .global g => .pointer (some ⟨g, 0, none⟩)
  | .func f => .func (.func f) #[] #[]
def known (es : List (Nat × Option Tmp)) (olds : List (Tmp × Value)) : Operand → Bool
  | .tmp t => (slotAt es t).isSome || (olds.any fun p => p.1 == t)
  | _ => true
theorem lookS_eq {x : Nat → Value} {t : Tmp} : ∀ (es : List (Nat × Option Tmp)) (vs : List Value), es.length = vs.length → (∀ p ∈ es.zip vs, x p.1.1 = p.2) → lookS es vs t = (slotAt es t).map x
  | [], [], _, _ => rfl
  | [], _ :: _, h, _ => by simp at h
  | _ :: _, [], h, _ => by simp at h
  | p :: r, v :: vs, hl, h => by
    have ih := lookS_eq (t := t) r vs (by simpa using hl) fun q hq => h q (List.mem_cons_of_mem _ hq)
    unfold lookS slotAt
    rw [ih]
    cases hh : slotAt r t with
    | some j => rfl
    | none =>
      simp only [Option.map_none]
      split
      · rw [Option.map_some, h (p, v) List.mem_cons_self]
      · rfl
theorem vals_of {x : Nat → Value} {w : World} : ∀ (es : List (Nat × Option Tmp)) (vs : List Value), es.map (fun p => at_ ks p.1) = vs.map kIs → (∀ p ∈ es, (at_ ks p.1).sem S0 x (x p.1) w) → ∀ p ∈ es.zip vs, x p.1.1 = p.2
  | [], _, _, _, p, hp => by simp at hp
  | _ :: _, [], h, _, _, _ => by simp at h
  | q :: r, v :: vs, h, hd, p, hp => by
    rw [List.map_cons, List.map_cons] at h
    injection h with h1 h2
    rcases List.mem_cons.1 (by simpa using hp : p ∈ (q, v) :: r.zip vs) with rfl | hp
    · have := hd q List.mem_cons_self
      rw [h1] at this
      exact this
    · exact vals_of r vs h2 (fun p hp => hd p (List.mem_cons_of_mem _ hp)) p hp
/-- An operation that moves nothing, of values that are known. -/
theorem st_pure {o : Oper} {d : Nat} (vs : List Value) (olds : List (Tmp × Value)) (V : Value) (hd : o.dst = some d) (hN : a0.tmps.size = N) (he : esIn es N = true) (hdN : decide (d < N) = true)
    (hc : es.map (fun p => at_ ks p.1) = vs.map kIs) (ho : ∀ p ∈ olds, a0.eval (.tmp p.1) = p.2) (hsel : (match o.op with | .select _ _ => false | _ => true) = true) (hk : o.op.operands.all (known es olds) = true) (hV : at_ ks i = kIs V)
    (hr : ∀ w, (execOp (look es vs olds) o).run P w = .ok (.value V) w) : PkStep P C S0 ks a0 i o es := by
  intro w x hC
  refine deps_all es fun hdeps K hK => ?_
  have hl : es.length = vs.length := by simpa using congrArg List.length hc
  have hx := vals_of es vs hc hdeps
  have hev : execOp (putE x a0 es).eval o = execOp (look es vs olds) o := by
    refine execOp_congr o (fun cs b e => by rw [e] at hsel; cases hsel) fun y hy => ?_
    rw [eval_src hN he y]
    cases y with
    | tmp t =>
      show Src.get x a0 (match slotAt es t with | some i => .dep i | none => .old t) = match lookS es vs t with | some v => v | none => match olds.find? (fun p => p.1 == t) with | some p => p.2 | none => undef
      rw [lookS_eq es vs hl hx]
      have hkn := Array.all_eq_true'.1 hk _ hy
      simp only [known, Bool.or_eq_true] at hkn
      cases hs : slotAt es t with
      | some j => rfl
      | none =>
        rw [hs] at hkn
        rcases hkn with h | h
        · cases h
        · obtain ⟨q, hq, hqt⟩ := List.any_eq_true.1 h
          cases hf : olds.find? (fun p => p.1 == t) with
          | none => exact absurd hqt (by simpa using List.find?_eq_none.1 hf q hq)
          | some p =>
            have h1 := List.mem_of_find?_eq_some hf
            have h2 : p.1 = t := by simpa using List.find?_some hf
            show a0.eval (.tmp t) = p.2
            rw [← h2]; exact ho p h1
    | const v => rfl
    | global g => rfl
    | func f => rfl
  refine wp_val (v := V) (w' := w) hd (by rw [putE_size, hN]) hdN (by rw [hev]; exact hr w) (hK V w ?_ ?_)
  · rw [hV]; exact Below.refl _ _
  · rw [hV]; rfl

theorem st_pureV {o : Oper} {d : Nat} (vs : List Value) (olds : List (Tmp × Value)) (V' V : Value) (e : V' = V) (hd : o.dst = some d) (hN : a0.tmps.size = N) (he : esIn es N = true) (hdN : decide (d < N) = true)
    (hc : es.map (fun p => at_ ks p.1) = vs.map kIs) (ho : ∀ p ∈ olds, a0.eval (.tmp p.1) = p.2) (hsel : (match o.op with | .select _ _ => false | _ => true) = true) (hk : o.op.operands.all (known es olds) = true) (hV : at_ ks i = kIs V)
    (hr : ∀ w, (execOp (look es vs olds) o).run P w = .ok (.value V') w) : PkStep P C S0 ks a0 i o es := by
  subst e; exact st_pure vs olds V' hd hN he hdN hc ho hsel hk hV hr
/-- A value of any kind handed on. -/
theorem st_move {d j : Nat} {t : Tmp} {T : TypeId} {pos : String} {af : Array Edge} {g : Option (Nat × Bool)} {f : Value → World → Prop} {hb hs} (hN : a0.tmps.size = N) (hd : decide (d < N) = true) (ht : decide (t < N) = true) (hj : at_ ks j = .p f hb hs) (hi : at_ ks i = .p f hb hs) :
    PkStep P C S0 ks a0 i { dst := some d, op := .move (.tmp t), type := T, pos := pos, after := af, guard := g } [(j, some t)] := by
  intro w x hC
  refine deps_all _ fun hdeps K hK => ?_
  have h1 := hdeps _ (List.mem_singleton.2 rfl)
  have hev : (putE x a0 [(j, some t)]).eval (.tmp t) = x j := putE_new _ _ (by rw [hN]; exact of_decide_eq_true ht) (by simp [slotAt])
  refine wp_val (v := x j) (w' := w) rfl (by rw [putE_size, hN]) hd ?_ (hK _ _ ?_ ?_)
  · show (pure (Next.value ((putE x a0 [(j, some t)]).eval (.tmp t))) : Sem Next).run P w = _
    rw [hev]; rfl
  · rw [hi]; exact Below.refl _ _
  · rw [hi]; rw [hj] at h1; exact h1
end

section
variable {P : Program} {w w' : World} {ρ : Operand → Value} {d : Option Tmp} {T : TypeId} {pos : String} {af : Array Edge} {gu : Option (Nat × Bool)}
theorem run_then {α β : Type} {m : Sem α} {f : α → Sem β} {v : α} (h : m.run P w = .ok v w') : (m >>= f).run P w = (f v).run P w' := by simp [go_sem, h]
theorem ex_load {E : TypeId} {t : Tmp} {p v : Value} (h : ρ (.tmp t) = p) (hr : (Instr.loadAt E p).run P w = .ok v w) : (execOp ρ { dst := d, op := .load E (.tmp t), type := T, pos := pos, after := af, guard := gu }).run P w = .ok (.value v) w := by
  show Sem.run P ((Instr.loadAt E (ρ (.tmp t))) >>= fun v => pure (Next.value v)) w = _
  rw [h]
  rw [run_then hr]; rfl
theorem ex_store {E : TypeId} {t u : Tmp} {p v : Value} (h : ρ (.tmp t) = p) (h2 : ρ (.tmp u) = v) (hr : (Instr.storeAt E p v).run P w = .ok () w') : (execOp ρ { dst := d, op := .store E (.tmp t) (.tmp u), type := T, pos := pos, after := af, guard := gu }).run P w = .ok .skip w' := by
  show Sem.run P ((Instr.storeAt E (ρ (.tmp t)) (ρ (.tmp u))) >>= fun _ => pure Next.skip) w = _
  rw [h, h2]
  rw [run_then hr]; rfl
theorem ex_alloc {E : TypeId} {v : Value} (hr : (Instr.alloc E true (.tuple #[])).run P w = .ok v w') : (execOp ρ { dst := d, op := .alloc E, type := T, pos := pos, after := af, guard := gu }).run P w = .ok (.value v) w' := by
  show Sem.run P ((Instr.alloc E true (.tuple #[])) >>= fun v => pure (Next.value v)) w = _
  rw [run_then hr]; rfl
theorem ex_slice1 {E : TypeId} {t1 : Tmp} {v1 v : Value} (h1 : ρ (.tmp t1) = v1) (hr : (Instr.buildSlice E 1 #[(0, v1)]).run P w = .ok v w') : (execOp ρ { dst := d, op := .buildSlice E 1 #[(0, .tmp t1)], type := T, pos := pos, after := af, guard := gu }).run P w = .ok (.value v) w' := by
  have e : (#[(0, .tmp t1)] : Array (Nat × Operand)).map (fun p => (p.1, ρ p.2)) = #[(0, v1)] := by simp [h1]
  show Sem.run P ((Instr.buildSlice E 1 ((#[(0, .tmp t1)] : Array (Nat × Operand)).map (fun p => (p.1, ρ p.2)))) >>= fun v => pure (Next.value v)) w = _
  rw [e]
  rw [run_then hr]; rfl
theorem ex_slice2 {E : TypeId} {t1 t2 : Tmp} {v1 v2 v : Value} (h1 : ρ (.tmp t1) = v1) (h2 : ρ (.tmp t2) = v2) (hr : (Instr.buildSlice E 2 #[(0, v1), (1, v2)]).run P w = .ok v w') : (execOp ρ { dst := d, op := .buildSlice E 2 #[(0, .tmp t1), (1, .tmp t2)], type := T, pos := pos, after := af, guard := gu }).run P w = .ok (.value v) w' := by
  have e : (#[(0, .tmp t1), (1, .tmp t2)] : Array (Nat × Operand)).map (fun p => (p.1, ρ p.2)) = #[(0, v1), (1, v2)] := by simp [h1, h2]
  show Sem.run P ((Instr.buildSlice E 2 ((#[(0, .tmp t1), (1, .tmp t2)] : Array (Nat × Operand)).map (fun p => (p.1, ρ p.2)))) >>= fun v => pure (Next.value v)) w = _
  rw [e]
  rw [run_then hr]; rfl
theorem ex_slice3 {E : TypeId} {t1 t2 t3 : Tmp} {v1 v2 v3 v : Value} (h1 : ρ (.tmp t1) = v1) (h2 : ρ (.tmp t2) = v2) (h3 : ρ (.tmp t3) = v3) (hr : (Instr.buildSlice E 3 #[(0, v1), (1, v2), (2, v3)]).run P w = .ok v w') : (execOp ρ { dst := d, op := .buildSlice E 3 #[(0, .tmp t1), (1, .tmp t2), (2, .tmp t3)], type := T, pos := pos, after := af, guard := gu }).run P w = .ok (.value v) w' := by
  have e : (#[(0, .tmp t1), (1, .tmp t2), (2, .tmp t3)] : Array (Nat × Operand)).map (fun p => (p.1, ρ p.2)) = #[(0, v1), (1, v2), (2, v3)] := by simp [h1, h2, h3]
  show Sem.run P ((Instr.buildSlice E 3 ((#[(0, .tmp t1), (1, .tmp t2), (2, .tmp t3)] : Array (Nat × Operand)).map (fun p => (p.1, ρ p.2)))) >>= fun v => pure (Next.value v)) w = _
  rw [e]
  rw [run_then hr]; rfl
theorem ex_ext {t : Tmp} {n : Nat} {vs : Array Value} {u : Value} (h : ρ (.tmp t) = .tuple vs) (hu : vs[n]? = some u) : (execOp ρ { dst := d, op := .extract (.tmp t) n, type := T, pos := pos, after := af, guard := gu }).run P w = .ok (.value u) w := by
  show Sem.run P ((Instr.extract (ρ (.tmp t)) n) >>= fun v => pure (Next.value v)) w = _
  rw [h]
  have hr : (Instr.extract (.tuple vs) n).run P w = .ok u w := by simp [Instr.extract, go_sem, hu]
  rw [run_then hr]; rfl
end
theorem old0 {a : Act} : ∀ p ∈ ([] : List (Tmp × Value)), a.eval (.tmp p.1) = p.2 := fun _ h => by cases h
theorem old1 {a : Act} {t : Tmp} {v : Value} (h : a.eval (.tmp t) = v) : ∀ p ∈ [(t, v)], a.eval (.tmp p.1) = p.2 := fun p hp => by rw [List.mem_singleton.1 hp]; exact h
theorem old2 {a : Act} {t t' : Tmp} {v v' : Value} (h : a.eval (.tmp t) = v) (h' : a.eval (.tmp t') = v') : ∀ p ∈ [(t, v), (t', v')], a.eval (.tmp p.1) = p.2 := fun p hp => by
  rcases List.mem_cons.1 hp with rfl | hp
  · exact h
  · rw [List.mem_singleton.1 hp]; exact h'
theorem name_frame {G : Act → Prop} {a : Act} (h : ∀ a0, a0 = a → G a0) : G a := h a rfl

/-- A region that stores into nothing that was there. -/
theorem wp_region_law {P : Program} {id : Nat} {draw : Bool} {ops : Array Oper} {Q : Exit → Act → World → Prop} {a0 : Act} {W0 : World} {N : Nat} (hN : a0.tmps.size = N) (B : Nat) (ks : List PK) (es : List (List (Nat × Option Tmp))) (all : List (Nat × Option Tmp)) (bs : List (Nat × Bool)) (sk : List Nat) (hm : P.follows .mixedOrders = true) (hchk : growOK ops (fun i => !sk.contains i) es all N = true) (hk : codesOK ks es = true) (hgu : guardOK ops bs sk = true) (hbs : bs.map (fun p => at_ ks p.1) = bs.map fun p => kIs (.bool p.2)) (hsk : sk.map (at_ ks) = sk.map fun _ => kIs undef)
    (hb : blks ks = []) (hB0 : B ≤ W0.heap.size) (hs : PkFrom P ops es sk (Reg B W0 []) W0.heap.size ks a0 0) (hend : ∀ w' x, Reg B W0 [] w' → (∀ i, i < ops.size → (at_ ks i).sem W0.heap.size x (x i) w') → Q .normal (putE x a0 all) w') : (Code.region id ops draw).wp P Q a0 W0 := by
  subst hN
  refine wp_region_pk B ks es all bs sk hm hchk hk hgu hbs hsk ?_ ?_ hB0 ?_ ?_ ?_
  · rw [hb]; exact List.nodup_nil
  · rw [hb]; intro g hg; cases hg
  · rw [hb]; intro g hg; cases hg
  · rw [hb]; exact hs
  · rw [hb]; exact hend
end Go.Proofs.YtbccknhinmgibaaDoor

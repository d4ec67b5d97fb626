/- A frame that is known by its slots alone; one step an operation for regions in such frames: values, calls, lists, variables. No condition. Whole numbers, by whatever sign and digits they are told: 'Zd' any, 'Zr' a right one; lists of them; package num's calls over them. Sizes by powers of the base, the 4000th at most. One step an operation over whole numbers: loads, lists, calls, variables, in frames that are known by their slots. No condition. What the laws over three numbers share: the first region, whether they are great. No condition. A number of package api that came in: its sign, its digits; how many digits there may be. No condition. -/
import Derived.Test.YthjgfkmnelefpaaGreatDoorReg
import Derived.Lib.Hide
import Derived.Test.YthjgfkmnelefpaaGreatDoorNum14
import Derived.Test.YthjgfkmnelefpaaGreatDoorNum13
import Derived.Test.YthjgfkmnelefpaaGreatDoorTab
import Derived.Lib.SmallJoins
import Derived.SizedLaws
namespace Go.Proofs.YthjgfkmnelefpaaGreatDoor
open Go.RowKit

/-- Which operation of those put wrote the slot t last. -/
def slotAt : List (Nat × Option Tmp) → Tmp → Option Nat
  | [], _ => none
  | p :: r, t => match slotAt r t with
    | some i => some i
    | none => if p.2 = some t then some p.1 else none
theorem put_size (a : Act) (d : Option Tmp) (v : Value) : (a.put d v).tmps.size = a.tmps.size := by
  cases d <;> simp [Act.put]
theorem put_defers (a : Act) (d : Option Tmp) (v : Value) : (a.put d v).defers = a.defers := by
  cases d <;> rfl
theorem putE_size (x : Nat → Value) : ∀ (es : List (Nat × Option Tmp)) (a : Act), (putE x a es).tmps.size = a.tmps.size
  | [], _ => rfl
  | p :: r, a => by rw [putE, putE_size x r, put_size]
theorem putE_defers (x : Nat → Value) : ∀ (es : List (Nat × Option Tmp)) (a : Act), (putE x a es).defers = a.defers
  | [], _ => rfl
  | p :: r, a => by rw [putE, putE_defers x r, put_defers]
theorem put_eval_ne (a : Act) {d : Option Tmp} {t : Tmp} (v : Value) (h : d ≠ some t) : (a.put d v).eval (.tmp t) = a.eval (.tmp t) := by
  cases d with
  | none => rfl
  | some d =>
    have hne : d ≠ t := fun e => h (by rw [e])
    show (a.tmps.setIfInBounds d v).getD t undef = a.tmps.getD t undef
    simp only [Array.getD_eq_getD_getElem?]
    rw [Array.getElem?_setIfInBounds_ne hne]
theorem putE_old {x : Nat → Value} {t : Tmp} : ∀ (es : List (Nat × Option Tmp)) (a : Act), slotAt es t = none → (putE x a es).eval (.tmp t) = a.eval (.tmp t)
  | [], _, _ => rfl
  | p :: r, a, h => by
    unfold slotAt at h
    split at h
    · cases h
    · rename_i hr
      split at h
      · cases h
      · rename_i hp
        rw [putE, putE_old r _ hr, put_eval_ne _ _ hp]
theorem putE_new {x : Nat → Value} {t : Tmp} {i : Nat} : ∀ (es : List (Nat × Option Tmp)) (a : Act), t < a.tmps.size → slotAt es t = some i → (putE x a es).eval (.tmp t) = x i
  | [], _, _, h => by cases h
  | p :: r, a, hs, h => by
    unfold slotAt at h
    split at h
    · rename_i hr
      injection h with h
      subst h
      rw [putE]
      exact putE_new r _ (by rw [put_size]; exact hs) hr
    · rename_i hr
      split at h
      · rename_i hp
        injection h with h
        rw [putE, putE_old r _ hr, hp, ← h]
        exact put_eval _ _ _ hs
      · cases h

/-- Where an operand comes from. -/
inductive Src where
  | dep (i : Nat)
  | old (t : Tmp)
  | val (v : Value)
def src (es : List (Nat × Option Tmp)) : Operand → Src
  | .tmp t => match slotAt es t with
    | some i => .dep i
    | none => .old t
  | .const v => .val v
  | .global g => .val (.pointer (some ⟨g, 0, none⟩))
  | .func f => .val (.func (.func f) #[] #[])
def Src.get (x : Nat → Value) (a : Act) : Src → Value
  | .dep i => x i
  | .old t => a.eval (.tmp t)
  | .val v => v
def esIn (es : List (Nat × Option Tmp)) (N : Nat) : Bool := es.all fun p => match p.2 with | some t => decide (t < N) | none => true
theorem slotAt_lt {N : Nat} {t : Tmp} {i : Nat} : ∀ es : List (Nat × Option Tmp), esIn es N = true → slotAt es t = some i → t < N
  | [], _, h => by cases h
  | p :: r, he, h => by
    unfold esIn at he
    rw [List.all_cons, Bool.and_eq_true] at he
    unfold slotAt at h
    split at h
    · rename_i hr
      exact slotAt_lt r he.2 hr
    · split at h
      · rename_i hp
        have := he.1
        rw [hp] at this
        exact of_decide_eq_true this
      · cases h
theorem eval_src {x : Nat → Value} {a : Act} {es : List (Nat × Option Tmp)} {N : Nat} (hN : a.tmps.size = N) (he : esIn es N = true) (y : Operand) : (putE x a es).eval y = (src es y).get x a := by
  cases y with
  | tmp t =>
    show _ = Src.get x a (match slotAt es t with | some i => .dep i | none => .old t)
    cases h : slotAt es t with
    | none => exact putE_old es a h
    | some i => exact putE_new es a (by rw [hN]; exact slotAt_lt es he h) h
  | const v => rfl
  | global g => rfl
  | func f => rfl

/-- A slot behind a region. -/
theorem slot_new {x : Nat → Value} {a b : Act} {es : List (Nat × Option Tmp)} {N t i : Nat} (hb : b = putE x a es) (hN : a.tmps.size = N) (h : slotAt es t = some i) (ht : decide (t < N) = true) : b.eval (.tmp t) = x i := by
  subst hb; exact putE_new es a (by rw [hN]; exact of_decide_eq_true ht) h
theorem slot_old {x : Nat → Value} {a b : Act} {es : List (Nat × Option Tmp)} {t : Nat} {v : Value} (hb : b = putE x a es) (h : slotAt es t = none) (hv : a.eval (.tmp t) = v) : b.eval (.tmp t) = v := by
  subst hb; exact (putE_old es a h).trans hv
theorem size_behind {x : Nat → Value} {a b : Act} {es : List (Nat × Option Tmp)} {N : Nat} (hb : b = putE x a es) (hN : a.tmps.size = N) : b.tmps.size = N := by
  subst hb; rw [putE_size, hN]
theorem defers_behind {x : Nat → Value} {a b : Act} {es : List (Nat × Option Tmp)} (hb : b = putE x a es) (hN : a.defers = []) : b.defers = [] := by
  subst hb; rw [putE_defers, hN]

theorem deps_all {S0 : Nat} {ks : List PK} {x : Nat → Value} {w : World} {G : Prop} : ∀ es : List (Nat × Option Tmp), ((∀ p ∈ es, (at_ ks p.1).sem S0 x (x p.1) w) → G) → deps S0 ks x w es G
  | [], h => h fun p hp => by cases hp
  | p :: r, h => fun hp => deps_all r fun hr => h fun q hq => by
    rcases List.mem_cons.1 hq with e | hq
    · rw [e]; exact hp
    · exact hr q hq

/-- A step that ends with a value; one without; one that enters a function. -/
theorem wp_val {P : Program} {o : Oper} {a : Act} {w w' : World} {v : Value} {K : Value → World → Prop} {d N : Nat} (hd : o.dst = some d) (hN : a.tmps.size = N) (hs : decide (d < N) = true) (h : (execOp a.eval o).run P w = .ok (.value v) w') (hk : K v w') :
    o.wp P a w (fun a' w' => a'.defers = a.defers ∧ K (retOf o.dst a') w') (fun _ _ _ => False) := by
  unfold Oper.wp
  rw [h]
  show (a.put o.dst v).defers = a.defers ∧ K (retOf o.dst (a.put o.dst v)) w'
  refine ⟨put_defers _ _ _, ?_⟩
  rw [hd]
  show K ((a.put (some d) v).eval (.tmp d)) w'
  rw [put_eval a d v (by rw [hN]; exact of_decide_eq_true hs)]
  exact hk
theorem wp_skp {P : Program} {o : Oper} {a : Act} {w w' : World} {K : Value → World → Prop} (hd : o.dst = none) (h : (execOp a.eval o).run P w = .ok .skip w') (hk : K undef w') :
    o.wp P a w (fun a' w' => a'.defers = a.defers ∧ K (retOf o.dst a') w') (fun _ _ _ => False) := by
  unfold Oper.wp
  rw [h]
  show (a.put o.dst undef).defers = a.defers ∧ K (retOf o.dst (a.put o.dst undef)) w'
  refine ⟨put_defers _ _ _, ?_⟩
  rw [hd]
  exact hk
theorem wp_ent {P : Program} {o : Oper} {a : Act} {w : World} {K : Value → World → Prop} {d N F : Nat} {args : Array Value} (hd : o.dst = some d) (hN : a.tmps.size = N) (hs : decide (d < N) = true) (h : (execOp a.eval o).run P w = .ok (.enter F args) w)
    (hc : Calls P F args w fun e w' => ∃ v, e = .returned v ∧ K v w') :
    o.wp P a w (fun a' w' => a'.defers = a.defers ∧ K (retOf o.dst a') w') (fun _ _ _ => False) := by
  unfold Oper.wp
  rw [h]
  refine Calls.mono hc fun e w' hh => ?_
  obtain ⟨v, rfl, hk⟩ := hh
  show (a.put o.dst v).defers = a.defers ∧ K (retOf o.dst (a.put o.dst v)) w'
  refine ⟨put_defers _ _ _, ?_⟩
  rw [hd]
  show K ((a.put (some d) v).eval (.tmp d)) w'
  rw [put_eval a d v (by rw [hN]; exact of_decide_eq_true hs)]
  exact hk

/-- A function of Go's with a body that a call enters. -/
def enters (P : Program) (F : FuncId) : Bool := match P.funcs[F]? with
  | some fn => !(fn.name == "runtime.NumGoroutine") && fn.body.isSome
  | none => false
theorem run_enters {P : Program} {F : FuncId} (h : enters P F = true) (args : Array Value) (w : World) : (callFunc F args).run P w = .ok (.enter F args) w := by
  unfold enters at h
  cases hf : P.funcs[F]? with
  | none => rw [hf] at h; cases h
  | some fn =>
    rw [hf] at h
    simp only [Bool.and_eq_true, Bool.not_eq_true'] at h
    have hn : fn.name ≠ "runtime.NumGoroutine" := by simpa using h.1
    have hb : fn.body ≠ none := fun e => by
      have := h.2
      rw [e] at this; cases this
    simp [callFunc, go_sem, hf, hn, hb]

section
variable {P : Program} {C : World → Prop} {S0 : Nat} {ks : List PK} {a0 : Act} {i : Nat} {es : List (Nat × Option Tmp)} {N : Nat}

/-- A call whose arguments are known by where they come from. -/
theorem st_call {d F : Nat} {args : Array Operand} {ats : Array TypeId} {T : TypeId} {pos : String} {af : Array Edge} {g : Option (Nat × Bool)} (ss : List Src) (hN : a0.tmps.size = N) (he : esIn es N = true) (hd : decide (d < N) = true) (hF : enters P F = true) (hs : args.toList.map (src es) = ss)
    (h : ∀ w x, C w → (∀ p ∈ es, (at_ ks p.1).sem S0 x (x p.1) w) → Calls P F (ss.map (Src.get x a0)).toArray w fun e w' => ∃ v, e = .returned v ∧ (at_ ks i).move S0 x v w w' ∧ (at_ ks i).sem S0 x v w') :
    PkStep P C S0 ks a0 i { dst := some d, op := .call { callee := .value (.func F), args := args, argTypes := ats }, type := T, pos := pos, after := af, guard := g } es := by
  intro w x hC
  refine deps_all es fun hdeps K hK => ?_
  have hargs : args.map (putE x a0 es).eval = (ss.map (Src.get x a0)).toArray := by
    apply Array.ext'
    rw [Array.toList_map, ← hs, List.map_map]
    refine List.map_congr_left fun y _ => ?_
    exact eval_src hN he y
  refine wp_ent (F := F) (args := (ss.map (Src.get x a0)).toArray) rfl (by rw [putE_size, hN]) hd ?_ ?_
  · rw [← hargs]
    simp [go_sem, run_enters hF]
  · exact (h w x hC hdeps).mono fun e w' hh => by
      obtain ⟨v, h1, h2, h3⟩ := hh
      exact ⟨v, h1, hK v w' h2 h3⟩

/-- Values of slots that are known. -/
def lookS : List (Nat × Option Tmp) → List Value → Tmp → Option Value
  | p :: r, v :: vs, t => match lookS r vs t with
    | some u => some u
    | none => if p.2 = some t then some v else none
  | _, _, _ => none
def look (es : List (Nat × Option Tmp)) (vs : List Value) (olds : List (Tmp × Value)) : Operand → Value
  | .tmp t => match lookS es vs t with
    | some v => v
    | none => match olds.find? (fun p => p.1 == t) with
      | some p => p.2
      | none => undef
  | .const v => v
  | .global g => .pointer (some ⟨g, 0, none⟩)
  | .func f => .func (.func f) #[] #[]
def known (es : List (Nat × Option Tmp)) (olds : List (Tmp × Value)) : Operand → Bool
  | .tmp t => (slotAt es t).isSome || (olds.any fun p => p.1 == t)
  | _ => true
theorem lookS_eq {x : Nat → Value} {t : Tmp} : ∀ (es : List (Nat × Option Tmp)) (vs : List Value), es.length = vs.length → (∀ p ∈ es.zip vs, x p.1.1 = p.2) → lookS es vs t = (slotAt es t).map x
  | [], [], _, _ => rfl
  | [], _ :: _, h, _ => by simp at h
  | _ :: _, [], h, _ => by simp at h
  | p :: r, v :: vs, hl, h => by
    have ih := lookS_eq (t := t) r vs (by simpa using hl) fun q hq => h q (List.mem_cons_of_mem _ hq)
    unfold lookS slotAt
    rw [ih]
    cases hh : slotAt r t with
    | some j => rfl
    | none =>
      simp only [Option.map_none]
      split
      · rw [Option.map_some, h (p, v) List.mem_cons_self]
      · rfl
theorem vals_of {x : Nat → Value} {w : World} : ∀ (es : List (Nat × Option Tmp)) (vs : List Value), es.map (fun p => at_ ks p.1) = vs.map kIs → (∀ p ∈ es, (at_ ks p.1).sem S0 x (x p.1) w) → ∀ p ∈ es.zip vs, x p.1.1 = p.2
  | [], _, _, _, p, hp => by simp at hp
  | _ :: _, [], h, _, _, _ => by simp at h
  | q :: r, v :: vs, h, hd, p, hp => by
    rw [List.map_cons, List.map_cons] at h
    injection h with h1 h2
    rcases List.mem_cons.1 (by simpa using hp : p ∈ (q, v) :: r.zip vs) with rfl | hp
    · have := hd q List.mem_cons_self
      rw [h1] at this
      exact this
    · exact vals_of r vs h2 (fun p hp => hd p (List.mem_cons_of_mem _ hp)) p hp
/-- An operation that moves nothing, of values that are known. -/
theorem st_pure {o : Oper} {d : Nat} (vs : List Value) (olds : List (Tmp × Value)) (V : Value) (hd : o.dst = some d) (hN : a0.tmps.size = N) (he : esIn es N = true) (hdN : decide (d < N) = true)
    (hc : es.map (fun p => at_ ks p.1) = vs.map kIs) (ho : ∀ p ∈ olds, a0.eval (.tmp p.1) = p.2) (hsel : (match o.op with | .select _ _ => false | _ => true) = true) (hk : o.op.operands.all (known es olds) = true) (hV : at_ ks i = kIs V)
    (hr : ∀ w, (execOp (look es vs olds) o).run P w = .ok (.value V) w) : PkStep P C S0 ks a0 i o es := by
  intro w x hC
  refine deps_all es fun hdeps K hK => ?_
  have hl : es.length = vs.length := by simpa using congrArg List.length hc
  have hx := vals_of es vs hc hdeps
  have hev : execOp (putE x a0 es).eval o = execOp (look es vs olds) o := by
    refine execOp_congr o (fun cs b e => by rw [e] at hsel; cases hsel) fun y hy => ?_
    rw [eval_src hN he y]
    cases y with
    | tmp t =>
      show Src.get x a0 (match slotAt es t with | some i => .dep i | none => .old t) = match lookS es vs t with | some v => v | none => match olds.find? (fun p => p.1 == t) with | some p => p.2 | none => undef
      rw [lookS_eq es vs hl hx]
      have hkn := Array.all_eq_true'.1 hk _ hy
      simp only [known, Bool.or_eq_true] at hkn
      cases hs : slotAt es t with
      | some j => rfl
      | none =>
        rw [hs] at hkn
        rcases hkn with h | h
        · cases h
        · obtain ⟨q, hq, hqt⟩ := List.any_eq_true.1 h
          cases hf : olds.find? (fun p => p.1 == t) with
          | none => exact absurd hqt (by simpa using List.find?_eq_none.1 hf q hq)
          | some p =>
            have h1 := List.mem_of_find?_eq_some hf
            have h2 : p.1 = t := by simpa using List.find?_some hf
            show a0.eval (.tmp t) = p.2
            rw [← h2]; exact ho p h1
    | const v => rfl
    | global g => rfl
    | func f => rfl
  refine wp_val (v := V) (w' := w) hd (by rw [putE_size, hN]) hdN (by rw [hev]; exact hr w) (hK V w ?_ ?_)
  · rw [hV]; exact Below.refl _ _
  · rw [hV]; rfl

theorem st_pureV {o : Oper} {d : Nat} (vs : List Value) (olds : List (Tmp × Value)) (V' V : Value) (e : V' = V) (hd : o.dst = some d) (hN : a0.tmps.size = N) (he : esIn es N = true) (hdN : decide (d < N) = true)
    (hc : es.map (fun p => at_ ks p.1) = vs.map kIs) (ho : ∀ p ∈ olds, a0.eval (.tmp p.1) = p.2) (hsel : (match o.op with | .select _ _ => false | _ => true) = true) (hk : o.op.operands.all (known es olds) = true) (hV : at_ ks i = kIs V)
    (hr : ∀ w, (execOp (look es vs olds) o).run P w = .ok (.value V') w) : PkStep P C S0 ks a0 i o es := by
  subst e; exact st_pure vs olds V' hd hN he hdN hc ho hsel hk hV hr
/-- A value of any kind handed on. -/
theorem st_move {d j : Nat} {t : Tmp} {T : TypeId} {pos : String} {af : Array Edge} {g : Option (Nat × Bool)} {f : Value → World → Prop} {hb hs} (hN : a0.tmps.size = N) (hd : decide (d < N) = true) (ht : decide (t < N) = true) (hj : at_ ks j = .p f hb hs) (hi : at_ ks i = .p f hb hs) :
    PkStep P C S0 ks a0 i { dst := some d, op := .move (.tmp t), type := T, pos := pos, after := af, guard := g } [(j, some t)] := by
  intro w x hC
  refine deps_all _ fun hdeps K hK => ?_
  have h1 := hdeps _ (List.mem_singleton.2 rfl)
  have hev : (putE x a0 [(j, some t)]).eval (.tmp t) = x j := putE_new _ _ (by rw [hN]; exact of_decide_eq_true ht) (by simp [slotAt])
  refine wp_val (v := x j) (w' := w) rfl (by rw [putE_size, hN]) hd ?_ (hK _ _ ?_ ?_)
  · show (pure (Next.value ((putE x a0 [(j, some t)]).eval (.tmp t))) : Sem Next).run P w = _
    rw [hev]; rfl
  · rw [hi]; exact Below.refl _ _
  · rw [hi]; rw [hj] at h1; exact h1
end

section
variable {P : Program} {w w' : World} {ρ : Operand → Value} {d : Option Tmp} {T : TypeId} {pos : String} {af : Array Edge} {gu : Option (Nat × Bool)}
theorem run_then {α β : Type} {m : Sem α} {f : α → Sem β} {v : α} (h : m.run P w = .ok v w') : (m >>= f).run P w = (f v).run P w' := by simp [go_sem, h]
theorem ex_load {E : TypeId} {t : Tmp} {p v : Value} (h : ρ (.tmp t) = p) (hr : (Instr.loadAt E p).run P w = .ok v w) : (execOp ρ { dst := d, op := .load E (.tmp t), type := T, pos := pos, after := af, guard := gu }).run P w = .ok (.value v) w := by
  show Sem.run P ((Instr.loadAt E (ρ (.tmp t))) >>= fun v => pure (Next.value v)) w = _
  rw [h]
  rw [run_then hr]; rfl
theorem ex_store {E : TypeId} {t u : Tmp} {p v : Value} (h : ρ (.tmp t) = p) (h2 : ρ (.tmp u) = v) (hr : (Instr.storeAt E p v).run P w = .ok () w') : (execOp ρ { dst := d, op := .store E (.tmp t) (.tmp u), type := T, pos := pos, after := af, guard := gu }).run P w = .ok .skip w' := by
  show Sem.run P ((Instr.storeAt E (ρ (.tmp t)) (ρ (.tmp u))) >>= fun _ => pure Next.skip) w = _
  rw [h, h2]
  rw [run_then hr]; rfl
theorem ex_alloc {E : TypeId} {v : Value} (hr : (Instr.alloc E true (.tuple #[])).run P w = .ok v w') : (execOp ρ { dst := d, op := .alloc E, type := T, pos := pos, after := af, guard := gu }).run P w = .ok (.value v) w' := by
  show Sem.run P ((Instr.alloc E true (.tuple #[])) >>= fun v => pure (Next.value v)) w = _
  rw [run_then hr]; rfl
theorem ex_slice1 {E : TypeId} {t1 : Tmp} {v1 v : Value} (h1 : ρ (.tmp t1) = v1) (hr : (Instr.buildSlice E 1 #[(0, v1)]).run P w = .ok v w') : (execOp ρ { dst := d, op := .buildSlice E 1 #[(0, .tmp t1)], type := T, pos := pos, after := af, guard := gu }).run P w = .ok (.value v) w' := by
  have e : (#[(0, .tmp t1)] : Array (Nat × Operand)).map (fun p => (p.1, ρ p.2)) = #[(0, v1)] := by simp [h1]
  show Sem.run P ((Instr.buildSlice E 1 ((#[(0, .tmp t1)] : Array (Nat × Operand)).map (fun p => (p.1, ρ p.2)))) >>= fun v => pure (Next.value v)) w = _
  rw [e]
  rw [run_then hr]; rfl
theorem ex_slice2 {E : TypeId} {t1 t2 : Tmp} {v1 v2 v : Value} (h1 : ρ (.tmp t1) = v1) (h2 : ρ (.tmp t2) = v2) (hr : (Instr.buildSlice E 2 #[(0, v1), (1, v2)]).run P w = .ok v w') : (execOp ρ { dst := d, op := .buildSlice E 2 #[(0, .tmp t1), (1, .tmp t2)], type := T, pos := pos, after := af, guard := gu }).run P w = .ok (.value v) w' := by
  have e : (#[(0, .tmp t1), (1, .tmp t2)] : Array (Nat × Operand)).map (fun p => (p.1, ρ p.2)) = #[(0, v1), (1, v2)] := by simp [h1, h2]
  show Sem.run P ((Instr.buildSlice E 2 ((#[(0, .tmp t1), (1, .tmp t2)] : Array (Nat × Operand)).map (fun p => (p.1, ρ p.2)))) >>= fun v => pure (Next.value v)) w = _
  rw [e]
  rw [run_then hr]; rfl
theorem ex_slice3 {E : TypeId} {t1 t2 t3 : Tmp} {v1 v2 v3 v : Value} (h1 : ρ (.tmp t1) = v1) (h2 : ρ (.tmp t2) = v2) (h3 : ρ (.tmp t3) = v3) (hr : (Instr.buildSlice E 3 #[(0, v1), (1, v2), (2, v3)]).run P w = .ok v w') : (execOp ρ { dst := d, op := .buildSlice E 3 #[(0, .tmp t1), (1, .tmp t2), (2, .tmp t3)], type := T, pos := pos, after := af, guard := gu }).run P w = .ok (.value v) w' := by
  have e : (#[(0, .tmp t1), (1, .tmp t2), (2, .tmp t3)] : Array (Nat × Operand)).map (fun p => (p.1, ρ p.2)) = #[(0, v1), (1, v2), (2, v3)] := by simp [h1, h2, h3]
  show Sem.run P ((Instr.buildSlice E 3 ((#[(0, .tmp t1), (1, .tmp t2), (2, .tmp t3)] : Array (Nat × Operand)).map (fun p => (p.1, ρ p.2)))) >>= fun v => pure (Next.value v)) w = _
  rw [e]
  rw [run_then hr]; rfl
theorem ex_ext {t : Tmp} {n : Nat} {vs : Array Value} {u : Value} (h : ρ (.tmp t) = .tuple vs) (hu : vs[n]? = some u) : (execOp ρ { dst := d, op := .extract (.tmp t) n, type := T, pos := pos, after := af, guard := gu }).run P w = .ok (.value u) w := by
  show Sem.run P ((Instr.extract (ρ (.tmp t)) n) >>= fun v => pure (Next.value v)) w = _
  rw [h]
  have hr : (Instr.extract (.tuple vs) n).run P w = .ok u w := by simp [Instr.extract, go_sem, hu]
  rw [run_then hr]; rfl
end
theorem old0 {a : Act} : ∀ p ∈ ([] : List (Tmp × Value)), a.eval (.tmp p.1) = p.2 := fun _ h => by cases h
theorem old1 {a : Act} {t : Tmp} {v : Value} (h : a.eval (.tmp t) = v) : ∀ p ∈ [(t, v)], a.eval (.tmp p.1) = p.2 := fun p hp => by rw [List.mem_singleton.1 hp]; exact h
theorem old2 {a : Act} {t t' : Tmp} {v v' : Value} (h : a.eval (.tmp t) = v) (h' : a.eval (.tmp t') = v') : ∀ p ∈ [(t, v), (t', v')], a.eval (.tmp p.1) = p.2 := fun p hp => by
  rcases List.mem_cons.1 hp with rfl | hp
  · exact h
  · rw [List.mem_singleton.1 hp]; exact h'
theorem name_frame {G : Act → Prop} {a : Act} (h : ∀ a0, a0 = a → G a0) : G a := h a rfl

/-- A region that stores into nothing that was there. -/
theorem wp_region_law {P : Program} {id : Nat} {draw : Bool} {ops : Array Oper} {Q : Exit → Act → World → Prop} {a0 : Act} {W0 : World} {N : Nat} (hN : a0.tmps.size = N) (B : Nat) (ks : List PK) (es : List (List (Nat × Option Tmp))) (all : List (Nat × Option Tmp)) (bs : List (Nat × Bool)) (sk : List Nat) (hm : P.follows .mixedOrders = true) (hchk : growOK ops (fun i => !sk.contains i) es all N = true) (hk : codesOK ks es = true) (hgu : guardOK ops bs sk = true) (hbs : bs.map (fun p => at_ ks p.1) = bs.map fun p => kIs (.bool p.2)) (hsk : sk.map (at_ ks) = sk.map fun _ => kIs undef)
    (hb : blks ks = []) (hB0 : B ≤ W0.heap.size) (hs : PkFrom P ops es sk (Reg B W0 []) W0.heap.size ks a0 0) (hend : ∀ w' x, Reg B W0 [] w' → (∀ i, i < ops.size → (at_ ks i).sem W0.heap.size x (x i) w') → Q .normal (putE x a0 all) w') : (Code.region id ops draw).wp P Q a0 W0 := by
  subst hN
  refine wp_region_pk B ks es all bs sk hm hchk hk hgu hbs hsk ?_ ?_ hB0 ?_ ?_ ?_
  · rw [hb]; exact List.nodup_nil
  · rw [hb]; intro g hg; cases hg
  · rw [hb]; intro g hg; cases hg
  · rw [hb]; exact hs
  · rw [hb]; exact hend
end Go.Proofs.YthjgfkmnelefpaaGreatDoor

namespace Go.Proofs.YthjgfkmnelefpaaGreatDoor
open Go.RowKit

/-- v stands for z, which is below the k-th power of the base. -/
def Zd (W : World) (v : Value) (k : Nat) (z : Int) : Prop := ∃ b A l c n, v = .agg #[.bool b, .slice A l c] ∧ Rd W (.slice A l c) n ∧ n < 1000000000 ^ k ∧ zOf n b = z
/-- v is the right number z. -/
def Zr (W : World) (v : Value) (k : Nat) (z : Int) : Prop := ∃ A l c, v = .agg #[.bool (decide (z < 0)), .slice A l c] ∧ Rr W (.slice A l c) z.natAbs ∧ z.natAbs < 1000000000 ^ k
theorem Zr.zd {W : World} {v : Value} {k : Nat} {z : Int} (h : Zr W v k z) : Zd W v k z := by
  obtain ⟨A, l, c, e, h1, h2⟩ := h
  exact ⟨_, A, l, c, _, e, h1.rd, h2, zOf_of z⟩
theorem Zd.below {W w' : World} {v : Value} {k : Nat} {z : Int} (h : Zd W v k z) (hb : Below W.heap.size W w') : Zd w' v k z := by
  obtain ⟨b, A, l, c, n, e, h1, h2⟩ := h
  exact ⟨b, A, l, c, n, e, h1.below hb, h2⟩
theorem Zr.below {W w' : World} {v : Value} {k : Nat} {z : Int} (h : Zr W v k z) (hb : Below W.heap.size W w') : Zr w' v k z := by
  obtain ⟨A, l, c, e, h1, h2⟩ := h
  exact ⟨A, l, c, e, h1.below hb, h2⟩
theorem Stored.rd {w w' : World} {g : Nat} {x : Value} {n : Nat} (h : Rd w x n) (hs : Stored g w w') : Rd w' x n := by
  obtain ⟨A, c, xs, e, r1, r2⟩ := h
  exact ⟨A, c, xs, e, hs.row r1, r2⟩
theorem Zd.stored {w w' : World} {g : Nat} {v : Value} {k : Nat} {z : Int} (h : Zd w v k z) (hs : Stored g w w') : Zd w' v k z := by
  obtain ⟨b, A, l, c, n, e, h1, h2⟩ := h
  exact ⟨b, A, l, c, n, e, hs.rd h1, h2⟩
theorem Zr.stored {w w' : World} {g : Nat} {v : Value} {k : Nat} {z : Int} (h : Zr w v k z) (hs : Stored g w w') : Zr w' v k z := by
  obtain ⟨A, l, c, e, h1, h2⟩ := h
  exact ⟨A, l, c, e, hs.rr h1, h2⟩
theorem pow_le {j k : Nat} (h : j ≤ k) : 1000000000 ^ j ≤ 1000000000 ^ k := Nat.pow_le_pow_right (by decide) h
theorem Zd.mono {W : World} {v : Value} {j k : Nat} {z : Int} (h : Zd W v j z) (hk : j ≤ k) : Zd W v k z := by
  obtain ⟨b, A, l, c, n, e, h1, h2, h3⟩ := h
  exact ⟨b, A, l, c, n, e, h1, Nat.lt_of_lt_of_le h2 (pow_le hk), h3⟩
theorem Zr.mono {W : World} {v : Value} {j k : Nat} {z : Int} (h : Zr W v j z) (hk : j ≤ k) : Zr W v k z := by
  obtain ⟨A, l, c, e, h1, h2⟩ := h
  exact ⟨A, l, c, e, h1, Nat.lt_of_lt_of_le h2 (pow_le hk)⟩
theorem Zd.lt {W : World} {v : Value} {k : Nat} {z : Int} (h : Zd W v k z) : z.natAbs < 1000000000 ^ k := by
  obtain ⟨b, A, l, c, n, e, h1, h2, rfl⟩ := h
  rw [zOf_abs]; exact h2
theorem Zr.lt {W : World} {v : Value} {k : Nat} {z : Int} (h : Zr W v k z) : z.natAbs < 1000000000 ^ k := h.zd.lt
theorem Zd.drew {W : World} {v : Value} {k : Nat} {z : Int} (h : Zd W v k z) : Zd W.drew v k z := h.below ((Below.refl _ _).drew)
def kZ (k : Nat) (z : Int) : PK := .p (fun v w => Zr w v k z) (fun _ _ _ h hb => h.below hb) (fun _ _ _ _ h hs => h.stored hs)
def kZd (k : Nat) (z : Int) : PK := .p (fun v w => Zd w v k z) (fun _ _ _ h hb => h.below hb) (fun _ _ _ _ h hs => h.stored hs)

/-- A call that tells the right number z. -/
def TellsZ (w : World) (k : Nat) (z : Int) (e : Ending) (w' : World) : Prop := ∃ v, e = .returned v ∧ Zr w' v k z ∧ Below w.heap.size w w'
theorem tellsZ_of {w w' : World} {k : Nat} {z : Int} {e : Ending} (hz : z.natAbs < 1000000000 ^ k) (h : RetInt w z.natAbs (decide (z < 0)) e w') : TellsZ w k z e w' := by
  obtain ⟨A, l, c, h1, h2, _, h3⟩ := h
  exact ⟨_, h1, ⟨A, l, c, rfl, h2, hz⟩, h3⟩
theorem tellsZ_nat {w w' : World} {k n : Nat} {e : Ending} (hz : n < 1000000000 ^ k) (h : RetInt w n false e w') : TellsZ w k (n : Int) e w' := by
  refine tellsZ_of (by omega) ?_
  rw [Int.natAbs_natCast, decide_eq_false (by omega)]
  exact h

theorem two_pow {j k m x y : Nat} (hx : x < 1000000000 ^ j) (hy : y < 1000000000 ^ k) (hj : j < m) (hk : k < m) : x + y < 1000000000 ^ m := by
  obtain ⟨m, rfl⟩ : ∃ m', m = m' + 1 := ⟨m - 1, by omega⟩
  have h1 := Nat.lt_of_lt_of_le hx (pow_le (show j ≤ m by omega))
  have h2 := Nat.lt_of_lt_of_le hy (pow_le (show k ≤ m by omega))
  rw [Nat.pow_succ]; omega

theorem z_neg {w : World} {v : Value} {j : Nat} {x : Int} (h : Zd w v j x) (hj : j ≤ 4000) : Calls Tryz.prog 17 #[v] w (TellsZ w j (-x)) := by
  have hl := h.lt
  obtain ⟨b, A, l, c, n, rfl, h1, h2, rfl⟩ := h
  exact (neg_int b h1 h2 hj).mono fun _ _ k => tellsZ_of (by rw [Int.natAbs_neg]; exact hl) k
theorem z_sub {w : World} {v1 v2 : Value} {j k : Nat} (m : Nat) {x y : Int} (h1 : Zd w v1 j x) (h2 : Zd w v2 k y) (hj : j < m) (hk : k < m) (hm : m ≤ 4000) : Calls Tryz.prog 18 #[v1, v2] w (TellsZ w m (x - y)) := by
  have hl1 := h1.lt
  have hl2 := h2.lt
  obtain ⟨b1, A1, l1, c1, n1, rfl, r1, e1, rfl⟩ := h1
  obtain ⟨b2, A2, l2, c2, n2, rfl, r2, e2, rfl⟩ := h2
  have hb := two_pow e1 e2 hj hk
  exact (sub_int b1 b2 r1 r2 hb hm).mono fun _ _ k => tellsZ_of (by
    have := zOf_abs n1 b1
    have := zOf_abs n2 b2
    omega) k
theorem z_cmp {w : World} {v1 v2 : Value} {j k : Nat} {x y : Int} (h1 : Zd w v1 j x) (h2 : Zd w v2 k y) (hj : j ≤ 4000) (hk : k ≤ 4000) : Calls Tryz.prog 22 #[v1, v2] w fun e w' => e = .returned (.int .i64 (ordI x y)) ∧ Below w.heap.size w w' := by
  obtain ⟨b1, A1, l1, c1, n1, rfl, r1, e1, rfl⟩ := h1
  obtain ⟨b2, A2, l2, c2, n2, rfl, r2, e2, rfl⟩ := h2
  exact numCmp_any (N := max j k) b1 b2 r1 r2 (Nat.lt_of_lt_of_le e1 (pow_le (Nat.le_max_left _ _))) (Nat.lt_of_lt_of_le e2 (pow_le (Nat.le_max_right _ _))) (Nat.max_le.2 ⟨hj, hk⟩)
theorem z_right {w : World} {v : Value} {j : Nat} {x : Int} (h : Zr w v j x) : Calls Tryz.prog 21 #[v] w fun e w' => e = .returned (.bool true) ∧ Below w.heap.size w w' := by
  obtain ⟨A, l, c, rfl, h1, h2⟩ := h
  exact numRight_yes _ h1 abs_zero
theorem z_same {w : World} {v1 v2 : Value} {j k : Nat} {x y : Int} (h1 : Zr w v1 j x) (h2 : Zr w v2 k y) (e : x = y) : Calls Tryz.prog 9 #[v1, v2] w fun e w' => e = .returned (.bool true) ∧ Below w.heap.size w w' := by
  subst e
  obtain ⟨A1, l1, c1, rfl, r1, e1⟩ := h1
  obtain ⟨A2, l2, c2, rfl, r2, e2⟩ := h2
  exact same2_yes r1 r2
theorem z_of {w : World} (n : Int) (k : Nat) (h1 : -9223372036854775808 ≤ n) (h2 : n ≤ 9223372036854775807) (hk : n.natAbs < 1000000000 ^ k) : Calls Tryz.prog 23 #[.int .i64 n] w (TellsZ w k n) :=
  (numOfInt_any n _ h1 h2 rfl).mono fun _ _ k => tellsZ_of hk k

/-- A quotient rounded down, and its rest. -/
def zq (x y : Int) : Int := zOf (divQ x.natAbs (decide (x < 0)) y.natAbs (decide (y < 0))) (decide (x < 0) != decide (y < 0))
def zm (x y : Int) : Int := zOf (divR x.natAbs (decide (x < 0)) y.natAbs (decide (y < 0))) (decide (y < 0))
theorem zq_zm {x y : Int} (hy : y ≠ 0) : zq x y * y + zm x y = x := by
  have := (div_z x.natAbs y.natAbs (decide (x < 0)) (decide (y < 0)) (by omega)).1
  rw [zOf_of, zOf_of] at this
  exact this
theorem zm_lt {x y : Int} (hy : y ≠ 0) : (zm x y).natAbs < y.natAbs := by
  unfold zm
  rw [zOf_abs]
  exact (div_z x.natAbs y.natAbs (decide (x < 0)) (decide (y < 0)) (by omega)).2
theorem zm_pos {x y : Int} (hy : 0 < y) : 0 ≤ zm x y ∧ zm x y < y := by
  have h := zm_lt (x := x) (y := y) (by omega)
  have h2 : 0 ≤ zm x y := by
    unfold zm zOf
    rw [decide_eq_false (show ¬ y < 0 by omega), if_neg (by decide)]
    omega
  omega
theorem zm_neg {x y : Int} (hy : y < 0) : zm x y ≤ 0 ∧ y < zm x y := by
  have h := zm_lt (x := x) (y := y) (by omega)
  have h2 : zm x y ≤ 0 := by
    unfold zm zOf
    rw [decide_eq_true hy, if_pos rfl]
    omega
  omega
theorem zm_dvd {x y : Int} (hy : y ≠ 0) (h : y ∣ x) : zm x y = 0 := by
  have h1 := zq_zm (x := x) hy
  have h2 : y ∣ zm x y := by
    have : zm x y = x - zq x y * y := by omega
    rw [this]
    exact Int.dvd_sub h (Int.dvd_mul_left _ _)
  have h3 := zm_lt (x := x) hy
  exact Int.eq_zero_of_dvd_of_natAbs_lt_natAbs h2 h3
theorem zq_le {x y : Int} : (zq x y).natAbs ≤ x.natAbs + 1 := by
  unfold zq divQ
  rw [zOf_abs]
  have := Nat.div_le_self x.natAbs y.natAbs
  split <;> omega
/-- A call that tells a quotient and a rest, and no error. -/
def TellsQ (w : World) (j k : Nat) (q r : Int) (e : Ending) (w' : World) : Prop := ∃ v u, e = .returned (.tuple #[v, u, .int .i64 0]) ∧ Zr w' v j q ∧ Zr w' u k r ∧ Below w.heap.size w w'
theorem zOf_sgn' (n : Nat) (b : Bool) : decide (zOf n b < 0) = sgn n b := zOf_neg n b
theorem z_divMod {w : World} {v1 v2 : Value} {j k m : Nat} {x y : Int} (h1 : Zd w v1 j x) (h2 : Zd w v2 k y) (hy : y ≠ 0) (h1m : 1 < m) (hj : j < m) (hk : k ≤ m) (hm : m ≤ 3999) : Calls Tryz.prog 24 #[v1, v2] w (TellsQ w m k (zq x y) (zm x y)) := by
  have hl1 := h1.lt
  have hl2 := h2.lt
  have hq := zq_le (x := x) (y := y)
  have hr := zm_lt (x := x) hy
  have hp : 0 < 1000000000 ^ j := Nat.pow_pos (by decide)
  have hqb : (zq x y).natAbs < 1000000000 ^ m := Nat.lt_of_le_of_lt hq (two_pow (j := j) (k := 1) hl1 (by decide) hj h1m)
  obtain ⟨b1, A1, l1, c1, n1, rfl, r1, e1, rfl⟩ := h1
  obtain ⟨b2, A2, l2, c2, n2, rfl, r2, e2, rfl⟩ := h2
  have hn2 : 0 < n2 := by
    have := zOf_abs n2 b2
    omega
  have h := divMod_int b1 b2 r1 r2 hn2 (Nat.lt_of_lt_of_le e1 (pow_le (Nat.le_of_lt hj))) (Nat.lt_of_lt_of_le e2 (pow_le hk)) hm
  have s2 : decide (zOf n2 b2 < 0) = b2 := by rw [zOf_neg, sgn, decide_eq_true (show n2 ≠ 0 by omega), Bool.and_true]
  refine h.mono fun e w' hh => ?_
  obtain ⟨a, b, he, ⟨A, l, c, rfl, ra, _⟩, ⟨A', l', c', rfl, rb, _⟩, hb⟩ := hh
  have eq1 : zq (zOf n1 b1) (zOf n2 b2) = zOf (divQ n1 (sgn n1 b1) n2 b2) (sgn n1 b1 != b2) := by
    unfold zq; rw [zOf_abs, zOf_abs, zOf_neg, s2]
  have er1 : zm (zOf n1 b1) (zOf n2 b2) = zOf (divR n1 (sgn n1 b1) n2 b2) b2 := by
    unfold zm; rw [zOf_abs, zOf_abs, zOf_neg, s2]
  refine ⟨_, _, he, ⟨A, l, c, ?_, ?_, hqb⟩, ⟨A', l', c', ?_, ?_, Nat.lt_trans hr hl2⟩, hb⟩
  · rw [eq1, zOf_neg]
  · rw [eq1, zOf_abs]; exact ra
  · rw [er1, zOf_neg]
  · rw [er1, zOf_abs]; exact rb
theorem z_divMod0 {w : World} {v1 v2 : Value} {j k : Nat} {x y : Int} (h1 : Zd w v1 j x) (h2 : Zd w v2 k y) (hy : y = 0) : Calls Tryz.prog 24 #[v1, v2] w fun e w' => (∃ v u, e = .returned (.tuple #[v, u, .int .i64 9]) ∧ Zr w' v 1 0 ∧ Zr w' u 1 0) ∧ Below w.heap.size w w' := by
  obtain ⟨b1, A1, l1, c1, n1, rfl, r1, e1, rfl⟩ := h1
  obtain ⟨b2, A2, l2, c2, n2, rfl, r2, e2, rfl⟩ := h2
  have hn2 : n2 = 0 := by
    have := zOf_abs n2 b2
    rw [hy] at this
    exact this.symm
  subst hn2
  refine (divMod_zero b1 b2 r2).mono fun e w' hh => ⟨⟨_, _, hh.1, ⟨none, 0, 0, rfl, rr_nil _, by decide⟩, ⟨none, 0, 0, rfl, rr_nil _, by decide⟩⟩, hh.2⟩

/-- A list of numbers, each below its power of the base, as it lies in the block g. -/
def Zs (W : World) (g : Nat) (l : List (Nat × Int)) : Prop := ∃ L : List (Nat × Bool), Ints W g L ∧ L.map (fun p => zOf p.1 p.2) = l.map (·.2) ∧ ∀ q ∈ l, q.2.natAbs < 1000000000 ^ q.1
theorem Zs.below {W w' : World} {g : Nat} {l : List (Nat × Int)} (h : Zs W g l) (hb : Below W.heap.size W w') : Zs w' g l := by
  obtain ⟨L, h1, h2⟩ := h
  exact ⟨L, h1.below hb, h2⟩
theorem Zs.lt {W : World} {g : Nat} {l : List (Nat × Int)} (h : Zs W g l) {L : List (Nat × Bool)} (hL : L.map (fun p => zOf p.1 p.2) = l.map (·.2)) {m : Nat} (hm : ∀ q ∈ l, q.1 ≤ m) : ∀ p ∈ L, p.1 < 1000000000 ^ m := fun p hp => by
  obtain ⟨_, _, _, h3⟩ := h
  have : zOf p.1 p.2 ∈ l.map (·.2) := by rw [← hL]; exact List.mem_map.2 ⟨p, hp, rfl⟩
  obtain ⟨q, hq, e⟩ := List.mem_map.1 this
  have h4 := h3 q hq
  rw [e, zOf_abs] at h4
  exact Nat.lt_of_lt_of_le h4 (pow_le (hm q hq))
def kZs (l : List (Nat × Int)) : PK := .list l.length (fun g w => Zs w g l) (fun _ _ _ h hb => h.below hb) (fun _ _ _ _ h hs hne => by
  obtain ⟨L, h1, h2⟩ := h
  exact ⟨L, hs.ints h1 hne, h2⟩)
theorem zs_lit1 {W : World} {b1 : Bool} {A1 : Option Addr} {l1 c1 k : Nat} {x : Int} (h1 : Zd W (.agg #[.bool b1, .slice A1 l1 c1]) k x) (T : TypeId) :
    Zs (W.alloc (.cells #[.bool b1, .slice A1 l1 c1] T)) W.heap.size [(k, x)] := by
  have u1 := h1.lt
  obtain ⟨_, _, _, _, n1, e1, r1, q1, rfl⟩ := h1
  injection e1 with e1; injection e1 with e1; injection e1 with e1 e1'; injection e1 with e1; subst e1; injection e1' with e1' _; injection e1' with a b c; subst a; subst b; subst c
  refine ⟨[(n1, b1)], ?_, rfl, ?_⟩
  · intro j p hp
    match j, hp with
    | 0, hp => simp at hp; subst hp; exact ⟨A1, l1, c1, by simp, by simp, r1.alloc _⟩
  · intro p hp
    rw [List.mem_singleton.1 hp]; exact u1
theorem zs_lit2 {W : World} {b1 b2 : Bool} {A1 A2 : Option Addr} {l1 c1 l2 c2 j k : Nat} {x y : Int} (h1 : Zd W (.agg #[.bool b1, .slice A1 l1 c1]) j x) (h2 : Zd W (.agg #[.bool b2, .slice A2 l2 c2]) k y) (T : TypeId) :
    Zs (W.alloc (.cells #[.bool b1, .slice A1 l1 c1, .bool b2, .slice A2 l2 c2] T)) W.heap.size [(j, x), (k, y)] := by
  have u1 := h1.lt
  have u2 := h2.lt
  obtain ⟨_, _, _, _, n1, e1, r1, q1, rfl⟩ := h1
  injection e1 with e1; injection e1 with e1; injection e1 with e1 e1'; injection e1 with e1; subst e1; injection e1' with e1' _; injection e1' with a b c; subst a; subst b; subst c
  obtain ⟨_, _, _, _, n2, e2, r2, q2, rfl⟩ := h2
  injection e2 with e2; injection e2 with e2; injection e2 with e2 e2'; injection e2 with e2; subst e2; injection e2' with e2' _; injection e2' with a b c; subst a; subst b; subst c
  refine ⟨[(n1, b1), (n2, b2)], ?_, rfl, ?_⟩
  · intro j p hp
    match j, hp with
    | 0, hp => simp at hp; subst hp; exact ⟨A1, l1, c1, by simp, by simp, r1.alloc _⟩
    | 1, hp => simp at hp; subst hp; exact ⟨A2, l2, c2, by simp, by simp, r2.alloc _⟩
  · intro p hp
    rcases List.mem_cons.1 hp with rfl | hp
    · exact u1
    · rw [List.mem_singleton.1 hp]; exact u2
theorem zs_lit3 {W : World} {b1 b2 b3 : Bool} {A1 A2 A3 : Option Addr} {l1 c1 l2 c2 l3 c3 i j k : Nat} {x y z : Int} (h1 : Zd W (.agg #[.bool b1, .slice A1 l1 c1]) i x) (h2 : Zd W (.agg #[.bool b2, .slice A2 l2 c2]) j y) (h3 : Zd W (.agg #[.bool b3, .slice A3 l3 c3]) k z) (T : TypeId) :
    Zs (W.alloc (.cells #[.bool b1, .slice A1 l1 c1, .bool b2, .slice A2 l2 c2, .bool b3, .slice A3 l3 c3] T)) W.heap.size [(i, x), (j, y), (k, z)] := by
  have u1 := h1.lt
  have u2 := h2.lt
  have u3 := h3.lt
  obtain ⟨_, _, _, _, n1, e1, r1, q1, rfl⟩ := h1
  injection e1 with e1; injection e1 with e1; injection e1 with e1 e1'; injection e1 with e1; subst e1; injection e1' with e1' _; injection e1' with a b c; subst a; subst b; subst c
  obtain ⟨_, _, _, _, n2, e2, r2, q2, rfl⟩ := h2
  injection e2 with e2; injection e2 with e2; injection e2 with e2 e2'; injection e2 with e2; subst e2; injection e2' with e2' _; injection e2' with a b c; subst a; subst b; subst c
  obtain ⟨_, _, _, _, n3, e3, r3, q3, rfl⟩ := h3
  injection e3 with e3; injection e3 with e3; injection e3 with e3 e3'; injection e3 with e3; subst e3; injection e3' with e3' _; injection e3' with a b c; subst a; subst b; subst c
  refine ⟨[(n1, b1), (n2, b2), (n3, b3)], ints_lit3 r1 r2 r3 T, rfl, ?_⟩
  intro p hp
  rcases List.mem_cons.1 hp with rfl | hp
  · exact u1
  rcases List.mem_cons.1 hp with rfl | hp
  · exact u2
  · rw [List.mem_singleton.1 hp]; exact u3

def zsum (zs : List Int) : Int := zs.foldl (· + ·) 0
def zprod (zs : List Int) : Int := zs.foldl (· * ·) 1
def zgcd (zs : List Int) : Nat := zs.foldl (fun d z => Nat.gcd z.natAbs d) 0
theorem zadd_map (L : List (Nat × Bool)) : zadd L = zsum (L.map fun p => zOf p.1 p.2) := by
  unfold zadd zsum
  rw [List.foldl_map]
theorem zmul_map (L : List (Nat × Bool)) : zmul L = zprod (L.map fun p => zOf p.1 p.2) := by
  unfold zmul zprod
  rw [List.foldl_map]
theorem gcds_map (L : List (Nat × Bool)) : gcds L 0 = zgcd (L.map fun p => zOf p.1 p.2) := by
  unfold gcds zgcd
  rw [List.foldl_map]
  simp only [zOf_abs]
theorem take_map (L : List (Nat × Bool)) (k : Nat) : (L.take k).map (fun p => zOf p.1 p.2) = (L.map fun p => zOf p.1 p.2).take k := List.map_take
theorem z_add {w : World} {g c0 : Nat} {l : List (Nat × Int)} (m : Nat) (h : Zs w g l) (hB : ∀ i (hi : i < l.length), (zsum ((l.map (·.2)).take i)).natAbs + l[i].2.natAbs < 1000000000 ^ m) (h0 : l ≠ []) (hk : ∀ q ∈ l, q.1 ≤ m) (hm : m ≤ 4000) (hl : l.length ≤ 100000) :
    Calls Tryz.prog 10 #[.slice (some ⟨g, 0, none⟩) l.length c0] w (TellsZ w m (zsum (l.map (·.2)))) := by
  have h' := h
  obtain ⟨L, h1, h2, h3⟩ := h
  have hlen : l.length = L.length := by simpa using (congrArg List.length h2).symm
  have hb : ∀ k (hk : k < L.length), addBound m (zadd (L.take k)) (zOf L[k].1 L[k].2) := fun i hi => by
    have := hB i (by omega)
    rw [← h2, ← take_map, ← zadd_map] at this
    have e : zOf L[i].1 L[i].2 = l[i].2 := by
      have := congrArg (fun q => q[i]?) h2
      simpa [hi, show i < l.length by omega] using this
    rw [← e] at this
    exact this
  rw [← h2, ← zadd_map, hlen]
  refine (add_int h1 (h'.lt h2 hk) hb hm (by omega)).mono fun _ _ q => tellsZ_of ?_ q
  have hne : 0 < L.length := by
    rcases Nat.eq_zero_or_pos L.length with e | e
    · exact absurd (List.eq_nil_of_length_eq_zero (by omega)) h0
    · exact e
  have h5 := hb (L.length - 1) (by omega)
  have h6 := zadd_succ (L := L) (k := L.length - 1) (by omega)
  rw [show L.length - 1 + 1 = L.length by omega, List.take_length] at h6
  unfold addBound at h5
  rw [h6]
  exact Nat.lt_of_le_of_lt (Int.natAbs_add_le _ _) h5
theorem z_mul {w : World} {g c0 : Nat} {l : List (Nat × Int)} (m : Nat) (h : Zs w g l) (hB : ∀ i (hi : i < l.length), (zprod ((l.map (·.2)).take i)).natAbs < 1000000000 ^ m ∧ (zprod ((l.map (·.2)).take i)).natAbs * l[i].2.natAbs < 1000000000 ^ m) (h0 : l ≠ []) (hk : ∀ q ∈ l, q.1 ≤ m) (hm0 : 0 < m) (hm : m ≤ 4000) (hl : l.length ≤ 100000) :
    Calls Tryz.prog 12 #[.slice (some ⟨g, 0, none⟩) l.length c0] w (TellsZ w m (zprod (l.map (·.2)))) := by
  have h' := h
  obtain ⟨L, h1, h2, h3⟩ := h
  have hlen : l.length = L.length := by simpa using (congrArg List.length h2).symm
  have hb : ∀ k (hk : k < L.length), mulBound m (zmul (L.take k)) (zOf L[k].1 L[k].2) := fun i hi => by
    have := hB i (by omega)
    rw [← h2, ← take_map, ← zmul_map] at this
    have e : zOf L[i].1 L[i].2 = l[i].2 := by
      have := congrArg (fun q => q[i]?) h2
      simpa [hi, show i < l.length by omega] using this
    rw [← e] at this
    exact ⟨this.1, this.2, hm0⟩
  rw [← h2, ← zmul_map, hlen]
  refine (mul_int h1 (h'.lt h2 hk) hb hm (by omega)).mono fun _ _ q => tellsZ_of ?_ q
  have hne : 0 < L.length := by
    rcases Nat.eq_zero_or_pos L.length with e | e
    · exact absurd (List.eq_nil_of_length_eq_zero (by omega)) h0
    · exact e
  have h5 := hb (L.length - 1) (by omega)
  have h6 := zmul_succ (L := L) (k := L.length - 1) (by omega)
  rw [show L.length - 1 + 1 = L.length by omega, List.take_length] at h6
  rw [h6]
  show ((zmul _) * _).natAbs < _
  rw [Int.natAbs_mul]
  exact h5.2.1
theorem z_gcd {w : World} {g c0 : Nat} {l : List (Nat × Int)} (k : Nat) (h : Zs w g l) (hk : ∀ q ∈ l, q.1 ≤ k) (hk4 : k ≤ 4000) (hl : l.length ≤ 100000) :
    Calls Tryz.prog 14 #[.slice (some ⟨g, 0, none⟩) l.length c0] w (TellsZ w k (zgcd (l.map (·.2)) : Nat)) := by
  have h' := h
  obtain ⟨L, h1, h2, h3⟩ := h
  have hlen : l.length = L.length := by simpa using (congrArg List.length h2).symm
  have hb := h'.lt h2 hk
  rw [← h2, ← gcds_map, hlen]
  exact (gcd_any h1 hb hk4 (by omega)).mono fun _ _ q => tellsZ_nat (gcds_lt (Nat.pow_pos (by decide)) hb) q

/-- A value that is a list of numbers in new memory. -/
def ZL (w : World) (v : Value) (l : List (Nat × Int)) : Prop := ∃ g, v = .slice (some ⟨g, 0, none⟩) l.length l.length ∧ Zs w g l
theorem ZL.lt {w : World} {v : Value} {l : List (Nat × Int)} (h : ZL w v l) : ∀ q ∈ l, q.2.natAbs < 1000000000 ^ q.1 := by
  obtain ⟨_, _, _, _, _, h⟩ := h
  exact h
theorem l_add1 {w : World} {v : Value} {i : Nat} (m : Nat) {x : Int} (h : ZL w v [(i, x)]) (hi : i ≤ m) (hm : m ≤ 4000) : Calls Tryz.prog 10 #[v] w (TellsZ w m x) := by
  have hx : x.natAbs < 1000000000 ^ i := h.lt (i, x) (by simp)
  obtain ⟨g, rfl, h⟩ := h
  have := z_add (c0 := 1) m h (fun j hj => by
    match j, hj with
    | 0, _ => simp [zsum]; exact Nat.lt_of_lt_of_le hx (pow_le hi)) (by simp) (by simpa using hi) hm (by simp)
  have e : zsum ([(i, x)].map (·.2)) = x := by simp [zsum]
  rw [e] at this
  exact this
theorem l_add2 {w : World} {v : Value} {i j : Nat} (m : Nat) {x y : Int} (h : ZL w v [(i, x), (j, y)]) (hi : i < m) (hj : j < m) (hm : m ≤ 4000) : Calls Tryz.prog 10 #[v] w (TellsZ w m (x + y)) := by
  have hx : x.natAbs < 1000000000 ^ i := h.lt (i, x) (by simp)
  have hy : y.natAbs < 1000000000 ^ j := h.lt (j, y) (by simp)
  obtain ⟨g, rfl, h⟩ := h
  have := z_add (c0 := 2) m h (fun k hk => by
    match k, hk with
    | 0, _ => simp [zsum]; exact Nat.lt_of_lt_of_le hx (pow_le (by omega))
    | 1, _ => simp [zsum]; exact two_pow hx hy hi hj) (by simp) (by simp; omega) hm (by simp)
  have e : zsum ([(i, x), (j, y)].map (·.2)) = x + y := by simp [zsum]
  rw [e] at this
  exact this
theorem l_add3 {w : World} {v : Value} {i j k : Nat} (m : Nat) {x y z : Int} (h : ZL w v [(i, x), (j, y), (k, z)]) (hi : i < m) (hj : j < m) (hk : k < m) (hm : m ≤ 4000) : Calls Tryz.prog 10 #[v] w (TellsZ w m (x + y + z)) := by
  have hx : x.natAbs < 1000000000 ^ i := h.lt (i, x) (by simp)
  have hy : y.natAbs < 1000000000 ^ j := h.lt (j, y) (by simp)
  have hz : z.natAbs < 1000000000 ^ k := h.lt (k, z) (by simp)
  have h3 : x.natAbs + y.natAbs + z.natAbs < 1000000000 ^ m := by
    obtain ⟨m, rfl⟩ : ∃ m', m = m' + 1 := ⟨m - 1, by omega⟩
    have := pow_le (show i ≤ m by omega)
    have := pow_le (show j ≤ m by omega)
    have := pow_le (show k ≤ m by omega)
    rw [Nat.pow_succ]; omega
  obtain ⟨g, rfl, h⟩ := h
  have := z_add (c0 := 3) m h (fun k hk => by
    match k, hk with
    | 0, _ => simp [zsum]; omega
    | 1, _ => simp [zsum]; omega
    | 2, _ => simp [zsum]; omega) (by simp) (by simp; omega) hm (by simp)
  have e : zsum ([(i, x), (j, y), (k, z)].map (·.2)) = x + y + z := by simp [zsum]
  rw [e] at this
  exact this
theorem mul_pow {j k m x y : Nat} (hx : x < 1000000000 ^ j) (hy : y < 1000000000 ^ k) (hm : j + k ≤ m) : x * y < 1000000000 ^ m :=
  Nat.lt_of_lt_of_le (Nat.mul_lt_mul'' hx hy) (by rw [← Nat.pow_add]; exact pow_le hm)
theorem l_mul1 {w : World} {v : Value} {i : Nat} (m : Nat) {x : Int} (h : ZL w v [(i, x)]) (hi : i ≤ m) (h0 : 0 < m) (hm : m ≤ 4000) : Calls Tryz.prog 12 #[v] w (TellsZ w m x) := by
  have hx : x.natAbs < 1000000000 ^ i := h.lt (i, x) (by simp)
  obtain ⟨g, rfl, h⟩ := h
  have h1 : 1 < 1000000000 ^ m := Nat.one_lt_pow (by omega) (by decide)
  have := z_mul (c0 := 1) m h (fun j hj => by
    match j, hj with
    | 0, _ => simp [zprod]; exact ⟨by omega, Nat.lt_of_lt_of_le hx (pow_le hi)⟩) (by simp) (by simpa using hi) h0 hm (by simp)
  have e : zprod ([(i, x)].map (·.2)) = x := by simp [zprod]
  rw [e] at this
  exact this
theorem l_mul2 {w : World} {v : Value} {i j : Nat} (m : Nat) {x y : Int} (h : ZL w v [(i, x), (j, y)]) (hm2 : i + j ≤ m) (h0 : 0 < m) (hm : m ≤ 4000) : Calls Tryz.prog 12 #[v] w (TellsZ w m (x * y)) := by
  have hx : x.natAbs < 1000000000 ^ i := h.lt (i, x) (by simp)
  have hy : y.natAbs < 1000000000 ^ j := h.lt (j, y) (by simp)
  obtain ⟨g, rfl, h⟩ := h
  have h1 : 1 < 1000000000 ^ m := Nat.one_lt_pow (by omega) (by decide)
  have hxm := Nat.lt_of_lt_of_le hx (pow_le (show i ≤ m by omega))
  have := z_mul (c0 := 2) m h (fun k hk => by
    match k, hk with
    | 0, _ => simp [zprod]; exact ⟨by omega, hxm⟩
    | 1, _ => simp [zprod]; exact ⟨hxm, mul_pow hx hy hm2⟩) (by simp) (by simp; omega) h0 hm (by simp)
  have e : zprod ([(i, x), (j, y)].map (·.2)) = x * y := by simp [zprod]
  rw [e] at this
  exact this
theorem l_mul3 {w : World} {v : Value} {i j k : Nat} (m : Nat) {x y z : Int} (h : ZL w v [(i, x), (j, y), (k, z)]) (hm3 : i + j + k ≤ m) (h0 : 0 < m) (hm : m ≤ 4000) : Calls Tryz.prog 12 #[v] w (TellsZ w m (x * y * z)) := by
  have hx : x.natAbs < 1000000000 ^ i := h.lt (i, x) (by simp)
  have hy : y.natAbs < 1000000000 ^ j := h.lt (j, y) (by simp)
  have hz : z.natAbs < 1000000000 ^ k := h.lt (k, z) (by simp)
  obtain ⟨g, rfl, h⟩ := h
  have h1 : 1 < 1000000000 ^ m := Nat.one_lt_pow (by omega) (by decide)
  have hxm := Nat.lt_of_lt_of_le hx (pow_le (show i ≤ m by omega))
  have hxy := mul_pow hx hy (Nat.le_refl _)
  have := z_mul (c0 := 3) m h (fun q hq => by
    match q, hq with
    | 0, _ => simp [zprod]; exact ⟨by omega, hxm⟩
    | 1, _ => simp [zprod]; exact ⟨hxm, Nat.lt_of_lt_of_le hxy (pow_le (by omega))⟩
    | 2, _ =>
      simp [zprod, Int.natAbs_mul]
      exact ⟨Nat.lt_of_lt_of_le hxy (pow_le (by omega)), mul_pow hxy hz hm3⟩) (by simp) (by simp; omega) h0 hm (by simp)
  have e : zprod ([(i, x), (j, y), (k, z)].map (·.2)) = x * y * z := by simp [zprod]
  rw [e] at this
  exact this
theorem l_gcd {w : World} {v : Value} (k : Nat) {l : List (Nat × Int)} (h : ZL w v l) (hk : (l.all fun q => decide (q.1 ≤ k)) = true) (hk4 : k ≤ 4000) (hl : l.length ≤ 100000) : Calls Tryz.prog 14 #[v] w (TellsZ w k (zgcd (l.map (·.2)) : Nat)) := by
  obtain ⟨g, rfl, h⟩ := h
  exact z_gcd k h (fun q hq => of_decide_eq_true (List.all_eq_true.1 hk q hq)) hk4 hl
end Go.Proofs.YthjgfkmnelefpaaGreatDoor

namespace Go.Proofs.YthjgfkmnelefpaaGreatDoor
open Go.RowKit

/-- A local number: its block. -/
def LocZ (W : World) (g k : Nat) (z : Int) : Prop := ∃ b A l c, Holds_ W g #[.bool b, .slice A l c] ∧ Zd W (.agg #[.bool b, .slice A l c]) k z
/-- A right one. -/
def LocR (W : World) (g k : Nat) (z : Int) : Prop := ∃ A l c, Holds_ W g #[.bool (decide (z < 0)), .slice A l c] ∧ Zr W (.agg #[.bool (decide (z < 0)), .slice A l c]) k z
theorem LocZ.below {W w' : World} {g k : Nat} {z : Int} (h : LocZ W g k z) (hb : Below W.heap.size W w') : LocZ w' g k z := by
  obtain ⟨b, A, l, c, h1, h2⟩ := h
  exact ⟨b, A, l, c, h1.step hb, h2.below hb⟩
theorem LocR.below {W w' : World} {g k : Nat} {z : Int} (h : LocR W g k z) (hb : Below W.heap.size W w') : LocR w' g k z := by
  obtain ⟨A, l, c, h1, h2⟩ := h
  exact ⟨A, l, c, h1.step hb, h2.below hb⟩
theorem Reg.rd {B : Nat} {W0 w : World} {G : List Nat} (h : Reg B W0 G w) {v : Value} {n : Nat} (hr : Rd W0 v n) : Rd w v n := by
  obtain ⟨A, c, xs, h1, h2, h3⟩ := hr
  refine ⟨A, c, xs, h1, fun j u hu => ?_, h3⟩
  obtain ⟨ad, e, hc⟩ := h2 j u hu
  refine ⟨ad, e, ?_⟩
  have hG : (ad.add j).block ∉ G := fun hg => by
    obtain ⟨cs0, _, ⟨⟨T, h4⟩, h5⟩, _⟩ := h.held _ hg
    obtain ⟨d, _, hd⟩ := List.mem_map.1 (List.mem_of_getElem? hu)
    simp only [World.cell?, h4] at hc
    split at hc
    · cases hc
    · exact h5 u (Array.mem_of_getElem? hc) d hd.symm
  rw [World.cell?_of_block (h.old _ (cell_lt hc) hG)]
  exact hc
theorem Reg.holds {B : Nat} {W0 w : World} (h : Reg B W0 [] w) {g : Nat} {cs : Array Value} (hg : Holds_ W0 g cs) : Holds_ w g cs := by
  have hlt := hg.lt
  obtain ⟨⟨T, h4⟩, h5⟩ := hg
  exact ⟨⟨T, (h.old g hlt (by simp)).trans h4⟩, h5⟩
theorem Reg.locZ {B : Nat} {W0 w : World} (h : Reg B W0 [] w) {g k : Nat} {z : Int} (hl : LocZ W0 g k z) : LocZ w g k z := by
  obtain ⟨b, A, l, c, h1, b', A', l', c', n, e, h2, h3⟩ := hl
  exact ⟨b, A, l, c, h.holds h1, b', A', l', c', n, e, h.rd h2, h3⟩
theorem Reg.locR {B : Nat} {W0 w : World} (h : Reg B W0 [] w) {g k : Nat} {z : Int} (hl : LocR W0 g k z) : LocR w g k z := by
  obtain ⟨A, l, c, h1, A', l', c', e, h2, h3⟩ := hl
  exact ⟨A, l, c, h.holds h1, A', l', c', e, h.rr h2, h3⟩

theorem run_load {w : World} {g : Nat} {u v : Value} (h0 : w.cell? ⟨g, 0, none⟩ = some u) (h1 : w.cell? ⟨g, 1, none⟩ = some v) : (Instr.loadAt 29 (.pointer (some ⟨g, 0, none⟩))).run Tryz.prog w = .ok (.agg #[u, v]) w := by go_simp
theorem run_store2 {w : World} {g : Nat} {b : Bool} {A : Option Addr} {l c : Nat} (h0 : w.frozen? ⟨g, 0, none⟩ = false) (h1 : w.frozen? ⟨g, 1, none⟩ = false) {u0 v0 : Value} (h2 : w.cell? ⟨g, 0, none⟩ = some u0) (h3 : w.cell? ⟨g, 1, none⟩ = some v0) : (Instr.storeAt 29 (.pointer (some ⟨g, 0, none⟩)) (.agg #[.bool b, .slice A l c])).run Tryz.prog w = .ok () (put2 w g (.bool b) (.slice A l c)) := by go_simp; rfl
theorem run_alloc {w : World} : (Instr.alloc 29 true (.tuple #[])).run Tryz.prog w = .ok (.pointer (some ⟨w.heap.size, 0, none⟩)) (w.alloc (.cells #[.bool false, .slice none 0 0] 29)) := by go_simp
theorem run_list1 {w : World} {b1 : Bool} {A1 : Option Addr} {l1 c1 : Nat} : (Instr.buildSlice 22 1 #[(0, .agg #[.bool b1, .slice A1 l1 c1])]).run Tryz.prog w = .ok (.slice (some ⟨w.heap.size, 0, none⟩) 1 1) (w.alloc (.cells #[.bool b1, .slice A1 l1 c1] 29)) := by go_simp
theorem run_list2 {w : World} {b1 b2 : Bool} {A1 A2 : Option Addr} {l1 c1 l2 c2 : Nat} : (Instr.buildSlice 22 2 #[(0, .agg #[.bool b1, .slice A1 l1 c1]), (1, .agg #[.bool b2, .slice A2 l2 c2])]).run Tryz.prog w = .ok (.slice (some ⟨w.heap.size, 0, none⟩) 2 2) (w.alloc (.cells #[.bool b1, .slice A1 l1 c1, .bool b2, .slice A2 l2 c2] 29)) := by go_simp
theorem run_list3 {w : World} {b1 b2 b3 : Bool} {A1 A2 A3 : Option Addr} {l1 c1 l2 c2 l3 c3 : Nat} : (Instr.buildSlice 22 3 #[(0, .agg #[.bool b1, .slice A1 l1 c1]), (1, .agg #[.bool b2, .slice A2 l2 c2]), (2, .agg #[.bool b3, .slice A3 l3 c3])]).run Tryz.prog w = .ok (.slice (some ⟨w.heap.size, 0, none⟩) 3 3) (w.alloc (.cells #[.bool b1, .slice A1 l1 c1, .bool b2, .slice A2 l2 c2, .bool b3, .slice A3 l3 c3] 29)) := by go_simp

def isZ (k : Nat) (z : Int) (cs : Array Value) (w : World) : Prop := ∃ A l c, cs = #[.bool (decide (z < 0)), .slice A l c] ∧ Zr w (.agg #[.bool (decide (z < 0)), .slice A l c]) k z
/-- A number stored into the variable that operation e made; a quotient, a rest and an error's number; a number and a truth. -/
def kPutZ (e k : Nat) (z : Int) : PK := .put e (isZ k z) (fun _ _ _ ⟨A, l, c, h1, h2⟩ hb => ⟨A, l, c, h1, h2.below hb⟩) (fun _ _ _ _ ⟨A, l, c, h1, h2⟩ hs => ⟨A, l, c, h1, h2.stored hs⟩)
def kZQ (j k : Nat) (q r : Int) (e : Int) : PK := .p (fun v w => ∃ a b, v = .tuple #[a, b, .int .i64 e] ∧ Zr w a j q ∧ Zr w b k r) (fun _ _ _ ⟨a, b, h1, h2, h3⟩ hb => ⟨a, b, h1, h2.below hb, h3.below hb⟩) (fun _ _ _ _ ⟨a, b, h1, h2, h3⟩ hs => ⟨a, b, h1, h2.stored hs, h3.stored hs⟩)
def kZB (k : Nat) (z : Int) (ok : Bool) : PK := .p (fun v w => ∃ a, v = .tuple #[a, .bool ok] ∧ Zr w a k z) (fun _ _ _ ⟨a, h1, h2⟩ hb => ⟨a, h1, h2.below hb⟩) (fun _ _ _ _ ⟨a, h1, h2⟩ hs => ⟨a, h1, h2.stored hs⟩)

theorem Lens.below {W w' : World} {g : Nat} {ns : List Nat} (h : Lens W g ns) (hb : Below W.heap.size W w') : Lens w' g ns := fun j n hj => by
  obtain ⟨A, c, h1⟩ := h j n hj
  exact ⟨A, c, (hb.cell (cell_lt h1)).trans h1⟩
def kLens (ns : List Nat) : PK := .list ns.length (fun g w => Lens w g ns) (fun _ _ _ h hb => h.below hb) (fun _ _ _ _ h hs hne j n hj => by
  obtain ⟨A, c, h1⟩ := h j n hj
  exact ⟨A, c, (World.cell?_of_block (hs.other _ hne)).trans h1⟩)
/-- What a code says of a value as a number. -/
def AsZ (c : PK) (k : Nat) (z : Int) : Prop := ∀ S0 x v w, c.sem S0 x v w → Zd w v k z
theorem asR {k : Nat} {z : Int} : AsZ (kZ k z) k z := fun _ _ _ _ h => Zr.zd h
theorem asD {k : Nat} {z : Int} : AsZ (kZd k z) k z := fun _ _ _ _ h => h
theorem rz {S0 : Nat} {x : Nat → Value} {v : Value} {w : World} {k : Nat} {z : Int} (h : (kZ k z).sem S0 x v w) : Zd w v k z := Zr.zd h
theorem dz {S0 : Nat} {x : Nat → Value} {v : Value} {w : World} {k : Nat} {z : Int} (h : (kZd k z).sem S0 x v w) : Zd w v k z := h
theorem rr {S0 : Nat} {x : Nat → Value} {v : Value} {w : World} {k : Nat} {z : Int} (h : (kZ k z).sem S0 x v w) : Zr w v k z := h
theorem lz {S0 : Nat} {x : Nat → Value} {v : Value} {w : World} {l : List (Nat × Int)} (h : (kZs l).sem S0 x v w) : ZL w v l := by
  obtain ⟨g, h1, _, _, h2⟩ := h
  exact ⟨g, h1, h2⟩

/-- What a call told, as a step wants it. -/
def Told (c : PK) (S0 : Nat) (x : Nat → Value) (w : World) (e : Ending) (w' : World) : Prop := ∃ v, e = .returned v ∧ c.move S0 x v w w' ∧ c.sem S0 x v w'
theorem tz {P : Program} {F : FuncId} {vs : Array Value} {w : World} {S0 : Nat} {x : Nat → Value} {k : Nat} {z : Int} (h : Calls P F vs w (TellsZ w k z)) : Calls P F vs w (Told (kZ k z) S0 x w) :=
  h.mono fun _ _ ⟨v, e, h1, h2⟩ => ⟨v, e, h2, h1⟩
theorem tq {P : Program} {F : FuncId} {vs : Array Value} {w : World} {S0 : Nat} {x : Nat → Value} {j k : Nat} {q r : Int} (h : Calls P F vs w (TellsQ w j k q r)) : Calls P F vs w (Told (kZQ j k q r 0) S0 x w) :=
  h.mono fun _ _ ⟨v, u, e, h1, h2, h3⟩ => ⟨_, e, h3, v, u, rfl, h1, h2⟩
theorem tq0 {P : Program} {F : FuncId} {vs : Array Value} {w : World} {S0 : Nat} {x : Nat → Value} (h : Calls P F vs w fun e w' => (∃ v u, e = .returned (.tuple #[v, u, .int .i64 9]) ∧ Zr w' v 1 0 ∧ Zr w' u 1 0) ∧ Below w.heap.size w w') : Calls P F vs w (Told (kZQ 1 1 0 0 9) S0 x w) :=
  h.mono fun _ _ ⟨⟨v, u, e, h1, h2⟩, h3⟩ => ⟨_, e, h3, v, u, rfl, h1, h2⟩
theorem ti {P : Program} {F : FuncId} {vs : Array Value} {w : World} {S0 : Nat} {x : Nat → Value} {V : Value} (h : Calls P F vs w fun e w' => e = .returned V ∧ Below w.heap.size w w') : Calls P F vs w (Told (kIs V) S0 x w) :=
  h.mono fun _ _ ⟨e, h1⟩ => ⟨V, e, h1, rfl⟩
theorem cmp_is {P : Program} {F : FuncId} {vs : Array Value} {w : World} {x y o : Int} (ho : ordI x y = o) (h : Calls P F vs w fun e w' => e = .returned (.int .i64 (ordI x y)) ∧ Below w.heap.size w w') : Calls P F vs w fun e w' => e = .returned (.int .i64 o) ∧ Below w.heap.size w w' := ho ▸ h
theorem ord_eq {x y : Int} (h : x = y) : ordI x y = 0 := by unfold ordI; rw [if_neg (by omega), if_neg (by omega)]
theorem ord_lt {x y : Int} (h : x < y) : ordI x y = -1 := by unfold ordI; rw [if_pos h]
theorem ord_gt {x y : Int} (h : y < x) : ordI x y = 1 := by unfold ordI; rw [if_neg (by omega), if_pos h]

section
variable {C : World → Prop} {S0 B : Nat} {ks : List PK} {a0 : Act} {i : Nat} {N : Nat} {W0 : World} {P : Program} {T : TypeId} {pos : String} {af : Array Edge} {gu : Option (Nat × Bool)} {ats : Array TypeId}

set_option maxRecDepth 100000 in
theorem st_loadZ {d t g k : Nat} {z : Int} (hl : LocZ W0 g k z) (hp : a0.eval (.tmp t) = .pointer (some ⟨g, 0, none⟩)) (hN : a0.tmps.size = N) (hd : decide (d < N) = true) (hi : at_ ks i = kZd k z) :
    PkStep Tryz.prog (Reg B W0 []) S0 ks a0 i { dst := some d, op := .load 29 (.tmp t), type := T, pos := pos, after := af, guard := gu } [] := by
  intro w x hC K hK
  obtain ⟨b, A, l, c, h1, h2⟩ := hC.locZ hl
  obtain ⟨m1, m2, _, _⟩ := h1.two
  refine wp_val (v := .agg #[.bool b, .slice A l c]) (w' := w) rfl hN hd ?_ (hK _ _ ?_ ?_)
  · exact ex_load hp (run_load m1 m2)
  · rw [hi]; exact Below.refl _ _
  · rw [hi]; exact h2
set_option maxRecDepth 100000 in
theorem st_loadR {d t g k : Nat} {z : Int} (hl : LocR W0 g k z) (hp : a0.eval (.tmp t) = .pointer (some ⟨g, 0, none⟩)) (hN : a0.tmps.size = N) (hd : decide (d < N) = true) (hi : at_ ks i = kZ k z) :
    PkStep Tryz.prog (Reg B W0 []) S0 ks a0 i { dst := some d, op := .load 29 (.tmp t), type := T, pos := pos, after := af, guard := gu } [] := by
  intro w x hC K hK
  obtain ⟨A, l, c, h1, h2⟩ := hC.locR hl
  obtain ⟨m1, m2, _, _⟩ := h1.two
  refine wp_val (v := .agg #[.bool (decide (z < 0)), .slice A l c]) (w' := w) rfl hN hd ?_ (hK _ _ ?_ ?_)
  · exact ex_load hp (run_load m1 m2)
  · rw [hi]; exact Below.refl _ _
  · rw [hi]; exact h2
set_option maxRecDepth 100000 in
/-- A load of what stands in a block, a list of such; how many digits they have. -/
theorem st_loadV {d t g : Nat} {u v : Value} (hl : Holds_ W0 g #[u, v]) (hp : a0.eval (.tmp t) = .pointer (some ⟨g, 0, none⟩)) (hN : a0.tmps.size = N) (hd : decide (d < N) = true) (hi : at_ ks i = kIs (.agg #[u, v])) :
    PkStep Tryz.prog (Reg B W0 []) S0 ks a0 i { dst := some d, op := .load 29 (.tmp t), type := T, pos := pos, after := af, guard := gu } [] := by
  intro w x hC K hK
  obtain ⟨m1, m2, _, _⟩ := (hC.holds hl).two
  refine wp_val (v := .agg #[u, v]) (w' := w) rfl hN hd ?_ (hK _ _ ?_ ?_)
  · exact ex_load hp (run_load m1 m2)
  · rw [hi]; exact Below.refl _ _
  · rw [hi]; rfl
set_option maxRecDepth 100000 in
theorem st_lens3 {d j1 t1 j2 t2 j3 t3 n1 n2 n3 : Nat} {b1 b2 b3 : Bool} {A1 A2 A3 : Option Addr} {c1 c2 c3 : Nat} (hN : a0.tmps.size = N) (hd : decide (d < N) = true) (ht1 : decide (t1 < N) = true) (ht2 : decide (t2 < N) = true) (ht3 : decide (t3 < N) = true) (hne : decide (t1 = t2) = false) (hne2 : decide (t1 = t3) = false) (hne3 : decide (t2 = t3) = false) (hS : S0 ≤ W0.heap.size)
    (h1 : at_ ks j1 = kIs (.agg #[.bool b1, .slice A1 n1 c1])) (h2 : at_ ks j2 = kIs (.agg #[.bool b2, .slice A2 n2 c2])) (h3 : at_ ks j3 = kIs (.agg #[.bool b3, .slice A3 n3 c3])) (hi : at_ ks i = kLens [n1, n2, n3]) :
    PkStep Tryz.prog (Reg B W0 []) S0 ks a0 i { dst := some d, op := .buildSlice 22 3 #[(0, .tmp t1), (1, .tmp t2), (2, .tmp t3)], type := T, pos := pos, after := af, guard := gu } [(j1, some t1), (j2, some t2), (j3, some t3)] := by
  intro w x hC
  refine deps_all _ fun hdeps K hK => ?_
  have hx := hdeps (j1, some t1) (by simp)
  have hy := hdeps (j2, some t2) (by simp)
  have hz := hdeps (j3, some t3) (by simp)
  rw [h1] at hx
  rw [h2] at hy
  rw [h3] at hz
  replace hx : x j1 = .agg #[.bool b1, .slice A1 n1 c1] := hx
  replace hy : x j2 = .agg #[.bool b2, .slice A2 n2 c2] := hy
  replace hz : x j3 = .agg #[.bool b3, .slice A3 n3 c3] := hz
  have hne' : t1 ≠ t2 := of_decide_eq_false hne
  have hne2' : t1 ≠ t3 := of_decide_eq_false hne2
  have hne3' : t2 ≠ t3 := of_decide_eq_false hne3
  have e1 : (putE x a0 [(j1, some t1), (j2, some t2), (j3, some t3)]).eval (.tmp t1) = x j1 := putE_new _ _ (by rw [hN]; exact of_decide_eq_true ht1) (by simp [slotAt, Ne.symm hne', Ne.symm hne2'])
  have e2 : (putE x a0 [(j1, some t1), (j2, some t2), (j3, some t3)]).eval (.tmp t2) = x j2 := putE_new _ _ (by rw [hN]; exact of_decide_eq_true ht2) (by simp [slotAt, Ne.symm hne3'])
  have e3 : (putE x a0 [(j1, some t1), (j2, some t2), (j3, some t3)]).eval (.tmp t3) = x j3 := putE_new _ _ (by rw [hN]; exact of_decide_eq_true ht3) (by simp [slotAt])
  have hsz := hC.below.size
  refine wp_val (v := .slice (some ⟨w.heap.size, 0, none⟩) 3 3) (w' := w.alloc (.cells #[.bool b1, .slice A1 n1 c1, .bool b2, .slice A2 n2 c2, .bool b3, .slice A3 n3 c3] 29)) rfl (by rw [putE_size, hN]) hd ?_ (hK _ _ ?_ ?_)
  · exact ex_slice3 (e1.trans hx) (e2.trans hy) (e3.trans hz) run_list3
  · rw [hi]; exact ⟨(Below.refl _ _).alloc (Nat.le_refl _) _, _, rfl, Nat.le_refl _⟩
  · rw [hi]
    refine ⟨_, rfl, Nat.le_trans hS hsz, lt_alloc _ _, fun j n hj => ?_⟩
    match j, hj with
    | 0, hj => simp at hj; subst hj; exact ⟨A1, c1, by simp⟩
    | 1, hj => simp at hj; subst hj; exact ⟨A2, c2, by simp⟩
    | 2, hj => simp at hj; subst hj; exact ⟨A3, c3, by simp⟩
set_option maxRecDepth 100000 in
theorem st_alloc {d : Nat} (hN : a0.tmps.size = N) (hd : decide (d < N) = true) (hS : S0 ≤ W0.heap.size) (hi : at_ ks i = .fresh 2) :
    PkStep Tryz.prog (Reg B W0 []) S0 ks a0 i { dst := some d, op := .alloc 29, type := T, pos := pos, after := af, guard := gu } [] := by
  intro w x hC K hK
  have hsz := hC.below.size
  refine wp_val (v := .pointer (some ⟨w.heap.size, 0, none⟩)) (w' := w.alloc (.cells #[.bool false, .slice none 0 0] 29)) rfl hN hd ?_ (hK _ _ ?_ ?_)
  · exact ex_alloc run_alloc
  · rw [hi]; exact ⟨(Below.refl _ _).alloc (Nat.le_refl _) _, _, rfl, Nat.le_refl _⟩
  · rw [hi]; exact ⟨_, _, rfl, Nat.le_trans hS hsz, holds_new2 _ (noDig_bool _) (noDig_slice _ _ _) _, rfl⟩
set_option maxRecDepth 100000 in
theorem st_put {t u e j k : Nat} {z : Int} (hN : a0.tmps.size = N) (ht : decide (t < N) = true) (hu : decide (u < N) = true) (htu : decide (t = u) = false) (he : at_ ks e = .fresh 2) (hj : at_ ks j = kZ k z) (hi : at_ ks i = kPutZ e k z) :
    PkStep Tryz.prog (Reg B W0 []) S0 ks a0 i { dst := none, op := .store 29 (.tmp t) (.tmp u), type := T, pos := pos, after := af, guard := gu } [(e, some t), (j, some u)] := by
  intro w x hC
  refine deps_all _ fun hdeps K hK => ?_
  have h1 := hdeps (e, some t) (by simp)
  have h2 := hdeps (j, some u) (by simp)
  have htu' : t ≠ u := of_decide_eq_false htu
  have e1 : (putE x a0 [(e, some t), (j, some u)]).eval (.tmp t) = x e := putE_new _ _ (by rw [hN]; exact of_decide_eq_true ht) (by simp [slotAt, Ne.symm htu'])
  have e2 : (putE x a0 [(e, some t), (j, some u)]).eval (.tmp u) = x j := putE_new _ _ (by rw [hN]; exact of_decide_eq_true hu) (by simp [slotAt])
  simp only [he, hj] at h1 h2
  obtain ⟨g, cs, hx, hg0, hg, hsz⟩ := h1
  obtain ⟨u0, v0, rfl⟩ := size_two hsz
  obtain ⟨A, l, c, hy, hr, hlt⟩ := h2
  obtain ⟨m1, m2, m3, m4⟩ := hg.two
  have hst := stored_put2 hg (noDig_bool (decide (z < 0))) (noDig_slice A l c)
  refine wp_skp (w' := put2 w g (.bool (decide (z < 0))) (.slice A l c)) rfl ?_ (hK _ _ ?_ ?_)
  · exact ex_store (e1.trans hx) (e2.trans hy) (run_store2 m3 m4 m1 m2)
  · rw [hi]; exact ⟨g, hx, hg0, hst⟩
  · rw [hi]; exact ⟨g, _, hx, hg0, holds_put2 hg (noDig_bool _) (noDig_slice _ _ _), A, l, c, rfl, A, l, c, rfl, hst.rr hr, hlt⟩
theorem put_loc {S0 : Nat} {x : Nat → Value} {v : Value} {w : World} {e k : Nat} {z : Int} (h : (kPutZ e k z).sem S0 x v w) : ∃ g, x e = .pointer (some ⟨g, 0, none⟩) ∧ LocR w g k z := by
  obtain ⟨g, cs, h1, _, h2, A, l, c, rfl, h3⟩ := h
  exact ⟨g, h1, A, l, c, h2, h3⟩
set_option maxRecDepth 100000 in
theorem st_list1 {d j1 t1 k1 : Nat} {z1 : Int} (hN : a0.tmps.size = N) (hd : decide (d < N) = true) (ht1 : decide (t1 < N) = true) (hS : S0 ≤ W0.heap.size) (h1 : AsZ (at_ ks j1) k1 z1) (hi : at_ ks i = kZs [(k1, z1)]) :
    PkStep Tryz.prog (Reg B W0 []) S0 ks a0 i { dst := some d, op := .buildSlice 22 1 #[(0, .tmp t1)], type := T, pos := pos, after := af, guard := gu } [(j1, some t1)] := by
  intro w x hC
  refine deps_all _ fun hdeps K hK => ?_
  have g1 := h1 _ _ _ _ (hdeps (j1, some t1) (by simp))
  have e1 : (putE x a0 [(j1, some t1)]).eval (.tmp t1) = x j1 := putE_new _ _ (by rw [hN]; exact of_decide_eq_true ht1) (by simp [slotAt])
  obtain ⟨b1, A1, l1, c1, n1, hx, q1⟩ := g1
  have hsz := hC.below.size
  refine wp_val (v := .slice (some ⟨w.heap.size, 0, none⟩) 1 1) (w' := w.alloc (.cells #[.bool b1, .slice A1 l1 c1] 29)) rfl (by rw [putE_size, hN]) hd ?_ (hK _ _ ?_ ?_)
  · exact ex_slice1 (e1.trans hx) run_list1
  · rw [hi]; exact ⟨(Below.refl _ _).alloc (Nat.le_refl _) _, _, rfl, Nat.le_refl _⟩
  · rw [hi]; exact ⟨_, rfl, Nat.le_trans hS hsz, lt_alloc _ _, zs_lit1 ⟨b1, A1, l1, c1, n1, rfl, q1⟩ _⟩
set_option maxRecDepth 100000 in
theorem st_list2 {d j1 t1 k1 j2 t2 k2 : Nat} {z1 z2 : Int} (hN : a0.tmps.size = N) (hd : decide (d < N) = true) (ht1 : decide (t1 < N) = true) (ht2 : decide (t2 < N) = true) (hne : decide (t1 = t2) = false) (hS : S0 ≤ W0.heap.size) (h1 : AsZ (at_ ks j1) k1 z1) (h2 : AsZ (at_ ks j2) k2 z2) (hi : at_ ks i = kZs [(k1, z1), (k2, z2)]) :
    PkStep Tryz.prog (Reg B W0 []) S0 ks a0 i { dst := some d, op := .buildSlice 22 2 #[(0, .tmp t1), (1, .tmp t2)], type := T, pos := pos, after := af, guard := gu } [(j1, some t1), (j2, some t2)] := by
  intro w x hC
  refine deps_all _ fun hdeps K hK => ?_
  have g1 := h1 _ _ _ _ (hdeps (j1, some t1) (by simp))
  have g2 := h2 _ _ _ _ (hdeps (j2, some t2) (by simp))
  have hne' : t1 ≠ t2 := of_decide_eq_false hne
  have e1 : (putE x a0 [(j1, some t1), (j2, some t2)]).eval (.tmp t1) = x j1 := putE_new _ _ (by rw [hN]; exact of_decide_eq_true ht1) (by simp [slotAt, Ne.symm hne'])
  have e2 : (putE x a0 [(j1, some t1), (j2, some t2)]).eval (.tmp t2) = x j2 := putE_new _ _ (by rw [hN]; exact of_decide_eq_true ht2) (by simp [slotAt])
  obtain ⟨b1, A1, l1, c1, n1, hx, q1⟩ := g1
  obtain ⟨b2, A2, l2, c2, n2, hy, q2⟩ := g2
  have hsz := hC.below.size
  refine wp_val (v := .slice (some ⟨w.heap.size, 0, none⟩) 2 2) (w' := w.alloc (.cells #[.bool b1, .slice A1 l1 c1, .bool b2, .slice A2 l2 c2] 29)) rfl (by rw [putE_size, hN]) hd ?_ (hK _ _ ?_ ?_)
  · exact ex_slice2 (e1.trans hx) (e2.trans hy) run_list2
  · rw [hi]; exact ⟨(Below.refl _ _).alloc (Nat.le_refl _) _, _, rfl, Nat.le_refl _⟩
  · rw [hi]; exact ⟨_, rfl, Nat.le_trans hS hsz, lt_alloc _ _, zs_lit2 ⟨b1, A1, l1, c1, n1, rfl, q1⟩ ⟨b2, A2, l2, c2, n2, rfl, q2⟩ _⟩
set_option maxRecDepth 100000 in
theorem st_list3 {d j1 t1 k1 j2 t2 k2 j3 t3 k3 : Nat} {z1 z2 z3 : Int} (hN : a0.tmps.size = N) (hd : decide (d < N) = true) (ht1 : decide (t1 < N) = true) (ht2 : decide (t2 < N) = true) (ht3 : decide (t3 < N) = true) (hne : decide (t1 = t2) = false) (hne2 : decide (t1 = t3) = false) (hne3 : decide (t2 = t3) = false) (hS : S0 ≤ W0.heap.size) (h1 : AsZ (at_ ks j1) k1 z1) (h2 : AsZ (at_ ks j2) k2 z2) (h3 : AsZ (at_ ks j3) k3 z3) (hi : at_ ks i = kZs [(k1, z1), (k2, z2), (k3, z3)]) :
    PkStep Tryz.prog (Reg B W0 []) S0 ks a0 i { dst := some d, op := .buildSlice 22 3 #[(0, .tmp t1), (1, .tmp t2), (2, .tmp t3)], type := T, pos := pos, after := af, guard := gu } [(j1, some t1), (j2, some t2), (j3, some t3)] := by
  intro w x hC
  refine deps_all _ fun hdeps K hK => ?_
  have g1 := h1 _ _ _ _ (hdeps (j1, some t1) (by simp))
  have g2 := h2 _ _ _ _ (hdeps (j2, some t2) (by simp))
  have g3 := h3 _ _ _ _ (hdeps (j3, some t3) (by simp))
  have hne' : t1 ≠ t2 := of_decide_eq_false hne
  have hne2' : t1 ≠ t3 := of_decide_eq_false hne2
  have hne3' : t2 ≠ t3 := of_decide_eq_false hne3
  have e1 : (putE x a0 [(j1, some t1), (j2, some t2), (j3, some t3)]).eval (.tmp t1) = x j1 := putE_new _ _ (by rw [hN]; exact of_decide_eq_true ht1) (by simp [slotAt, Ne.symm hne', Ne.symm hne2'])
  have e2 : (putE x a0 [(j1, some t1), (j2, some t2), (j3, some t3)]).eval (.tmp t2) = x j2 := putE_new _ _ (by rw [hN]; exact of_decide_eq_true ht2) (by simp [slotAt, Ne.symm hne3'])
  have e3 : (putE x a0 [(j1, some t1), (j2, some t2), (j3, some t3)]).eval (.tmp t3) = x j3 := putE_new _ _ (by rw [hN]; exact of_decide_eq_true ht3) (by simp [slotAt])
  obtain ⟨b1, A1, l1, c1, n1, hx, q1⟩ := g1
  obtain ⟨b2, A2, l2, c2, n2, hy, q2⟩ := g2
  obtain ⟨b3, A3, l3, c3, n3, hz, q3⟩ := g3
  have hsz := hC.below.size
  refine wp_val (v := .slice (some ⟨w.heap.size, 0, none⟩) 3 3) (w' := w.alloc (.cells #[.bool b1, .slice A1 l1 c1, .bool b2, .slice A2 l2 c2, .bool b3, .slice A3 l3 c3] 29)) rfl (by rw [putE_size, hN]) hd ?_ (hK _ _ ?_ ?_)
  · exact ex_slice3 (e1.trans hx) (e2.trans hy) (e3.trans hz) run_list3
  · rw [hi]; exact ⟨(Below.refl _ _).alloc (Nat.le_refl _) _, _, rfl, Nat.le_refl _⟩
  · rw [hi]; exact ⟨_, rfl, Nat.le_trans hS hsz, lt_alloc _ _, zs_lit3 ⟨b1, A1, l1, c1, n1, rfl, q1⟩ ⟨b2, A2, l2, c2, n2, rfl, q2⟩ ⟨b3, A3, l3, c3, n3, rfl, q3⟩ _⟩

/-- A call of one argument, of two; of none but what stands in the text. -/
theorem st_call1 {d F j1 t1 : Nat} {c1 c : PK} (hN : a0.tmps.size = N) (hd : decide (d < N) = true) (ht1 : decide (t1 < N) = true) (hF : enters P F = true) (h1 : at_ ks j1 = c1) (hi : at_ ks i = c)
    (h : ∀ w x v1, C w → c1.sem S0 x v1 w → Calls P F #[v1] w (Told c S0 x w)) :
    PkStep P C S0 ks a0 i { dst := some d, op := .call { callee := .value (.func F), args := #[.tmp t1], argTypes := ats }, type := T, pos := pos, after := af, guard := gu } [(j1, some t1)] :=
  st_call (ss := [.dep j1]) hN (by simp [esIn]; exact of_decide_eq_true ht1) hd hF (by simp [src, slotAt]) fun w x hC hdeps => by
    have g1 := hdeps (j1, some t1) (by simp)
    rw [h1] at g1
    rw [hi]
    exact h w x (x j1) hC g1
theorem st_call2 {d F j1 t1 j2 t2 : Nat} {c1 c2 c : PK} (hN : a0.tmps.size = N) (hd : decide (d < N) = true) (ht1 : decide (t1 < N) = true) (ht2 : decide (t2 < N) = true) (hne : decide (t1 = t2) = false) (hF : enters P F = true) (h1 : at_ ks j1 = c1) (h2 : at_ ks j2 = c2) (hi : at_ ks i = c)
    (h : ∀ w x v1 v2, C w → c1.sem S0 x v1 w → c2.sem S0 x v2 w → Calls P F #[v1, v2] w (Told c S0 x w)) :
    PkStep P C S0 ks a0 i { dst := some d, op := .call { callee := .value (.func F), args := #[.tmp t1, .tmp t2], argTypes := ats }, type := T, pos := pos, after := af, guard := gu } [(j1, some t1), (j2, some t2)] :=
  st_call (ss := [.dep j1, .dep j2]) hN (by simp [esIn]; exact ⟨of_decide_eq_true ht1, of_decide_eq_true ht2⟩) hd hF (by have := of_decide_eq_false hne; simp [src, slotAt, Ne.symm this]) fun w x hC hdeps => by
    have g1 := hdeps (j1, some t1) (by simp)
    have g2 := hdeps (j2, some t2) (by simp)
    rw [h1] at g1
    rw [h2] at g2
    rw [hi]
    exact h w x (x j1) (x j2) hC g1 g2
theorem st_call0 {d F : Nat} {args : Array Operand} {c : PK} (vs : List Value) (hN : a0.tmps.size = N) (hd : decide (d < N) = true) (hF : enters P F = true) (hs : args.toList.map (src []) = vs.map Src.val) (hi : at_ ks i = c) (h : ∀ w x, C w → Calls P F vs.toArray w (Told c S0 x w)) :
    PkStep P C S0 ks a0 i { dst := some d, op := .call { callee := .value (.func F), args := args, argTypes := ats }, type := T, pos := pos, after := af, guard := gu } [] :=
  st_call (ss := vs.map Src.val) hN rfl hd hF hs fun w x hC _ => by
    have e : (vs.map Src.val).map (Src.get x a0) = vs := by
      rw [List.map_map]
      exact List.map_id _
    rw [e, hi]
    exact h w x hC
set_option maxRecDepth 100000 in
/-- What a tuple holds. -/
theorem st_ext {d j t n : Nat} {c cj : PK} (hN : a0.tmps.size = N) (hd : decide (d < N) = true) (ht : decide (t < N) = true) (hj : at_ ks j = cj) (hi : at_ ks i = c)
    (h : ∀ w x v, cj.sem S0 x v w → ∃ vs u, v = .tuple vs ∧ vs[n]? = some u ∧ c.move S0 x u w w ∧ c.sem S0 x u w) :
    PkStep P C S0 ks a0 i { dst := some d, op := .extract (.tmp t) n, type := T, pos := pos, after := af, guard := gu } [(j, some t)] := by
  intro w x hC
  refine deps_all _ fun hdeps K hK => ?_
  have g1 := hdeps (j, some t) (by simp)
  rw [hj] at g1
  obtain ⟨vs, u, hx, hu, h2, h3⟩ := h w x _ g1
  have e1 : (putE x a0 [(j, some t)]).eval (.tmp t) = x j := putE_new _ _ (by rw [hN]; exact of_decide_eq_true ht) (by simp [slotAt])
  refine wp_val (v := u) (w' := w) rfl (by rw [putE_size, hN]) hd ?_ (hK _ _ (by rw [hi]; exact h2) (by rw [hi]; exact h3))
  exact ex_ext (e1.trans hx) hu
end
theorem ext_q {S0 : Nat} {j k : Nat} {q r e : Int} : ∀ w x v, (kZQ j k q r e).sem S0 x v w → ∃ vs u, v = .tuple vs ∧ vs[0]? = some u ∧ (kZ j q).move S0 x u w w ∧ (kZ j q).sem S0 x u w := fun _ _ _ ⟨a, _, h1, h2, _⟩ => ⟨_, a, h1, rfl, Below.refl _ _, h2⟩
theorem ext_r {S0 : Nat} {j k : Nat} {q r e : Int} : ∀ w x v, (kZQ j k q r e).sem S0 x v w → ∃ vs u, v = .tuple vs ∧ vs[1]? = some u ∧ (kZ k r).move S0 x u w w ∧ (kZ k r).sem S0 x u w := fun _ _ _ ⟨_, b, h1, _, h3⟩ => ⟨_, b, h1, rfl, Below.refl _ _, h3⟩
theorem ext_e {S0 : Nat} {j k : Nat} {q r e : Int} : ∀ w x v, (kZQ j k q r e).sem S0 x v w → ∃ vs u, v = .tuple vs ∧ vs[2]? = some u ∧ (kIs (.int .i64 e)).move S0 x u w w ∧ (kIs (.int .i64 e)).sem S0 x u w := fun _ _ _ ⟨_, _, h1, _, _⟩ => ⟨_, _, h1, rfl, Below.refl _ _, rfl⟩
theorem ext_z {S0 : Nat} {k : Nat} {z : Int} {ok : Bool} : ∀ w x v, (kZB k z ok).sem S0 x v w → ∃ vs u, v = .tuple vs ∧ vs[0]? = some u ∧ (kZ k z).move S0 x u w w ∧ (kZ k z).sem S0 x u w := fun _ _ _ ⟨a, h1, h2⟩ => ⟨_, a, h1, rfl, Below.refl _ _, h2⟩
theorem ext_ok {S0 : Nat} {k : Nat} {z : Int} {ok : Bool} : ∀ w x v, (kZB k z ok).sem S0 x v w → ∃ vs u, v = .tuple vs ∧ vs[1]? = some u ∧ (kIs (.bool ok)).move S0 x u w w ∧ (kIs (.bool ok)).sem S0 x u w := fun _ _ _ ⟨_, h1, _⟩ => ⟨_, _, h1, rfl, Below.refl _ _, rfl⟩

/-- Control, where frames are known by their slots. -/
theorem then_n {next : Act → World → Prop} {Q : Exit → Act → World → Prop} {a : Act} {w : World} (h : next a w) : Exit.then next Q .normal a w := h
theorem ret_one {P : Program} {fn : Func} {R : Ending → World → Prop} {a : Act} {w : World} {v : Value} {t : Tmp} (hres : fn.results = #[.tmp t]) (hd : a.defers = []) (hv : a.eval (.tmp t) = v) (hR : R (.returned v) w) : bodyPost P fn R .ret a w := by
  refine bodyPost_ret (v := v) ?_ hd hR
  have h : a.tmps[t]?.getD undef = v := by
    rw [← Array.getD_eq_getD_getElem?]; exact hv
  simp [results, hres, go_sem, h]
end Go.Proofs.YthjgfkmnelefpaaGreatDoor

namespace Go.Proofs.YthjgfkmnelefpaaGreatDoor
open Go.RowKit

theorem region_k {P : Program} {Q : Exit → Act → World → Prop} {c : Code} {a : Act} {w : World} (h : ∀ K : Act → World → Prop, (∀ a w, Q .normal a w → K a w) → c.wp P (Exit.then K Q) a w) : c.wp P Q a w :=
  wp_mono (h (Q .normal) fun _ _ h => h) fun e a w h => by cases e <;> exact h
theorem then_r {next : Act → World → Prop} {Q : Exit → Act → World → Prop} {a : Act} {w : World} (h : Q .ret a w) : Exit.then next Q .ret a w := h
theorem great_told {S0 : Nat} {x : Nat → Value} {w : World} {v : Value} {ns : List Nat} (r : Bool) (h : (kLens ns).sem S0 x v w) (hns : ∀ n ∈ ns, n ≤ 35184372087808) (hlen : ns.length ≤ 20) (hr : decide (1000 < ns.sum) = r) :
    Calls Tryz.prog 6 #[v] w fun e w' => e = .returned (.bool r) ∧ Below w.heap.size w w' := by
  obtain ⟨g, rfl, _, _, h1⟩ := h
  refine (great_any h1 hns hlen).mono fun e w' hh => ?_
  obtain ⟨h2, rfl⟩ := hh
  exact ⟨by rw [h2, hr], Below.refl _ _⟩
theorem three_le {k1 k2 k3 m : Nat} (h1 : k1 ≤ m) (h2 : k2 ≤ m) (h3 : k3 ≤ m) : ∀ n ∈ [k1, k2, k3], n ≤ m := fun n hn => by
  rcases List.mem_cons.1 hn with rfl | hn
  · exact h1
  rcases List.mem_cons.1 hn with rfl | hn
  · exact h2
  · rw [List.mem_singleton.1 hn]; exact h3
theorem three_sum (k1 k2 k3 : Nat) : [k1, k2, k3].sum = k1 + k2 + k3 := by simp [Nat.add_assoc]
end Go.Proofs.YthjgfkmnelefpaaGreatDoor

namespace Go.Proofs.YthjgfkmnelefpaaGreatDoor
open Go.ChangeShapes Go.WideShapes Go.ChangeAt Go.WideMaps Go.WideElems Go.RowKit

/-- What the datum of such a number is. -/
def IntData {H : Type} (d : DataW H) (b : Bool) (n : Nat) : Prop := (d = .agg [.lit (.bool b), .nil] ∧ n = 0) ∨ ∃ els rest, d = .agg [.lit (.bool b), .slice els rest] ∧ els.length = n

set_option maxRecDepth 100000 in
theorem open_apiInt {H : Type} {enc : TypeId × Value → H} {W : World} {base : Nat} {v : Value} {d : DataW H} {ps : List MemPlace} (hv : Value.okWide Tryz.prog W .any base 29 v) (h : DataW.Trod enc Tryz.prog W 0 (fun _ => true) true 29 v d ps) :
    ∃ (b : Bool) (A : Option Addr) (c : Nat) (ds : List Nat), v = .agg #[.bool b, .slice A ds.length c] ∧ Row W A (u32s ds) ∧ small 4294967296 ds ∧ IntData d b ds.length := by
  obtain ⟨v0, v1, y0, y1, n, rfl, rfl, _, h0, h1⟩ := Go.Joins.open_agg2 Tryz.underlying29 (by kernel_rfl) (by kernel_rfl) hv h
  have hb : ∃ b, v0 = .bool b ∧ y0.1 = .lit (.bool b) := by
    obtain ⟨b, hc, hx⟩ := DataW.trod_bool Tryz.underlying4 h0
    injection hc with hc
    exact ⟨b, hc, by rw [hx]⟩
  obtain ⟨b, rfl, e0⟩ := hb
  rcases open_ints Tryz.underlying27 Tryz.underlying55 (by kernel_rfl) h1 with ⟨hcs, hx⟩ | ⟨a, len, cap, zs, hcs, _, hl, hm, hz, hx, hcell, hw⟩
  · injection hcs with hcs
    subst hcs
    refine ⟨b, none, 0, [], rfl, Row.nil _ _, small_nil _, .inl ⟨?_, rfl⟩⟩
    rw [e0, hx]
  · injection hcs with hcs
    subst hcs
    simp only [if_true] at hz
    have hll := lim_length (zs := zs) (n := len) (by omega)
    refine ⟨b, some a, cap, lim zs len, by rw [hll], lim_row hl hz hw (fun h => by cases h) (fun a' ha i hi => ?_), lim_small hw, .inr ⟨_, _, by rw [e0, hx], ?_⟩⟩
    · injection ha with ha
      subst ha
      exact hcell i (by omega)
    · rw [hll]; simp [lits]; omega
theorem int_short {H : Type} {ts : List TypeId} {ds : List (DataW H)} (hsz : (DataW.weightsEach Tryz.prog ts ds).all (· ≤ reachBytes) = true) {j : Nat} {d : DataW H} {b : Bool} {n : Nat} (ht : ts[j]? = some 29) (hd : ds[j]? = some d) (h : IntData d b n) : n ≤ 35184372087808 := by
  rcases h with ⟨_, rfl⟩ | ⟨els, rest, rfl, rfl⟩
  · exact Nat.zero_le _
  · have hm : (els.length + rest.length) * 4 ∈ (DataW.agg [.lit (.bool b), .slice els rest] : DataW H).weights Tryz.prog 29 := by
      have hu := Tryz.underlying29
      have hu2 := Tryz.underlying27
      have hb : Tryz.prog.bytesOf 55 = 4 := by kernel_rfl
      unfold DataW.weights
      rw [hu]
      simp [DataW.weightsEach, DataW.weights, hu2, hb]
    have := List.all_eq_true.1 hsz _ (DataW.weights_mem_each ht hd _ hm)
    have h2 := of_decide_eq_true this
    have h3 : reachBytes = 140737488351232 := rfl
    omega
end Go.Proofs.YthjgfkmnelefpaaGreatDoor

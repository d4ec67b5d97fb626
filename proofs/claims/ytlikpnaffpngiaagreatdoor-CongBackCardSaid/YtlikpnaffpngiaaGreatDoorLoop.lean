/- Loops by any counter, in frames that are known by their slots: a counter set, held against a length, moved on. No condition. -/
import Derived.Test.YtlikpnaffpngiaaGreatDoorStepN
namespace Go.Proofs.YtlikpnaffpngiaaGreatDoor
open Go.RowKit

/-- What a call told. -/
def Told (c : PK) (S0 : Nat) (x : Nat → Value) (w : World) (e : Ending) (w' : World) : Prop := ∃ v, e = .returned v ∧ c.move S0 x v w w' ∧ c.sem S0 x v w'
section
variable {G : List Nat} {C : World → Prop} {S0 B : Nat} {ks : List PK} {a0 : Act} {i : Nat} {N : Nat} {W0 : World} {P : Program} {T : TypeId} {pos : String} {af : Array Edge} {gu : Option (Nat × Bool)} {ats : Array TypeId}
theorem st_call1 {d F j1 t1 : Nat} {c1 c : PK} (hN : a0.tmps.size = N) (hd : decide (d < N) = true) (ht1 : decide (t1 < N) = true) (hF : enters P F = true) (h1 : at_ ks j1 = c1) (hi : at_ ks i = c)
    (h : ∀ w x v1, C w → c1.sem S0 x v1 w → Calls P F #[v1] w (Told c S0 x w)) :
    PkStep P C S0 ks a0 i { dst := some d, op := .call { callee := .value (.func F), args := #[.tmp t1], argTypes := ats }, type := T, pos := pos, after := af, guard := gu } [(j1, some t1)] :=
  st_call (ss := [.dep j1]) hN (by simp [esIn]; exact of_decide_eq_true ht1) hd hF (by simp [src, slotAt]) fun w x hC hdeps => by
    have g1 := hdeps (j1, some t1) (by simp)
    rw [h1] at g1
    rw [hi]
    exact h w x (x j1) hC g1
theorem st_call2 {d F j1 t1 j2 t2 : Nat} {c1 c2 c : PK} (hN : a0.tmps.size = N) (hd : decide (d < N) = true) (ht1 : decide (t1 < N) = true) (ht2 : decide (t2 < N) = true) (hne : decide (t1 = t2) = false) (hF : enters P F = true) (h1 : at_ ks j1 = c1) (h2 : at_ ks j2 = c2) (hi : at_ ks i = c)
    (h : ∀ w x v1 v2, C w → c1.sem S0 x v1 w → c2.sem S0 x v2 w → Calls P F #[v1, v2] w (Told c S0 x w)) :
    PkStep P C S0 ks a0 i { dst := some d, op := .call { callee := .value (.func F), args := #[.tmp t1, .tmp t2], argTypes := ats }, type := T, pos := pos, after := af, guard := gu } [(j1, some t1), (j2, some t2)] :=
  st_call (ss := [.dep j1, .dep j2]) hN (by simp [esIn]; exact ⟨of_decide_eq_true ht1, of_decide_eq_true ht2⟩) hd hF (by have := of_decide_eq_false hne; simp [src, slotAt, Ne.symm this]) fun w x hC hdeps => by
    have g1 := hdeps (j1, some t1) (by simp)
    have g2 := hdeps (j2, some t2) (by simp)
    rw [h1] at g1
    rw [h2] at g2
    rw [hi]
    exact h w x (x j1) (x j2) hC g1 g2
theorem st_call0 {d F : Nat} {args : Array Operand} {c : PK} (vs : List Value) (hN : a0.tmps.size = N) (hd : decide (d < N) = true) (hF : enters P F = true) (hs : args.toList.map (src []) = vs.map Src.val) (hi : at_ ks i = c) (h : ∀ w x, C w → Calls P F vs.toArray w (Told c S0 x w)) :
    PkStep P C S0 ks a0 i { dst := some d, op := .call { callee := .value (.func F), args := args, argTypes := ats }, type := T, pos := pos, after := af, guard := gu } [] :=
  st_call (ss := vs.map Src.val) hN rfl hd hF hs fun w x hC _ => by
    have e : (vs.map Src.val).map (Src.get x a0) = vs := by
      rw [List.map_map]
      exact List.map_id _
    rw [e, hi]
    exact h w x hC
end
theorem ret_one {P : Program} {fn : Func} {R : Ending → World → Prop} {a : Act} {w : World} {v : Value} {t : Tmp} (hres : fn.results = #[.tmp t]) (hd : a.defers = []) (hv : a.eval (.tmp t) = v) (hR : R (.returned v) w) : bodyPost P fn R .ret a w := by
  refine bodyPost_ret (v := v) ?_ hd hR
  have h : a.tmps[t]?.getD undef = v := by
    rw [← Array.getD_eq_getD_getElem?]; exact hv
  simp [results, hres, go_sem, h]
theorem then_n {next : Act → World → Prop} {Q : Exit → Act → World → Prop} {a : Act} {w : World} (h : next a w) : Exit.then next Q .normal a w := h
theorem then_r {next : Act → World → Prop} {Q : Exit → Act → World → Prop} {a : Act} {w : World} (h : Q .ret a w) : Exit.then next Q .ret a w := h
theorem in_block {id : Nat} {Q : Exit → Act → World → Prop} {a : Act} {w : World} (h : Q .normal a w) : Exit.inBlock id Q .normal a w := h
theorem then_x {next : Act → World → Prop} {id : Nat} {Q : Exit → Act → World → Prop} {a : Act} {w : World} (h : Q (.exit id) a w) : Exit.then next Q (.exit id) a w := h
theorem out_block {id : Nat} {Q : Exit → Act → World → Prop} {a : Act} {w : World} (h : Q .normal a w) : Exit.inBlock id Q (.exit id) a w := by
  show (if id = id then Q .normal a w else _)
  rw [if_pos rfl]; exact h
theorem wpOps_val {P : Program} {ops : Array Oper} {Q : Exit → Act → World → Prop} {i : Nat} {rest : List Nat} {o : Oper} {a : Act} {w : World} {v : Value} (ho : ops[i]? = some o) (hg : o.guard = none) (h : (execOp a.eval o).run P w = .ok (.value v) w) (hk : wpOps P ops Q rest (a.put o.dst v) w) : wpOps P ops Q (i :: rest) a w := by
  rw [wpOps_cons]
  unfold wpOp
  rw [ho]
  have hw : Region.wanted o (yielded ops a.tmps) = true := by simp [Region.wanted, hg]
  show if Region.wanted o _ = true then _ else _
  rw [if_pos hw]
  left
  unfold Oper.wp
  rw [h]
  exact hk
theorem wp_incr {P : Program} {id : Nat} {Q : Exit → Act → World → Prop} {a : Act} {w : World} {A B I N : Nat} {n m : Int} {E E2 T1 T2 T3 : TypeId} {p1 p2 p3 : String} {f1 f2 f3 : Array Edge} (hN : a.tmps.size = N) (hA : decide (A < N) = true) (hB : decide (B < N) = true) (hI : a.eval (.tmp I) = .int .i64 n) (hadd : ∀ w, (binOp .add E (.int .i64 n) (.int .i64 1)).run P w = .ok (.int .i64 m) w)
    (hend : ∀ x : Nat → Value, x 2 = .int .i64 m → Q .normal (putE x a [(0, some A), (1, some B), (2, some I)]) w) :
    (Code.region id #[{ dst := some A, op := .move (.tmp I), type := T1, pos := p1, after := f1, guard := none }, { dst := some B, op := .binOp .add E (.tmp A) (.const (.int .i64 1)) E2, type := T2, pos := p2, after := f2, guard := none }, { dst := some I, op := .assign (.tmp B), type := T3, pos := p3, after := f3, guard := none }] false).wp P Q a w := by
  refine wp_region ?_
  have e : List.range (#[({ dst := some A, op := .move (.tmp I), type := T1, pos := p1, after := f1, guard := none } : Oper), { dst := some B, op := .binOp .add E (.tmp A) (.const (.int .i64 1)) E2, type := T2, pos := p2, after := f2, guard := none }, { dst := some I, op := .assign (.tmp B), type := T3, pos := p3, after := f3, guard := none }]).size = [0, 1, 2] := rfl
  rw [e]
  refine wpOps_val (v := .int .i64 n) rfl rfl ?_ ?_
  · show (pure (Next.value (a.eval (.tmp I))) : Sem Next).run P w = _
    rw [hI]; rfl
  refine wpOps_val (v := .int .i64 m) rfl rfl ?_ ?_
  · have e1 : (a.put (some A) (.int .i64 n)).eval (.tmp A) = .int .i64 n := put_eval _ _ _ (by rw [hN]; exact of_decide_eq_true hA)
    show (((do eqGuard .add E (.tmp A) (.const (.int .i64 1)) ((a.put (some A) (.int .i64 n)).eval (.tmp A)) (.int .i64 1); binOp .add E ((a.put (some A) (.int .i64 n)).eval (.tmp A)) (.int .i64 1)) : Sem Value) >>= fun v => pure (Next.value v)).run P w = _
    rw [e1]
    have e2 : ((do eqGuard .add E (.tmp A) (.const (.int .i64 1)) (.int .i64 n) (.int .i64 1); binOp .add E (.int .i64 n) (.int .i64 1)) : Sem Value).run P w = .ok (.int .i64 m) w := by
      rw [run_then (v := ()) (w' := w) rfl]; exact hadd w
    rw [run_then e2]; rfl
  refine wpOps_val (v := .int .i64 m) rfl rfl ?_ ?_
  · have e1 : ((a.put (some A) (.int .i64 n)).put (some B) (.int .i64 m)).eval (.tmp B) = .int .i64 m := put_eval _ _ _ (by rw [put_size, hN]; exact of_decide_eq_true hB)
    show (pure (Next.value (((a.put (some A) (.int .i64 n)).put (some B) (.int .i64 m)).eval (.tmp B))) : Sem Next).run P w = _
    rw [e1]; rfl
  exact hend (fun i => if i = 0 then .int .i64 n else .int .i64 m) rfl

/-- The walk's own regions: a counter set, held against a length, moved on. -/
theorem wp_set {P : Program} {id : Nat} {Q : Exit → Act → World → Prop} {a : Act} {w : World} {I : Nat} {v : Value} {T1 : TypeId} {p1 : String} {f1 : Array Edge}
    (hend : ∀ x : Nat → Value, x 0 = v → Q .normal (putE x a [(0, some I)]) w) :
    (Code.region id #[{ dst := some I, op := .assign (.const v), type := T1, pos := p1, after := f1, guard := none }] false).wp P Q a w := by
  refine wp_region ?_
  have e : List.range (#[({ dst := some I, op := .assign (.const v), type := T1, pos := p1, after := f1, guard := none } : Oper)]).size = [0] := rfl
  rw [e]
  refine wpOps_val (v := v) rfl rfl rfl ?_
  exact hend (fun _ => v) rfl
set_option maxRecDepth 100000 in
theorem wp_less {id : Nat} {Q : Exit → Act → World → Prop} {a : Act} {w : World} {A B C D I S N : Nat} {n : Int} {b : Option Addr} {m c : Nat} {U E : TypeId} {T1 T2 T3 T4 : TypeId} {p1 p2 p3 p4 : String} {f1 f2 f3 f4 : Array Edge} (hN : a.tmps.size = N) (hA : decide (A < N) = true) (hB : decide (B < N) = true) (hC : decide (C < N) = true) (hAB : decide (A = B) = false) (hAC : decide (A = C) = false) (hSA : decide (S = A) = false) (hI : a.eval (.tmp I) = .int .i64 n) (hS : a.eval (.tmp S) = .slice b m c)
    (hlen : ∀ w, (Builtin.len_ #[U] T3 #[.slice b m c]).run Tryz.prog w = .ok (.int .i64 (m : Int)) w)
    (hless : ∀ w, (binOp .lss E (.int .i64 n) (.int .i64 (m : Int))).run Tryz.prog w = .ok (.bool (decide (n < (m : Int)))) w)
    (hend : ∀ x : Nat → Value, x 3 = .bool (decide (n < (m : Int))) → Q .normal (putE x a [(0, some A), (1, some B), (2, some C), (3, some D)]) w) :
    (Code.region id #[{ dst := some A, op := .move (.tmp I), type := T1, pos := p1, after := f1, guard := none }, { dst := some B, op := .move (.tmp S), type := T2, pos := p2, after := f2, guard := none }, { dst := some C, op := .call { callee := .builtin .len, args := #[.tmp B], argTypes := #[U] }, type := T3, pos := p3, after := f3, guard := none }, { dst := some D, op := .binOp .lss E (.tmp A) (.tmp C) E, type := T4, pos := p4, after := f4, guard := none }] false).wp Tryz.prog Q a w := by
  refine wp_region ?_
  have e : List.range (#[({ dst := some A, op := .move (.tmp I), type := T1, pos := p1, after := f1, guard := none } : Oper), { dst := some B, op := .move (.tmp S), type := T2, pos := p2, after := f2, guard := none }, { dst := some C, op := .call { callee := .builtin .len, args := #[.tmp B], argTypes := #[U] }, type := T3, pos := p3, after := f3, guard := none }, { dst := some D, op := .binOp .lss E (.tmp A) (.tmp C) E, type := T4, pos := p4, after := f4, guard := none }]).size = [0, 1, 2, 3] := rfl
  rw [e]
  refine wpOps_val (v := .int .i64 n) rfl rfl ?_ ?_
  · show (pure (Next.value (a.eval (.tmp I))) : Sem Next).run _ w = _
    rw [hI]; rfl
  have nSA := of_decide_eq_false hSA
  refine wpOps_val (v := .slice b m c) rfl rfl ?_ ?_
  · have e1 : (a.put (some A) (.int .i64 n)).eval (.tmp S) = .slice b m c := (put_eval_ne a _ (fun h => nSA (by injection h with h; exact h.symm))).trans hS
    show (pure (Next.value ((a.put (some A) (.int .i64 n)).eval (.tmp S))) : Sem Next).run _ w = _
    rw [e1]; rfl
  refine wpOps_val (v := .int .i64 (m : Int)) rfl rfl ?_ ?_
  · have e1 : ((a.put (some A) (.int .i64 n)).put (some B) (.slice b m c)).eval (.tmp B) = .slice b m c := put_eval _ _ _ (by rw [put_size, hN]; exact of_decide_eq_true hB)
    have e2 : ((#[.tmp B] : Array Operand).map ((a.put (some A) (.int .i64 n)).put (some B) (.slice b m c)).eval) = #[.slice b m c] := by simp [e1]
    have h2 := hlen w
    show Sem.run _ (execOp (((a.put (some A) (.int .i64 n)).put (some B) (.slice b m c))).eval { dst := some C, op := .call { callee := .builtin .len, args := #[.tmp B], argTypes := #[U] }, type := T3, pos := p3, after := f3, guard := none }) w = _
    simp only [execOp, resolve, invoke, builtin, Sem.run_bind, Sem.run_pure, Result.andThen_ok, e2, h2]
  refine wpOps_val (v := .bool (decide (n < (m : Int)))) rfl rfl ?_ ?_
  · have nAB := of_decide_eq_false hAB
    have nAC := of_decide_eq_false hAC
    have e1 : (((a.put (some A) (.int .i64 n)).put (some B) (.slice b m c)).put (some C) (.int .i64 (m : Int))).eval (.tmp C) = .int .i64 (m : Int) := put_eval _ _ _ (by rw [put_size, put_size, hN]; exact of_decide_eq_true hC)
    have e0 : (((a.put (some A) (.int .i64 n)).put (some B) (.slice b m c)).put (some C) (.int .i64 (m : Int))).eval (.tmp A) = .int .i64 n := by
      rw [put_eval_ne _ _ (fun h => nAC (by injection h with h; exact h.symm)), put_eval_ne _ _ (fun h => nAB (by injection h with h; exact h.symm))]
      exact put_eval _ _ _ (by rw [hN]; exact of_decide_eq_true hA)
    show (((do eqGuard .lss E (.tmp A) (.tmp C) ((((a.put (some A) (.int .i64 n)).put (some B) (.slice b m c)).put (some C) (.int .i64 (m : Int))).eval (.tmp A)) ((((a.put (some A) (.int .i64 n)).put (some B) (.slice b m c)).put (some C) (.int .i64 (m : Int))).eval (.tmp C)); binOp .lss E ((((a.put (some A) (.int .i64 n)).put (some B) (.slice b m c)).put (some C) (.int .i64 (m : Int))).eval (.tmp A)) ((((a.put (some A) (.int .i64 n)).put (some B) (.slice b m c)).put (some C) (.int .i64 (m : Int))).eval (.tmp C))) : Sem Value) >>= fun v => pure (Next.value v)).run _ w = _
    rw [e0, e1]
    have e2 : ((do eqGuard .lss E (.tmp A) (.tmp C) (.int .i64 n) (.int .i64 (m : Int)); binOp .lss E (.int .i64 n) (.int .i64 (m : Int))) : Sem Value).run Tryz.prog w = .ok (.bool (decide (n < (m : Int)))) w := by
      rw [run_then (v := ()) (w' := w) rfl]; exact hless w
    rw [run_then e2]; rfl
  exact hend (fun i => if i = 0 then .int .i64 n else if i = 1 then .slice b m c else if i = 2 then .int .i64 (m : Int) else .bool (decide (n < (m : Int)))) rfl
theorem less_run (n m : Int) : ∀ w, (binOp .lss 3 (.int .i64 n) (.int .i64 m)).run Tryz.prog w = .ok (.bool (decide (n < m))) w := fun _ => by kernel_rfl
theorem add_run (n m : Nat) (h : n + m < 9223372036854775808) : ∀ w, (binOp .add 3 (.int .i64 (n : Int)) (.int .i64 (m : Int))).run Tryz.prog w = .ok (.int .i64 ((n + m : Nat) : Int)) w := fun w => by
  go_simp
  rw [IntKind.wrap_i64]; omega
theorem rem_run (n : Nat) (h : n < 9223372036854775808) : ∀ w, (binOp .rem 3 (.int .i64 (n : Int)) (.int .i64 3)).run Tryz.prog w = .ok (.int .i64 ((n % 3 : Nat) : Int)) w := fun w => by
  go_simp
  exact Int.tmod_eq_emod_of_nonneg (by omega)
set_option maxRecDepth 100000 in
theorem wp_jump {id : Nat} {Q : Exit → Act → World → Prop} {a : Act} {w : World} {A B C D E K I N n m : Nat} {O1 O2 : TypeId} {T1 T2 T3 T4 T5 T6 : TypeId} {p1 p2 p3 p4 p5 p6 : String} {f1 f2 f3 f4 f5 f6 : Array Edge} (hN : a.tmps.size = N) (hA : decide (A < N) = true) (hB : decide (B < N) = true) (hC : decide (C < N) = true) (hD : decide (D < N) = true) (hE : decide (E < N) = true)
    (hIA : decide (I = A) = false) (hIB : decide (I = B) = false) (hBC : decide (B = C) = false) (hBD : decide (B = D) = false) (hK : a.eval (.tmp K) = .int .i64 (n : Int)) (hI : a.eval (.tmp I) = .int .i64 (m : Int)) (hn : n < 1000000) (hm : m < 1000000)
    (hend : ∀ x : Nat → Value, x 5 = .int .i64 ((n + 1 + m % 3 : Nat) : Int) → Q .normal (putE x a [(0, some A), (1, some B), (2, some C), (3, some D), (4, some E), (5, some K)]) w) :
    (Code.region id #[{ dst := some A, op := .move (.tmp K), type := T1, pos := p1, after := f1, guard := none }, { dst := some B, op := .binOp .add 3 (.tmp A) (.const (.int .i64 1)) O1, type := T2, pos := p2, after := f2, guard := none }, { dst := some C, op := .move (.tmp I), type := T3, pos := p3, after := f3, guard := none }, { dst := some D, op := .binOp .rem 3 (.tmp C) (.const (.int .i64 3)) O2, type := T4, pos := p4, after := f4, guard := none }, { dst := some E, op := .binOp .add 3 (.tmp B) (.tmp D) O1, type := T5, pos := p5, after := f5, guard := none }, { dst := some K, op := .assign (.tmp E), type := T6, pos := p6, after := f6, guard := none }] false).wp Tryz.prog Q a w := by
  refine wp_region ?_
  have e : List.range (#[({ dst := some A, op := .move (.tmp K), type := T1, pos := p1, after := f1, guard := none } : Oper), { dst := some B, op := .binOp .add 3 (.tmp A) (.const (.int .i64 1)) O1, type := T2, pos := p2, after := f2, guard := none }, { dst := some C, op := .move (.tmp I), type := T3, pos := p3, after := f3, guard := none }, { dst := some D, op := .binOp .rem 3 (.tmp C) (.const (.int .i64 3)) O2, type := T4, pos := p4, after := f4, guard := none }, { dst := some E, op := .binOp .add 3 (.tmp B) (.tmp D) O1, type := T5, pos := p5, after := f5, guard := none }, { dst := some K, op := .assign (.tmp E), type := T6, pos := p6, after := f6, guard := none }]).size = [0, 1, 2, 3, 4, 5] := rfl
  rw [e]
  have add2 : ∀ (op : BinOp) (x y : Operand) (u v r : Value) (T : TypeId) (w : World), (binOp op T u v).run Tryz.prog w = .ok r w → (eqGuard op T x y u v).run Tryz.prog w = .ok () w → (((do eqGuard op T x y u v; binOp op T u v) : Sem Value) >>= fun v => pure (Next.value v)).run Tryz.prog w = .ok (.value r) w := fun op x y u v r T w h1 h2 => by
    have e2 : ((do eqGuard op T x y u v; binOp op T u v) : Sem Value).run Tryz.prog w = .ok r w := by
      rw [run_then h2]; exact h1
    rw [run_then e2]; rfl
  refine wpOps_val (v := .int .i64 (n : Int)) rfl rfl ?_ ?_
  · show (pure (Next.value (a.eval (.tmp K))) : Sem Next).run _ w = _
    rw [hK]; rfl
  obtain ⟨a1, h1⟩ : ∃ a1, a1 = a.put (some A) (.int .i64 (n : Int)) := ⟨_, rfl⟩
  have N1 : a1.tmps.size = N := by rw [h1, put_size, hN]
  have eA : a1.eval (.tmp A) = .int .i64 (n : Int) := by rw [h1]; exact put_eval _ _ _ (by rw [hN]; exact of_decide_eq_true hA)
  have eI : a1.eval (.tmp I) = .int .i64 (m : Int) := by rw [h1, put_eval_ne _ _ (fun h => of_decide_eq_false hIA (by injection h with h; exact h.symm))]; exact hI
  show wpOps _ _ _ _ (a.put (some A) (.int .i64 (n : Int))) w
  rw [← h1]
  refine wpOps_val (v := .int .i64 ((n + 1 : Nat) : Int)) rfl rfl ?_ ?_
  · show (((do eqGuard .add 3 (.tmp A) (.const (.int .i64 1)) (a1.eval (.tmp A)) (.int .i64 1); binOp .add 3 (a1.eval (.tmp A)) (.int .i64 1)) : Sem Value) >>= fun v => pure (Next.value v)).run _ w = _
    rw [eA]
    exact add2 _ _ _ _ _ _ _ _ (add_run n 1 (by omega) w) rfl
  obtain ⟨a2, h2⟩ : ∃ a2, a2 = a1.put (some B) (.int .i64 ((n + 1 : Nat) : Int)) := ⟨_, rfl⟩
  have N2 : a2.tmps.size = N := by rw [h2, put_size, N1]
  have eB : a2.eval (.tmp B) = .int .i64 ((n + 1 : Nat) : Int) := by rw [h2]; exact put_eval _ _ _ (by rw [N1]; exact of_decide_eq_true hB)
  have eI2 : a2.eval (.tmp I) = .int .i64 (m : Int) := by rw [h2, put_eval_ne _ _ (fun h => of_decide_eq_false hIB (by injection h with h; exact h.symm))]; exact eI
  show wpOps _ _ _ _ (a1.put (some B) (.int .i64 ((n + 1 : Nat) : Int))) w
  rw [← h2]
  refine wpOps_val (v := .int .i64 (m : Int)) rfl rfl ?_ ?_
  · show (pure (Next.value (a2.eval (.tmp I))) : Sem Next).run _ w = _
    rw [eI2]; rfl
  obtain ⟨a3, h3⟩ : ∃ a3, a3 = a2.put (some C) (.int .i64 (m : Int)) := ⟨_, rfl⟩
  have N3 : a3.tmps.size = N := by rw [h3, put_size, N2]
  have eC : a3.eval (.tmp C) = .int .i64 (m : Int) := by rw [h3]; exact put_eval _ _ _ (by rw [N2]; exact of_decide_eq_true hC)
  have eB3 : a3.eval (.tmp B) = .int .i64 ((n + 1 : Nat) : Int) := by rw [h3, put_eval_ne _ _ (fun h => of_decide_eq_false hBC (by injection h with h; exact h.symm))]; exact eB
  show wpOps _ _ _ _ (a2.put (some C) (.int .i64 (m : Int))) w
  rw [← h3]
  refine wpOps_val (v := .int .i64 ((m % 3 : Nat) : Int)) rfl rfl ?_ ?_
  · show (((do eqGuard .rem 3 (.tmp C) (.const (.int .i64 3)) (a3.eval (.tmp C)) (.int .i64 3); binOp .rem 3 (a3.eval (.tmp C)) (.int .i64 3)) : Sem Value) >>= fun v => pure (Next.value v)).run _ w = _
    rw [eC]
    exact add2 _ _ _ _ _ _ _ _ (rem_run m (by omega) w) rfl
  obtain ⟨a4, h4⟩ : ∃ a4, a4 = a3.put (some D) (.int .i64 ((m % 3 : Nat) : Int)) := ⟨_, rfl⟩
  have N4 : a4.tmps.size = N := by rw [h4, put_size, N3]
  have eD : a4.eval (.tmp D) = .int .i64 ((m % 3 : Nat) : Int) := by rw [h4]; exact put_eval _ _ _ (by rw [N3]; exact of_decide_eq_true hD)
  have eB4 : a4.eval (.tmp B) = .int .i64 ((n + 1 : Nat) : Int) := by rw [h4, put_eval_ne _ _ (fun h => of_decide_eq_false hBD (by injection h with h; exact h.symm))]; exact eB3
  show wpOps _ _ _ _ (a3.put (some D) (.int .i64 ((m % 3 : Nat) : Int))) w
  rw [← h4]
  refine wpOps_val (v := .int .i64 ((n + 1 + m % 3 : Nat) : Int)) rfl rfl ?_ ?_
  · show (((do eqGuard .add 3 (.tmp B) (.tmp D) (a4.eval (.tmp B)) (a4.eval (.tmp D)); binOp .add 3 (a4.eval (.tmp B)) (a4.eval (.tmp D))) : Sem Value) >>= fun v => pure (Next.value v)).run _ w = _
    rw [eB4, eD]
    exact add2 _ _ _ _ _ _ _ _ (add_run (n + 1) (m % 3) (by omega) w) rfl
  refine wpOps_val (v := .int .i64 ((n + 1 + m % 3 : Nat) : Int)) rfl rfl ?_ ?_
  · have e1 : (a4.put (some E) (.int .i64 ((n + 1 + m % 3 : Nat) : Int))).eval (.tmp E) = .int .i64 ((n + 1 + m % 3 : Nat) : Int) := put_eval _ _ _ (by rw [N4]; exact of_decide_eq_true hE)
    show (pure (Next.value ((a4.put (some E) (.int .i64 ((n + 1 + m % 3 : Nat) : Int))).eval (.tmp E))) : Sem Next).run _ w = _
    rw [e1]; rfl
  subst h4; subst h3; subst h2; subst h1
  exact hend (fun i => if i = 0 then .int .i64 (n : Int) else if i = 1 then .int .i64 ((n + 1 : Nat) : Int) else if i = 2 then .int .i64 (m : Int) else if i = 3 then .int .i64 ((m % 3 : Nat) : Int) else .int .i64 ((n + 1 + m % 3 : Nat) : Int)) rfl
end Go.Proofs.YtlikpnaffpngiaaGreatDoor

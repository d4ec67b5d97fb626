/- Steps over terms for the region laws; what a seat without package num's functions lacks of them. No condition. -/
import Derived.Test.YtlikpnaffpngiaaGreatDoorLoop
import Derived.Test.YtlikpnaffpngiaaGreatDoorGrowA
import Derived.Test.YtlikpnaffpngiaaGreatDoorWeigh
set_option linter.unusedVariables false
set_option linter.unusedSimpArgs false
namespace Go.Proofs.YtlikpnaffpngiaaGreatDoor
open Go.RowKit

theorem bstep {w W w' : World} (h1 : Below w.heap.size w W) (h2 : Below W.heap.size W w') : Below w.heap.size w w' := h1.trans (h2.mono h1.size)
theorem bal {w W : World} (h : Below w.heap.size w W) (o : Obj) : Below w.heap.size w (W.alloc o) := h.alloc h.size o
theorem region_k {P : Program} {Q : Exit → Act → World → Prop} {c : Code} {a : Act} {w : World} (h : ∀ K : Act → World → Prop, (∀ a w, Q .normal a w → K a w) → c.wp P (Exit.then K Q) a w) : c.wp P Q a w :=
  wp_mono (h (Q .normal) fun _ _ h => h) fun e a w h => by cases e <;> exact h
def SaysB (w : World) (b : Bool) (e : Ending) (w' : World) : Prop := e = .returned (.bool b) ∧ Below w.heap.size w w'
def SaysI (w : World) (n : Int) (e : Ending) (w' : World) : Prop := e = .returned (.int .i64 n) ∧ Below w.heap.size w w'
theorem ti {P : Program} {F : FuncId} {vs : Array Value} {w : World} {S0 : Nat} {x : Nat → Value} {V : Value} (h : Calls P F vs w fun e w' => e = .returned V ∧ Below w.heap.size w w') : Calls P F vs w (Told (kIs V) S0 x w) :=
  h.mono fun _ _ ⟨e, h1⟩ => ⟨V, e, h1, rfl⟩
theorem ex_bin {P : Program} {ρ : Operand → Value} {w : World} {d : Option Tmp} {T E E2 : TypeId} {pos : String} {af : Array Edge} {gu : Option (Nat × Bool)} {op : BinOp} {a b : Operand} {x y r : Value} (ha : ρ a = x) (hb : ρ b = y) (hg : (eqGuard op E a b x y).run P w = .ok () w) (h : (binOp op E x y).run P w = .ok r w) :
    (execOp ρ { dst := d, op := .binOp op E a b E2, type := T, pos := pos, after := af, guard := gu }).run P w = .ok (.value r) w := by
  show (((do eqGuard op E a b (ρ a) (ρ b); binOp op E (ρ a) (ρ b)) : Sem Value) >>= fun v => pure (Next.value v)).run P w = _
  rw [ha, hb]
  have e2 : ((do eqGuard op E a b x y; binOp op E x y) : Sem Value).run P w = .ok r w := by
    rw [run_then hg]; exact h
  rw [run_then e2]; rfl
theorem ex_idx {P : Program} {ρ : Operand → Value} {w : World} {d : Option Tmp} {T E : TypeId} {pos : String} {af : Array Edge} {gu : Option (Nat × Bool)} {a b : Operand} {x y r : Value} (ha : ρ a = x) (hb : ρ b = y) (h : (Instr.indexAt E x y).run P w = .ok r w) :
    (execOp ρ { dst := d, op := .indexAddr E a b, type := T, pos := pos, after := af, guard := gu }).run P w = .ok (.value r) w := by
  show Sem.run P (Instr.indexAt E (ρ a) (ρ b) >>= fun v => pure (Next.value v)) w = _
  rw [ha, hb, run_then h]; rfl
theorem addI_run {a b c : Int} (e : a + b = c) (h1 : -9223372036854775808 ≤ c) (h2 : c < 9223372036854775808) : ∀ w, (binOp .add 3 (.int .i64 a) (.int .i64 b)).run Tryz.prog w = .ok (.int .i64 c) w := fun w => by
  subst e
  go_simp
  rw [IntKind.wrap_i64] <;> omega
theorem subI_run {a b c : Int} (e : a - b = c) (h1 : -9223372036854775808 ≤ c) (h2 : c < 9223372036854775808) : ∀ w, (binOp .sub 3 (.int .i64 a) (.int .i64 b)).run Tryz.prog w = .ok (.int .i64 c) w := fun w => by
  subst e
  go_simp
  rw [IntKind.wrap_i64] <;> omega
theorem quo8_run {n : Nat} (h : n < 9223372036854775808) : ∀ w, (binOp .quo 3 (.int .i64 (n : Int)) (.int .i64 8)).run Tryz.prog w = .ok (.int .i64 ((n : Int) / 8)) w := fun w => by
  go_simp
  rw [IntKind.wrap_i64] <;> omega
theorem Reg.cellAt {B : Nat} {W0 w : World} {G : List Nat} (h : Reg B W0 G w) {p : Addr} {u : Value} (hg : p.block ∉ G) (hc : W0.cell? p = some u) : w.cell? p = some u :=
  (World.cell?_of_block (w := W0) (h.old p.block (World.block_lt_of_cell? W0 p hc) hg)).trans hc
theorem run_ldS {w : World} {p : Addr} {v : Value} (h : w.cell? p = some v) : (Instr.loadAt 9 (.pointer (some p))).run Tryz.prog w = .ok v w := by go_simp
theorem run_ldD {w : World} {p : Addr} {v : Value} (h : w.cell? p = some v) : (Instr.loadAt 24 (.pointer (some p))).run Tryz.prog w = .ok v w := by go_simp
theorem run_ldK {w : World} {p : Addr} {v : Value} (h : w.cell? p = some v) : (Instr.loadAt 22 (.pointer (some p))).run Tryz.prog w = .ok v w := by go_simp
theorem run_ldT {w : World} {p : Addr} {u0 u1 u2 u3 u4 : Value} (h0 : w.cell? p = some u0) (h1 : w.cell? { block := p.block, off := p.off + 1 } = some u1) (h2 : w.cell? { block := p.block, off := p.off + 2 } = some u2) (h3 : w.cell? { block := p.block, off := p.off + 3 } = some u3) (h4 : w.cell? { block := p.block, off := p.off + 4 } = some u4) : (Instr.loadAt 28 (.pointer (some p))).run Tryz.prog w = .ok (.agg #[u0, u1, u2, u3, u4]) w := by go_simp
theorem run_idxT {w : World} {ad : Addr} {k n c : Nat} (h : k < n) : (Instr.indexAt 22 (.slice (some ad) n c) (.int .i64 (k : Int))).run Tryz.prog w = .ok (.pointer (some (ad.add (k * 5)))) w := by
  have h' : (k : Int) < (n : Int) := by omega
  go_simp
section
variable {G : List Nat} {S0 B : Nat} {ks : List PK} {a0 : Act} {i : Nat} {N : Nat} {W0 : World} {T : TypeId} {pos : String} {af : Array Edge} {gu : Option (Nat × Bool)}
/-- One cell loaded. -/
theorem st_load1 {E : TypeId} {d t j : Nat} {p : Addr} {v : Value} (hl : W0.cell? p = some v) (hG : p.block ∉ G) (hr : ∀ w : World, w.cell? p = some v → (Instr.loadAt E (.pointer (some p))).run Tryz.prog w = .ok v w) (hN : a0.tmps.size = N) (hd : decide (d < N) = true) (ht : decide (t < N) = true) (hj : at_ ks j = kIs (.pointer (some p))) (hi : at_ ks i = kIs v) :
    PkStep Tryz.prog (Reg B W0 G) S0 ks a0 i { dst := some d, op := .load E (.tmp t), type := T, pos := pos, after := af, guard := gu } [(j, some t)] := by
  intro w x hC
  refine deps_all _ fun hdeps K hK => ?_
  have g1 := hdeps (j, some t) (by simp)
  rw [hj] at g1
  have e1 : (putE x a0 [(j, some t)]).eval (.tmp t) = x j := putE_new _ _ (by rw [hN]; exact of_decide_eq_true ht) (by simp [slotAt])
  refine wp_val (w' := w) rfl (by rw [putE_size, hN]) hd (ex_load (e1.trans g1) (hr w (hC.cellAt hG hl))) (hK _ _ ?_ ?_)
  · rw [hi]; exact Below.refl _ _
  · rw [hi]; rfl
/-- A term's place in a list, and the term there. -/
theorem st_idxT {C : World → Prop} {d t1 j1 t2 j2 k n c : Nat} {ad : Addr} (hk : k < n) (hN : a0.tmps.size = N) (hd : decide (d < N) = true) (ht1 : decide (t1 < N) = true) (ht2 : decide (t2 < N) = true) (hne : decide (t1 = t2) = false) (h1 : at_ ks j1 = kIs (.slice (some ad) n c)) (h2 : at_ ks j2 = kIs (.int .i64 (k : Int))) (hi : at_ ks i = kIs (.pointer (some (ad.add (k * 5))))) :
    PkStep Tryz.prog C S0 ks a0 i { dst := some d, op := .indexAddr 22 (.tmp t1) (.tmp t2), type := T, pos := pos, after := af, guard := gu } [(j1, some t1), (j2, some t2)] := by
  intro w x hC
  refine deps_all _ fun hdeps K hK => ?_
  have g1 := hdeps (j1, some t1) (by simp)
  rw [h1] at g1
  have g2 := hdeps (j2, some t2) (by simp)
  rw [h2] at g2
  have n12 := of_decide_eq_false hne
  have e1 : (putE x a0 [(j1, some t1), (j2, some t2)]).eval (.tmp t1) = x j1 := putE_new _ _ (by rw [hN]; exact of_decide_eq_true ht1) (by simp [slotAt, Ne.symm n12])
  have e2 : (putE x a0 [(j1, some t1), (j2, some t2)]).eval (.tmp t2) = x j2 := putE_new _ _ (by rw [hN]; exact of_decide_eq_true ht2) (by simp [slotAt])
  refine wp_val (v := .pointer (some (ad.add (k * 5)))) (w' := w) rfl (by rw [putE_size, hN]) hd (ex_idx (e1.trans g1) (e2.trans g2) (run_idxT hk)) (hK _ _ ?_ ?_)
  · rw [hi]; exact Below.refl _ _
  · rw [hi]; rfl
theorem st_loadT {d t j : Nat} {p : Addr} {u0 u1 u2 u3 u4 : Value} (h0 : W0.cell? p = some u0) (h1 : W0.cell? (p.add 1) = some u1) (h2 : W0.cell? (p.add 2) = some u2) (h3 : W0.cell? (p.add 3) = some u3) (h4 : W0.cell? (p.add 4) = some u4) (hG : p.block ∉ G) (hN : a0.tmps.size = N) (hd : decide (d < N) = true) (ht : decide (t < N) = true) (hj : at_ ks j = kIs (.pointer (some p))) (hi : at_ ks i = kIs (.agg #[u0, u1, u2, u3, u4])) :
    PkStep Tryz.prog (Reg B W0 G) S0 ks a0 i { dst := some d, op := .load 28 (.tmp t), type := T, pos := pos, after := af, guard := gu } [(j, some t)] := by
  intro w x hC
  refine deps_all _ fun hdeps K hK => ?_
  have g1 := hdeps (j, some t) (by simp)
  rw [hj] at g1
  have e1 : (putE x a0 [(j, some t)]).eval (.tmp t) = x j := putE_new _ _ (by rw [hN]; exact of_decide_eq_true ht) (by simp [slotAt])
  have q : ∀ n, (p.add n).block ∉ G := fun n => by rw [add_block]; exact hG
  refine wp_val (w' := w) rfl (by rw [putE_size, hN]) hd (ex_load (e1.trans g1) (run_ldT (hC.cellAt hG h0) (hC.cellAt (q 1) h1) (hC.cellAt (q 2) h2) (hC.cellAt (q 3) h3) (hC.cellAt (q 4) h4))) (hK _ _ ?_ ?_)
  · rw [hi]; exact Below.refl _ _
  · rw [hi]; rfl
end
end Go.Proofs.YtlikpnaffpngiaaGreatDoor

/- Steps over broken numbers: what stands in two cells of a block, values of two numbers, results of four cells; frames known by their slots. No condition. Contract of ratio.lowest: n by d in lowest terms. Contracts of package ratio's small calls: plus, times, negated, turned, compare. Each at several sizes (the parts lie below that power of the base). Contracts of package ratio's calls over right ratios: isNone, isOne, Right, of. Contracts of package ratio's calls over right ratios: whole, Neg, Sub, Cmp. Contracts over right ratios: none, Whole, SameRatio and the law's own of that name. A step for a call of a function that came as a value (put in ratio.fold). Steps over ratios in variables and lists: a fresh variable, what is stored there, lists of two and of three, a load out of a list. A region that counts a slot on by two operations (a range loop's own counter). Steps for a function that tells a number in a variable of two cells: stored there, returned. And a region that counts by two operations. Contracts over right ratios: Div by what is not 0, Of of right numbers, not by 0. Contracts over right ratios: floor, Floor. SameInt over two right numbers that are not the same: false. Texts put one behind the other, in a step. A value told in another form of one number. No condition. Contracts over right ratios: decimal, Text (of a whole number; of a broken one). A region that draws its order, in which some operations find a result's cell as it was ahead of the region: those that the one store into it waits for, and that store itself. No condition. -/
import Derived.Test.YthgclmkhmcfflaaGreatDoorT1
import Derived.Test.YthgclmkhmcfflaaGreatDoorT2
import Derived.Test.YthgclmkhmcfflaaGreatDoorT3
namespace Go.Proofs.YthgclmkhmcfflaaGreatDoor
open Go.RowKit
/-- Two cells of a block that are the right number z. -/
def AtR (W : World) (g o k : Nat) (z : Int) : Prop := ∃ A l c, W.cell? ⟨g, o, none⟩ = some (.bool (decide (z < 0))) ∧ W.cell? ⟨g, o + 1, none⟩ = some (.slice A l c) ∧ Zr W (.agg #[.bool (decide (z < 0)), .slice A l c]) k z
theorem AtR.below {W w' : World} {g o k : Nat} {z : Int} (h : AtR W g o k z) (hb : Below W.heap.size W w') : AtR w' g o k z := by
  obtain ⟨A, l, c, h1, h2, h3⟩ := h
  exact ⟨A, l, c, (hb.cell (cell_lt h1)).trans h1, (hb.cell (cell_lt h2)).trans h2, h3.below hb⟩
theorem Reg.atR {B : Nat} {W0 w : World} {G : List Nat} (h : Reg B W0 G w) {g o k : Nat} {z : Int} (hg : g ∉ G) (hl : AtR W0 g o k z) : AtR w g o k z := by
  obtain ⟨A, l, c, h1, h2, h3⟩ := hl
  exact ⟨A, l, c, ((h.cell (cell_lt h1) hg _).1).trans h1, ((h.cell (cell_lt h2) hg _).1).trans h2, h.zr h3⟩
/-- A value of two right numbers: api.Ratio's, and as it is reckoned with (a struct's cells lie flat). -/
def Pr (W : World) (v : Value) (k : Nat) (x y : Int) : Prop := ∃ A l c A' l' c', v = .agg #[.bool (decide (x < 0)), .slice A l c, .bool (decide (y < 0)), .slice A' l' c'] ∧ (Rr W (.slice A l c) x.natAbs ∧ x.natAbs < 1000000000 ^ k) ∧ Rr W (.slice A' l' c') y.natAbs ∧ y.natAbs < 1000000000 ^ k
theorem Pr.below {W W' : World} {v : Value} {k : Nat} {x y : Int} (h : Pr W v k x y) (hb : Below W.heap.size W W') : Pr W' v k x y := by
  obtain ⟨A, l, c, A', l', c', e, h1, h2, h3⟩ := h
  exact ⟨A, l, c, A', l', c', e, ⟨h1.1.below hb, h1.2⟩, h2.below hb, h3⟩
theorem Pr.stored {W w' : World} {g : Nat} {v : Value} {k : Nat} {x y : Int} (h : Pr W v k x y) (hs : Stored g W w') : Pr w' v k x y := by
  obtain ⟨A, l, c, A', l', c', e, h1, h2, h3⟩ := h
  exact ⟨A, l, c, A', l', c', e, ⟨hs.rr h1.1, h1.2⟩, hs.rr h2, h3⟩
theorem Pr.mono {W : World} {v : Value} {j k : Nat} {x y : Int} (h : Pr W v j x y) (hk : j ≤ k) : Pr W v k x y := by
  obtain ⟨A, l, c, A', l', c', e, h1, h2, h3⟩ := h
  exact ⟨A, l, c, A', l', c', e, ⟨h1.1, Nat.lt_of_lt_of_le h1.2 (pow_le hk)⟩, h2, Nat.lt_of_lt_of_le h3 (pow_le hk)⟩
def kP (k : Nat) (x y : Int) : PK := .p (fun v w => Pr w v k x y) (fun _ _ _ h hb => h.below hb) (fun _ _ _ _ h hs => h.stored hs)
/-- Four cells of a block stored. -/
def put4 (w : World) (g : Nat) (u v u' v' : Value) : World := (((w.setCell ⟨g, 0, none⟩ u).setCell ⟨g, 1, none⟩ v).setCell ⟨g, 2, none⟩ u').setCell ⟨g, 3, none⟩ v'
theorem set_cell4 {w : World} {g k : Nat} {cs : Array Value} {T : TypeId} {u : Value} (h : w.heap[g]? = some (.cells cs T (0, 0))) : (w.setCell ⟨g, k, none⟩ u).heap[g]? = some (.cells (cs.setIfInBounds k u) T (0, 0)) := by
  have hlt := lt_block h
  have h' : w.heap[g] = .cells cs T (0, 0) := by simpa [Array.getElem?_eq_getElem hlt] using h
  show (w.heap.modify g _)[g]? = _
  rw [Array.getElem?_eq_getElem (by simpa using hlt), Array.getElem_modify_self, h']
  rfl
theorem put4_at {w : World} {g : Nat} {a b c d u v u' v' : Value} {T : TypeId} (h : w.heap[g]? = some (.cells #[a, b, c, d] T (0, 0))) : (put4 w g u v u' v').heap[g]? = some (.cells #[u, v, u', v'] T (0, 0)) := by
  unfold put4
  rw [set_cell4 (set_cell4 (set_cell4 (set_cell4 h)))]
  rfl
theorem put4_other {w : World} {g i : Nat} {u v u' v' : Value} (h : i ≠ g) : (put4 w g u v u' v').heap[i]? = w.heap[i]? :=
  (Below.heap_setCell _ _ _ _ h).trans ((Below.heap_setCell _ _ _ _ h).trans ((Below.heap_setCell _ _ _ _ h).trans (Below.heap_setCell _ _ _ _ h)))
theorem holds_put4 {w : World} {g : Nat} {a b c d : Value} (h : Holds_ w g #[a, b, c, d]) {u v u' v' : Value} (h1 : noDig u) (h2 : noDig v) (h3 : noDig u') (h4 : noDig v') : Holds_ (put4 w g u v u' v') g #[u, v, u', v'] := by
  obtain ⟨⟨T, e⟩, _⟩ := h
  refine ⟨⟨T, put4_at e⟩, fun y hy => ?_⟩
  have hy' : y ∈ [u, v, u', v'] := by simpa using hy
  rcases List.mem_cons.1 hy' with rfl | hy'
  · exact h1
  rcases List.mem_cons.1 hy' with rfl | hy'
  · exact h2
  rcases List.mem_cons.1 hy' with rfl | hy'
  · exact h3
  · rw [List.mem_singleton.1 hy']; exact h4
theorem stored_put4 {w : World} {g : Nat} {a b c d : Value} (h : Holds_ w g #[a, b, c, d]) {u v u' v' : Value} (h1 : noDig u) (h2 : noDig v) (h3 : noDig u') (h4 : noDig v') : Stored g w (put4 w g u v u' v') :=
  ⟨rfl, rfl, rfl, by simp [put4], fun _ hk => put4_other hk, ⟨_, _, h, holds_put4 h h1 h2 h3 h4, rfl⟩, fun cs T hT => by
    obtain ⟨⟨T', e⟩, _⟩ := h
    rw [e] at hT
    injection hT with hT
    injection hT with e1 e2
    subst e1; subst e2
    exact ⟨_, put4_at e, rfl⟩⟩
theorem size_four {cs : Array Value} (h : cs.size = 4) : ∃ a b c d, cs = #[a, b, c, d] := by
  obtain ⟨l⟩ := cs
  match l, h with
  | [a, b, c, d], _ => exact ⟨a, b, c, d, rfl⟩
  | [], h => simp at h
  | [_], h => simp at h
  | [_, _], h => simp at h
  | [_, _, _], h => simp at h
  | _ :: _ :: _ :: _ :: _ :: _, h => simp at h
theorem Reg.four {B : Nat} {W0 w : World} {G : List Nat} (h : Reg B W0 G w) {g : Nat} (hg : g ∈ G) {cs0 : Array Value} (h0 : Holds_ W0 g cs0) (hs : cs0.size = 4) : ∃ a b c d, Holds_ w g #[a, b, c, d] := by
  obtain ⟨cs1, cs, h1, h2, h3⟩ := h.held g hg
  have e := h0.size_eq h1
  obtain ⟨a, b, c, d, rfl⟩ := size_four (cs := cs) (by rw [h3, ← e, hs])
  exact ⟨a, b, c, d, h2⟩
theorem Holds_.four {w : World} {g : Nat} {a b c d : Value} (h : Holds_ w g #[a, b, c, d]) : w.cell? ⟨g, 0, none⟩ = some a ∧ w.cell? ⟨g, 1, none⟩ = some b ∧ w.cell? ⟨g, 2, none⟩ = some c ∧ w.cell? ⟨g, 3, none⟩ = some d ∧ w.frozen? ⟨g, 0, none⟩ = false ∧ w.frozen? ⟨g, 1, none⟩ = false ∧ w.frozen? ⟨g, 2, none⟩ = false ∧ w.frozen? ⟨g, 3, none⟩ = false := by
  obtain ⟨⟨T, h1⟩, _⟩ := h
  refine ⟨?_, ?_, ?_, ?_, ?_, ?_, ?_, ?_⟩ <;> simp [World.cell?, World.frozen?, h1]
/-- A result of two numbers. -/
def isP (k : Nat) (x y : Int) (cs : Array Value) (w : World) : Prop := ∃ A l c A' l' c', cs = #[.bool (decide (x < 0)), .slice A l c, .bool (decide (y < 0)), .slice A' l' c'] ∧ Pr w (.agg #[.bool (decide (x < 0)), .slice A l c, .bool (decide (y < 0)), .slice A' l' c']) k x y
def kRes (g k : Nat) (x y : Int) : PK := .cell g (isP k x y) (fun _ _ _ ⟨A, l, c, A', l', c', e, h⟩ hb => ⟨A, l, c, A', l', c', e, h.below hb⟩) (fun _ _ _ _ ⟨A, l, c, A', l', c', e, h⟩ hs => ⟨A, l, c, A', l', c', e, h.stored hs⟩)
theorem run_storeF {w : World} {g : Nat} {b b' : Bool} {A A' : Option Addr} {l c l' c' : Nat} {u0 v0 u1 v1 : Value} (h0 : w.cell? ⟨g, 0, none⟩ = some u0) (h1 : w.cell? ⟨g, 1, none⟩ = some v0) (h2 : w.cell? ⟨g, 2, none⟩ = some u1) (h3 : w.cell? ⟨g, 3, none⟩ = some v1) (f0 : w.frozen? ⟨g, 0, none⟩ = false) (f1 : w.frozen? ⟨g, 1, none⟩ = false) (f2 : w.frozen? ⟨g, 2, none⟩ = false) (f3 : w.frozen? ⟨g, 3, none⟩ = false) :
    (Instr.storeAt 53 (.pointer (some ⟨g, 0, none⟩)) (.agg #[.bool b, .slice A l c, .bool b', .slice A' l' c'])).run Tryz.prog w = .ok () (put4 w g (.bool b) (.slice A l c) (.bool b') (.slice A' l' c')) := by go_simp; rfl
theorem run_storeP {w : World} {g : Nat} {b b' : Bool} {A A' : Option Addr} {l c l' c' : Nat} {u0 v0 u1 v1 : Value} (h0 : w.cell? ⟨g, 0, none⟩ = some u0) (h1 : w.cell? ⟨g, 1, none⟩ = some v0) (h2 : w.cell? ⟨g, 2, none⟩ = some u1) (h3 : w.cell? ⟨g, 3, none⟩ = some v1) (f0 : w.frozen? ⟨g, 0, none⟩ = false) (f1 : w.frozen? ⟨g, 1, none⟩ = false) (f2 : w.frozen? ⟨g, 2, none⟩ = false) (f3 : w.frozen? ⟨g, 3, none⟩ = false) :
    (Instr.storeAt 27 (.pointer (some ⟨g, 0, none⟩)) (.agg #[.bool b, .slice A l c, .bool b', .slice A' l' c'])).run Tryz.prog w = .ok () (put4 w g (.bool b) (.slice A l c) (.bool b') (.slice A' l' c')) := by go_simp; rfl
section
variable {P : Program} {w w' : World} {ρ : Operand → Value} {d : Option Tmp} {T : TypeId} {pos : String} {af : Array Edge} {gu : Option (Nat × Bool)}
theorem ex_build1 {E : TypeId} {t1 : Tmp} {v1 v : Value} (h1 : ρ (.tmp t1) = v1) (hr : (Instr.build E #[(0, v1)]).run P w = .ok v w') : (execOp ρ { dst := d, op := .build E #[(0, .tmp t1)], type := T, pos := pos, after := af, guard := gu }).run P w = .ok (.value v) w' := by
  have e : (#[(0, .tmp t1)] : Array (Nat × Operand)).map (fun p => (p.1, ρ p.2)) = #[(0, v1)] := by simp [h1]
  show Sem.run P ((Instr.build E ((#[(0, .tmp t1)] : Array (Nat × Operand)).map (fun p => (p.1, ρ p.2)))) >>= fun v => pure (Next.value v)) w = _
  rw [e]
  rw [run_then hr]; rfl
theorem ex_build2 {E : TypeId} {t1 t2 : Tmp} {v1 v2 v : Value} (h1 : ρ (.tmp t1) = v1) (h2 : ρ (.tmp t2) = v2) (hr : (Instr.build E #[(0, v1), (1, v2)]).run P w = .ok v w') : (execOp ρ { dst := d, op := .build E #[(0, .tmp t1), (1, .tmp t2)], type := T, pos := pos, after := af, guard := gu }).run P w = .ok (.value v) w' := by
  have e : (#[(0, .tmp t1), (1, .tmp t2)] : Array (Nat × Operand)).map (fun p => (p.1, ρ p.2)) = #[(0, v1), (1, v2)] := by simp [h1, h2]
  show Sem.run P ((Instr.build E ((#[(0, .tmp t1), (1, .tmp t2)] : Array (Nat × Operand)).map (fun p => (p.1, ρ p.2)))) >>= fun v => pure (Next.value v)) w = _
  rw [e]
  rw [run_then hr]; rfl
theorem ex_field {E : TypeId} {t : Tmp} {n : Nat} {p v : Value} (h : ρ (.tmp t) = p) (hr : (Instr.field E p n).run P w = .ok v w) : (execOp ρ { dst := d, op := .field E (.tmp t) n, type := T, pos := pos, after := af, guard := gu }).run P w = .ok (.value v) w := by
  show Sem.run P ((Instr.field E (ρ (.tmp t)) n) >>= fun v => pure (Next.value v)) w = _
  rw [h]
  rw [run_then hr]; rfl
end
theorem run_buildP {w : World} {b b' : Bool} {A A' : Option Addr} {l c l' c' : Nat} : (Instr.build 27 #[(0, .agg #[.bool b, .slice A l c]), (1, .agg #[.bool b', .slice A' l' c'])]).run Tryz.prog w = .ok (.agg #[.bool b, .slice A l c, .bool b', .slice A' l' c']) w := by go_simp
theorem run_buildF {w : World} {b b' : Bool} {A A' : Option Addr} {l c l' c' : Nat} : (Instr.build 53 #[(0, .agg #[.bool b, .slice A l c, .bool b', .slice A' l' c'])]).run Tryz.prog w = .ok (.agg #[.bool b, .slice A l c, .bool b', .slice A' l' c']) w := by go_simp
theorem run_fieldF {w : World} {b b' : Bool} {A A' : Option Addr} {l c l' c' : Nat} : (Instr.field 53 (.agg #[.bool b, .slice A l c, .bool b', .slice A' l' c']) 0).run Tryz.prog w = .ok (.agg #[.bool b, .slice A l c, .bool b', .slice A' l' c']) w := by kernel_rfl
section
variable {G : List Nat} {C : World → Prop} {S0 B : Nat} {ks : List PK} {a0 : Act} {i : Nat} {N : Nat} {W0 : World} {P : Program} {T : TypeId} {pos : String} {af : Array Edge} {gu : Option (Nat × Bool)}
set_option maxRecDepth 100000 in
/-- A load of a number out of a block, at a pointer that was made there. -/
theorem st_loadA {d t j g o k : Nat} {z : Int} (hl : AtR W0 g o k z) (hG : g ∉ G) (hN : a0.tmps.size = N) (hd : decide (d < N) = true) (ht : decide (t < N) = true) (hj : at_ ks j = kIs (.pointer (some ⟨g, o, none⟩))) (hi : at_ ks i = kZ k z) :
    PkStep Tryz.prog (Reg B W0 G) S0 ks a0 i { dst := some d, op := .load 25 (.tmp t), type := T, pos := pos, after := af, guard := gu } [(j, some t)] := by
  intro w x hC
  refine deps_all _ fun hdeps K hK => ?_
  have g1 := hdeps (j, some t) (by simp)
  rw [hj] at g1
  have g2 : x j = .pointer (some ⟨g, o, none⟩) := g1
  have e1 : (putE x a0 [(j, some t)]).eval (.tmp t) = x j := putE_new _ _ (by rw [hN]; exact of_decide_eq_true ht) (by simp [slotAt])
  obtain ⟨A, m, c, h1, h2, h3⟩ := hC.atR hG hl
  refine wp_val (v := .agg #[.bool (decide (z < 0)), .slice A m c]) (w' := w) rfl (by rw [putE_size, hN]) hd ?_ (hK _ _ ?_ ?_)
  · exact ex_load (e1.trans g2) (run_loadAt h1 h2)
  · rw [hi]; exact Below.refl _ _
  · rw [hi]; exact h3
set_option maxRecDepth 100000 in
/-- At a pointer that stands in an old slot. -/
theorem st_loadB {d t g o k : Nat} {z : Int} (hl : AtR W0 g o k z) (hG : g ∉ G) (hp : a0.eval (.tmp t) = .pointer (some ⟨g, o, none⟩)) (hN : a0.tmps.size = N) (hd : decide (d < N) = true) (hi : at_ ks i = kZ k z) :
    PkStep Tryz.prog (Reg B W0 G) S0 ks a0 i { dst := some d, op := .load 25 (.tmp t), type := T, pos := pos, after := af, guard := gu } [] := by
  intro w x hC K hK
  obtain ⟨A, m, c, h1, h2, h3⟩ := hC.atR hG hl
  refine wp_val (v := .agg #[.bool (decide (z < 0)), .slice A m c]) (w' := w) rfl hN hd ?_ (hK _ _ ?_ ?_)
  · exact ex_load hp (run_loadAt h1 h2)
  · rw [hi]; exact Below.refl _ _
  · rw [hi]; exact h3
set_option maxRecDepth 100000 in
/-- Two numbers put together; these as they are reckoned with; the parts taken out. -/
theorem st_buildP {d j1 t1 k1 j2 t2 k2 k : Nat} {z1 z2 : Int} (hN : a0.tmps.size = N) (hd : decide (d < N) = true) (ht1 : decide (t1 < N) = true) (ht2 : decide (t2 < N) = true) (hne : decide (t1 = t2) = false) (hk1 : decide (k1 ≤ k) = true) (hk2 : decide (k2 ≤ k) = true) (h1 : at_ ks j1 = kZ k1 z1) (h2 : at_ ks j2 = kZ k2 z2) (hi : at_ ks i = kP k z1 z2) :
    PkStep Tryz.prog C S0 ks a0 i { dst := some d, op := .build 27 #[(0, .tmp t1), (1, .tmp t2)], type := T, pos := pos, after := af, guard := gu } [(j1, some t1), (j2, some t2)] := by
  intro w x hC
  refine deps_all _ fun hdeps K hK => ?_
  have g1 := hdeps (j1, some t1) (by simp)
  have g2 := hdeps (j2, some t2) (by simp)
  rw [h1] at g1
  rw [h2] at g2
  have hne' : t1 ≠ t2 := of_decide_eq_false hne
  have e1 : (putE x a0 [(j1, some t1), (j2, some t2)]).eval (.tmp t1) = x j1 := putE_new _ _ (by rw [hN]; exact of_decide_eq_true ht1) (by simp [slotAt, Ne.symm hne'])
  have e2 : (putE x a0 [(j1, some t1), (j2, some t2)]).eval (.tmp t2) = x j2 := putE_new _ _ (by rw [hN]; exact of_decide_eq_true ht2) (by simp [slotAt])
  obtain ⟨A, l, c, hx, q1, q2⟩ := (show Zr w (x j1) k1 z1 from g1)
  obtain ⟨A', l', c', hy, q3, q4⟩ := (show Zr w (x j2) k2 z2 from g2)
  refine wp_val (w' := w) rfl (by rw [putE_size, hN]) hd (ex_build2 (e1.trans hx) (e2.trans hy) run_buildP) (hK _ _ ?_ ?_)
  · rw [hi]; exact Below.refl _ _
  · rw [hi]; exact ⟨A, l, c, A', l', c', rfl, ⟨q1, Nat.lt_of_lt_of_le q2 (pow_le (of_decide_eq_true hk1))⟩, q3, Nat.lt_of_lt_of_le q4 (pow_le (of_decide_eq_true hk2))⟩
set_option maxRecDepth 100000 in
theorem st_buildF {d j t k : Nat} {x1 x2 : Int} (hN : a0.tmps.size = N) (hd : decide (d < N) = true) (ht : decide (t < N) = true) (hj : at_ ks j = kP k x1 x2) (hi : at_ ks i = kP k x1 x2) :
    PkStep Tryz.prog C S0 ks a0 i { dst := some d, op := .build 53 #[(0, .tmp t)], type := T, pos := pos, after := af, guard := gu } [(j, some t)] := by
  intro w x hC
  refine deps_all _ fun hdeps K hK => ?_
  have g1 := hdeps (j, some t) (by simp)
  rw [hj] at g1
  have e1 : (putE x a0 [(j, some t)]).eval (.tmp t) = x j := putE_new _ _ (by rw [hN]; exact of_decide_eq_true ht) (by simp [slotAt])
  obtain ⟨A, l, c, A', l', c', hx, q⟩ := (show Pr w (x j) k x1 x2 from g1)
  refine wp_val (w' := w) rfl (by rw [putE_size, hN]) hd (ex_build1 (e1.trans hx) run_buildF) (hK _ _ ?_ ?_)
  · rw [hi]; exact Below.refl _ _
  · rw [hi]; exact ⟨A, l, c, A', l', c', rfl, q⟩
set_option maxRecDepth 100000 in
theorem st_fieldF {d j t k : Nat} {x1 x2 : Int} (hN : a0.tmps.size = N) (hd : decide (d < N) = true) (ht : decide (t < N) = true) (hj : at_ ks j = kP k x1 x2) (hi : at_ ks i = kP k x1 x2) :
    PkStep Tryz.prog C S0 ks a0 i { dst := some d, op := .field 53 (.tmp t) 0, type := T, pos := pos, after := af, guard := gu } [(j, some t)] := by
  intro w x hC
  refine deps_all _ fun hdeps K hK => ?_
  have g1 := hdeps (j, some t) (by simp)
  rw [hj] at g1
  obtain ⟨A, l, c, A', l', c', hx, q⟩ := (show Pr w (x j) k x1 x2 from g1)
  have e1 : (putE x a0 [(j, some t)]).eval (.tmp t) = x j := putE_new _ _ (by rw [hN]; exact of_decide_eq_true ht) (by simp [slotAt])
  refine wp_val (w' := w) rfl (by rw [putE_size, hN]) hd (ex_field (e1.trans hx) run_fieldF) (hK _ _ ?_ ?_)
  · rw [hi]; exact Below.refl _ _
  · rw [hi]; exact ⟨A, l, c, A', l', c', rfl, q⟩
set_option maxRecDepth 100000 in
/-- The result stored. -/
theorem st_resF {t u j g k : Nat} {x1 x2 : Int} {cs0 : Array Value} (h0 : Holds_ W0 g cs0) (hs0 : cs0.size = 4) (hG : g ∈ G) (hp : a0.eval (.tmp t) = .pointer (some ⟨g, 0, none⟩)) (hN : a0.tmps.size = N) (hu : decide (u < N) = true) (htu : decide (t = u) = false) (hj : at_ ks j = kP k x1 x2) (hi : at_ ks i = kRes g k x1 x2) :
    PkStep Tryz.prog (Reg B W0 G) S0 ks a0 i { dst := none, op := .store 53 (.tmp t) (.tmp u), type := T, pos := pos, after := af, guard := gu } [(j, some u)] := by
  intro w x hC
  refine deps_all _ fun hdeps K hK => ?_
  have g1 := hdeps (j, some u) (by simp)
  rw [hj] at g1
  obtain ⟨A, l, c, A', l', c', hx, q1, q3, q4⟩ := (show Pr w (x j) k x1 x2 from g1)
  have htu' : t ≠ u := of_decide_eq_false htu
  have e1 : (putE x a0 [(j, some u)]).eval (.tmp t) = .pointer (some ⟨g, 0, none⟩) := (putE_old _ _ (by simp [slotAt, Ne.symm htu'])).trans hp
  have e2 : (putE x a0 [(j, some u)]).eval (.tmp u) = x j := putE_new _ _ (by rw [hN]; exact of_decide_eq_true hu) (by simp [slotAt])
  obtain ⟨a, b, c0, d0, hg⟩ := hC.four hG h0 hs0
  obtain ⟨m1, m2, m3, m4, f1, f2, f3, f4⟩ := hg.four
  have hst := stored_put4 hg (noDig_bool (decide (x1 < 0))) (noDig_slice A l c) (noDig_bool (decide (x2 < 0))) (noDig_slice A' l' c')
  refine wp_skp (w' := put4 w g (.bool (decide (x1 < 0))) (.slice A l c) (.bool (decide (x2 < 0))) (.slice A' l' c')) rfl ?_ (hK _ _ ?_ ?_)
  · exact ex_store e1 (e2.trans hx) (run_storeF m1 m2 m3 m4 f1 f2 f3 f4)
  · rw [hi]; exact hst
  · rw [hi]; exact ⟨_, holds_put4 hg (noDig_bool _) (noDig_slice _ _ _) (noDig_bool _) (noDig_slice _ _ _), A, l, c, A', l', c', rfl, A, l, c, A', l', c', rfl, ⟨hst.rr q1.1, q1.2⟩, hst.rr q3, q4⟩
set_option maxRecDepth 100000 in
theorem st_resP {t u j g k : Nat} {x1 x2 : Int} {cs0 : Array Value} (h0 : Holds_ W0 g cs0) (hs0 : cs0.size = 4) (hG : g ∈ G) (hp : a0.eval (.tmp t) = .pointer (some ⟨g, 0, none⟩)) (hN : a0.tmps.size = N) (hu : decide (u < N) = true) (htu : decide (t = u) = false) (hj : at_ ks j = kP k x1 x2) (hi : at_ ks i = kRes g k x1 x2) :
    PkStep Tryz.prog (Reg B W0 G) S0 ks a0 i { dst := none, op := .store 27 (.tmp t) (.tmp u), type := T, pos := pos, after := af, guard := gu } [(j, some u)] := by
  intro w x hC
  refine deps_all _ fun hdeps K hK => ?_
  have g1 := hdeps (j, some u) (by simp)
  rw [hj] at g1
  obtain ⟨A, l, c, A', l', c', hx, q1, q3, q4⟩ := (show Pr w (x j) k x1 x2 from g1)
  have htu' : t ≠ u := of_decide_eq_false htu
  have e1 : (putE x a0 [(j, some u)]).eval (.tmp t) = .pointer (some ⟨g, 0, none⟩) := (putE_old _ _ (by simp [slotAt, Ne.symm htu'])).trans hp
  have e2 : (putE x a0 [(j, some u)]).eval (.tmp u) = x j := putE_new _ _ (by rw [hN]; exact of_decide_eq_true hu) (by simp [slotAt])
  obtain ⟨a, b, c0, d0, hg⟩ := hC.four hG h0 hs0
  obtain ⟨m1, m2, m3, m4, f1, f2, f3, f4⟩ := hg.four
  have hst := stored_put4 hg (noDig_bool (decide (x1 < 0))) (noDig_slice A l c) (noDig_bool (decide (x2 < 0))) (noDig_slice A' l' c')
  refine wp_skp (w' := put4 w g (.bool (decide (x1 < 0))) (.slice A l c) (.bool (decide (x2 < 0))) (.slice A' l' c')) rfl ?_ (hK _ _ ?_ ?_)
  · exact ex_store e1 (e2.trans hx) (run_storeP m1 m2 m3 m4 f1 f2 f3 f4)
  · rw [hi]; exact hst
  · rw [hi]; exact ⟨_, holds_put4 hg (noDig_bool _) (noDig_slice _ _ _) (noDig_bool _) (noDig_slice _ _ _), A, l, c, A', l', c', rfl, A, l, c, A', l', c', rfl, ⟨hst.rr q1.1, q1.2⟩, hst.rr q3, q4⟩
end
/-- A region that stores into the result alone. -/
theorem wp_region_res {P : Program} {id : Nat} {draw : Bool} {ops : Array Oper} {Q : Exit → Act → World → Prop} {a0 : Act} {W0 : World} {N : Nat} (hN : a0.tmps.size = N) (B g : Nat) {cs : Array Value} (hg : Holds_ W0 g cs) (hBg : B ≤ g) (ks : List PK) (es : List (List (Nat × Option Tmp))) (all : List (Nat × Option Tmp)) (bs : List (Nat × Bool)) (sk : List Nat) (hm : P.follows .mixedOrders = true) (hchk : growOK ops (fun i => !sk.contains i) es all N = true) (hk : codesOK ks es = true) (hgu : guardOK ops bs sk = true) (hbs : bs.map (fun p => at_ ks p.1) = bs.map fun p => kIs (.bool p.2)) (hsk : sk.map (at_ ks) = sk.map fun _ => kIs undef)
    (hb : blks ks = [g]) (hB0 : B ≤ W0.heap.size) (hs : PkFrom P ops es sk (Reg B W0 [g]) W0.heap.size ks a0 0) (hend : ∀ w' x, Reg B W0 [g] w' → (∀ i, i < ops.size → (at_ ks i).sem W0.heap.size x (x i) w') → Q .normal (putE x a0 all) w') : (Code.region id ops draw).wp P Q a0 W0 := by
  subst hN
  refine wp_region_pk B ks es all bs sk hm hchk hk hgu hbs hsk ?_ ?_ hB0 ?_ ?_ ?_
  · rw [hb]; exact List.nodup_cons.2 ⟨by simp, List.nodup_nil⟩
  · rw [hb]; intro g' hg'; rw [List.mem_singleton.1 hg']; exact hBg
  · rw [hb]; intro g' hg'; rw [List.mem_singleton.1 hg']; exact ⟨_, hg⟩
  · rw [hb]; exact hs
  · rw [hb]; exact hend
/-- Results that stand in cells. -/
theorem ret_cellF {fn : Func} {R : Ending → World → Prop} {a : Act} {w : World} {t g k : Nat} {x y : Int} {cs : Array Value} (hres : fn.results = #[.cell t 53 ]) (hd : a.defers = []) (hp : a.eval (.tmp t) = .pointer (some ⟨g, 0, none⟩)) (hg : Holds_ w g cs) (hP : isP k x y cs w) (hR : ∀ v, Pr w v k x y → R (.returned v) w) : bodyPost Tryz.prog fn R .ret a w := by
  obtain ⟨A, l, c, A', l', c', rfl, h⟩ := hP
  obtain ⟨m1, m2, m3, m4, _, _, _, _⟩ := hg.four
  refine bodyPost_ret (v := .agg #[.bool (decide (x < 0)), .slice A l c, .bool (decide (y < 0)), .slice A' l' c']) ?_ hd (hR _ h)
  have hp' : a.tmps[t]?.getD undef = .pointer (some ⟨g, 0, none⟩) := by
    rw [← Array.getD_eq_getD_getElem?]; exact hp
  simp [results, hres, go_sem, hp', m1, m2, m3, m4]
theorem ret_cellP {fn : Func} {R : Ending → World → Prop} {a : Act} {w : World} {t g k : Nat} {x y : Int} {cs : Array Value} (hres : fn.results = #[.cell t 27 ]) (hd : a.defers = []) (hp : a.eval (.tmp t) = .pointer (some ⟨g, 0, none⟩)) (hg : Holds_ w g cs) (hP : isP k x y cs w) (hR : ∀ v, Pr w v k x y → R (.returned v) w) : bodyPost Tryz.prog fn R .ret a w := by
  obtain ⟨A, l, c, A', l', c', rfl, h⟩ := hP
  obtain ⟨m1, m2, m3, m4, _, _, _, _⟩ := hg.four
  refine bodyPost_ret (v := .agg #[.bool (decide (x < 0)), .slice A l c, .bool (decide (y < 0)), .slice A' l' c']) ?_ hd (hR _ h)
  have hp' : a.tmps[t]?.getD undef = .pointer (some ⟨g, 0, none⟩) := by
    rw [← Array.getD_eq_getD_getElem?]; exact hp
  simp [results, hres, go_sem, hp', m1, m2, m3, m4]
end Go.Proofs.YthgclmkhmcfflaaGreatDoor
namespace Go.Proofs.YthgclmkhmcfflaaGreatDoor
open Go.RowKit
/-- A call that tells two numbers. -/
def TellsP (w : World) (k : Nat) (x y : Int) (e : Ending) (w' : World) : Prop := ∃ v, e = .returned v ∧ Pr w' v k x y ∧ Below w.heap.size w w'
theorem l_gcd2 {w : World} {A1 A2 : Option Addr} {l1 c1 l2 c2 : Nat} {b1 b2 : Bool} {k : Nat} {x y : Int} (h1 : Zd w (.agg #[.bool b1, .slice A1 l1 c1]) k x) (h2 : Zd w (.agg #[.bool b2, .slice A2 l2 c2]) k y) (hk : k ≤ 4000) :
    Calls Tryz.prog 36 #[.slice (some ⟨w.heap.size, 0, none⟩) 2 2] (w.alloc (.cells #[.bool b1, .slice A1 l1 c1, .bool b2, .slice A2 l2 c2] 25)) (TellsZ (w.alloc (.cells #[.bool b1, .slice A1 l1 c1, .bool b2, .slice A2 l2 c2] 25)) k (zgcd [(x), (y)] : Nat)) :=
  l_gcd k (l := [(k, x), (k, y)]) ⟨_, rfl, zs_lit2 h1 h2 _⟩ (by simp) hk (by simp)
/-- What stands in four cells. -/
theorem four_set {w : World} {g : Nat} {a b c d : Value} {T : TypeId} (h : w.heap[g]? = some (.cells #[a, b, c, d] T (0, 0))) (u v : Value) :
    ((w.setCell ⟨g, 0, none⟩ u).setCell ⟨g, 1, none⟩ v).heap[g]? = some (.cells #[u, v, c, d] T (0, 0)) ∧ ((w.setCell ⟨g, 2, none⟩ u).setCell ⟨g, 3, none⟩ v).heap[g]? = some (.cells #[a, b, u, v] T (0, 0)) :=
  ⟨by rw [set_cell4 (set_cell4 h)]; rfl, by rw [set_cell4 (set_cell4 h)]; rfl⟩
theorem stored_lo {w : World} {g : Nat} {a b c d u v : Value} (h : Holds_ w g #[a, b, c, d]) (hu : noDig u) (hv : noDig v) : Stored g w ((w.setCell ⟨g, 0, none⟩ u).setCell ⟨g, 1, none⟩ v) ∧ Holds_ ((w.setCell ⟨g, 0, none⟩ u).setCell ⟨g, 1, none⟩ v) g #[u, v, c, d] := by
  obtain ⟨⟨T, e⟩, hn⟩ := h
  have hh : Holds_ ((w.setCell ⟨g, 0, none⟩ u).setCell ⟨g, 1, none⟩ v) g #[u, v, c, d] := ⟨⟨T, (four_set e u v).1⟩, fun y hy => by
    have hy' : y ∈ [u, v, c, d] := by simpa using hy
    rcases List.mem_cons.1 hy' with rfl | hy'
    · exact hu
    rcases List.mem_cons.1 hy' with rfl | hy'
    · exact hv
    · exact hn y (by
        rcases List.mem_cons.1 hy' with rfl | hy'
        · simp
        · rw [List.mem_singleton.1 hy']; simp)⟩
  exact ⟨⟨rfl, rfl, rfl, by simp, fun k hk => (Below.heap_setCell _ _ _ _ hk).trans (Below.heap_setCell _ _ _ _ hk), ⟨_, _, ⟨⟨T, e⟩, hn⟩, hh, rfl⟩, fun cs T' hT => by
    rw [e] at hT
    injection hT with hT
    injection hT with e1 e2
    subst e1; subst e2
    exact ⟨_, (four_set e u v).1, rfl⟩⟩, hh⟩
theorem stored_hi {w : World} {g : Nat} {a b c d u v : Value} (h : Holds_ w g #[a, b, c, d]) (hu : noDig u) (hv : noDig v) : Stored g w ((w.setCell ⟨g, 2, none⟩ u).setCell ⟨g, 3, none⟩ v) ∧ Holds_ ((w.setCell ⟨g, 2, none⟩ u).setCell ⟨g, 3, none⟩ v) g #[a, b, u, v] := by
  obtain ⟨⟨T, e⟩, hn⟩ := h
  have hh : Holds_ ((w.setCell ⟨g, 2, none⟩ u).setCell ⟨g, 3, none⟩ v) g #[a, b, u, v] := ⟨⟨T, (four_set e u v).2⟩, fun y hy => by
    have hy' : y ∈ [a, b, u, v] := by simpa using hy
    rcases List.mem_cons.1 hy' with rfl | hy'
    · exact hn _ (by simp)
    rcases List.mem_cons.1 hy' with rfl | hy'
    · exact hn _ (by simp)
    rcases List.mem_cons.1 hy' with rfl | hy'
    · exact hu
    · rw [List.mem_singleton.1 hy']; exact hv⟩
  exact ⟨⟨rfl, rfl, rfl, by simp, fun k hk => (Below.heap_setCell _ _ _ _ hk).trans (Below.heap_setCell _ _ _ _ hk), ⟨_, _, ⟨⟨T, e⟩, hn⟩, hh, rfl⟩, fun cs T' hT => by
    rw [e] at hT
    injection hT with hT
    injection hT with e1 e2
    subst e1; subst e2
    exact ⟨_, (four_set e u v).2, rfl⟩⟩, hh⟩
theorem four_cells {w : World} {g : Nat} {a b c d : Value} {T : TypeId} (h : w.heap[g]? = some (.cells #[a, b, c, d] T (0, 0))) : w.cell? ⟨g, 0, none⟩ = some a ∧ w.cell? ⟨g, 1, none⟩ = some b ∧ w.cell? ⟨g, 2, none⟩ = some c ∧ w.cell? ⟨g, 3, none⟩ = some d ∧ w.frozen? ⟨g, 0, none⟩ = false ∧ w.frozen? ⟨g, 1, none⟩ = false ∧ w.frozen? ⟨g, 2, none⟩ = false ∧ w.frozen? ⟨g, 3, none⟩ = false := by
  refine ⟨?_, ?_, ?_, ?_, ?_, ?_, ?_, ?_⟩ <;> simp [World.cell?, World.frozen?, h]
set_option maxRecDepth 100000 in
set_option maxHeartbeats 4000000 in
theorem lowest_q {w : World} {v1 v2 : Value} {k : Nat} {n d : Int} (h1 : Zr w v1 k n) (h2 : Zr w v2 k d) (hd : d ≠ 0) (hk1 : 1 ≤ k) (hk : k ≤ 3998) :
    Calls Tryz.prog 50 #[v1, v2] w (TellsP w k (Rat.divInt n d).num ((Rat.divInt n d).den : Int)) := by
  obtain ⟨A1, l1, c1, rfl, r1, u1⟩ := h1
  obtain ⟨A2, l2, c2, rfl, r2, u2⟩ := h2
  have hx1 : ∀ W, Below w.heap.size w W → Zr W (.agg #[.bool (decide (n < 0)), .slice A1 l1 c1]) k n := fun W hW => ⟨A1, l1, c1, rfl, r1.below hW, u1⟩
  have hx2 : ∀ W, Below w.heap.size w W → Zr W (.agg #[.bool (decide (d < 0)), .slice A2 l2 c2]) k d := fun W hW => ⟨A2, l2, c2, rfl, r2.below hW, u2⟩
  obtain ⟨b1, hb1⟩ : ∃ b, b = decide (n < 0) := ⟨_, rfl⟩
  obtain ⟨b2, hb2⟩ : ∃ b, b = decide (d < 0) := ⟨_, rfl⟩
  rw [← hb1] at hx1 ⊢
  rw [← hb2] at hx2 ⊢
  have HX1 := Lib.hid hx1
  have HX2 := Lib.hid hx2
  have HD := Lib.hid (show d ≠ 0 ∧ 1 ≤ k ∧ k ≤ 3998 ∧ b2 = decide (d < 0) ∧ n.natAbs < 1000000000 ^ k ∧ d.natAbs < 1000000000 ^ k from ⟨hd, hk1, hk, hb2, u1, u2⟩)
  clear hx1 hx2 hd hk1 hk hb1 hb2 u1 u2 r1 r2
  obtain ⟨W0, hW0⟩ : ∃ W, W = ((w.alloc (Obj.cells #[Value.bool b1, Value.slice A1 l1 c1] 25)).alloc (Obj.cells #[Value.bool b2, Value.slice A2 l2 c2] 25)).alloc (Obj.cells #[Value.bool false, Value.slice none 0 0, Value.bool false, Value.slice none 0 0] 53) := ⟨_, rfl⟩
  obtain ⟨bW0, sW0, K0, K1, K2⟩ := three_newW hW0
  have sW0' : W0.heap.size = w.heap.size + 1 + 1 + 1 := sW0
  have hgc := l_gcd2 (HX1.out W0 bW0).zd (HX2.out W0 bW0).zd (by have := HD.out.2.2.1; omega)
  rw [sW0'] at hgc
  have HW0 := Lib.hid hW0
  have HGC := Lib.hid hgc
  have HK := Lib.hid (show _ ∧ _ ∧ _ from ⟨K0, K1, K2⟩)
  have HB0 := Lib.hid bW0
  clear hgc hW0 K0 K1 K2 bW0 sW0
  by_cases hneg : d < 0
  · have eb2 : b2 = true := by rw [HD.out.2.2.2.1]; exact decide_eq_true hneg
    subst eb2
    have HN := Lib.hid hneg
    clear hneg
    go_enter Tryz.func50, Tryz.ntmps50
    go_wp2_with fail
    rw [← HW0.out]
    refine HGC.out.mono ?_
    rintro e w1 ⟨v, rfl, ⟨A3, l3, c3, rfl, r3, u3⟩, hb1⟩
    have b01 := bstep (bal (Below.refl W0.heap.size W0) _) hb1
    have hz1 := b01.size
    have K1 := (b01.block (w.heap.size + 1) (by omega)).trans HK.out.2.1
    have K0 := (b01.block w.heap.size (by omega)).trans HK.out.1
    have K2 := (b01.block (w.heap.size + 1 + 1) (by omega)).trans HK.out.2.2
    have HB1 := Lib.hid (HB0.out.trans (b01.mono (by omega)))
    obtain ⟨q1, q2, _, _⟩ := cell_of_two K1
    obtain ⟨q3, q4, _, _⟩ := cell_of_two K0
    have HK1 := Lib.hid (show _ ∧ _ ∧ _ from ⟨K0, K1, K2⟩)
    have hlt0 : w.heap.size < w1.heap.size := by omega
    have hlt1 : w.heap.size + 1 < w1.heap.size := by omega
    have hlt2 : w.heap.size + 1 + 1 < w1.heap.size := by omega
    have HR3 := Lib.hid (show _ ∧ _ from ⟨r3, u3⟩)
    clear b01 hb1 hz1 K0 K1 K2 r3 u3
    obtain ⟨s3, hs3⟩ : ∃ s, s = decide (((zgcd [(n), (d)] : Nat) : Int) < 0) := ⟨_, rfl⟩
    rw [← hs3]
    have HNG := Lib.hid (z_neg (w := w1.alloc (Obj.cells #[Value.bool s3, Value.slice A3 l3 c3] 25)) (v := .agg #[.bool s3, .slice A3 l3 c3]) (Zr.zd ⟨A3, l3, c3, by rw [hs3], HR3.out.1.alloc _, HR3.out.2⟩) (by have := HD.out.2.2.1; omega))
    clear hs3
    go_wp2_with fail
    refine HNG.out.mono ?_
    rintro e w2 ⟨v, rfl, ⟨A4, l4, c4, rfl, r4, u4⟩, hb2⟩
    obtain ⟨s4, hs4⟩ : ∃ s, s = decide (-((zgcd [(n), (d)] : Nat) : Int) < 0) := ⟨_, rfl⟩
    rw [← hs4]
    have b12 := bstep (bal (Below.refl w1.heap.size w1) _) hb2
    have hz2 := b12.size
    have K0 := (b12.block w.heap.size (by omega)).trans HK1.out.1
    have K1 := (b12.block (w.heap.size + 1) (by omega)).trans HK1.out.2.1
    have K2 := (b12.block (w.heap.size + 1 + 1) (by omega)).trans HK1.out.2.2
    have K3 := (hb2.block w1.heap.size (lt_alloc _ _)).trans (heap_alloc_new _ _)
    have hlt3 : w1.heap.size < w2.heap.size := Nat.lt_of_lt_of_le (lt_alloc w1 _) hb2.size
    have HB2 := Lib.hid (HB1.out.trans (b12.mono (by omega)))
    obtain ⟨p1, p2, _, _⟩ := cell_of_two K0
    obtain ⟨m1, m2, m3, m4⟩ := cell_of_two K3
    have hne0 : w.heap.size ≠ w1.heap.size := by omega
    have hne1 : w.heap.size + 1 ≠ w1.heap.size := by omega
    have hne2 : w.heap.size + 1 + 1 ≠ w1.heap.size := by omega
    obtain ⟨_, _, t3⟩ := two_stored (a' := .bool s4) (b' := .slice A4 l4 c4) K3 (fun d h => by cases h) (fun d h => by cases h) r4
    obtain ⟨W3, hW3⟩ : ∃ W, W = ((w2.setCell ⟨w1.heap.size, 0, none⟩ (.bool s4)).setCell ⟨w1.heap.size, 1, none⟩ (.slice A4 l4 c4)).alloc (Obj.cells #[Value.bool false, Value.slice none 0 0, Value.bool false, Value.slice none 0 0] 53) := ⟨_, rfl⟩
    have far : ∀ i, i < w2.heap.size → i ≠ w1.heap.size → W3.heap[i]? = w2.heap[i]? := fun i hi hn => by
      rw [hW3, Below.heap_alloc _ _ _ (by simp; omega)]
      exact (Below.heap_setCell _ _ _ _ hn).trans (Below.heap_setCell _ _ _ _ hn)
    have J0 := (far _ (by omega) hne0).trans K0
    have J1 := (far _ (by omega) hne1).trans K1
    have J2 := (far _ (by omega) hne2).trans K2
    have J3 : W3.heap[w1.heap.size]? = some (Obj.cells #[Value.bool s4, Value.slice A4 l4 c4] 25) := by
      rw [hW3, Below.heap_alloc _ _ _ (by simp; omega)]
      exact set_two1 (set_two0 K3)
    have J4 : W3.heap[w2.heap.size]? = some (Obj.cells #[Value.bool false, Value.slice none 0 0, Value.bool false, Value.slice none 0 0] 53) := by
      rw [hW3]; exact new_at (by simp)
    have sz3 : W3.heap.size = w2.heap.size + 1 := by rw [hW3]; simp
    have b3 : Below w.heap.size w W3 := by
      rw [hW3]
      exact bal ((((HB1.out.trans (b12.mono (by omega))).setCell (Nat.le_of_lt hlt0) _).setCell (Nat.le_of_lt hlt0) _)) _
    have r5 : Rr W3 (.slice A4 l4 c4) (-((zgcd [(n), (d)] : Nat) : Int)).natAbs := by rw [hW3]; exact t3.alloc _
    obtain ⟨p1, p2, _, _⟩ := cell_of_two J0
    obtain ⟨p3, p4, _, _⟩ := cell_of_two J3
    rw [hW3] at p1 p2 p3 p4
    have HT := Lib.hid (show _ ∧ _ ∧ _ ∧ _ ∧ _ from ⟨J0, J1, J2, J3, J4⟩)
    have HS := Lib.hid (show Zr W3 (.agg #[.bool s4, .slice A4 l4 c4]) k (sdiv n d) from ⟨A4, l4, c4, by rw [hs4, sdiv, if_pos HN.out], by rw [sdiv, if_pos HN.out]; exact r5, by rw [sdiv, if_pos HN.out]; exact u4⟩)
    have HB3 := Lib.hid b3
    have HW3 := Lib.hid hW3
    have hl3 : w2.heap.size < W3.heap.size := by omega
    have hl4 : w1.heap.size < w2.heap.size := hlt3
    have hl5 : w.heap.size + 1 + 1 < w1.heap.size := by omega
    clear far J0 J1 J2 J3 J4 b3 r5 t3 r4 u4 hs4 b12 hb2 hz2 K0 K1 K2 K3 q1 q2 q3 q4 hW3
    go_wp2_with fail
    rw [← HW3.out]
    refine (z_divMod (m := k + 1) (HX1.out _ HB3.out).zd HS.out.zd (sdiv_ne HD.out.1) (by have := HD.out.2.1; omega) (by omega) (by omega) (by have := HD.out.2.2.1; omega)).mono ?_
    rw [low_num HD.out.1]
    rintro e w4 ⟨vq, vr, rfl, ⟨A5, l5, c5, rfl, r5, _⟩, ⟨A6, l6, c6, rfl, _, _⟩, hb4⟩
    obtain ⟨s5, hs5⟩ : ∃ s, s = decide ((Rat.divInt n d).num < 0) := ⟨_, rfl⟩
    rw [← hs5]
    have hz4 := hb4.size
    have L1 := (hb4.block (w.heap.size + 1) (by omega)).trans HT.out.2.1
    have L2 := (hb4.block (w.heap.size + 1 + 1) (by omega)).trans HT.out.2.2.1
    have L3 := (hb4.block w1.heap.size (by omega)).trans HT.out.2.2.2.1
    have L4 : Holds_ w4 w2.heap.size #[Value.bool false, Value.slice none 0 0, Value.bool false, Value.slice none 0 0] := ⟨⟨_, (hb4.block w2.heap.size (by omega)).trans HT.out.2.2.2.2⟩, by simp [noDig]⟩
    obtain ⟨y1, y2, y3, y4, y5, y6, y7, y8⟩ := L4.four
    obtain ⟨st5, L5⟩ := stored_lo L4 (noDig_bool s5) (noDig_slice A5 l5 c5)
    obtain ⟨W5, hW5⟩ : ∃ W, W = (w4.setCell ⟨w2.heap.size, 0, none⟩ (.bool s5)).setCell ⟨w2.heap.size, 1, none⟩ (.slice A5 l5 c5) := ⟨_, rfl⟩
    rw [← hW5] at st5 L5
    have b5 : Below w.heap.size w W5 := st5.below (HB3.out.trans (hb4.mono (by omega))) (by omega)
    have M1 := (st5.other (w.heap.size + 1) (by omega)).trans L1
    have M2 := (st5.other (w.heap.size + 1 + 1) (by omega)).trans L2
    have M3 := (st5.other w1.heap.size (by omega)).trans L3
    have HS5 := Lib.hid ((HS.out.below hb4).stored st5)
    have R5 := Lib.hid (show _ ∧ _ from ⟨st5.rr r5, hs5⟩)
    obtain ⟨u1, u2, _, _⟩ := cell_of_two M1
    obtain ⟨u3, u4', _, _⟩ := cell_of_two M3
    rw [hW5] at u1 u2 u3 u4'
    have HW5 := Lib.hid hW5
    have HB5 := Lib.hid b5
    have HM := Lib.hid (show _ ∧ _ ∧ _ ∧ _ from ⟨M1, M2, M3, L5⟩)
    have hz5 : W5.heap.size = w4.heap.size := st5.size
    clear hb4 L1 L2 L3 L4 st5 L5 b5 M1 M2 M3 r5 hs5 hW5 p1 p2 p3 p4
    go_wp2_with fail
    rw [← HW5.out]
    refine (z_divMod (m := k + 1) (HX2.out _ HB5.out).zd HS5.out.zd (sdiv_ne HD.out.1) (by have := HD.out.2.1; omega) (by omega) (by omega) (by have := HD.out.2.2.1; omega)).mono ?_
    rw [low_den HD.out.1]
    rintro e w6 ⟨vq, vr, rfl, ⟨A7, l7, c7, rfl, r7, _⟩, ⟨A8, l8, c8, rfl, _, _⟩, hb6⟩
    obtain ⟨s7, hs7⟩ : ∃ s, s = decide (((Rat.divInt n d).den : Int) < 0) := ⟨_, rfl⟩
    rw [← hs7]
    have hz6 := hb6.size
    have N2 : Holds_ w6 (w.heap.size + 1 + 1) #[Value.bool false, Value.slice none 0 0, Value.bool false, Value.slice none 0 0] := ⟨⟨_, (hb6.block (w.heap.size + 1 + 1) (by omega)).trans HM.out.2.1⟩, by simp [noDig]⟩
    have N4 := HM.out.2.2.2.step hb6
    obtain ⟨y1, y2, y3, y4, y5, y6, y7, y8⟩ := N4.four
    obtain ⟨st7, L7⟩ := stored_hi N4 (noDig_bool s7) (noDig_slice A7 l7 c7)
    obtain ⟨W7, hW7⟩ : ∃ W, W = (w6.setCell ⟨w2.heap.size, 2, none⟩ (.bool s7)).setCell ⟨w2.heap.size, 3, none⟩ (.slice A7 l7 c7) := ⟨_, rfl⟩
    rw [← hW7] at st7 L7
    have N7 := N2.stored st7 (by omega)
    have st8 := stored_put4 N7 (noDig_bool s5) (noDig_slice A5 l5 c5) (noDig_bool s7) (noDig_slice A7 l7 c7)
    have N8 := holds_put4 N7 (noDig_bool s5) (noDig_slice A5 l5 c5) (noDig_bool s7) (noDig_slice A7 l7 c7)
    have b8 := st8.below (st7.below (HB5.out.trans (hb6.mono (by omega))) (by omega)) (show w.heap.size ≤ w.heap.size + 1 + 1 by omega)
    have hle := low_num_le n d
    have hle2 := low_den_le (n := n) HD.out.1
    have P8 : Pr (put4 W7 (w.heap.size + 1 + 1) (.bool s5) (.slice A5 l5 c5) (.bool s7) (.slice A7 l7 c7)) (.agg #[.bool s5, .slice A5 l5 c5, .bool s7, .slice A7 l7 c7]) k (Rat.divInt n d).num ((Rat.divInt n d).den : Int) :=
      ⟨A5, l5, c5, A7, l7, c7, by rw [R5.out.2, hs7], ⟨st8.rr (st7.rr (R5.out.1.below hb6)), Nat.lt_of_le_of_lt hle HD.out.2.2.2.2.1⟩, st8.rr (st7.rr r7), Nat.lt_of_le_of_lt (by rw [Int.natAbs_natCast]; exact hle2) HD.out.2.2.2.2.2⟩
    obtain ⟨f1, f2, f3, f4, _, _, _, _⟩ := L7.four
    obtain ⟨g1, g2, g3, g4, g5, g6, g7, g8⟩ := N7.four
    obtain ⟨i1, i2, i3, i4, _, _, _, _⟩ := N8.four
    have HF := Lib.hid (show _ ∧ _ from ⟨P8, b8⟩)
    rw [hW7] at f1 f2 f3 f4 g1 g2 g3 g4 g5 g6 g7 g8 i1 i2 i3 i4 HF
    unfold put4 at i1 i2 i3 i4
    have HI := Lib.hid (show _ ∧ _ ∧ _ ∧ _ from ⟨i1, i2, i3, i4⟩)
    clear hb6 N2 N4 st7 L7 N7 st8 N8 b8 P8 r7 hs7 hW7 u1 u2 u3 u4' i1 i2 i3 i4 hle hle2
    go_wp2
    obtain ⟨i1, i2, i3, i4⟩ := HI.out
    refine bodyPost_ret (v := .agg #[.bool s5, .slice A5 l5 c5, .bool s7, .slice A7 l7 c7]) (by simp [results, Tryz.results50, go_sem, i1, i2, i3, i4]) rfl ?_
    exact ⟨_, rfl, HF.out.1, HF.out.2⟩
  · have eb2 : b2 = false := by rw [HD.out.2.2.2.1]; exact decide_eq_false hneg
    subst eb2
    have HN := Lib.hid hneg
    clear hneg
    go_enter Tryz.func50, Tryz.ntmps50
    go_wp2_with fail
    rw [← HW0.out]
    refine HGC.out.mono ?_
    rintro e w1 ⟨v, rfl, ⟨A3, l3, c3, rfl, r3, u3⟩, hb1⟩
    have b01 := bstep (bal (Below.refl W0.heap.size W0) _) hb1
    have hz1 := b01.size
    have K1 := (b01.block (w.heap.size + 1) (by omega)).trans HK.out.2.1
    have K0 := (b01.block w.heap.size (by omega)).trans HK.out.1
    have K2 := (b01.block (w.heap.size + 1 + 1) (by omega)).trans HK.out.2.2
    have HB1 := Lib.hid (HB0.out.trans (b01.mono (by omega)))
    obtain ⟨q1, q2, _, _⟩ := cell_of_two K1
    obtain ⟨q3, q4, _, _⟩ := cell_of_two K0
    have HK1 := Lib.hid (show _ ∧ _ ∧ _ from ⟨K0, K1, K2⟩)
    have hlt0 : w.heap.size < w1.heap.size := by omega
    have hlt1 : w.heap.size + 1 < w1.heap.size := by omega
    have hlt2 : w.heap.size + 1 + 1 < w1.heap.size := by omega
    have HR3 := Lib.hid (show _ ∧ _ from ⟨r3, u3⟩)
    clear b01 hb1 hz1 K0 K1 K2 r3 u3
    obtain ⟨s3, hs3⟩ : ∃ s, s = decide (((zgcd [(n), (d)] : Nat) : Int) < 0) := ⟨_, rfl⟩
    rw [← hs3]
    obtain ⟨W3, hW3⟩ : ∃ W, W = (w1.alloc (Obj.cells #[Value.bool s3, Value.slice A3 l3 c3] 25)).alloc (Obj.cells #[Value.bool false, Value.slice none 0 0, Value.bool false, Value.slice none 0 0] 53) := ⟨_, rfl⟩
    have far : ∀ i, i < w1.heap.size → W3.heap[i]? = w1.heap[i]? := fun i hi => by
      rw [hW3, Below.heap_alloc _ _ _ (by simp; omega), Below.heap_alloc _ _ _ hi]
    have J0 := (far _ hlt0).trans HK1.out.1
    have J1 := (far _ hlt1).trans HK1.out.2.1
    have J2 := (far _ hlt2).trans HK1.out.2.2
    have J3 : W3.heap[w1.heap.size]? = some (Obj.cells #[Value.bool s3, Value.slice A3 l3 c3] 25) := by
      rw [hW3, Below.heap_alloc _ _ _ (by simp)]
      exact heap_alloc_new _ _
    have J4 : W3.heap[w1.heap.size + 1]? = some (Obj.cells #[Value.bool false, Value.slice none 0 0, Value.bool false, Value.slice none 0 0] 53) := by
      rw [hW3]; exact new_at (by simp)
    have sz3 : W3.heap.size = w1.heap.size + 1 + 1 := by rw [hW3]; simp
    have b3 : Below w.heap.size w W3 := by
      rw [hW3]
      exact bal (bal HB1.out _) _
    have r5 : Rr W3 (.slice A3 l3 c3) (((zgcd [(n), (d)] : Nat) : Int)).natAbs := by rw [hW3]; exact (HR3.out.1.alloc _).alloc _
    obtain ⟨p1, p2, _, _⟩ := cell_of_two J0
    obtain ⟨p3, p4, _, _⟩ := cell_of_two J3
    rw [hW3] at p1 p2 p3 p4
    have HT := Lib.hid (show _ ∧ _ ∧ _ ∧ _ ∧ _ from ⟨J0, J1, J2, J3, J4⟩)
    have HS := Lib.hid (show Zr W3 (.agg #[.bool s3, .slice A3 l3 c3]) k (sdiv n d) from ⟨A3, l3, c3, by rw [hs3, sdiv, if_neg (show ¬ d < 0 by have := HN.out; omega)], by rw [sdiv, if_neg (show ¬ d < 0 by have := HN.out; omega)]; exact r5, by rw [sdiv, if_neg (show ¬ d < 0 by have := HN.out; omega)]; exact HR3.out.2⟩)
    have HB3 := Lib.hid b3
    have HW3 := Lib.hid hW3
    have hl3 : w1.heap.size + 1 < W3.heap.size := by omega
    clear far J0 J1 J2 J3 J4 b3 r5 q3 q4 hW3 hs3
    go_wp2_with fail
    rw [← HW3.out]
    refine (z_divMod (m := k + 1) (HX1.out _ HB3.out).zd HS.out.zd (sdiv_ne HD.out.1) (by have := HD.out.2.1; omega) (by omega) (by omega) (by have := HD.out.2.2.1; omega)).mono ?_
    rw [low_num HD.out.1]
    rintro e w4 ⟨vq, vr, rfl, ⟨A5, l5, c5, rfl, r5, _⟩, ⟨A6, l6, c6, rfl, _, _⟩, hb4⟩
    obtain ⟨s5, hs5⟩ : ∃ s, s = decide ((Rat.divInt n d).num < 0) := ⟨_, rfl⟩
    rw [← hs5]
    have hz4 := hb4.size
    have L1 := (hb4.block (w.heap.size + 1) (by omega)).trans HT.out.2.1
    have L2 := (hb4.block (w.heap.size + 1 + 1) (by omega)).trans HT.out.2.2.1
    have L3 := (hb4.block w1.heap.size (by omega)).trans HT.out.2.2.2.1
    have L4 : Holds_ w4 (w1.heap.size + 1) #[Value.bool false, Value.slice none 0 0, Value.bool false, Value.slice none 0 0] := ⟨⟨_, (hb4.block (w1.heap.size + 1) (by omega)).trans HT.out.2.2.2.2⟩, by simp [noDig]⟩
    obtain ⟨y1, y2, y3, y4, y5, y6, y7, y8⟩ := L4.four
    obtain ⟨st5, L5⟩ := stored_lo L4 (noDig_bool s5) (noDig_slice A5 l5 c5)
    obtain ⟨W5, hW5⟩ : ∃ W, W = (w4.setCell ⟨w1.heap.size + 1, 0, none⟩ (.bool s5)).setCell ⟨w1.heap.size + 1, 1, none⟩ (.slice A5 l5 c5) := ⟨_, rfl⟩
    rw [← hW5] at st5 L5
    have b5 : Below w.heap.size w W5 := st5.below (HB3.out.trans (hb4.mono (by omega))) (by omega)
    have M1 := (st5.other (w.heap.size + 1) (by omega)).trans L1
    have M2 := (st5.other (w.heap.size + 1 + 1) (by omega)).trans L2
    have M3 := (st5.other w1.heap.size (by omega)).trans L3
    have HS5 := Lib.hid ((HS.out.below hb4).stored st5)
    have R5 := Lib.hid (show _ ∧ _ from ⟨st5.rr r5, hs5⟩)
    obtain ⟨u1, u2, _, _⟩ := cell_of_two M1
    obtain ⟨u3, u4', _, _⟩ := cell_of_two M3
    rw [hW5] at u1 u2 u3 u4'
    have HW5 := Lib.hid hW5
    have HB5 := Lib.hid b5
    have HM := Lib.hid (show _ ∧ _ ∧ _ ∧ _ from ⟨M1, M2, M3, L5⟩)
    have hz5 : W5.heap.size = w4.heap.size := st5.size
    clear hb4 L1 L2 L3 L4 st5 L5 b5 M1 M2 M3 r5 hs5 hW5 p1 p2 p3 p4
    go_wp2_with fail
    rw [← HW5.out]
    refine (z_divMod (m := k + 1) (HX2.out _ HB5.out).zd HS5.out.zd (sdiv_ne HD.out.1) (by have := HD.out.2.1; omega) (by omega) (by omega) (by have := HD.out.2.2.1; omega)).mono ?_
    rw [low_den HD.out.1]
    rintro e w6 ⟨vq, vr, rfl, ⟨A7, l7, c7, rfl, r7, _⟩, ⟨A8, l8, c8, rfl, _, _⟩, hb6⟩
    obtain ⟨s7, hs7⟩ : ∃ s, s = decide (((Rat.divInt n d).den : Int) < 0) := ⟨_, rfl⟩
    rw [← hs7]
    have hz6 := hb6.size
    have N2 : Holds_ w6 (w.heap.size + 1 + 1) #[Value.bool false, Value.slice none 0 0, Value.bool false, Value.slice none 0 0] := ⟨⟨_, (hb6.block (w.heap.size + 1 + 1) (by omega)).trans HM.out.2.1⟩, by simp [noDig]⟩
    have N4 := HM.out.2.2.2.step hb6
    obtain ⟨y1, y2, y3, y4, y5, y6, y7, y8⟩ := N4.four
    obtain ⟨st7, L7⟩ := stored_hi N4 (noDig_bool s7) (noDig_slice A7 l7 c7)
    obtain ⟨W7, hW7⟩ : ∃ W, W = (w6.setCell ⟨w1.heap.size + 1, 2, none⟩ (.bool s7)).setCell ⟨w1.heap.size + 1, 3, none⟩ (.slice A7 l7 c7) := ⟨_, rfl⟩
    rw [← hW7] at st7 L7
    have N7 := N2.stored st7 (by omega)
    have st8 := stored_put4 N7 (noDig_bool s5) (noDig_slice A5 l5 c5) (noDig_bool s7) (noDig_slice A7 l7 c7)
    have N8 := holds_put4 N7 (noDig_bool s5) (noDig_slice A5 l5 c5) (noDig_bool s7) (noDig_slice A7 l7 c7)
    have b8 := st8.below (st7.below (HB5.out.trans (hb6.mono (by omega))) (by omega)) (show w.heap.size ≤ w.heap.size + 1 + 1 by omega)
    have hle := low_num_le n d
    have hle2 := low_den_le (n := n) HD.out.1
    have P8 : Pr (put4 W7 (w.heap.size + 1 + 1) (.bool s5) (.slice A5 l5 c5) (.bool s7) (.slice A7 l7 c7)) (.agg #[.bool s5, .slice A5 l5 c5, .bool s7, .slice A7 l7 c7]) k (Rat.divInt n d).num ((Rat.divInt n d).den : Int) :=
      ⟨A5, l5, c5, A7, l7, c7, by rw [R5.out.2, hs7], ⟨st8.rr (st7.rr (R5.out.1.below hb6)), Nat.lt_of_le_of_lt hle HD.out.2.2.2.2.1⟩, st8.rr (st7.rr r7), Nat.lt_of_le_of_lt (by rw [Int.natAbs_natCast]; exact hle2) HD.out.2.2.2.2.2⟩
    obtain ⟨f1, f2, f3, f4, _, _, _, _⟩ := L7.four
    obtain ⟨g1, g2, g3, g4, g5, g6, g7, g8⟩ := N7.four
    obtain ⟨i1, i2, i3, i4, _, _, _, _⟩ := N8.four
    have HF := Lib.hid (show _ ∧ _ from ⟨P8, b8⟩)
    rw [hW7] at f1 f2 f3 f4 g1 g2 g3 g4 g5 g6 g7 g8 i1 i2 i3 i4 HF
    unfold put4 at i1 i2 i3 i4
    have HI := Lib.hid (show _ ∧ _ ∧ _ ∧ _ from ⟨i1, i2, i3, i4⟩)
    clear hb6 N2 N4 st7 L7 N7 st8 N8 b8 P8 r7 hs7 hW7 u1 u2 u3 u4' i1 i2 i3 i4 hle hle2
    go_wp2
    obtain ⟨i1, i2, i3, i4⟩ := HI.out
    refine bodyPost_ret (v := .agg #[.bool s5, .slice A5 l5 c5, .bool s7, .slice A7 l7 c7]) (by simp [results, Tryz.results50, go_sem, i1, i2, i3, i4]) rfl ?_
    exact ⟨_, rfl, HF.out.1, HF.out.2⟩
end Go.Proofs.YthgclmkhmcfflaaGreatDoor
namespace Go.Proofs.YthgclmkhmcfflaaGreatDoor
open Go.RowKit
theorem tp {P : Program} {F : FuncId} {vs : Array Value} {w : World} {S0 : Nat} {x : Nat → Value} {k : Nat} {z1 z2 : Int} (h : Calls P F vs w (TellsP w k z1 z2)) : Calls P F vs w (Told (kP k z1 z2) S0 x w) :=
  h.mono fun _ _ ⟨v, e, h1, h2⟩ => ⟨v, e, h2, h1⟩
end Go.Proofs.YthgclmkhmcfflaaGreatDoor
namespace Go.Proofs.YthgclmkhmcfflaaGreatDoor
open Go.RowKit
theorem Reg.at0 {B : Nat} {W0 w : World} (h : Reg B W0 [] w) {g o k : Nat} {z : Int} (hl : AtR W0 g o k z) : AtR w g o k z := h.atR (by simp) hl
theorem pm {S0 : Nat} {x : Nat → Value} {v : Value} {w : World} {j k : Nat} {z1 z2 : Int} (hk : j ≤ k) (h : (kP j z1 z2).sem S0 x v w) : Pr w v k z1 z2 := Pr.mono h hk
theorem den_ne (a : Rat) : (a.den : Int) ≠ 0 := Int.ne_of_gt (den_pos a)
theorem den_sign (a : Rat) : decide ((a.den : Int) < 0) = false := decide_eq_false (by have := den_pos a; omega)
theorem gcd_one (a : Rat) : ((zgcd [(a.num), ((a.den : Int))] : Nat) : Int) = 1 := by
  have h := a.reduced
  unfold Nat.Coprime at h
  rw [zgcd_eq, Int.gcd, Int.natAbs_natCast, Nat.gcd_comm, h]; rfl
theorem isNone_z {w : World} {v : Value} {k : Nat} {z : Int} (h : Zr w v k z) (hz : z ≠ 0) : Calls Tryz.prog 34 #[v] w fun e w' => e = .returned (.bool false) ∧ Below w.heap.size w w' := by
  obtain ⟨A, l, c, rfl, h1, _⟩ := h
  have hk := (rr_len h1).1
  have hl : ((l : Int) == 0) = false := by
    rw [beq_eq_false_iff_ne]; intro e
    have := hk.1 (by omega)
    omega
  obtain ⟨s, hs⟩ : ∃ s, s = decide (z < 0) := ⟨_, rfl⟩
  rw [← hs]
  clear hs hk h1 hz
  go_enter Tryz.func34, Tryz.ntmps34
  go_wp2
  go_ret
  exact ⟨rfl, bal (Below.refl _ _) _⟩
section
variable {G : List Nat} {S0 B : Nat} {ks : List PK} {a0 : Act} {i : Nat} {N : Nat} {W0 : World} {T : TypeId} {pos : String} {af : Array Edge} {gu : Option (Nat × Bool)}
theorem run_loadS {w : World} {g o : Nat} {s : Bool} (h0 : w.cell? ⟨g, o, none⟩ = some (.bool s)) : (Instr.loadAt 4 (.pointer (some ⟨g, o, none⟩))).run Tryz.prog w = .ok (.bool s) w := by go_simp
theorem run_load4P {w : World} {g : Nat} {u v u' v' : Value} (h0 : w.cell? ⟨g, 0, none⟩ = some u) (h1 : w.cell? ⟨g, 1, none⟩ = some v) (h2 : w.cell? ⟨g, 2, none⟩ = some u') (h3 : w.cell? ⟨g, 3, none⟩ = some v') : (Instr.loadAt 27 (.pointer (some ⟨g, 0, none⟩))).run Tryz.prog w = .ok (.agg #[u, v, u', v']) w := by go_simp
set_option maxRecDepth 100000 in
theorem st_loadS {d t j g o k : Nat} {z : Int} {s : Bool} (hl : AtR W0 g o k z) (hs : decide (z < 0) = s) (hG : g ∉ G) (hN : a0.tmps.size = N) (hd : decide (d < N) = true) (ht : decide (t < N) = true) (hj : at_ ks j = kIs (.pointer (some ⟨g, o, none⟩))) (hi : at_ ks i = kIs (.bool s)) :
    PkStep Tryz.prog (Reg B W0 G) S0 ks a0 i { dst := some d, op := .load 4 (.tmp t), type := T, pos := pos, after := af, guard := gu } [(j, some t)] := by
  intro w x hC
  refine deps_all _ fun hdeps K hK => ?_
  have g1 := hdeps (j, some t) (by simp)
  rw [hj] at g1
  have g2 : x j = .pointer (some ⟨g, o, none⟩) := g1
  have e1 : (putE x a0 [(j, some t)]).eval (.tmp t) = x j := putE_new _ _ (by rw [hN]; exact of_decide_eq_true ht) (by simp [slotAt])
  obtain ⟨A, m, c, h1, _, _⟩ := hC.atR hG hl
  rw [hs] at h1
  refine wp_val (v := .bool s) (w' := w) rfl (by rw [putE_size, hN]) hd (ex_load (e1.trans g2) (run_loadS h1)) (hK _ _ ?_ ?_)
  · rw [hi]; exact Below.refl _ _
  · rw [hi]; rfl
set_option maxRecDepth 100000 in
theorem st_load4P {d t g k : Nat} {z1 z2 : Int} (hl : AtR W0 g 0 k z1) (hl2 : AtR W0 g 2 k z2) (hG : g ∉ G) (hp : a0.eval (.tmp t) = .pointer (some ⟨g, 0, none⟩)) (hN : a0.tmps.size = N) (hd : decide (d < N) = true) (hi : at_ ks i = kP k z1 z2) :
    PkStep Tryz.prog (Reg B W0 G) S0 ks a0 i { dst := some d, op := .load 27 (.tmp t), type := T, pos := pos, after := af, guard := gu } [] := by
  intro w x hC K hK
  obtain ⟨A, m, c, h1, h2, A1, m1, c1, e1, h3⟩ := hC.atR hG hl
  obtain ⟨A', m', c', h4, h5, A2, m2, c2, e2, h6⟩ := hC.atR hG hl2
  injection e1 with e1; injection e1 with e1; injection e1 with _ e1; injection e1 with e1 _; injection e1 with a b c; subst a; subst b; subst c
  injection e2 with e2; injection e2 with e2; injection e2 with _ e2; injection e2 with e2 _; injection e2 with a b c; subst a; subst b; subst c
  refine wp_val (w' := w) rfl hN hd (ex_load hp (run_load4P h1 h2 h4 h5)) (hK _ _ ?_ ?_)
  · rw [hi]; exact Below.refl _ _
  · rw [hi]; exact ⟨_, _, _, _, _, _, rfl, h3, h6⟩
end
set_option maxRecDepth 100000 in
set_option maxHeartbeats 4000000 in
theorem isOne_z1 {w : World} {v1 : Value} {z : Int} (hz : z = 1) (h1 : Zr w v1 159 (z)) :
    Calls Tryz.prog 35 #[v1] w (fun e w' => e = .returned (.bool true) ∧ Below w.heap.size w w') := by
  obtain ⟨A1, l1, c1, rfl, r1, u1⟩ := h1
  obtain ⟨b1, hb1⟩ : ∃ s, s = decide (z < 0) := ⟨_, rfl⟩
  rw [← hb1]
  have H1 := Lib.hid (show _ ∧ _ ∧ _ from ⟨hb1, r1, u1⟩)
  clear hb1 r1 u1
  go_enter Tryz.func35, Tryz.ntmps35
  repeat (refine wp_seq ?_)
  refine region_k ?_
  intro K hK
  have HK := Lib.hid hK
  clear hK
  go_wp2
  refine HK.out _ _ ?_
  clear HK
  refine then_n ?_
  obtain ⟨W_0, hW⟩ : ∃ W, W = w.alloc (Obj.cells #[Value.bool b1, Value.slice A1 l1 c1] 25) := ⟨_, rfl⟩
  have bb_0 : Below w.heap.size w W_0 := by rw [hW]; exact bal (Below.refl _ _) _
  have K0 : W_0.heap[w.heap.size]? = some (Obj.cells #[Value.bool b1, Value.slice A1 l1 c1] 25) := by rw [hW]; exact new_at (by simp)
  rw [← hW]
  obtain ⟨m1, n1, _, _⟩ := cell_of_two K0
  have f1_0 : AtR W_0 (w.heap.size) 0 159 (z) := ⟨A1, l1, c1, by rw [← H1.out.1]; exact m1, n1, A1, l1, c1, rfl, H1.out.2.1.below bb_0, H1.out.2.2⟩
  clear m1 n1
  clear hW K0
  refine name_frame (G := fun a => Code.wp _ _ _ a _) ?_
  intro a_0 ha
  have hN_0 : a_0.tmps.size = 7 := by subst ha; kernel_rfl
  have hD_0 : a_0.defers = [] := by subst ha; rfl
  have e1_0 : a_0.eval (.tmp 1) = .pointer (some ⟨w.heap.size, 0, none⟩) := by subst ha; kernel_rfl
  clear ha
  repeat (first | refine wp_seq ?_ | (refine wp_skip ?_; refine then_n ?_))
  refine wp_region_law hN_0 w.heap.size
    [kZ 159 (z), kZ 1 ((1 : Int)), kIs (.int .i64 (0)), kIs (.bool true), kIs (.bool true)]
    [ [], [], [(0, some 3), (1, some 4)], [(2, some 5)], [(3, some 6)] ]
    [(0, some 3), (1, some 4), (2, some 5), (3, some 6), (4, some 2)] [] [] (by kernel_rfl) (by kernel_rfl) (by kernel_rfl) (by kernel_rfl) (by kernel_rfl) (by kernel_rfl) (by kernel_rfl) bb_0.size ?_ ?_
  ·
    refine pk_cons rfl rfl (st_loadB f1_0 (by simp) e1_0 hN_0 (by kernel_rfl) rfl) ?_
    refine pk_cons rfl rfl (st_call0 [.int .i64 (1)] hN_0 (by kernel_rfl) (by kernel_rfl) rfl rfl fun w x hC => tz (z_of (1) 1 (by decide) (by decide) (by decide))) ?_
    refine pk_cons rfl rfl (st_call2 hN_0 (by kernel_rfl) (by kernel_rfl) (by kernel_rfl) (by kernel_rfl) (by kernel_rfl) rfl rfl rfl fun w x v1 v2 hC h1 h2 => ti (cmp_is (ord_eq hz) (z_cmp (rz h1) (rz h2) (by decide) (by decide)))) ?_
    refine pk_cons rfl rfl (st_pure [.int .i64 (0)] [] (.bool true) rfl hN_0 (by kernel_rfl) (by kernel_rfl) (by kernel_rfl) old0 (by kernel_rfl) (by kernel_rfl) (by kernel_rfl) (fun _ => by kernel_rfl)) ?_
    refine pk_cons rfl rfl (st_pure [.bool true] [] (.bool true) rfl hN_0 (by kernel_rfl) (by kernel_rfl) (by kernel_rfl) old0 (by kernel_rfl) (by kernel_rfl) (by kernel_rfl) (fun _ => by kernel_rfl)) ?_
    exact pk_nil rfl
  intro W x hC hall
  refine then_n ?_
  obtain ⟨a1, ha⟩ : ∃ a, a = putE x a_0 [(0, some 3), (1, some 4), (2, some 5), (3, some 6), (4, some 2)] := ⟨_, rfl⟩
  rw [← ha]
  have hD1 := defers_behind ha hD_0
  have bb1 := bb_0.trans hC.below
  have e1 := (slot_new (t := 2) (i := 4) ha hN_0 (by kernel_rfl) (by kernel_rfl)).trans (show x 4 = .bool true from hall 4 (of_decide_eq_true (by kernel_rfl)))
  repeat (first | refine wp_seq ?_ | (refine wp_skip ?_; refine then_n ?_))
  refine wp_ret ?_
  repeat (refine then_r ?_)
  exact ret_one (t := 2) rfl hD1 e1 ⟨rfl, bb1⟩
set_option maxRecDepth 100000 in
set_option maxHeartbeats 4000000 in
theorem isOne_z0 {w : World} {v1 : Value} {z : Int} (hz : 1 < z) (h1 : Zr w v1 159 (z)) :
    Calls Tryz.prog 35 #[v1] w (fun e w' => e = .returned (.bool false) ∧ Below w.heap.size w w') := by
  obtain ⟨A1, l1, c1, rfl, r1, u1⟩ := h1
  obtain ⟨b1, hb1⟩ : ∃ s, s = decide (z < 0) := ⟨_, rfl⟩
  rw [← hb1]
  have H1 := Lib.hid (show _ ∧ _ ∧ _ from ⟨hb1, r1, u1⟩)
  clear hb1 r1 u1
  go_enter Tryz.func35, Tryz.ntmps35
  repeat (refine wp_seq ?_)
  refine region_k ?_
  intro K hK
  have HK := Lib.hid hK
  clear hK
  go_wp2
  refine HK.out _ _ ?_
  clear HK
  refine then_n ?_
  obtain ⟨W_0, hW⟩ : ∃ W, W = w.alloc (Obj.cells #[Value.bool b1, Value.slice A1 l1 c1] 25) := ⟨_, rfl⟩
  have bb_0 : Below w.heap.size w W_0 := by rw [hW]; exact bal (Below.refl _ _) _
  have K0 : W_0.heap[w.heap.size]? = some (Obj.cells #[Value.bool b1, Value.slice A1 l1 c1] 25) := by rw [hW]; exact new_at (by simp)
  rw [← hW]
  obtain ⟨m1, n1, _, _⟩ := cell_of_two K0
  have f1_0 : AtR W_0 (w.heap.size) 0 159 (z) := ⟨A1, l1, c1, by rw [← H1.out.1]; exact m1, n1, A1, l1, c1, rfl, H1.out.2.1.below bb_0, H1.out.2.2⟩
  clear m1 n1
  clear hW K0
  refine name_frame (G := fun a => Code.wp _ _ _ a _) ?_
  intro a_0 ha
  have hN_0 : a_0.tmps.size = 7 := by subst ha; kernel_rfl
  have hD_0 : a_0.defers = [] := by subst ha; rfl
  have e1_0 : a_0.eval (.tmp 1) = .pointer (some ⟨w.heap.size, 0, none⟩) := by subst ha; kernel_rfl
  clear ha
  repeat (first | refine wp_seq ?_ | (refine wp_skip ?_; refine then_n ?_))
  refine wp_region_law hN_0 w.heap.size
    [kZ 159 (z), kZ 1 ((1 : Int)), kIs (.int .i64 (1)), kIs (.bool false), kIs (.bool false)]
    [ [], [], [(0, some 3), (1, some 4)], [(2, some 5)], [(3, some 6)] ]
    [(0, some 3), (1, some 4), (2, some 5), (3, some 6), (4, some 2)] [] [] (by kernel_rfl) (by kernel_rfl) (by kernel_rfl) (by kernel_rfl) (by kernel_rfl) (by kernel_rfl) (by kernel_rfl) bb_0.size ?_ ?_
  ·
    refine pk_cons rfl rfl (st_loadB f1_0 (by simp) e1_0 hN_0 (by kernel_rfl) rfl) ?_
    refine pk_cons rfl rfl (st_call0 [.int .i64 (1)] hN_0 (by kernel_rfl) (by kernel_rfl) rfl rfl fun w x hC => tz (z_of (1) 1 (by decide) (by decide) (by decide))) ?_
    refine pk_cons rfl rfl (st_call2 hN_0 (by kernel_rfl) (by kernel_rfl) (by kernel_rfl) (by kernel_rfl) (by kernel_rfl) rfl rfl rfl fun w x v1 v2 hC h1 h2 => ti (cmp_is (ord_gt hz) (z_cmp (rz h1) (rz h2) (by decide) (by decide)))) ?_
    refine pk_cons rfl rfl (st_pure [.int .i64 (1)] [] (.bool false) rfl hN_0 (by kernel_rfl) (by kernel_rfl) (by kernel_rfl) old0 (by kernel_rfl) (by kernel_rfl) (by kernel_rfl) (fun _ => by kernel_rfl)) ?_
    refine pk_cons rfl rfl (st_pure [.bool false] [] (.bool false) rfl hN_0 (by kernel_rfl) (by kernel_rfl) (by kernel_rfl) old0 (by kernel_rfl) (by kernel_rfl) (by kernel_rfl) (fun _ => by kernel_rfl)) ?_
    exact pk_nil rfl
  intro W x hC hall
  refine then_n ?_
  obtain ⟨a1, ha⟩ : ∃ a, a = putE x a_0 [(0, some 3), (1, some 4), (2, some 5), (3, some 6), (4, some 2)] := ⟨_, rfl⟩
  rw [← ha]
  have hD1 := defers_behind ha hD_0
  have bb1 := bb_0.trans hC.below
  have e1 := (slot_new (t := 2) (i := 4) ha hN_0 (by kernel_rfl) (by kernel_rfl)).trans (show x 4 = .bool false from hall 4 (of_decide_eq_true (by kernel_rfl)))
  repeat (first | refine wp_seq ?_ | (refine wp_skip ?_; refine then_n ?_))
  refine wp_ret ?_
  repeat (refine then_r ?_)
  exact ret_one (t := 2) rfl hD1 e1 ⟨rfl, bb1⟩
set_option maxRecDepth 100000 in
set_option maxHeartbeats 4000000 in
theorem right_9 {w : World} {v1 : Value} {a : Rat} (h1 : Pr w v1 9 (a.num) ((a.den : Int))) :
    Calls Tryz.prog 11 #[v1] w (fun e w' => e = .returned (.bool true) ∧ Below w.heap.size w w') := by
  obtain ⟨A1, l1, c1, A1', l1', c1', rfl, ⟨r1, u1⟩, r1', u1'⟩ := h1
  obtain ⟨b1, hb1⟩ : ∃ s, s = decide (a.num < 0) := ⟨_, rfl⟩
  obtain ⟨b1', hb1'⟩ : ∃ s, s = decide ((a.den : Int) < 0) := ⟨_, rfl⟩
  rw [← hb1, ← hb1']
  have H1 := Lib.hid (show _ ∧ _ ∧ _ ∧ _ ∧ _ ∧ _ from ⟨hb1, hb1', r1, u1, r1', u1'⟩)
  clear hb1 hb1' r1 u1 r1' u1'
  go_enter Tryz.func11, Tryz.ntmps11
  repeat (refine wp_seq ?_)
  refine region_k ?_
  intro K hK
  have HK := Lib.hid hK
  clear hK
  go_wp2
  refine HK.out _ _ ?_
  clear HK
  refine then_n ?_
  obtain ⟨W_0, hW⟩ : ∃ W, W = w.alloc (Obj.cells #[Value.bool b1, Value.slice A1 l1 c1, Value.bool b1', Value.slice A1' l1' c1'] 27) := ⟨_, rfl⟩
  have bb_0 : Below w.heap.size w W_0 := by rw [hW]; exact bal (Below.refl _ _) _
  have K0 : W_0.heap[w.heap.size]? = some (Obj.cells #[Value.bool b1, Value.slice A1 l1 c1, Value.bool b1', Value.slice A1' l1' c1'] 27) := by rw [hW]; exact new_at (by simp)
  rw [← hW]
  obtain ⟨m1, n1, m1', n1', _, _, _, _⟩ := four_cells K0
  have f1_0 : AtR W_0 (w.heap.size) 0 9 (a.num) := ⟨A1, l1, c1, by rw [← H1.out.1]; exact m1, n1, A1, l1, c1, rfl, H1.out.2.2.1.below bb_0, H1.out.2.2.2.1⟩
  have f1'_0 : AtR W_0 (w.heap.size) 2 9 ((a.den : Int)) := ⟨A1', l1', c1', by rw [← H1.out.2.1]; exact m1', n1', A1', l1', c1', rfl, H1.out.2.2.2.2.1.below bb_0, H1.out.2.2.2.2.2⟩
  clear m1 n1 m1' n1'
  clear hW K0
  refine name_frame (G := fun a => Code.wp _ _ _ a _) ?_
  intro a_0 ha
  have hN_0 : a_0.tmps.size = 32 := by subst ha; kernel_rfl
  have hD_0 : a_0.defers = [] := by subst ha; rfl
  have e1_0 : a_0.eval (.tmp 1) = .pointer (some ⟨w.heap.size, 0, none⟩) := by subst ha; kernel_rfl
  clear ha
  repeat (first | refine wp_seq ?_ | (refine wp_skip ?_; refine then_n ?_))
  refine wp_region_law hN_0 w.heap.size
    [kIs (.pointer (some ⟨w.heap.size, 0, none⟩)), kZ 9 (a.num), kIs (.bool true), kIs (.bool false), kIs (.bool false), kIs (.pointer (some ⟨w.heap.size, 2, none⟩)), kZ 9 ((a.den : Int)), kIs (.bool true), kIs (.bool false), kIs (.bool false)]
    [ [], [(0, some 3)], [(1, some 4)], [(2, some 5)], [(3, some 6)], [], [(5, some 8)], [(6, some 9)], [(7, some 10)], [(4, some 7), (8, some 11)] ]
    [(0, some 3), (1, some 4), (2, some 5), (3, some 6), (4, some 7), (5, some 8), (6, some 9), (7, some 10), (8, some 11), (9, some 12)] [(4, false)] [] (by kernel_rfl) (by kernel_rfl) (by kernel_rfl) (by kernel_rfl) (by kernel_rfl) (by kernel_rfl) (by kernel_rfl) bb_0.size ?_ ?_
  ·
    refine pk_cons rfl rfl (st_pure [] [(1, .pointer (some ⟨w.heap.size, 0, none⟩))] (.pointer (some ⟨w.heap.size, 0, none⟩)) rfl hN_0 (by kernel_rfl) (by kernel_rfl) (by kernel_rfl) (old1 e1_0) (by kernel_rfl) (by kernel_rfl) (by kernel_rfl) (fun _ => by kernel_rfl)) ?_
    refine pk_cons rfl rfl (st_loadA f1_0 (by simp) hN_0 (by kernel_rfl) (by kernel_rfl) rfl rfl) ?_
    refine pk_cons rfl rfl (st_call1 hN_0 (by kernel_rfl) (by kernel_rfl) (by kernel_rfl) rfl rfl fun w x v1 hC h1 => ti (z_right (rr h1))) ?_
    refine pk_cons rfl rfl (st_pure [.bool true] [] (.bool false) rfl hN_0 (by kernel_rfl) (by kernel_rfl) (by kernel_rfl) old0 (by kernel_rfl) (by kernel_rfl) (by kernel_rfl) (fun _ => by kernel_rfl)) ?_
    refine pk_cons rfl rfl (st_pure [.bool false] [] (.bool false) rfl hN_0 (by kernel_rfl) (by kernel_rfl) (by kernel_rfl) old0 (by kernel_rfl) (by kernel_rfl) (by kernel_rfl) (fun _ => by kernel_rfl)) ?_
    refine pk_cons rfl rfl (st_pure [] [(1, .pointer (some ⟨w.heap.size, 0, none⟩))] (.pointer (some ⟨w.heap.size, 2, none⟩)) rfl hN_0 (by kernel_rfl) (by kernel_rfl) (by kernel_rfl) (old1 e1_0) (by kernel_rfl) (by kernel_rfl) (by kernel_rfl) (fun _ => by kernel_rfl)) ?_
    refine pk_cons rfl rfl (st_loadA f1'_0 (by simp) hN_0 (by kernel_rfl) (by kernel_rfl) rfl rfl) ?_
    refine pk_cons rfl rfl (st_call1 hN_0 (by kernel_rfl) (by kernel_rfl) (by kernel_rfl) rfl rfl fun w x v1 hC h1 => ti (z_right (rr h1))) ?_
    refine pk_cons rfl rfl (st_pure [.bool true] [] (.bool false) rfl hN_0 (by kernel_rfl) (by kernel_rfl) (by kernel_rfl) old0 (by kernel_rfl) (by kernel_rfl) (by kernel_rfl) (fun _ => by kernel_rfl)) ?_
    refine pk_cons rfl rfl (st_pure [.bool false, .bool false] [] (.bool false) rfl hN_0 (by kernel_rfl) (by kernel_rfl) (by kernel_rfl) old0 (by kernel_rfl) (by kernel_rfl) (by kernel_rfl) (fun _ => by kernel_rfl)) ?_
    exact pk_nil rfl
  intro W_1 x hC hall
  refine then_n ?_
  obtain ⟨a_1, ha⟩ : ∃ a, a = putE x a_0 [(0, some 3), (1, some 4), (2, some 5), (3, some 6), (4, some 7), (5, some 8), (6, some 9), (7, some 10), (8, some 11), (9, some 12)] := ⟨_, rfl⟩
  rw [← ha]
  have hN_1 := size_behind ha hN_0
  have hD_1 := defers_behind ha hD_0
  have bb_1 := bb_0.trans hC.below
  have e1_1 := slot_old ha (by kernel_rfl) e1_0
  have f1_1 := hC.at0 f1_0
  have f1'_1 := hC.at0 f1'_0
  have e12_1 := (slot_new (t := 12) (i := 9) ha hN_0 (by kernel_rfl) (by kernel_rfl)).trans (show x 9 = .bool false from hall 9 (of_decide_eq_true (by kernel_rfl)))
  clear hall hC ha bb_0 hD_0 e1_0 f1_0 f1'_0
  repeat (first | refine wp_seq ?_ | (refine wp_skip ?_; refine then_n ?_))
  refine wp_cond_false e12_1 ?_
  repeat (first | refine wp_seq ?_ | (refine wp_skip ?_; refine then_n ?_))
  refine wp_region_law hN_1 w.heap.size
    [kIs (.pointer (some ⟨w.heap.size, 2, none⟩)), kZ 9 ((a.den : Int)), kIs (.bool false), kIs (.bool true), kIs (.bool true), kIs (.pointer (some ⟨w.heap.size, 2, none⟩)), kIs (.pointer (some ⟨w.heap.size, 2, none⟩)), kIs (.bool false), kIs (.bool true), kIs (.bool true), kIs (.bool true), kIs (.pointer (some ⟨w.heap.size, 0, none⟩)), kZ 9 (a.num), kIs (.pointer (some ⟨w.heap.size, 2, none⟩)), kZ 9 ((a.den : Int)), kZs [(9, (a.num)), (9, ((a.den : Int)))], kZ 9 (((zgcd [(a.num), ((a.den : Int))] : Nat) : Int)), kIs (.bool true), kIs (.bool true), kIs (.bool true)]
    [ [], [(0, some 13)], [(1, some 14)], [(2, some 15)], [(3, some 16)], [], [(5, some 18)], [(6, some 19)], [(7, some 20)], [(4, some 17), (8, some 21)], [(9, some 22)], [], [(11, some 24)], [], [(13, some 26)], [(12, some 25), (14, some 27)], [(15, some 28)], [(16, some 29)], [(10, some 23), (17, some 30)], [(18, some 31)] ]
    [(0, some 13), (1, some 14), (2, some 15), (3, some 16), (4, some 17), (5, some 18), (6, some 19), (7, some 20), (8, some 21), (9, some 22), (10, some 23), (11, some 24), (12, some 25), (13, some 26), (14, some 27), (15, some 28), (16, some 29), (17, some 30), (18, some 31), (19, some 2)] [(4, true), (10, true)] [] (by kernel_rfl) (by kernel_rfl) (by kernel_rfl) (by kernel_rfl) (by kernel_rfl) (by kernel_rfl) (by kernel_rfl) bb_1.size ?_ ?_
  ·
    refine pk_cons rfl rfl (st_pure [] [(1, .pointer (some ⟨w.heap.size, 0, none⟩))] (.pointer (some ⟨w.heap.size, 2, none⟩)) rfl hN_1 (by kernel_rfl) (by kernel_rfl) (by kernel_rfl) (old1 e1_1) (by kernel_rfl) (by kernel_rfl) (by kernel_rfl) (fun _ => by kernel_rfl)) ?_
    refine pk_cons rfl rfl (st_loadA f1'_1 (by simp) hN_1 (by kernel_rfl) (by kernel_rfl) rfl rfl) ?_
    refine pk_cons rfl rfl (st_call1 hN_1 (by kernel_rfl) (by kernel_rfl) (by kernel_rfl) rfl rfl fun w x v1 hC h1 => ti (isNone_z (rr h1) (den_ne a))) ?_
    refine pk_cons rfl rfl (st_pure [.bool false] [] (.bool true) rfl hN_1 (by kernel_rfl) (by kernel_rfl) (by kernel_rfl) old0 (by kernel_rfl) (by kernel_rfl) (by kernel_rfl) (fun _ => by kernel_rfl)) ?_
    refine pk_cons rfl rfl (st_pure [.bool true] [] (.bool true) rfl hN_1 (by kernel_rfl) (by kernel_rfl) (by kernel_rfl) old0 (by kernel_rfl) (by kernel_rfl) (by kernel_rfl) (fun _ => by kernel_rfl)) ?_
    refine pk_cons rfl rfl (st_pure [] [(1, .pointer (some ⟨w.heap.size, 0, none⟩))] (.pointer (some ⟨w.heap.size, 2, none⟩)) rfl hN_1 (by kernel_rfl) (by kernel_rfl) (by kernel_rfl) (old1 e1_1) (by kernel_rfl) (by kernel_rfl) (by kernel_rfl) (fun _ => by kernel_rfl)) ?_
    refine pk_cons rfl rfl (st_pure [.pointer (some ⟨w.heap.size, 2, none⟩)] [] (.pointer (some ⟨w.heap.size, 2, none⟩)) rfl hN_1 (by kernel_rfl) (by kernel_rfl) (by kernel_rfl) old0 (by kernel_rfl) (by kernel_rfl) (by kernel_rfl) (fun _ => by kernel_rfl)) ?_
    refine pk_cons rfl rfl (st_loadS (s := false) f1'_1 (den_sign a) (by simp) hN_1 (by kernel_rfl) (by kernel_rfl) rfl rfl) ?_
    refine pk_cons rfl rfl (st_pure [.bool false] [] (.bool true) rfl hN_1 (by kernel_rfl) (by kernel_rfl) (by kernel_rfl) old0 (by kernel_rfl) (by kernel_rfl) (by kernel_rfl) (fun _ => by kernel_rfl)) ?_
    refine pk_cons rfl rfl (st_pure [.bool true, .bool true] [] (.bool true) rfl hN_1 (by kernel_rfl) (by kernel_rfl) (by kernel_rfl) old0 (by kernel_rfl) (by kernel_rfl) (by kernel_rfl) (fun _ => by kernel_rfl)) ?_
    refine pk_cons rfl rfl (st_pure [.bool true] [] (.bool true) rfl hN_1 (by kernel_rfl) (by kernel_rfl) (by kernel_rfl) old0 (by kernel_rfl) (by kernel_rfl) (by kernel_rfl) (fun _ => by kernel_rfl)) ?_
    refine pk_cons rfl rfl (st_pure [] [(1, .pointer (some ⟨w.heap.size, 0, none⟩))] (.pointer (some ⟨w.heap.size, 0, none⟩)) rfl hN_1 (by kernel_rfl) (by kernel_rfl) (by kernel_rfl) (old1 e1_1) (by kernel_rfl) (by kernel_rfl) (by kernel_rfl) (fun _ => by kernel_rfl)) ?_
    refine pk_cons rfl rfl (st_loadA f1_1 (by simp) hN_1 (by kernel_rfl) (by kernel_rfl) rfl rfl) ?_
    refine pk_cons rfl rfl (st_pure [] [(1, .pointer (some ⟨w.heap.size, 0, none⟩))] (.pointer (some ⟨w.heap.size, 2, none⟩)) rfl hN_1 (by kernel_rfl) (by kernel_rfl) (by kernel_rfl) (old1 e1_1) (by kernel_rfl) (by kernel_rfl) (by kernel_rfl) (fun _ => by kernel_rfl)) ?_
    refine pk_cons rfl rfl (st_loadA f1'_1 (by simp) hN_1 (by kernel_rfl) (by kernel_rfl) rfl rfl) ?_
    refine pk_cons rfl rfl (st_list2 hN_1 (by kernel_rfl) (by kernel_rfl) (by kernel_rfl) (by kernel_rfl) (Nat.le_refl _) asR asR rfl) ?_
    refine pk_cons rfl rfl (st_call1 hN_1 (by kernel_rfl) (by kernel_rfl) (by kernel_rfl) rfl rfl fun w x v1 hC h1 => tz (l_gcd 9 (lz h1) (by kernel_rfl) (by decide) (by simp))) ?_
    refine pk_cons rfl rfl (st_call1 hN_1 (by kernel_rfl) (by kernel_rfl) (by kernel_rfl) rfl rfl fun w x v1 hC h1 => ti (isOne_z1 (gcd_one a) ((rr h1).mono (by decide)))) ?_
    refine pk_cons rfl rfl (st_pure [.bool true, .bool true] [] (.bool true) rfl hN_1 (by kernel_rfl) (by kernel_rfl) (by kernel_rfl) old0 (by kernel_rfl) (by kernel_rfl) (by kernel_rfl) (fun _ => by kernel_rfl)) ?_
    refine pk_cons rfl rfl (st_pure [.bool true] [] (.bool true) rfl hN_1 (by kernel_rfl) (by kernel_rfl) (by kernel_rfl) old0 (by kernel_rfl) (by kernel_rfl) (by kernel_rfl) (fun _ => by kernel_rfl)) ?_
    exact pk_nil rfl
  intro W x hC hall
  refine then_n ?_
  obtain ⟨a1, ha⟩ : ∃ a, a = putE x a_1 [(0, some 13), (1, some 14), (2, some 15), (3, some 16), (4, some 17), (5, some 18), (6, some 19), (7, some 20), (8, some 21), (9, some 22), (10, some 23), (11, some 24), (12, some 25), (13, some 26), (14, some 27), (15, some 28), (16, some 29), (17, some 30), (18, some 31), (19, some 2)] := ⟨_, rfl⟩
  rw [← ha]
  have hD1 := defers_behind ha hD_1
  have bb1 := bb_1.trans hC.below
  have e1 := (slot_new (t := 2) (i := 19) ha hN_1 (by kernel_rfl) (by kernel_rfl)).trans (show x 19 = .bool true from hall 19 (of_decide_eq_true (by kernel_rfl)))
  repeat (first | refine wp_seq ?_ | (refine wp_skip ?_; refine then_n ?_))
  refine wp_ret ?_
  repeat (refine then_r ?_)
  exact ret_one (t := 2) rfl hD1 e1 ⟨rfl, bb1⟩
set_option maxRecDepth 100000 in
set_option maxHeartbeats 4000000 in
theorem of_9 {w : World} {v1 : Value} {a : Rat} (h1 : Pr w v1 9 (a.num) ((a.den : Int))) :
    Calls Tryz.prog 44 #[v1] w (TellsP w 9 ((a.num)) (((a.den : Int)))) := by
  obtain ⟨A1, l1, c1, A1', l1', c1', rfl, ⟨r1, u1⟩, r1', u1'⟩ := h1
  obtain ⟨b1, hb1⟩ : ∃ s, s = decide (a.num < 0) := ⟨_, rfl⟩
  obtain ⟨b1', hb1'⟩ : ∃ s, s = decide ((a.den : Int) < 0) := ⟨_, rfl⟩
  rw [← hb1, ← hb1']
  have H1 := Lib.hid (show _ ∧ _ ∧ _ ∧ _ ∧ _ ∧ _ from ⟨hb1, hb1', r1, u1, r1', u1'⟩)
  clear hb1 hb1' r1 u1 r1' u1'
  go_enter Tryz.func44, Tryz.ntmps44
  repeat (refine wp_seq ?_)
  refine region_k ?_
  intro K hK
  have HK := Lib.hid hK
  clear hK
  go_wp2
  refine HK.out _ _ ?_
  clear HK
  refine then_n ?_
  obtain ⟨W_0, hW⟩ : ∃ W, W = (w.alloc (Obj.cells #[Value.bool b1, Value.slice A1 l1 c1, Value.bool b1', Value.slice A1' l1' c1'] 27)).alloc (Obj.cells #[Value.bool false, Value.slice none 0 0, Value.bool false, Value.slice none 0 0] 53) := ⟨_, rfl⟩
  have bb_0 : Below w.heap.size w W_0 := by rw [hW]; exact bal (bal (Below.refl _ _) _) _
  have K0 : W_0.heap[w.heap.size]? = some (Obj.cells #[Value.bool b1, Value.slice A1 l1 c1, Value.bool b1', Value.slice A1' l1' c1'] 27) := by rw [hW]; rw [Below.heap_alloc _ _ _ (by simp <;> omega)]; exact new_at (by simp)
  have K1 : W_0.heap[w.heap.size + 1]? = some (Obj.cells #[Value.bool false, Value.slice none 0 0, Value.bool false, Value.slice none 0 0] 53) := by rw [hW]; exact new_at (by simp)
  rw [← hW]
  obtain ⟨m1, n1, m1', n1', _, _, _, _⟩ := four_cells K0
  have f1_0 : AtR W_0 (w.heap.size) 0 9 (a.num) := ⟨A1, l1, c1, by rw [← H1.out.1]; exact m1, n1, A1, l1, c1, rfl, H1.out.2.2.1.below bb_0, H1.out.2.2.2.1⟩
  have f1'_0 : AtR W_0 (w.heap.size) 2 9 ((a.den : Int)) := ⟨A1', l1', c1', by rw [← H1.out.2.1]; exact m1', n1', A1', l1', c1', rfl, H1.out.2.2.2.2.1.below bb_0, H1.out.2.2.2.2.2⟩
  clear m1 n1 m1' n1'
  have R_0 : Holds_ W_0 (w.heap.size + 1) #[Value.bool false, Value.slice none 0 0, Value.bool false, Value.slice none 0 0] := ⟨⟨_, K1⟩, by simp [noDig]⟩
  clear hW K0 K1
  refine name_frame (G := fun a => Code.wp _ _ _ a _) ?_
  intro a_0 ha
  have hN_0 : a_0.tmps.size = 17 := by subst ha; kernel_rfl
  have hD_0 : a_0.defers = [] := by subst ha; rfl
  have e1_0 : a_0.eval (.tmp 1) = .pointer (some ⟨w.heap.size, 0, none⟩) := by subst ha; kernel_rfl
  have e2_0 : a_0.eval (.tmp 2) = .pointer (some ⟨w.heap.size + 1, 0, none⟩) := by subst ha; kernel_rfl
  clear ha
  repeat (first | refine wp_seq ?_ | (refine wp_skip ?_; refine then_n ?_))
  refine wp_region_law hN_0 w.heap.size
    [kP 9 (a.num) ((a.den : Int)), kIs (.bool true), kIs (.bool false)]
    [ [], [(0, some 3)], [(1, some 4)] ]
    [(0, some 3), (1, some 4), (2, some 5)] [] [] (by kernel_rfl) (by kernel_rfl) (by kernel_rfl) (by kernel_rfl) (by kernel_rfl) (by kernel_rfl) (by kernel_rfl) bb_0.size ?_ ?_
  ·
    refine pk_cons rfl rfl (st_load4P f1_0 f1'_0 (by simp) e1_0 hN_0 (by kernel_rfl) rfl) ?_
    refine pk_cons rfl rfl (st_call1 hN_0 (by kernel_rfl) (by kernel_rfl) (by kernel_rfl) rfl rfl fun w x v1 hC h1 => ti (right_9 (pm (by decide) h1))) ?_
    refine pk_cons rfl rfl (st_pure [.bool true] [] (.bool false) rfl hN_0 (by kernel_rfl) (by kernel_rfl) (by kernel_rfl) old0 (by kernel_rfl) (by kernel_rfl) (by kernel_rfl) (fun _ => by kernel_rfl)) ?_
    exact pk_nil rfl
  intro W_1 x hC hall
  refine then_n ?_
  obtain ⟨a_1, ha⟩ : ∃ a, a = putE x a_0 [(0, some 3), (1, some 4), (2, some 5)] := ⟨_, rfl⟩
  rw [← ha]
  have hN_1 := size_behind ha hN_0
  have hD_1 := defers_behind ha hD_0
  have bb_1 := bb_0.trans hC.below
  have e1_1 := slot_old ha (by kernel_rfl) e1_0
  have e2_1 := slot_old ha (by kernel_rfl) e2_0
  have f1_1 := hC.at0 f1_0
  have f1'_1 := hC.at0 f1'_0
  have R_1 := hC.holds R_0
  have e5_1 := (slot_new (t := 5) (i := 2) ha hN_0 (by kernel_rfl) (by kernel_rfl)).trans (show x 2 = .bool false from hall 2 (of_decide_eq_true (by kernel_rfl)))
  clear hall hC ha bb_0 hD_0 e1_0 e2_0 f1_0 f1'_0 R_0
  repeat (first | refine wp_seq ?_ | (refine wp_skip ?_; refine then_n ?_))
  refine wp_cond_false e5_1 ?_
  repeat (first | refine wp_seq ?_ | (refine wp_skip ?_; refine then_n ?_))
  refine wp_region_res hN_1 w.heap.size (w.heap.size + 1) R_1 (by omega)
    [kIs (.pointer (some ⟨w.heap.size, 0, none⟩)), kZ 9 (a.num), kZs [(9, (a.num))], kZ 9 ((a.num)), kIs (.pointer (some ⟨w.heap.size, 2, none⟩)), kZ 9 ((a.den : Int)), kZs [(9, ((a.den : Int)))], kZ 9 (((a.den : Int))), kP 9 ((a.num)) (((a.den : Int))), kP 9 ((a.num)) (((a.den : Int))), kRes (w.heap.size + 1) 9 ((a.num)) (((a.den : Int)))]
    [ [], [(0, some 7)], [(1, some 8)], [(2, some 9)], [], [(4, some 11)], [(5, some 12)], [(6, some 13)], [(3, some 10), (7, some 14)], [(8, some 15)], [(9, some 16)] ]
    [(0, some 7), (1, some 8), (2, some 9), (3, some 10), (4, some 11), (5, some 12), (6, some 13), (7, some 14), (8, some 15), (9, some 16), (10, none)] [] [] (by kernel_rfl) (by kernel_rfl) (by kernel_rfl) (by kernel_rfl) (by kernel_rfl) (by kernel_rfl) (by kernel_rfl) bb_1.size ?_ ?_
  ·
    refine pk_cons rfl rfl (st_pure [] [(1, .pointer (some ⟨w.heap.size, 0, none⟩))] (.pointer (some ⟨w.heap.size, 0, none⟩)) rfl hN_1 (by kernel_rfl) (by kernel_rfl) (by kernel_rfl) (old1 e1_1) (by kernel_rfl) (by kernel_rfl) (by kernel_rfl) (fun _ => by kernel_rfl)) ?_
    refine pk_cons rfl rfl (st_loadA f1_1 (by simp only [List.mem_singleton]; omega) hN_1 (by kernel_rfl) (by kernel_rfl) rfl rfl) ?_
    refine pk_cons rfl rfl (st_list1 hN_1 (by kernel_rfl) (by kernel_rfl) (Nat.le_refl _) asR rfl) ?_
    refine pk_cons rfl rfl (st_call1 hN_1 (by kernel_rfl) (by kernel_rfl) (by kernel_rfl) rfl rfl fun w x v1 hC h1 => tz (l_add1 9 (lz h1) (by decide) (by decide))) ?_
    refine pk_cons rfl rfl (st_pure [] [(1, .pointer (some ⟨w.heap.size, 0, none⟩))] (.pointer (some ⟨w.heap.size, 2, none⟩)) rfl hN_1 (by kernel_rfl) (by kernel_rfl) (by kernel_rfl) (old1 e1_1) (by kernel_rfl) (by kernel_rfl) (by kernel_rfl) (fun _ => by kernel_rfl)) ?_
    refine pk_cons rfl rfl (st_loadA f1'_1 (by simp only [List.mem_singleton]; omega) hN_1 (by kernel_rfl) (by kernel_rfl) rfl rfl) ?_
    refine pk_cons rfl rfl (st_list1 hN_1 (by kernel_rfl) (by kernel_rfl) (Nat.le_refl _) asR rfl) ?_
    refine pk_cons rfl rfl (st_call1 hN_1 (by kernel_rfl) (by kernel_rfl) (by kernel_rfl) rfl rfl fun w x v1 hC h1 => tz (l_add1 9 (lz h1) (by decide) (by decide))) ?_
    refine pk_cons rfl rfl (st_buildP (k := 9) hN_1 (by kernel_rfl) (by kernel_rfl) (by kernel_rfl) (by kernel_rfl) (by kernel_rfl) (by kernel_rfl) rfl rfl rfl) ?_
    refine pk_cons rfl rfl (st_buildF hN_1 (by kernel_rfl) (by kernel_rfl) rfl rfl) ?_
    refine pk_cons rfl rfl (st_resF R_1 rfl (by simp) e2_1 hN_1 (by kernel_rfl) (by kernel_rfl) rfl rfl) ?_
    exact pk_nil rfl
  intro W x hC hall
  refine then_n ?_
  obtain ⟨a1, ha⟩ : ∃ a, a = putE x a_1 [(0, some 7), (1, some 8), (2, some 9), (3, some 10), (4, some 11), (5, some 12), (6, some 13), (7, some 14), (8, some 15), (9, some 16), (10, none)] := ⟨_, rfl⟩
  rw [← ha]
  have hD1 := defers_behind ha hD_1
  have bb1 := bb_1.trans hC.below
  obtain ⟨cs, hg, hP⟩ := (show (kRes (w.heap.size + 1) 9 ((a.num)) (((a.den : Int)))).sem _ _ _ _ from hall 10 (of_decide_eq_true (by kernel_rfl)))
  have e1 := slot_old (t := 2) ha (by kernel_rfl) e2_1
  repeat (first | refine wp_seq ?_ | (refine wp_skip ?_; refine then_n ?_))
  refine wp_ret ?_
  repeat (refine then_r ?_)
  exact ret_cellF (t := 2) rfl hD1 e1 hg hP fun v hv => ⟨v, rfl, hv, bb1⟩
set_option maxRecDepth 100000 in
set_option maxHeartbeats 4000000 in
theorem right_19 {w : World} {v1 : Value} {a : Rat} (h1 : Pr w v1 19 (a.num) ((a.den : Int))) :
    Calls Tryz.prog 11 #[v1] w (fun e w' => e = .returned (.bool true) ∧ Below w.heap.size w w') := by
  obtain ⟨A1, l1, c1, A1', l1', c1', rfl, ⟨r1, u1⟩, r1', u1'⟩ := h1
  obtain ⟨b1, hb1⟩ : ∃ s, s = decide (a.num < 0) := ⟨_, rfl⟩
  obtain ⟨b1', hb1'⟩ : ∃ s, s = decide ((a.den : Int) < 0) := ⟨_, rfl⟩
  rw [← hb1, ← hb1']
  have H1 := Lib.hid (show _ ∧ _ ∧ _ ∧ _ ∧ _ ∧ _ from ⟨hb1, hb1', r1, u1, r1', u1'⟩)
  clear hb1 hb1' r1 u1 r1' u1'
  go_enter Tryz.func11, Tryz.ntmps11
  repeat (refine wp_seq ?_)
  refine region_k ?_
  intro K hK
  have HK := Lib.hid hK
  clear hK
  go_wp2
  refine HK.out _ _ ?_
  clear HK
  refine then_n ?_
  obtain ⟨W_0, hW⟩ : ∃ W, W = w.alloc (Obj.cells #[Value.bool b1, Value.slice A1 l1 c1, Value.bool b1', Value.slice A1' l1' c1'] 27) := ⟨_, rfl⟩
  have bb_0 : Below w.heap.size w W_0 := by rw [hW]; exact bal (Below.refl _ _) _
  have K0 : W_0.heap[w.heap.size]? = some (Obj.cells #[Value.bool b1, Value.slice A1 l1 c1, Value.bool b1', Value.slice A1' l1' c1'] 27) := by rw [hW]; exact new_at (by simp)
  rw [← hW]
  obtain ⟨m1, n1, m1', n1', _, _, _, _⟩ := four_cells K0
  have f1_0 : AtR W_0 (w.heap.size) 0 19 (a.num) := ⟨A1, l1, c1, by rw [← H1.out.1]; exact m1, n1, A1, l1, c1, rfl, H1.out.2.2.1.below bb_0, H1.out.2.2.2.1⟩
  have f1'_0 : AtR W_0 (w.heap.size) 2 19 ((a.den : Int)) := ⟨A1', l1', c1', by rw [← H1.out.2.1]; exact m1', n1', A1', l1', c1', rfl, H1.out.2.2.2.2.1.below bb_0, H1.out.2.2.2.2.2⟩
  clear m1 n1 m1' n1'
  clear hW K0
  refine name_frame (G := fun a => Code.wp _ _ _ a _) ?_
  intro a_0 ha
  have hN_0 : a_0.tmps.size = 32 := by subst ha; kernel_rfl
  have hD_0 : a_0.defers = [] := by subst ha; rfl
  have e1_0 : a_0.eval (.tmp 1) = .pointer (some ⟨w.heap.size, 0, none⟩) := by subst ha; kernel_rfl
  clear ha
  repeat (first | refine wp_seq ?_ | (refine wp_skip ?_; refine then_n ?_))
  refine wp_region_law hN_0 w.heap.size
    [kIs (.pointer (some ⟨w.heap.size, 0, none⟩)), kZ 19 (a.num), kIs (.bool true), kIs (.bool false), kIs (.bool false), kIs (.pointer (some ⟨w.heap.size, 2, none⟩)), kZ 19 ((a.den : Int)), kIs (.bool true), kIs (.bool false), kIs (.bool false)]
    [ [], [(0, some 3)], [(1, some 4)], [(2, some 5)], [(3, some 6)], [], [(5, some 8)], [(6, some 9)], [(7, some 10)], [(4, some 7), (8, some 11)] ]
    [(0, some 3), (1, some 4), (2, some 5), (3, some 6), (4, some 7), (5, some 8), (6, some 9), (7, some 10), (8, some 11), (9, some 12)] [(4, false)] [] (by kernel_rfl) (by kernel_rfl) (by kernel_rfl) (by kernel_rfl) (by kernel_rfl) (by kernel_rfl) (by kernel_rfl) bb_0.size ?_ ?_
  ·
    refine pk_cons rfl rfl (st_pure [] [(1, .pointer (some ⟨w.heap.size, 0, none⟩))] (.pointer (some ⟨w.heap.size, 0, none⟩)) rfl hN_0 (by kernel_rfl) (by kernel_rfl) (by kernel_rfl) (old1 e1_0) (by kernel_rfl) (by kernel_rfl) (by kernel_rfl) (fun _ => by kernel_rfl)) ?_
    refine pk_cons rfl rfl (st_loadA f1_0 (by simp) hN_0 (by kernel_rfl) (by kernel_rfl) rfl rfl) ?_
    refine pk_cons rfl rfl (st_call1 hN_0 (by kernel_rfl) (by kernel_rfl) (by kernel_rfl) rfl rfl fun w x v1 hC h1 => ti (z_right (rr h1))) ?_
    refine pk_cons rfl rfl (st_pure [.bool true] [] (.bool false) rfl hN_0 (by kernel_rfl) (by kernel_rfl) (by kernel_rfl) old0 (by kernel_rfl) (by kernel_rfl) (by kernel_rfl) (fun _ => by kernel_rfl)) ?_
    refine pk_cons rfl rfl (st_pure [.bool false] [] (.bool false) rfl hN_0 (by kernel_rfl) (by kernel_rfl) (by kernel_rfl) old0 (by kernel_rfl) (by kernel_rfl) (by kernel_rfl) (fun _ => by kernel_rfl)) ?_
    refine pk_cons rfl rfl (st_pure [] [(1, .pointer (some ⟨w.heap.size, 0, none⟩))] (.pointer (some ⟨w.heap.size, 2, none⟩)) rfl hN_0 (by kernel_rfl) (by kernel_rfl) (by kernel_rfl) (old1 e1_0) (by kernel_rfl) (by kernel_rfl) (by kernel_rfl) (fun _ => by kernel_rfl)) ?_
    refine pk_cons rfl rfl (st_loadA f1'_0 (by simp) hN_0 (by kernel_rfl) (by kernel_rfl) rfl rfl) ?_
    refine pk_cons rfl rfl (st_call1 hN_0 (by kernel_rfl) (by kernel_rfl) (by kernel_rfl) rfl rfl fun w x v1 hC h1 => ti (z_right (rr h1))) ?_
    refine pk_cons rfl rfl (st_pure [.bool true] [] (.bool false) rfl hN_0 (by kernel_rfl) (by kernel_rfl) (by kernel_rfl) old0 (by kernel_rfl) (by kernel_rfl) (by kernel_rfl) (fun _ => by kernel_rfl)) ?_
    refine pk_cons rfl rfl (st_pure [.bool false, .bool false] [] (.bool false) rfl hN_0 (by kernel_rfl) (by kernel_rfl) (by kernel_rfl) old0 (by kernel_rfl) (by kernel_rfl) (by kernel_rfl) (fun _ => by kernel_rfl)) ?_
    exact pk_nil rfl
  intro W_1 x hC hall
  refine then_n ?_
  obtain ⟨a_1, ha⟩ : ∃ a, a = putE x a_0 [(0, some 3), (1, some 4), (2, some 5), (3, some 6), (4, some 7), (5, some 8), (6, some 9), (7, some 10), (8, some 11), (9, some 12)] := ⟨_, rfl⟩
  rw [← ha]
  have hN_1 := size_behind ha hN_0
  have hD_1 := defers_behind ha hD_0
  have bb_1 := bb_0.trans hC.below
  have e1_1 := slot_old ha (by kernel_rfl) e1_0
  have f1_1 := hC.at0 f1_0
  have f1'_1 := hC.at0 f1'_0
  have e12_1 := (slot_new (t := 12) (i := 9) ha hN_0 (by kernel_rfl) (by kernel_rfl)).trans (show x 9 = .bool false from hall 9 (of_decide_eq_true (by kernel_rfl)))
  clear hall hC ha bb_0 hD_0 e1_0 f1_0 f1'_0
  repeat (first | refine wp_seq ?_ | (refine wp_skip ?_; refine then_n ?_))
  refine wp_cond_false e12_1 ?_
  repeat (first | refine wp_seq ?_ | (refine wp_skip ?_; refine then_n ?_))
  refine wp_region_law hN_1 w.heap.size
    [kIs (.pointer (some ⟨w.heap.size, 2, none⟩)), kZ 19 ((a.den : Int)), kIs (.bool false), kIs (.bool true), kIs (.bool true), kIs (.pointer (some ⟨w.heap.size, 2, none⟩)), kIs (.pointer (some ⟨w.heap.size, 2, none⟩)), kIs (.bool false), kIs (.bool true), kIs (.bool true), kIs (.bool true), kIs (.pointer (some ⟨w.heap.size, 0, none⟩)), kZ 19 (a.num), kIs (.pointer (some ⟨w.heap.size, 2, none⟩)), kZ 19 ((a.den : Int)), kZs [(19, (a.num)), (19, ((a.den : Int)))], kZ 19 (((zgcd [(a.num), ((a.den : Int))] : Nat) : Int)), kIs (.bool true), kIs (.bool true), kIs (.bool true)]
    [ [], [(0, some 13)], [(1, some 14)], [(2, some 15)], [(3, some 16)], [], [(5, some 18)], [(6, some 19)], [(7, some 20)], [(4, some 17), (8, some 21)], [(9, some 22)], [], [(11, some 24)], [], [(13, some 26)], [(12, some 25), (14, some 27)], [(15, some 28)], [(16, some 29)], [(10, some 23), (17, some 30)], [(18, some 31)] ]
    [(0, some 13), (1, some 14), (2, some 15), (3, some 16), (4, some 17), (5, some 18), (6, some 19), (7, some 20), (8, some 21), (9, some 22), (10, some 23), (11, some 24), (12, some 25), (13, some 26), (14, some 27), (15, some 28), (16, some 29), (17, some 30), (18, some 31), (19, some 2)] [(4, true), (10, true)] [] (by kernel_rfl) (by kernel_rfl) (by kernel_rfl) (by kernel_rfl) (by kernel_rfl) (by kernel_rfl) (by kernel_rfl) bb_1.size ?_ ?_
  ·
    refine pk_cons rfl rfl (st_pure [] [(1, .pointer (some ⟨w.heap.size, 0, none⟩))] (.pointer (some ⟨w.heap.size, 2, none⟩)) rfl hN_1 (by kernel_rfl) (by kernel_rfl) (by kernel_rfl) (old1 e1_1) (by kernel_rfl) (by kernel_rfl) (by kernel_rfl) (fun _ => by kernel_rfl)) ?_
    refine pk_cons rfl rfl (st_loadA f1'_1 (by simp) hN_1 (by kernel_rfl) (by kernel_rfl) rfl rfl) ?_
    refine pk_cons rfl rfl (st_call1 hN_1 (by kernel_rfl) (by kernel_rfl) (by kernel_rfl) rfl rfl fun w x v1 hC h1 => ti (isNone_z (rr h1) (den_ne a))) ?_
    refine pk_cons rfl rfl (st_pure [.bool false] [] (.bool true) rfl hN_1 (by kernel_rfl) (by kernel_rfl) (by kernel_rfl) old0 (by kernel_rfl) (by kernel_rfl) (by kernel_rfl) (fun _ => by kernel_rfl)) ?_
    refine pk_cons rfl rfl (st_pure [.bool true] [] (.bool true) rfl hN_1 (by kernel_rfl) (by kernel_rfl) (by kernel_rfl) old0 (by kernel_rfl) (by kernel_rfl) (by kernel_rfl) (fun _ => by kernel_rfl)) ?_
    refine pk_cons rfl rfl (st_pure [] [(1, .pointer (some ⟨w.heap.size, 0, none⟩))] (.pointer (some ⟨w.heap.size, 2, none⟩)) rfl hN_1 (by kernel_rfl) (by kernel_rfl) (by kernel_rfl) (old1 e1_1) (by kernel_rfl) (by kernel_rfl) (by kernel_rfl) (fun _ => by kernel_rfl)) ?_
    refine pk_cons rfl rfl (st_pure [.pointer (some ⟨w.heap.size, 2, none⟩)] [] (.pointer (some ⟨w.heap.size, 2, none⟩)) rfl hN_1 (by kernel_rfl) (by kernel_rfl) (by kernel_rfl) old0 (by kernel_rfl) (by kernel_rfl) (by kernel_rfl) (fun _ => by kernel_rfl)) ?_
    refine pk_cons rfl rfl (st_loadS (s := false) f1'_1 (den_sign a) (by simp) hN_1 (by kernel_rfl) (by kernel_rfl) rfl rfl) ?_
    refine pk_cons rfl rfl (st_pure [.bool false] [] (.bool true) rfl hN_1 (by kernel_rfl) (by kernel_rfl) (by kernel_rfl) old0 (by kernel_rfl) (by kernel_rfl) (by kernel_rfl) (fun _ => by kernel_rfl)) ?_
    refine pk_cons rfl rfl (st_pure [.bool true, .bool true] [] (.bool true) rfl hN_1 (by kernel_rfl) (by kernel_rfl) (by kernel_rfl) old0 (by kernel_rfl) (by kernel_rfl) (by kernel_rfl) (fun _ => by kernel_rfl)) ?_
    refine pk_cons rfl rfl (st_pure [.bool true] [] (.bool true) rfl hN_1 (by kernel_rfl) (by kernel_rfl) (by kernel_rfl) old0 (by kernel_rfl) (by kernel_rfl) (by kernel_rfl) (fun _ => by kernel_rfl)) ?_
    refine pk_cons rfl rfl (st_pure [] [(1, .pointer (some ⟨w.heap.size, 0, none⟩))] (.pointer (some ⟨w.heap.size, 0, none⟩)) rfl hN_1 (by kernel_rfl) (by kernel_rfl) (by kernel_rfl) (old1 e1_1) (by kernel_rfl) (by kernel_rfl) (by kernel_rfl) (fun _ => by kernel_rfl)) ?_
    refine pk_cons rfl rfl (st_loadA f1_1 (by simp) hN_1 (by kernel_rfl) (by kernel_rfl) rfl rfl) ?_
    refine pk_cons rfl rfl (st_pure [] [(1, .pointer (some ⟨w.heap.size, 0, none⟩))] (.pointer (some ⟨w.heap.size, 2, none⟩)) rfl hN_1 (by kernel_rfl) (by kernel_rfl) (by kernel_rfl) (old1 e1_1) (by kernel_rfl) (by kernel_rfl) (by kernel_rfl) (fun _ => by kernel_rfl)) ?_
    refine pk_cons rfl rfl (st_loadA f1'_1 (by simp) hN_1 (by kernel_rfl) (by kernel_rfl) rfl rfl) ?_
    refine pk_cons rfl rfl (st_list2 hN_1 (by kernel_rfl) (by kernel_rfl) (by kernel_rfl) (by kernel_rfl) (Nat.le_refl _) asR asR rfl) ?_
    refine pk_cons rfl rfl (st_call1 hN_1 (by kernel_rfl) (by kernel_rfl) (by kernel_rfl) rfl rfl fun w x v1 hC h1 => tz (l_gcd 19 (lz h1) (by kernel_rfl) (by decide) (by simp))) ?_
    refine pk_cons rfl rfl (st_call1 hN_1 (by kernel_rfl) (by kernel_rfl) (by kernel_rfl) rfl rfl fun w x v1 hC h1 => ti (isOne_z1 (gcd_one a) ((rr h1).mono (by decide)))) ?_
    refine pk_cons rfl rfl (st_pure [.bool true, .bool true] [] (.bool true) rfl hN_1 (by kernel_rfl) (by kernel_rfl) (by kernel_rfl) old0 (by kernel_rfl) (by kernel_rfl) (by kernel_rfl) (fun _ => by kernel_rfl)) ?_
    refine pk_cons rfl rfl (st_pure [.bool true] [] (.bool true) rfl hN_1 (by kernel_rfl) (by kernel_rfl) (by kernel_rfl) old0 (by kernel_rfl) (by kernel_rfl) (by kernel_rfl) (fun _ => by kernel_rfl)) ?_
    exact pk_nil rfl
  intro W x hC hall
  refine then_n ?_
  obtain ⟨a1, ha⟩ : ∃ a, a = putE x a_1 [(0, some 13), (1, some 14), (2, some 15), (3, some 16), (4, some 17), (5, some 18), (6, some 19), (7, some 20), (8, some 21), (9, some 22), (10, some 23), (11, some 24), (12, some 25), (13, some 26), (14, some 27), (15, some 28), (16, some 29), (17, some 30), (18, some 31), (19, some 2)] := ⟨_, rfl⟩
  rw [← ha]
  have hD1 := defers_behind ha hD_1
  have bb1 := bb_1.trans hC.below
  have e1 := (slot_new (t := 2) (i := 19) ha hN_1 (by kernel_rfl) (by kernel_rfl)).trans (show x 19 = .bool true from hall 19 (of_decide_eq_true (by kernel_rfl)))
  repeat (first | refine wp_seq ?_ | (refine wp_skip ?_; refine then_n ?_))
  refine wp_ret ?_
  repeat (refine then_r ?_)
  exact ret_one (t := 2) rfl hD1 e1 ⟨rfl, bb1⟩
set_option maxRecDepth 100000 in
set_option maxHeartbeats 4000000 in
theorem of_19 {w : World} {v1 : Value} {a : Rat} (h1 : Pr w v1 19 (a.num) ((a.den : Int))) :
    Calls Tryz.prog 44 #[v1] w (TellsP w 19 ((a.num)) (((a.den : Int)))) := by
  obtain ⟨A1, l1, c1, A1', l1', c1', rfl, ⟨r1, u1⟩, r1', u1'⟩ := h1
  obtain ⟨b1, hb1⟩ : ∃ s, s = decide (a.num < 0) := ⟨_, rfl⟩
  obtain ⟨b1', hb1'⟩ : ∃ s, s = decide ((a.den : Int) < 0) := ⟨_, rfl⟩
  rw [← hb1, ← hb1']
  have H1 := Lib.hid (show _ ∧ _ ∧ _ ∧ _ ∧ _ ∧ _ from ⟨hb1, hb1', r1, u1, r1', u1'⟩)
  clear hb1 hb1' r1 u1 r1' u1'
  go_enter Tryz.func44, Tryz.ntmps44
  repeat (refine wp_seq ?_)
  refine region_k ?_
  intro K hK
  have HK := Lib.hid hK
  clear hK
  go_wp2
  refine HK.out _ _ ?_
  clear HK
  refine then_n ?_
  obtain ⟨W_0, hW⟩ : ∃ W, W = (w.alloc (Obj.cells #[Value.bool b1, Value.slice A1 l1 c1, Value.bool b1', Value.slice A1' l1' c1'] 27)).alloc (Obj.cells #[Value.bool false, Value.slice none 0 0, Value.bool false, Value.slice none 0 0] 53) := ⟨_, rfl⟩
  have bb_0 : Below w.heap.size w W_0 := by rw [hW]; exact bal (bal (Below.refl _ _) _) _
  have K0 : W_0.heap[w.heap.size]? = some (Obj.cells #[Value.bool b1, Value.slice A1 l1 c1, Value.bool b1', Value.slice A1' l1' c1'] 27) := by rw [hW]; rw [Below.heap_alloc _ _ _ (by simp <;> omega)]; exact new_at (by simp)
  have K1 : W_0.heap[w.heap.size + 1]? = some (Obj.cells #[Value.bool false, Value.slice none 0 0, Value.bool false, Value.slice none 0 0] 53) := by rw [hW]; exact new_at (by simp)
  rw [← hW]
  obtain ⟨m1, n1, m1', n1', _, _, _, _⟩ := four_cells K0
  have f1_0 : AtR W_0 (w.heap.size) 0 19 (a.num) := ⟨A1, l1, c1, by rw [← H1.out.1]; exact m1, n1, A1, l1, c1, rfl, H1.out.2.2.1.below bb_0, H1.out.2.2.2.1⟩
  have f1'_0 : AtR W_0 (w.heap.size) 2 19 ((a.den : Int)) := ⟨A1', l1', c1', by rw [← H1.out.2.1]; exact m1', n1', A1', l1', c1', rfl, H1.out.2.2.2.2.1.below bb_0, H1.out.2.2.2.2.2⟩
  clear m1 n1 m1' n1'
  have R_0 : Holds_ W_0 (w.heap.size + 1) #[Value.bool false, Value.slice none 0 0, Value.bool false, Value.slice none 0 0] := ⟨⟨_, K1⟩, by simp [noDig]⟩
  clear hW K0 K1
  refine name_frame (G := fun a => Code.wp _ _ _ a _) ?_
  intro a_0 ha
  have hN_0 : a_0.tmps.size = 17 := by subst ha; kernel_rfl
  have hD_0 : a_0.defers = [] := by subst ha; rfl
  have e1_0 : a_0.eval (.tmp 1) = .pointer (some ⟨w.heap.size, 0, none⟩) := by subst ha; kernel_rfl
  have e2_0 : a_0.eval (.tmp 2) = .pointer (some ⟨w.heap.size + 1, 0, none⟩) := by subst ha; kernel_rfl
  clear ha
  repeat (first | refine wp_seq ?_ | (refine wp_skip ?_; refine then_n ?_))
  refine wp_region_law hN_0 w.heap.size
    [kP 19 (a.num) ((a.den : Int)), kIs (.bool true), kIs (.bool false)]
    [ [], [(0, some 3)], [(1, some 4)] ]
    [(0, some 3), (1, some 4), (2, some 5)] [] [] (by kernel_rfl) (by kernel_rfl) (by kernel_rfl) (by kernel_rfl) (by kernel_rfl) (by kernel_rfl) (by kernel_rfl) bb_0.size ?_ ?_
  ·
    refine pk_cons rfl rfl (st_load4P f1_0 f1'_0 (by simp) e1_0 hN_0 (by kernel_rfl) rfl) ?_
    refine pk_cons rfl rfl (st_call1 hN_0 (by kernel_rfl) (by kernel_rfl) (by kernel_rfl) rfl rfl fun w x v1 hC h1 => ti (right_19 (pm (by decide) h1))) ?_
    refine pk_cons rfl rfl (st_pure [.bool true] [] (.bool false) rfl hN_0 (by kernel_rfl) (by kernel_rfl) (by kernel_rfl) old0 (by kernel_rfl) (by kernel_rfl) (by kernel_rfl) (fun _ => by kernel_rfl)) ?_
    exact pk_nil rfl
  intro W_1 x hC hall
  refine then_n ?_
  obtain ⟨a_1, ha⟩ : ∃ a, a = putE x a_0 [(0, some 3), (1, some 4), (2, some 5)] := ⟨_, rfl⟩
  rw [← ha]
  have hN_1 := size_behind ha hN_0
  have hD_1 := defers_behind ha hD_0
  have bb_1 := bb_0.trans hC.below
  have e1_1 := slot_old ha (by kernel_rfl) e1_0
  have e2_1 := slot_old ha (by kernel_rfl) e2_0
  have f1_1 := hC.at0 f1_0
  have f1'_1 := hC.at0 f1'_0
  have R_1 := hC.holds R_0
  have e5_1 := (slot_new (t := 5) (i := 2) ha hN_0 (by kernel_rfl) (by kernel_rfl)).trans (show x 2 = .bool false from hall 2 (of_decide_eq_true (by kernel_rfl)))
  clear hall hC ha bb_0 hD_0 e1_0 e2_0 f1_0 f1'_0 R_0
  repeat (first | refine wp_seq ?_ | (refine wp_skip ?_; refine then_n ?_))
  refine wp_cond_false e5_1 ?_
  repeat (first | refine wp_seq ?_ | (refine wp_skip ?_; refine then_n ?_))
  refine wp_region_res hN_1 w.heap.size (w.heap.size + 1) R_1 (by omega)
    [kIs (.pointer (some ⟨w.heap.size, 0, none⟩)), kZ 19 (a.num), kZs [(19, (a.num))], kZ 19 ((a.num)), kIs (.pointer (some ⟨w.heap.size, 2, none⟩)), kZ 19 ((a.den : Int)), kZs [(19, ((a.den : Int)))], kZ 19 (((a.den : Int))), kP 19 ((a.num)) (((a.den : Int))), kP 19 ((a.num)) (((a.den : Int))), kRes (w.heap.size + 1) 19 ((a.num)) (((a.den : Int)))]
    [ [], [(0, some 7)], [(1, some 8)], [(2, some 9)], [], [(4, some 11)], [(5, some 12)], [(6, some 13)], [(3, some 10), (7, some 14)], [(8, some 15)], [(9, some 16)] ]
    [(0, some 7), (1, some 8), (2, some 9), (3, some 10), (4, some 11), (5, some 12), (6, some 13), (7, some 14), (8, some 15), (9, some 16), (10, none)] [] [] (by kernel_rfl) (by kernel_rfl) (by kernel_rfl) (by kernel_rfl) (by kernel_rfl) (by kernel_rfl) (by kernel_rfl) bb_1.size ?_ ?_
  ·
    refine pk_cons rfl rfl (st_pure [] [(1, .pointer (some ⟨w.heap.size, 0, none⟩))] (.pointer (some ⟨w.heap.size, 0, none⟩)) rfl hN_1 (by kernel_rfl) (by kernel_rfl) (by kernel_rfl) (old1 e1_1) (by kernel_rfl) (by kernel_rfl) (by kernel_rfl) (fun _ => by kernel_rfl)) ?_
    refine pk_cons rfl rfl (st_loadA f1_1 (by simp only [List.mem_singleton]; omega) hN_1 (by kernel_rfl) (by kernel_rfl) rfl rfl) ?_
    refine pk_cons rfl rfl (st_list1 hN_1 (by kernel_rfl) (by kernel_rfl) (Nat.le_refl _) asR rfl) ?_
    refine pk_cons rfl rfl (st_call1 hN_1 (by kernel_rfl) (by kernel_rfl) (by kernel_rfl) rfl rfl fun w x v1 hC h1 => tz (l_add1 19 (lz h1) (by decide) (by decide))) ?_
    refine pk_cons rfl rfl (st_pure [] [(1, .pointer (some ⟨w.heap.size, 0, none⟩))] (.pointer (some ⟨w.heap.size, 2, none⟩)) rfl hN_1 (by kernel_rfl) (by kernel_rfl) (by kernel_rfl) (old1 e1_1) (by kernel_rfl) (by kernel_rfl) (by kernel_rfl) (fun _ => by kernel_rfl)) ?_
    refine pk_cons rfl rfl (st_loadA f1'_1 (by simp only [List.mem_singleton]; omega) hN_1 (by kernel_rfl) (by kernel_rfl) rfl rfl) ?_
    refine pk_cons rfl rfl (st_list1 hN_1 (by kernel_rfl) (by kernel_rfl) (Nat.le_refl _) asR rfl) ?_
    refine pk_cons rfl rfl (st_call1 hN_1 (by kernel_rfl) (by kernel_rfl) (by kernel_rfl) rfl rfl fun w x v1 hC h1 => tz (l_add1 19 (lz h1) (by decide) (by decide))) ?_
    refine pk_cons rfl rfl (st_buildP (k := 19) hN_1 (by kernel_rfl) (by kernel_rfl) (by kernel_rfl) (by kernel_rfl) (by kernel_rfl) (by kernel_rfl) rfl rfl rfl) ?_
    refine pk_cons rfl rfl (st_buildF hN_1 (by kernel_rfl) (by kernel_rfl) rfl rfl) ?_
    refine pk_cons rfl rfl (st_resF R_1 rfl (by simp) e2_1 hN_1 (by kernel_rfl) (by kernel_rfl) rfl rfl) ?_
    exact pk_nil rfl
  intro W x hC hall
  refine then_n ?_
  obtain ⟨a1, ha⟩ : ∃ a, a = putE x a_1 [(0, some 7), (1, some 8), (2, some 9), (3, some 10), (4, some 11), (5, some 12), (6, some 13), (7, some 14), (8, some 15), (9, some 16), (10, none)] := ⟨_, rfl⟩
  rw [← ha]
  have hD1 := defers_behind ha hD_1
  have bb1 := bb_1.trans hC.below
  obtain ⟨cs, hg, hP⟩ := (show (kRes (w.heap.size + 1) 19 ((a.num)) (((a.den : Int)))).sem _ _ _ _ from hall 10 (of_decide_eq_true (by kernel_rfl)))
  have e1 := slot_old (t := 2) ha (by kernel_rfl) e2_1
  repeat (first | refine wp_seq ?_ | (refine wp_skip ?_; refine then_n ?_))
  refine wp_ret ?_
  repeat (refine then_r ?_)
  exact ret_cellF (t := 2) rfl hD1 e1 hg hP fun v hv => ⟨v, rfl, hv, bb1⟩
end Go.Proofs.YthgclmkhmcfflaaGreatDoor
namespace Go.Proofs.YthgclmkhmcfflaaGreatDoor
open Go.RowKit
set_option maxRecDepth 100000 in
set_option maxHeartbeats 4000000 in
theorem whole_9 {w : World} {v1 : Value} {z : Int} (h1 : Zr w v1 9 (z)) :
    Calls Tryz.prog 39 #[v1] w (TellsP w 9 (z) ((1 : Int))) := by
  obtain ⟨A1, l1, c1, rfl, r1, u1⟩ := h1
  obtain ⟨b1, hb1⟩ : ∃ s, s = decide (z < 0) := ⟨_, rfl⟩
  rw [← hb1]
  have H1 := Lib.hid (show _ ∧ _ ∧ _ from ⟨hb1, r1, u1⟩)
  clear hb1 r1 u1
  go_enter Tryz.func39, Tryz.ntmps39
  repeat (refine wp_seq ?_)
  refine region_k ?_
  intro K hK
  have HK := Lib.hid hK
  clear hK
  go_wp2
  refine HK.out _ _ ?_
  clear HK
  refine then_n ?_
  obtain ⟨W_0, hW⟩ : ∃ W, W = (w.alloc (Obj.cells #[Value.bool b1, Value.slice A1 l1 c1] 25)).alloc (Obj.cells #[Value.bool false, Value.slice none 0 0, Value.bool false, Value.slice none 0 0] 53) := ⟨_, rfl⟩
  have bb_0 : Below w.heap.size w W_0 := by rw [hW]; exact bal (bal (Below.refl _ _) _) _
  have K0 : W_0.heap[w.heap.size]? = some (Obj.cells #[Value.bool b1, Value.slice A1 l1 c1] 25) := by rw [hW]; rw [Below.heap_alloc _ _ _ (by simp <;> omega)]; exact new_at (by simp)
  have K1 : W_0.heap[w.heap.size + 1]? = some (Obj.cells #[Value.bool false, Value.slice none 0 0, Value.bool false, Value.slice none 0 0] 53) := by rw [hW]; exact new_at (by simp)
  rw [← hW]
  obtain ⟨m1, n1, _, _⟩ := cell_of_two K0
  have f1_0 : AtR W_0 (w.heap.size) 0 9 (z) := ⟨A1, l1, c1, by rw [← H1.out.1]; exact m1, n1, A1, l1, c1, rfl, H1.out.2.1.below bb_0, H1.out.2.2⟩
  clear m1 n1
  have R_0 : Holds_ W_0 (w.heap.size + 1) #[Value.bool false, Value.slice none 0 0, Value.bool false, Value.slice none 0 0] := ⟨⟨_, K1⟩, by simp [noDig]⟩
  clear hW K0 K1
  refine name_frame (G := fun a => Code.wp _ _ _ a _) ?_
  intro a_0 ha
  have hN_0 : a_0.tmps.size = 7 := by subst ha; kernel_rfl
  have hD_0 : a_0.defers = [] := by subst ha; rfl
  have e1_0 : a_0.eval (.tmp 1) = .pointer (some ⟨w.heap.size, 0, none⟩) := by subst ha; kernel_rfl
  have e2_0 : a_0.eval (.tmp 2) = .pointer (some ⟨w.heap.size + 1, 0, none⟩) := by subst ha; kernel_rfl
  clear ha
  repeat (first | refine wp_seq ?_ | (refine wp_skip ?_; refine then_n ?_))
  refine wp_region_res hN_0 w.heap.size (w.heap.size + 1) R_0 (by omega)
    [kZ 9 (z), kZ 1 ((1 : Int)), kP 9 (z) ((1 : Int)), kP 9 (z) ((1 : Int)), kRes (w.heap.size + 1) 9 (z) ((1 : Int))]
    [ [], [], [(0, some 3), (1, some 4)], [(2, some 5)], [(3, some 6)] ]
    [(0, some 3), (1, some 4), (2, some 5), (3, some 6), (4, none)] [] [] (by kernel_rfl) (by kernel_rfl) (by kernel_rfl) (by kernel_rfl) (by kernel_rfl) (by kernel_rfl) (by kernel_rfl) bb_0.size ?_ ?_
  ·
    refine pk_cons rfl rfl (st_loadB f1_0 (by simp only [List.mem_singleton]; omega) e1_0 hN_0 (by kernel_rfl) rfl) ?_
    refine pk_cons rfl rfl (st_call0 [.int .i64 (1)] hN_0 (by kernel_rfl) (by kernel_rfl) rfl rfl fun w x hC => tz (z_of (1) 1 (by decide) (by decide) (by decide))) ?_
    refine pk_cons rfl rfl (st_buildP (k := 9) hN_0 (by kernel_rfl) (by kernel_rfl) (by kernel_rfl) (by kernel_rfl) (by kernel_rfl) (by kernel_rfl) rfl rfl rfl) ?_
    refine pk_cons rfl rfl (st_buildF hN_0 (by kernel_rfl) (by kernel_rfl) rfl rfl) ?_
    refine pk_cons rfl rfl (st_resF R_0 rfl (by simp) e2_0 hN_0 (by kernel_rfl) (by kernel_rfl) rfl rfl) ?_
    exact pk_nil rfl
  intro W x hC hall
  refine then_n ?_
  obtain ⟨a1, ha⟩ : ∃ a, a = putE x a_0 [(0, some 3), (1, some 4), (2, some 5), (3, some 6), (4, none)] := ⟨_, rfl⟩
  rw [← ha]
  have hD1 := defers_behind ha hD_0
  have bb1 := bb_0.trans hC.below
  obtain ⟨cs, hg, hP⟩ := (show (kRes (w.heap.size + 1) 9 (z) ((1 : Int))).sem _ _ _ _ from hall 4 (of_decide_eq_true (by kernel_rfl)))
  have e1 := slot_old (t := 2) ha (by kernel_rfl) e2_0
  repeat (first | refine wp_seq ?_ | (refine wp_skip ?_; refine then_n ?_))
  refine wp_ret ?_
  repeat (refine then_r ?_)
  exact ret_cellF (t := 2) rfl hD1 e1 hg hP fun v hv => ⟨v, rfl, hv, bb1⟩
end Go.Proofs.YthgclmkhmcfflaaGreatDoor
namespace Go.Proofs.YthgclmkhmcfflaaGreatDoor
open Go.RowKit
theorem zr_none {w : World} {v : Value} (h : v = .agg #[.bool false, .slice none 0 0]) : Zr w v 9 0 := ⟨none, 0, 0, h, rr_nil _, by simp⟩
theorem z_sameInt {w : World} {v1 v2 : Value} {j k : Nat} {x : Int} (h1 : Zr w v1 j x) (h2 : Zr w v2 k x) : Calls Tryz.prog 66 #[v1, v2] w fun e w' => e = .returned (.bool true) ∧ Below w.heap.size w w' := by
  obtain ⟨A1, l1, c1, rfl, r1, e1⟩ := h1
  obtain ⟨A2, l2, c2, rfl, r2, e2⟩ := h2
  exact sameInt_yes r1 r2
set_option maxRecDepth 100000 in
set_option maxHeartbeats 4000000 in
theorem none_9 {w : World}    :
    Calls Tryz.prog 26 #[] w (TellsP w 9 (0) (1)) := by
  go_enter Tryz.func26, Tryz.ntmps26
  repeat (refine wp_seq ?_)
  refine region_k ?_
  intro K hK
  have HK := Lib.hid hK
  clear hK
  go_wp2
  refine HK.out _ _ ?_
  clear HK
  refine then_n ?_
  obtain ⟨W_0, hW⟩ : ∃ W, W = w.alloc (Obj.cells #[Value.bool false, Value.slice none 0 0, Value.bool false, Value.slice none 0 0] 53) := ⟨_, rfl⟩
  have bb_0 : Below w.heap.size w W_0 := by rw [hW]; exact bal (Below.refl _ _) _
  have K0 : W_0.heap[w.heap.size]? = some (Obj.cells #[Value.bool false, Value.slice none 0 0, Value.bool false, Value.slice none 0 0] 53) := by rw [hW]; exact new_at (by simp)
  rw [← hW]
  have R_0 : Holds_ W_0 (w.heap.size) #[Value.bool false, Value.slice none 0 0, Value.bool false, Value.slice none 0 0] := ⟨⟨_, K0⟩, by simp [noDig]⟩
  clear hW K0
  refine name_frame (G := fun a => Code.wp _ _ _ a _) ?_
  intro a_0 ha
  have hN_0 : a_0.tmps.size = 3 := by subst ha; kernel_rfl
  have hD_0 : a_0.defers = [] := by subst ha; rfl
  have e0_0 : a_0.eval (.tmp 0) = .pointer (some ⟨w.heap.size, 0, none⟩) := by subst ha; kernel_rfl
  clear ha
  repeat (first | refine wp_seq ?_ | (refine wp_skip ?_; refine then_n ?_))
  refine wp_region_res hN_0 w.heap.size (w.heap.size) R_0 (by omega)
    [kIs (.agg #[.bool false, .slice none 0 0]), kP 9 (0) (1), kRes (w.heap.size) 9 (0) (1)]
    [ [], [(0, some 1)], [(1, some 2)] ]
    [(0, some 1), (1, some 2), (2, none)] [] [] (by kernel_rfl) (by kernel_rfl) (by kernel_rfl) (by kernel_rfl) (by kernel_rfl) (by kernel_rfl) (by kernel_rfl) bb_0.size ?_ ?_
  ·
    refine pk_cons rfl rfl (st_pure [] [] (.agg #[.bool false, .slice none 0 0]) rfl hN_0 (by kernel_rfl) (by kernel_rfl) (by kernel_rfl) old0 (by kernel_rfl) (by kernel_rfl) (by kernel_rfl) (fun _ => by kernel_rfl)) ?_
    refine pk_cons rfl rfl (st_call1 hN_0 (by kernel_rfl) (by kernel_rfl) (by kernel_rfl) rfl rfl fun w x v1 hC h1 => tp (whole_9 (zr_none h1))) ?_
    refine pk_cons rfl rfl (st_resF R_0 rfl (by simp) e0_0 hN_0 (by kernel_rfl) (by kernel_rfl) rfl rfl) ?_
    exact pk_nil rfl
  intro W x hC hall
  refine then_n ?_
  obtain ⟨a1, ha⟩ : ∃ a, a = putE x a_0 [(0, some 1), (1, some 2), (2, none)] := ⟨_, rfl⟩
  rw [← ha]
  have hD1 := defers_behind ha hD_0
  have bb1 := bb_0.trans hC.below
  obtain ⟨cs, hg, hP⟩ := (show (kRes (w.heap.size) 9 (0) (1)).sem _ _ _ _ from hall 2 (of_decide_eq_true (by kernel_rfl)))
  have e1 := slot_old (t := 0) ha (by kernel_rfl) e0_0
  repeat (first | refine wp_seq ?_ | (refine wp_skip ?_; refine then_n ?_))
  refine wp_ret ?_
  repeat (refine then_r ?_)
  exact ret_cellF (t := 0) rfl hD1 e1 hg hP fun v hv => ⟨v, rfl, hv, bb1⟩
set_option maxRecDepth 100000 in
set_option maxHeartbeats 4000000 in
theorem same_19 {w : World} {v1 v2 : Value} {x y : Int} (h1 : Pr w v1 19 (x) (y)) (h2 : Pr w v2 19 (x) (y)) :
    Calls Tryz.prog 32 #[v1, v2] w (fun e w' => e = .returned (.bool true) ∧ Below w.heap.size w w') := by
  obtain ⟨A1, l1, c1, A1', l1', c1', rfl, ⟨r1, u1⟩, r1', u1'⟩ := h1
  obtain ⟨b1, hb1⟩ : ∃ s, s = decide (x < 0) := ⟨_, rfl⟩
  obtain ⟨b1', hb1'⟩ : ∃ s, s = decide (y < 0) := ⟨_, rfl⟩
  rw [← hb1, ← hb1']
  have H1 := Lib.hid (show _ ∧ _ ∧ _ ∧ _ ∧ _ ∧ _ from ⟨hb1, hb1', r1, u1, r1', u1'⟩)
  clear hb1 hb1' r1 u1 r1' u1'
  obtain ⟨A2, l2, c2, A2', l2', c2', rfl, ⟨r2, u2⟩, r2', u2'⟩ := h2
  obtain ⟨b2, hb2⟩ : ∃ s, s = decide (x < 0) := ⟨_, rfl⟩
  obtain ⟨b2', hb2'⟩ : ∃ s, s = decide (y < 0) := ⟨_, rfl⟩
  rw [← hb2, ← hb2']
  have H2 := Lib.hid (show _ ∧ _ ∧ _ ∧ _ ∧ _ ∧ _ from ⟨hb2, hb2', r2, u2, r2', u2'⟩)
  clear hb2 hb2' r2 u2 r2' u2'
  go_enter Tryz.func32, Tryz.ntmps32
  repeat (refine wp_seq ?_)
  refine region_k ?_
  intro K hK
  have HK := Lib.hid hK
  clear hK
  go_wp2
  refine HK.out _ _ ?_
  clear HK
  refine then_n ?_
  obtain ⟨W_0, hW⟩ : ∃ W, W = (w.alloc (Obj.cells #[Value.bool b1, Value.slice A1 l1 c1, Value.bool b1', Value.slice A1' l1' c1'] 27)).alloc (Obj.cells #[Value.bool b2, Value.slice A2 l2 c2, Value.bool b2', Value.slice A2' l2' c2'] 27) := ⟨_, rfl⟩
  have bb_0 : Below w.heap.size w W_0 := by rw [hW]; exact bal (bal (Below.refl _ _) _) _
  have K0 : W_0.heap[w.heap.size]? = some (Obj.cells #[Value.bool b1, Value.slice A1 l1 c1, Value.bool b1', Value.slice A1' l1' c1'] 27) := by rw [hW]; rw [Below.heap_alloc _ _ _ (by simp <;> omega)]; exact new_at (by simp)
  have K1 : W_0.heap[w.heap.size + 1]? = some (Obj.cells #[Value.bool b2, Value.slice A2 l2 c2, Value.bool b2', Value.slice A2' l2' c2'] 27) := by rw [hW]; exact new_at (by simp)
  rw [← hW]
  obtain ⟨m1, n1, m1', n1', _, _, _, _⟩ := four_cells K0
  have f1_0 : AtR W_0 (w.heap.size) 0 19 (x) := ⟨A1, l1, c1, by rw [← H1.out.1]; exact m1, n1, A1, l1, c1, rfl, H1.out.2.2.1.below bb_0, H1.out.2.2.2.1⟩
  have f1'_0 : AtR W_0 (w.heap.size) 2 19 (y) := ⟨A1', l1', c1', by rw [← H1.out.2.1]; exact m1', n1', A1', l1', c1', rfl, H1.out.2.2.2.2.1.below bb_0, H1.out.2.2.2.2.2⟩
  clear m1 n1 m1' n1'
  obtain ⟨m2, n2, m2', n2', _, _, _, _⟩ := four_cells K1
  have f2_0 : AtR W_0 (w.heap.size + 1) 0 19 (x) := ⟨A2, l2, c2, by rw [← H2.out.1]; exact m2, n2, A2, l2, c2, rfl, H2.out.2.2.1.below bb_0, H2.out.2.2.2.1⟩
  have f2'_0 : AtR W_0 (w.heap.size + 1) 2 19 (y) := ⟨A2', l2', c2', by rw [← H2.out.2.1]; exact m2', n2', A2', l2', c2', rfl, H2.out.2.2.2.2.1.below bb_0, H2.out.2.2.2.2.2⟩
  clear m2 n2 m2' n2'
  clear hW K0 K1
  refine name_frame (G := fun a => Code.wp _ _ _ a _) ?_
  intro a_0 ha
  have hN_0 : a_0.tmps.size = 17 := by subst ha; kernel_rfl
  have hD_0 : a_0.defers = [] := by subst ha; rfl
  have e2_0 : a_0.eval (.tmp 2) = .pointer (some ⟨w.heap.size, 0, none⟩) := by subst ha; kernel_rfl
  have e3_0 : a_0.eval (.tmp 3) = .pointer (some ⟨w.heap.size + 1, 0, none⟩) := by subst ha; kernel_rfl
  clear ha
  repeat (first | refine wp_seq ?_ | (refine wp_skip ?_; refine then_n ?_))
  refine wp_region_law hN_0 w.heap.size
    [kIs (.pointer (some ⟨w.heap.size, 0, none⟩)), kZ 19 (x), kIs (.pointer (some ⟨w.heap.size + 1, 0, none⟩)), kZ 19 (x), kIs (.bool true), kIs (.bool true), kIs (.pointer (some ⟨w.heap.size, 2, none⟩)), kZ 19 (y), kIs (.pointer (some ⟨w.heap.size + 1, 2, none⟩)), kZ 19 (y), kIs (.bool true), kIs (.bool true), kIs (.bool true)]
    [ [], [(0, some 5)], [], [(2, some 7)], [(1, some 6), (3, some 8)], [(4, some 9)], [], [(6, some 11)], [], [(8, some 13)], [(7, some 12), (9, some 14)], [(5, some 10), (10, some 15)], [(11, some 16)] ]
    [(0, some 5), (1, some 6), (2, some 7), (3, some 8), (4, some 9), (5, some 10), (6, some 11), (7, some 12), (8, some 13), (9, some 14), (10, some 15), (11, some 16), (12, some 4)] [(5, true)] [] (by kernel_rfl) (by kernel_rfl) (by kernel_rfl) (by kernel_rfl) (by kernel_rfl) (by kernel_rfl) (by kernel_rfl) bb_0.size ?_ ?_
  ·
    refine pk_cons rfl rfl (st_pure [] [(2, .pointer (some ⟨w.heap.size, 0, none⟩))] (.pointer (some ⟨w.heap.size, 0, none⟩)) rfl hN_0 (by kernel_rfl) (by kernel_rfl) (by kernel_rfl) (old1 e2_0) (by kernel_rfl) (by kernel_rfl) (by kernel_rfl) (fun _ => by kernel_rfl)) ?_
    refine pk_cons rfl rfl (st_loadA f1_0 (by simp) hN_0 (by kernel_rfl) (by kernel_rfl) rfl rfl) ?_
    refine pk_cons rfl rfl (st_pure [] [(3, .pointer (some ⟨w.heap.size + 1, 0, none⟩))] (.pointer (some ⟨w.heap.size + 1, 0, none⟩)) rfl hN_0 (by kernel_rfl) (by kernel_rfl) (by kernel_rfl) (old1 e3_0) (by kernel_rfl) (by kernel_rfl) (by kernel_rfl) (fun _ => by kernel_rfl)) ?_
    refine pk_cons rfl rfl (st_loadA f2_0 (by simp) hN_0 (by kernel_rfl) (by kernel_rfl) rfl rfl) ?_
    refine pk_cons rfl rfl (st_call2 hN_0 (by kernel_rfl) (by kernel_rfl) (by kernel_rfl) (by kernel_rfl) (by kernel_rfl) rfl rfl rfl fun w x v1 v2 hC h1 h2 => ti (z_sameInt (rr h1) (rr h2))) ?_
    refine pk_cons rfl rfl (st_pure [.bool true] [] (.bool true) rfl hN_0 (by kernel_rfl) (by kernel_rfl) (by kernel_rfl) old0 (by kernel_rfl) (by kernel_rfl) (by kernel_rfl) (fun _ => by kernel_rfl)) ?_
    refine pk_cons rfl rfl (st_pure [] [(2, .pointer (some ⟨w.heap.size, 0, none⟩))] (.pointer (some ⟨w.heap.size, 2, none⟩)) rfl hN_0 (by kernel_rfl) (by kernel_rfl) (by kernel_rfl) (old1 e2_0) (by kernel_rfl) (by kernel_rfl) (by kernel_rfl) (fun _ => by kernel_rfl)) ?_
    refine pk_cons rfl rfl (st_loadA f1'_0 (by simp) hN_0 (by kernel_rfl) (by kernel_rfl) rfl rfl) ?_
    refine pk_cons rfl rfl (st_pure [] [(3, .pointer (some ⟨w.heap.size + 1, 0, none⟩))] (.pointer (some ⟨w.heap.size + 1, 2, none⟩)) rfl hN_0 (by kernel_rfl) (by kernel_rfl) (by kernel_rfl) (old1 e3_0) (by kernel_rfl) (by kernel_rfl) (by kernel_rfl) (fun _ => by kernel_rfl)) ?_
    refine pk_cons rfl rfl (st_loadA f2'_0 (by simp) hN_0 (by kernel_rfl) (by kernel_rfl) rfl rfl) ?_
    refine pk_cons rfl rfl (st_call2 hN_0 (by kernel_rfl) (by kernel_rfl) (by kernel_rfl) (by kernel_rfl) (by kernel_rfl) rfl rfl rfl fun w x v1 v2 hC h1 h2 => ti (z_sameInt (rr h1) (rr h2))) ?_
    refine pk_cons rfl rfl (st_pure [.bool true, .bool true] [] (.bool true) rfl hN_0 (by kernel_rfl) (by kernel_rfl) (by kernel_rfl) old0 (by kernel_rfl) (by kernel_rfl) (by kernel_rfl) (fun _ => by kernel_rfl)) ?_
    refine pk_cons rfl rfl (st_pure [.bool true] [] (.bool true) rfl hN_0 (by kernel_rfl) (by kernel_rfl) (by kernel_rfl) old0 (by kernel_rfl) (by kernel_rfl) (by kernel_rfl) (fun _ => by kernel_rfl)) ?_
    exact pk_nil rfl
  intro W x hC hall
  refine then_n ?_
  obtain ⟨a1, ha⟩ : ∃ a, a = putE x a_0 [(0, some 5), (1, some 6), (2, some 7), (3, some 8), (4, some 9), (5, some 10), (6, some 11), (7, some 12), (8, some 13), (9, some 14), (10, some 15), (11, some 16), (12, some 4)] := ⟨_, rfl⟩
  rw [← ha]
  have hD1 := defers_behind ha hD_0
  have bb1 := bb_0.trans hC.below
  have e1 := (slot_new (t := 4) (i := 12) ha hN_0 (by kernel_rfl) (by kernel_rfl)).trans (show x 12 = .bool true from hall 12 (of_decide_eq_true (by kernel_rfl)))
  repeat (first | refine wp_seq ?_ | (refine wp_skip ?_; refine then_n ?_))
  refine wp_ret ?_
  repeat (refine then_r ?_)
  exact ret_one (t := 4) rfl hD1 e1 ⟨rfl, bb1⟩
set_option maxRecDepth 100000 in
set_option maxHeartbeats 4000000 in
theorem lawSame_19 {w : World} {v1 v2 : Value} {x y : Int} (h1 : Pr w v1 19 (x) (y)) (h2 : Pr w v2 19 (x) (y)) :
    Calls Tryz.prog 9 #[v1, v2] w (fun e w' => e = .returned (.bool true) ∧ Below w.heap.size w w') := by
  obtain ⟨A1, l1, c1, A1', l1', c1', rfl, ⟨r1, u1⟩, r1', u1'⟩ := h1
  obtain ⟨b1, hb1⟩ : ∃ s, s = decide (x < 0) := ⟨_, rfl⟩
  obtain ⟨b1', hb1'⟩ : ∃ s, s = decide (y < 0) := ⟨_, rfl⟩
  rw [← hb1, ← hb1']
  have H1 := Lib.hid (show _ ∧ _ ∧ _ ∧ _ ∧ _ ∧ _ from ⟨hb1, hb1', r1, u1, r1', u1'⟩)
  clear hb1 hb1' r1 u1 r1' u1'
  obtain ⟨A2, l2, c2, A2', l2', c2', rfl, ⟨r2, u2⟩, r2', u2'⟩ := h2
  obtain ⟨b2, hb2⟩ : ∃ s, s = decide (x < 0) := ⟨_, rfl⟩
  obtain ⟨b2', hb2'⟩ : ∃ s, s = decide (y < 0) := ⟨_, rfl⟩
  rw [← hb2, ← hb2']
  have H2 := Lib.hid (show _ ∧ _ ∧ _ ∧ _ ∧ _ ∧ _ from ⟨hb2, hb2', r2, u2, r2', u2'⟩)
  clear hb2 hb2' r2 u2 r2' u2'
  go_enter Tryz.func9, Tryz.ntmps9
  repeat (refine wp_seq ?_)
  refine region_k ?_
  intro K hK
  have HK := Lib.hid hK
  clear hK
  go_wp2
  refine HK.out _ _ ?_
  clear HK
  refine then_n ?_
  obtain ⟨W_0, hW⟩ : ∃ W, W = (w.alloc (Obj.cells #[Value.bool b1, Value.slice A1 l1 c1, Value.bool b1', Value.slice A1' l1' c1'] 27)).alloc (Obj.cells #[Value.bool b2, Value.slice A2 l2 c2, Value.bool b2', Value.slice A2' l2' c2'] 27) := ⟨_, rfl⟩
  have bb_0 : Below w.heap.size w W_0 := by rw [hW]; exact bal (bal (Below.refl _ _) _) _
  have K0 : W_0.heap[w.heap.size]? = some (Obj.cells #[Value.bool b1, Value.slice A1 l1 c1, Value.bool b1', Value.slice A1' l1' c1'] 27) := by rw [hW]; rw [Below.heap_alloc _ _ _ (by simp <;> omega)]; exact new_at (by simp)
  have K1 : W_0.heap[w.heap.size + 1]? = some (Obj.cells #[Value.bool b2, Value.slice A2 l2 c2, Value.bool b2', Value.slice A2' l2' c2'] 27) := by rw [hW]; exact new_at (by simp)
  rw [← hW]
  obtain ⟨m1, n1, m1', n1', _, _, _, _⟩ := four_cells K0
  have f1_0 : AtR W_0 (w.heap.size) 0 19 (x) := ⟨A1, l1, c1, by rw [← H1.out.1]; exact m1, n1, A1, l1, c1, rfl, H1.out.2.2.1.below bb_0, H1.out.2.2.2.1⟩
  have f1'_0 : AtR W_0 (w.heap.size) 2 19 (y) := ⟨A1', l1', c1', by rw [← H1.out.2.1]; exact m1', n1', A1', l1', c1', rfl, H1.out.2.2.2.2.1.below bb_0, H1.out.2.2.2.2.2⟩
  clear m1 n1 m1' n1'
  obtain ⟨m2, n2, m2', n2', _, _, _, _⟩ := four_cells K1
  have f2_0 : AtR W_0 (w.heap.size + 1) 0 19 (x) := ⟨A2, l2, c2, by rw [← H2.out.1]; exact m2, n2, A2, l2, c2, rfl, H2.out.2.2.1.below bb_0, H2.out.2.2.2.1⟩
  have f2'_0 : AtR W_0 (w.heap.size + 1) 2 19 (y) := ⟨A2', l2', c2', by rw [← H2.out.2.1]; exact m2', n2', A2', l2', c2', rfl, H2.out.2.2.2.2.1.below bb_0, H2.out.2.2.2.2.2⟩
  clear m2 n2 m2' n2'
  clear hW K0 K1
  refine name_frame (G := fun a => Code.wp _ _ _ a _) ?_
  intro a_0 ha
  have hN_0 : a_0.tmps.size = 8 := by subst ha; kernel_rfl
  have hD_0 : a_0.defers = [] := by subst ha; rfl
  have e2_0 : a_0.eval (.tmp 2) = .pointer (some ⟨w.heap.size, 0, none⟩) := by subst ha; kernel_rfl
  have e3_0 : a_0.eval (.tmp 3) = .pointer (some ⟨w.heap.size + 1, 0, none⟩) := by subst ha; kernel_rfl
  clear ha
  repeat (first | refine wp_seq ?_ | (refine wp_skip ?_; refine then_n ?_))
  refine wp_region_law hN_0 w.heap.size
    [kP 19 (x) (y), kP 19 (x) (y), kIs (.bool true), kIs (.bool true)]
    [ [], [], [(0, some 5), (1, some 6)], [(2, some 7)] ]
    [(0, some 5), (1, some 6), (2, some 7), (3, some 4)] [] [] (by kernel_rfl) (by kernel_rfl) (by kernel_rfl) (by kernel_rfl) (by kernel_rfl) (by kernel_rfl) (by kernel_rfl) bb_0.size ?_ ?_
  ·
    refine pk_cons rfl rfl (st_load4P f1_0 f1'_0 (by simp) e2_0 hN_0 (by kernel_rfl) rfl) ?_
    refine pk_cons rfl rfl (st_load4P f2_0 f2'_0 (by simp) e3_0 hN_0 (by kernel_rfl) rfl) ?_
    refine pk_cons rfl rfl (st_call2 hN_0 (by kernel_rfl) (by kernel_rfl) (by kernel_rfl) (by kernel_rfl) (by kernel_rfl) rfl rfl rfl fun w x v1 v2 hC h1 h2 => ti (same_19 (pm (by decide) h1) (pm (by decide) h2))) ?_
    refine pk_cons rfl rfl (st_pure [.bool true] [] (.bool true) rfl hN_0 (by kernel_rfl) (by kernel_rfl) (by kernel_rfl) old0 (by kernel_rfl) (by kernel_rfl) (by kernel_rfl) (fun _ => by kernel_rfl)) ?_
    exact pk_nil rfl
  intro W x hC hall
  refine then_n ?_
  obtain ⟨a1, ha⟩ : ∃ a, a = putE x a_0 [(0, some 5), (1, some 6), (2, some 7), (3, some 4)] := ⟨_, rfl⟩
  rw [← ha]
  have hD1 := defers_behind ha hD_0
  have bb1 := bb_0.trans hC.below
  have e1 := (slot_new (t := 4) (i := 3) ha hN_0 (by kernel_rfl) (by kernel_rfl)).trans (show x 3 = .bool true from hall 3 (of_decide_eq_true (by kernel_rfl)))
  repeat (first | refine wp_seq ?_ | (refine wp_skip ?_; refine then_n ?_))
  refine wp_ret ?_
  repeat (refine then_r ?_)
  exact ret_one (t := 4) rfl hD1 e1 ⟨rfl, bb1⟩
end Go.Proofs.YthgclmkhmcfflaaGreatDoor
namespace Go.Proofs.YthgclmkhmcfflaaGreatDoor
open Go.RowKit
section
variable {C : World → Prop} {S0 : Nat} {ks : List PK} {a0 : Act} {i : Nat} {N : Nat} {P : Program} {T : TypeId} {pos : String} {af : Array Edge} {gu : Option (Nat × Bool)} {ats : Array TypeId}
end
end Go.Proofs.YthgclmkhmcfflaaGreatDoor
namespace Go.Proofs.YthgclmkhmcfflaaGreatDoor
open Go.RowKit
theorem run_allocP {w : World} : (Instr.alloc 27 true (.tuple #[])).run Tryz.prog w = .ok (.pointer (some ⟨w.heap.size, 0, none⟩)) (w.alloc (.cells #[.bool false, .slice none 0 0, .bool false, .slice none 0 0] 27)) := by go_simp
/-- A ratio that lies in memory from an offset on; a list of them. -/
def AtP (W : World) (g o k : Nat) (x y : Int) : Prop := ∃ A l c A' l' c', W.cell? ⟨g, o, none⟩ = some (.bool (decide (x < 0))) ∧ W.cell? ⟨g, o + 1, none⟩ = some (.slice A l c) ∧ W.cell? ⟨g, o + 2, none⟩ = some (.bool (decide (y < 0))) ∧ W.cell? ⟨g, o + 3, none⟩ = some (.slice A' l' c') ∧ Pr W (.agg #[.bool (decide (x < 0)), .slice A l c, .bool (decide (y < 0)), .slice A' l' c']) k x y
theorem AtP.below {W w' : World} {g o k : Nat} {x y : Int} (h : AtP W g o k x y) (hb : Below W.heap.size W w') : AtP w' g o k x y := by
  obtain ⟨A, l, c, A', l', c', h1, h2, h3, h4, h5⟩ := h
  exact ⟨A, l, c, A', l', c', (hb.cell (cell_lt h1)).trans h1, (hb.cell (cell_lt h2)).trans h2, (hb.cell (cell_lt h3)).trans h3, (hb.cell (cell_lt h4)).trans h4, h5.below hb⟩
theorem AtP.stored {W w' : World} {g j o k : Nat} {x y : Int} (h : AtP W g o k x y) (hs : Stored j W w') (hne : g ≠ j) : AtP w' g o k x y := by
  obtain ⟨A, l, c, A', l', c', h1, h2, h3, h4, h5⟩ := h
  exact ⟨A, l, c, A', l', c', (World.cell?_of_block (hs.other _ hne)).trans h1, (World.cell?_of_block (hs.other _ hne)).trans h2, (World.cell?_of_block (hs.other _ hne)).trans h3, (World.cell?_of_block (hs.other _ hne)).trans h4, h5.stored hs⟩
def PRs (W : World) (g : Nat) (l : List (Nat × Int × Int)) : Prop := ∀ j q, l[j]? = some q → AtP W g (j * 4) q.1 q.2.1 q.2.2
theorem PRs.below {W w' : World} {g : Nat} {l : List (Nat × Int × Int)} (h : PRs W g l) (hb : Below W.heap.size W w') : PRs w' g l := fun j q hj => (h j q hj).below hb
def kPutP (e k : Nat) (x y : Int) : PK := .put e (isP k x y) (fun _ _ _ ⟨A, l, c, A', l', c', e, h⟩ hb => ⟨A, l, c, A', l', c', e, h.below hb⟩) (fun _ _ _ _ ⟨A, l, c, A', l', c', e, h⟩ hs => ⟨A, l, c, A', l', c', e, h.stored hs⟩)
theorem Pr.parts {W : World} {v : Value} {k : Nat} {x y : Int} (h : Pr W v k x y) : ∃ A l c A' l' c', v = .agg #[.bool (decide (x < 0)), .slice A l c, .bool (decide (y < 0)), .slice A' l' c'] ∧ Pr W (.agg #[.bool (decide (x < 0)), .slice A l c, .bool (decide (y < 0)), .slice A' l' c']) k x y := by
  obtain ⟨A, l, c, A', l', c', rfl, h⟩ := h
  exact ⟨A, l, c, A', l', c', rfl, A, l, c, A', l', c', rfl, h⟩
theorem Pr.two {W : World} {A A' : Option Addr} {l c l' c' k : Nat} {x y : Int} (h : Pr W (.agg #[.bool (decide (x < 0)), .slice A l c, .bool (decide (y < 0)), .slice A' l' c']) k x y) : Zr W (.agg #[.bool (decide (x < 0)), .slice A l c]) k x ∧ Zr W (.agg #[.bool (decide (y < 0)), .slice A' l' c']) k y := by
  obtain ⟨B, m, d, B', m', d', e, h1, h2⟩ := h
  injection e with e; injection e with e
  injection e with _ e; injection e with e1 e; injection e with _ e; injection e with e2 _
  injection e1 with a b c; subst a; subst b; subst c
  injection e2 with a b c; subst a; subst b; subst c
  exact ⟨⟨_, _, _, rfl, h1⟩, ⟨_, _, _, rfl, h2⟩⟩
theorem AtP.two {W : World} {g k : Nat} {x y : Int} (h : AtP W g 0 k x y) : AtR W g 0 k x ∧ AtR W g 2 k y := by
  obtain ⟨A, l, c, A', l', c', h1, h2, h3, h4, h5⟩ := h
  exact ⟨⟨A, l, c, h1, h2, h5.two.1⟩, ⟨A', l', c', h3, h4, h5.two.2⟩⟩
theorem isP_at {W : World} {g k : Nat} {x y : Int} {cs : Array Value} (hg : Holds_ W g cs) (h : isP k x y cs W) : AtP W g 0 k x y := by
  obtain ⟨A, l, c, A', l', c', rfl, h⟩ := h
  obtain ⟨m1, m2, m3, m4, _, _, _, _⟩ := hg.four
  exact ⟨A, l, c, A', l', c', m1, m2, m3, m4, h⟩
theorem put_atP {S0 : Nat} {x : Nat → Value} {v : Value} {w : World} {e k : Nat} {z1 z2 : Int} (h : (kPutP e k z1 z2).sem S0 x v w) : ∃ g, x e = .pointer (some ⟨g, 0, none⟩) ∧ S0 ≤ g ∧ AtR w g 0 k z1 ∧ AtR w g 2 k z2 := by
  obtain ⟨g, cs, h1, hg, h2, h3⟩ := h
  exact ⟨g, h1, hg, (isP_at h2 h3).two⟩
theorem res_atP {S0 : Nat} {x : Nat → Value} {v : Value} {w : World} {g k : Nat} {z1 z2 : Int} (h : (kRes g k z1 z2).sem S0 x v w) : AtR w g 0 k z1 ∧ AtR w g 2 k z2 := by
  obtain ⟨cs, h2, h3⟩ := h
  exact (isP_at h2 h3).two
theorem holds_new4 (w : World) {a b c d : Value} (h1 : noDig a) (h2 : noDig b) (h3 : noDig c) (h4 : noDig d) (T : TypeId) : Holds_ (w.alloc (.cells #[a, b, c, d] T)) w.heap.size #[a, b, c, d] :=
  ⟨⟨T, heap_alloc_new _ _⟩, fun v hv => by simp at hv; rcases hv with rfl | rfl | rfl | rfl <;> assumption⟩
section
variable {G : List Nat} {S0 B : Nat} {ks : List PK} {a0 : Act} {i : Nat} {N : Nat} {W0 : World} {T : TypeId} {pos : String} {af : Array Edge} {gu : Option (Nat × Bool)}
set_option maxRecDepth 100000 in
theorem st_allocP {d : Nat} (hN : a0.tmps.size = N) (hd : decide (d < N) = true) (hS : S0 ≤ W0.heap.size) (hi : at_ ks i = .fresh 4) :
    PkStep Tryz.prog (Reg B W0 G) S0 ks a0 i { dst := some d, op := .alloc 27, type := T, pos := pos, after := af, guard := gu } [] := by
  intro w x hC K hK
  have hsz := hC.below.size
  refine wp_val (v := .pointer (some ⟨w.heap.size, 0, none⟩)) rfl hN hd (ex_alloc run_allocP) (hK _ _ ?_ ?_)
  · rw [hi]; exact ⟨(Below.refl _ _).alloc (Nat.le_refl _) _, _, rfl, Nat.le_refl _⟩
  · rw [hi]; exact ⟨_, _, rfl, Nat.le_trans hS hsz, holds_new4 _ (noDig_bool _) (noDig_slice _ _ _) (noDig_bool _) (noDig_slice _ _ _) _, rfl⟩
set_option maxRecDepth 100000 in
theorem st_putP {t u e j k : Nat} {z1 z2 : Int} (hN : a0.tmps.size = N) (ht : decide (t < N) = true) (hu : decide (u < N) = true) (htu : decide (t = u) = false) (he : at_ ks e = .fresh 4) (hj : at_ ks j = kP k z1 z2) (hi : at_ ks i = kPutP e k z1 z2) :
    PkStep Tryz.prog (Reg B W0 G) S0 ks a0 i { dst := none, op := .store 27 (.tmp t) (.tmp u), type := T, pos := pos, after := af, guard := gu } [(e, some t), (j, some u)] := by
  intro w x hC
  refine deps_all _ fun hdeps K hK => ?_
  have h1 := hdeps (e, some t) (by simp)
  have h2 := hdeps (j, some u) (by simp)
  have htu' : t ≠ u := of_decide_eq_false htu
  have e1 : (putE x a0 [(e, some t), (j, some u)]).eval (.tmp t) = x e := putE_new _ _ (by rw [hN]; exact of_decide_eq_true ht) (by simp [slotAt, Ne.symm htu'])
  have e2 : (putE x a0 [(e, some t), (j, some u)]).eval (.tmp u) = x j := putE_new _ _ (by rw [hN]; exact of_decide_eq_true hu) (by simp [slotAt])
  simp only [he, hj] at h1 h2
  obtain ⟨g, cs, hx, hg0, hg, hsz⟩ := h1
  obtain ⟨a, b, c0, d0, rfl⟩ := size_four hsz
  obtain ⟨A, l, c, A', l', c', hy, hr⟩ := (show Pr w (x j) k z1 z2 from h2).parts
  obtain ⟨m1, m2, m3, m4, f1, f2, f3, f4⟩ := hg.four
  have hst := stored_put4 hg (noDig_bool (decide (z1 < 0))) (noDig_slice A l c) (noDig_bool (decide (z2 < 0))) (noDig_slice A' l' c')
  refine wp_skp (w' := put4 w g (.bool (decide (z1 < 0))) (.slice A l c) (.bool (decide (z2 < 0))) (.slice A' l' c')) rfl ?_ (hK _ _ ?_ ?_)
  · exact ex_store (e1.trans hx) (e2.trans hy) (run_storeP m1 m2 m3 m4 f1 f2 f3 f4)
  · rw [hi]; exact ⟨g, hx, hg0, hst⟩
  · rw [hi]; exact ⟨g, _, hx, hg0, holds_put4 hg (noDig_bool _) (noDig_slice _ _ _) (noDig_bool _) (noDig_slice _ _ _), A, l, c, A', l', c', rfl, hr.stored hst⟩
end
end Go.Proofs.YthgclmkhmcfflaaGreatDoor
namespace Go.Proofs.YthgclmkhmcfflaaGreatDoor
open Go.RowKit
end Go.Proofs.YthgclmkhmcfflaaGreatDoor
namespace Go.Proofs.YthgclmkhmcfflaaGreatDoor
open Go.RowKit
def kResZ (g k : Nat) (z : Int) : PK := .cell g (isZ k z) (fun _ _ _ ⟨A, l, c, h1, h2⟩ hb => ⟨A, l, c, h1, h2.below hb⟩) (fun _ _ _ _ ⟨A, l, c, h1, h2⟩ hs => ⟨A, l, c, h1, h2.stored hs⟩)
theorem Holds_.two' {w : World} {g : Nat} {a b : Value} (h : Holds_ w g #[a, b]) : w.cell? ⟨g, 0, none⟩ = some a ∧ w.cell? ⟨g, 1, none⟩ = some b ∧ w.frozen? ⟨g, 0, none⟩ = false ∧ w.frozen? ⟨g, 1, none⟩ = false := h.two
theorem LocR.atR {W : World} {g k : Nat} {z : Int} (h : LocR W g k z) : AtR W g 0 k z := by
  obtain ⟨A, l, c, h1, h2⟩ := h
  obtain ⟨m1, m2, _, _⟩ := h1.two
  exact ⟨A, l, c, m1, m2, h2⟩
theorem put_locG {S0 : Nat} {x : Nat → Value} {v : Value} {w : World} {e k : Nat} {z : Int} (h : (kPutZ e k z).sem S0 x v w) : ∃ g, x e = .pointer (some ⟨g, 0, none⟩) ∧ S0 ≤ g ∧ LocR w g k z := by
  obtain ⟨g, cs, h1, hg, h2, A, l, c, rfl, h3⟩ := h
  exact ⟨g, h1, hg, A, l, c, h2, h3⟩
section
variable {G : List Nat} {S0 B : Nat} {ks : List PK} {a0 : Act} {i : Nat} {N : Nat} {W0 : World} {T : TypeId} {pos : String} {af : Array Edge} {gu : Option (Nat × Bool)}
set_option maxRecDepth 100000 in
theorem st_resZ {t u j g k : Nat} {z : Int} {a b : Value} (h0 : Holds_ W0 g #[a, b]) (hG : g ∈ G) (hp : a0.eval (.tmp t) = .pointer (some ⟨g, 0, none⟩)) (hN : a0.tmps.size = N) (hu : decide (u < N) = true) (htu : decide (t = u) = false) (hj : at_ ks j = kZ k z) (hi : at_ ks i = kResZ g k z) :
    PkStep Tryz.prog (Reg B W0 G) S0 ks a0 i { dst := none, op := .store 25 (.tmp t) (.tmp u), type := T, pos := pos, after := af, guard := gu } [(j, some u)] := by
  intro w x hC
  refine deps_all _ fun hdeps K hK => ?_
  have g1 := hdeps (j, some u) (by simp)
  rw [hj] at g1
  obtain ⟨A, l, c, hx, hr, hlt⟩ := (show Zr w (x j) k z from g1)
  have htu' : t ≠ u := of_decide_eq_false htu
  have e1 : (putE x a0 [(j, some u)]).eval (.tmp t) = .pointer (some ⟨g, 0, none⟩) := (putE_old _ _ (by simp [slotAt, Ne.symm htu'])).trans hp
  have e2 : (putE x a0 [(j, some u)]).eval (.tmp u) = x j := putE_new _ _ (by rw [hN]; exact of_decide_eq_true hu) (by simp [slotAt])
  obtain ⟨u0, v0, hg⟩ := hC.two hG h0
  obtain ⟨m1, m2, m3, m4⟩ := hg.two
  have hst := stored_put2 hg (noDig_bool (decide (z < 0))) (noDig_slice A l c)
  refine wp_skp (w' := put2 w g (.bool (decide (z < 0))) (.slice A l c)) rfl ?_ (hK _ _ ?_ ?_)
  · exact ex_store e1 (e2.trans hx) (run_store2 m3 m4 m1 m2)
  · rw [hi]; exact hst
  · rw [hi]; exact ⟨_, holds_put2 hg (noDig_bool _) (noDig_slice _ _ _), A, l, c, rfl, A, l, c, rfl, hst.rr hr, hlt⟩
end
theorem ret_cellZ {fn : Func} {R : Ending → World → Prop} {a : Act} {w : World} {t g k : Nat} {z : Int} {cs : Array Value} (hres : fn.results = #[.cell t 25 ]) (hd : a.defers = []) (hp : a.eval (.tmp t) = .pointer (some ⟨g, 0, none⟩)) (hg : Holds_ w g cs) (hP : isZ k z cs w) (hR : ∀ v, Zr w v k z → R (.returned v) w) : bodyPost Tryz.prog fn R .ret a w := by
  obtain ⟨A, l, c, rfl, h⟩ := hP
  obtain ⟨m1, m2, m3, m4⟩ := hg.two'
  refine bodyPost_ret (v := .agg #[.bool (decide (z < 0)), .slice A l c]) ?_ hd (hR _ h)
  have hp' : a.tmps[t]?.getD undef = .pointer (some ⟨g, 0, none⟩) := by
    rw [← Array.getD_eq_getD_getElem?]; exact hp
  simp [results, hres, go_sem, hp', m1, m2]
end Go.Proofs.YthgclmkhmcfflaaGreatDoor
namespace Go.Proofs.YthgclmkhmcfflaaGreatDoor
open Go.RowKit
theorem ret_cellP2 {fn : Func} {R : Ending → World → Prop} {a : Act} {w : World} {t u g k : Nat} {x y : Int} {cs : Array Value} {V : Value} (hres : fn.results = #[.cell t 27, .tmp u]) (hd : a.defers = []) (hp : a.eval (.tmp t) = .pointer (some ⟨g, 0, none⟩)) (hu : a.eval (.tmp u) = V) (hg : Holds_ w g cs) (hP : isP k x y cs w) (hR : ∀ v, Pr w v k x y → R (.returned (.tuple #[v, V])) w) : bodyPost Tryz.prog fn R .ret a w := by
  obtain ⟨A, l, c, A', l', c', rfl, h⟩ := hP
  obtain ⟨m1, m2, m3, m4, _, _, _, _⟩ := hg.four
  refine bodyPost_ret (v := .tuple #[.agg #[.bool (decide (x < 0)), .slice A l c, .bool (decide (y < 0)), .slice A' l' c'], V]) ?_ hd (hR _ h)
  have hp' : a.tmps[t]?.getD undef = .pointer (some ⟨g, 0, none⟩) := by
    rw [← Array.getD_eq_getD_getElem?]; exact hp
  have hu' : a.tmps[u]?.getD undef = V := by
    rw [← Array.getD_eq_getD_getElem?]; exact hu
  simp [results, hres, go_sem, hp', hu', m1, m2, m3, m4]
set_option maxRecDepth 100000 in
set_option maxHeartbeats 4000000 in
theorem Of_9 {w : World} {v1 v2 : Value} {p q : Int} (hz : q ≠ 0) (h1 : Zr w v1 9 (p)) (h2 : Zr w v2 9 (q)) :
    Calls Tryz.prog 22 #[v1, v2] w (fun e w' => ∃ v, e = .returned (.tuple #[v, .int .i64 (0)]) ∧ Pr w' v 9 ((Rat.divInt (p) (q)).num) (((Rat.divInt (p) (q)).den : Int)) ∧ Below w.heap.size w w') := by
  obtain ⟨A1, l1, c1, rfl, r1, u1⟩ := h1
  obtain ⟨b1, hb1⟩ : ∃ s, s = decide (p < 0) := ⟨_, rfl⟩
  rw [← hb1]
  have H1 := Lib.hid (show _ ∧ _ ∧ _ from ⟨hb1, r1, u1⟩)
  clear hb1 r1 u1
  obtain ⟨A2, l2, c2, rfl, r2, u2⟩ := h2
  obtain ⟨b2, hb2⟩ : ∃ s, s = decide (q < 0) := ⟨_, rfl⟩
  rw [← hb2]
  have H2 := Lib.hid (show _ ∧ _ ∧ _ from ⟨hb2, r2, u2⟩)
  clear hb2 r2 u2
  go_enter Tryz.func22, Tryz.ntmps22
  repeat (refine wp_seq ?_)
  refine region_k ?_
  intro K hK
  have HK := Lib.hid hK
  clear hK
  go_wp2
  refine HK.out _ _ ?_
  clear HK
  refine then_n ?_
  obtain ⟨W_0, hW⟩ : ∃ W, W = ((w.alloc (Obj.cells #[Value.bool b1, Value.slice A1 l1 c1] 25)).alloc (Obj.cells #[Value.bool b2, Value.slice A2 l2 c2] 25)).alloc (Obj.cells #[Value.bool false, Value.slice none 0 0, Value.bool false, Value.slice none 0 0] 27) := ⟨_, rfl⟩
  have bb_0 : Below w.heap.size w W_0 := by rw [hW]; exact bal (bal (bal (Below.refl _ _) _) _) _
  have K0 : W_0.heap[w.heap.size]? = some (Obj.cells #[Value.bool b1, Value.slice A1 l1 c1] 25) := by rw [hW]; rw [Below.heap_alloc _ _ _ (by simp <;> omega)]; rw [Below.heap_alloc _ _ _ (by simp <;> omega)]; exact new_at (by simp)
  have K1 : W_0.heap[w.heap.size + 1]? = some (Obj.cells #[Value.bool b2, Value.slice A2 l2 c2] 25) := by rw [hW]; rw [Below.heap_alloc _ _ _ (by simp <;> omega)]; exact new_at (by simp)
  have K2 : W_0.heap[w.heap.size + 1 + 1]? = some (Obj.cells #[Value.bool false, Value.slice none 0 0, Value.bool false, Value.slice none 0 0] 27) := by rw [hW]; exact new_at (by simp)
  rw [← hW]
  obtain ⟨m1, n1, _, _⟩ := cell_of_two K0
  have f1_0 : AtR W_0 (w.heap.size) 0 9 (p) := ⟨A1, l1, c1, by rw [← H1.out.1]; exact m1, n1, A1, l1, c1, rfl, H1.out.2.1.below bb_0, H1.out.2.2⟩
  clear m1 n1
  obtain ⟨m2, n2, _, _⟩ := cell_of_two K1
  have f2_0 : AtR W_0 (w.heap.size + 1) 0 9 (q) := ⟨A2, l2, c2, by rw [← H2.out.1]; exact m2, n2, A2, l2, c2, rfl, H2.out.2.1.below bb_0, H2.out.2.2⟩
  clear m2 n2
  have R_0 : Holds_ W_0 (w.heap.size + 1 + 1) #[Value.bool false, Value.slice none 0 0, Value.bool false, Value.slice none 0 0] := ⟨⟨_, K2⟩, by simp [noDig]⟩
  clear hW K0 K1 K2
  refine name_frame (G := fun a => Code.wp _ _ _ a _) ?_
  intro a_0 ha
  have hN_0 : a_0.tmps.size = 24 := by subst ha; kernel_rfl
  have hD_0 : a_0.defers = [] := by subst ha; rfl
  have e2_0 : a_0.eval (.tmp 2) = .pointer (some ⟨w.heap.size, 0, none⟩) := by subst ha; kernel_rfl
  have e3_0 : a_0.eval (.tmp 3) = .pointer (some ⟨w.heap.size + 1, 0, none⟩) := by subst ha; kernel_rfl
  have e4_0 : a_0.eval (.tmp 4) = .pointer (some ⟨w.heap.size + 1 + 1, 0, none⟩) := by subst ha; kernel_rfl
  clear ha
  repeat (first | refine wp_seq ?_ | (refine wp_skip ?_; refine then_n ?_))
  refine wp_region_law hN_0 w.heap.size
    [kZ 9 (p), kIs (.bool true), kIs (.bool false), kIs (.bool false), kZ 9 (q), kIs (.bool true), kIs (.bool false), kIs (.bool false)]
    [ [], [(0, some 6)], [(1, some 7)], [(2, some 8)], [], [(4, some 10)], [(5, some 11)], [(3, some 9), (6, some 12)] ]
    [(0, some 6), (1, some 7), (2, some 8), (3, some 9), (4, some 10), (5, some 11), (6, some 12), (7, some 13)] [(3, false)] [] (by kernel_rfl) (by kernel_rfl) (by kernel_rfl) (by kernel_rfl) (by kernel_rfl) (by kernel_rfl) (by kernel_rfl) bb_0.size ?_ ?_
  ·
    refine pk_cons rfl rfl (st_loadB f1_0 (by simp) e2_0 hN_0 (by kernel_rfl) rfl) ?_
    refine pk_cons rfl rfl (st_call1 hN_0 (by kernel_rfl) (by kernel_rfl) (by kernel_rfl) rfl rfl fun w x v1 hC h1 => ti (z_right (rr h1))) ?_
    refine pk_cons rfl rfl (st_pure [.bool true] [] (.bool false) rfl hN_0 (by kernel_rfl) (by kernel_rfl) (by kernel_rfl) old0 (by kernel_rfl) (by kernel_rfl) (by kernel_rfl) (fun _ => by kernel_rfl)) ?_
    refine pk_cons rfl rfl (st_pure [.bool false] [] (.bool false) rfl hN_0 (by kernel_rfl) (by kernel_rfl) (by kernel_rfl) old0 (by kernel_rfl) (by kernel_rfl) (by kernel_rfl) (fun _ => by kernel_rfl)) ?_
    refine pk_cons rfl rfl (st_loadB f2_0 (by simp) e3_0 hN_0 (by kernel_rfl) rfl) ?_
    refine pk_cons rfl rfl (st_call1 hN_0 (by kernel_rfl) (by kernel_rfl) (by kernel_rfl) rfl rfl fun w x v1 hC h1 => ti (z_right (rr h1))) ?_
    refine pk_cons rfl rfl (st_pure [.bool true] [] (.bool false) rfl hN_0 (by kernel_rfl) (by kernel_rfl) (by kernel_rfl) old0 (by kernel_rfl) (by kernel_rfl) (by kernel_rfl) (fun _ => by kernel_rfl)) ?_
    refine pk_cons rfl rfl (st_pure [.bool false, .bool false] [] (.bool false) rfl hN_0 (by kernel_rfl) (by kernel_rfl) (by kernel_rfl) old0 (by kernel_rfl) (by kernel_rfl) (by kernel_rfl) (fun _ => by kernel_rfl)) ?_
    exact pk_nil rfl
  intro W_1 x hC hall
  refine then_n ?_
  obtain ⟨a_1, ha⟩ : ∃ a, a = putE x a_0 [(0, some 6), (1, some 7), (2, some 8), (3, some 9), (4, some 10), (5, some 11), (6, some 12), (7, some 13)] := ⟨_, rfl⟩
  rw [← ha]
  have hN_1 := size_behind ha hN_0
  have hD_1 := defers_behind ha hD_0
  have bb_1 := bb_0.trans hC.below
  have e2_1 := slot_old ha (by kernel_rfl) e2_0
  have e3_1 := slot_old ha (by kernel_rfl) e3_0
  have e4_1 := slot_old ha (by kernel_rfl) e4_0
  have f1_1 := hC.at0 f1_0
  have f2_1 := hC.at0 f2_0
  have R_1 := hC.holds R_0
  have e13_1 := (slot_new (t := 13) (i := 7) ha hN_0 (by kernel_rfl) (by kernel_rfl)).trans (show x 7 = .bool false from hall 7 (of_decide_eq_true (by kernel_rfl)))
  clear hall hC ha bb_0 hD_0 e2_0 e3_0 e4_0 f1_0 f2_0 R_0
  repeat (first | refine wp_seq ?_ | (refine wp_skip ?_; refine then_n ?_))
  refine wp_cond_false e13_1 ?_
  repeat (first | refine wp_seq ?_ | (refine wp_skip ?_; refine then_n ?_))
  refine wp_region_law hN_1 w.heap.size
    [kZ 9 (q), kIs (.bool false)]
    [ [], [(0, some 16)] ]
    [(0, some 16), (1, some 17)] [] [] (by kernel_rfl) (by kernel_rfl) (by kernel_rfl) (by kernel_rfl) (by kernel_rfl) (by kernel_rfl) (by kernel_rfl) bb_1.size ?_ ?_
  ·
    refine pk_cons rfl rfl (st_loadB f2_1 (by simp) e3_1 hN_1 (by kernel_rfl) rfl) ?_
    refine pk_cons rfl rfl (st_call1 hN_1 (by kernel_rfl) (by kernel_rfl) (by kernel_rfl) rfl rfl fun w x v1 hC h1 => ti (isNone_z (rr h1) hz)) ?_
    exact pk_nil rfl
  intro W_2 x hC hall
  refine then_n ?_
  obtain ⟨a_2, ha⟩ : ∃ a, a = putE x a_1 [(0, some 16), (1, some 17)] := ⟨_, rfl⟩
  rw [← ha]
  have hN_2 := size_behind ha hN_1
  have hD_2 := defers_behind ha hD_1
  have bb_2 := bb_1.trans hC.below
  have e2_2 := slot_old ha (by kernel_rfl) e2_1
  have e3_2 := slot_old ha (by kernel_rfl) e3_1
  have e4_2 := slot_old ha (by kernel_rfl) e4_1
  have e13_2 := slot_old ha (by kernel_rfl) e13_1
  have f1_2 := hC.at0 f1_1
  have f2_2 := hC.at0 f2_1
  have R_2 := hC.holds R_1
  have e17_2 := (slot_new (t := 17) (i := 1) ha hN_1 (by kernel_rfl) (by kernel_rfl)).trans (show x 1 = .bool false from hall 1 (of_decide_eq_true (by kernel_rfl)))
  clear hall hC ha bb_1 hD_1 e2_1 e3_1 e4_1 e13_1 f1_1 f2_1 R_1
  repeat (first | refine wp_seq ?_ | (refine wp_skip ?_; refine then_n ?_))
  refine wp_cond_false e17_2 ?_
  repeat (first | refine wp_seq ?_ | (refine wp_skip ?_; refine then_n ?_))
  refine wp_region_res hN_2 w.heap.size (w.heap.size + 1 + 1) R_2 (by omega)
    [kZ 9 (p), kZ 9 (q), kP 9 ((Rat.divInt (p) (q)).num) (((Rat.divInt (p) (q)).den : Int)), kP 9 ((Rat.divInt (p) (q)).num) (((Rat.divInt (p) (q)).den : Int)), kRes (w.heap.size + 1 + 1) 9 ((Rat.divInt (p) (q)).num) (((Rat.divInt (p) (q)).den : Int)), kIs (.int .i64 (0))]
    [ [], [], [(0, some 20), (1, some 21)], [(2, some 22)], [(3, some 23)], [] ]
    [(0, some 20), (1, some 21), (2, some 22), (3, some 23), (4, none), (5, some 5)] [] [] (by kernel_rfl) (by kernel_rfl) (by kernel_rfl) (by kernel_rfl) (by kernel_rfl) (by kernel_rfl) (by kernel_rfl) bb_2.size ?_ ?_
  ·
    refine pk_cons rfl rfl (st_loadB f1_2 (by simp only [List.mem_singleton]; omega) e2_2 hN_2 (by kernel_rfl) rfl) ?_
    refine pk_cons rfl rfl (st_loadB f2_2 (by simp only [List.mem_singleton]; omega) e3_2 hN_2 (by kernel_rfl) rfl) ?_
    refine pk_cons rfl rfl (st_call2 hN_2 (by kernel_rfl) (by kernel_rfl) (by kernel_rfl) (by kernel_rfl) (by kernel_rfl) rfl rfl rfl fun w x v1 v2 hC h1 h2 => tp (lowest_q (k := 9) ((rr h1).mono (by decide)) ((rr h2).mono (by decide)) hz (by decide) (by decide))) ?_
    refine pk_cons rfl rfl (st_fieldF hN_2 (by kernel_rfl) (by kernel_rfl) rfl rfl) ?_
    refine pk_cons rfl rfl (st_resP R_2 rfl (by simp) e4_2 hN_2 (by kernel_rfl) (by kernel_rfl) rfl rfl) ?_
    refine pk_cons rfl rfl (st_pure [] [] (.int .i64 (0)) rfl hN_2 (by kernel_rfl) (by kernel_rfl) (by kernel_rfl) old0 (by kernel_rfl) (by kernel_rfl) (by kernel_rfl) (fun _ => by kernel_rfl)) ?_
    exact pk_nil rfl
  intro W x hC hall
  refine then_n ?_
  obtain ⟨a1, ha⟩ : ∃ a, a = putE x a_2 [(0, some 20), (1, some 21), (2, some 22), (3, some 23), (4, none), (5, some 5)] := ⟨_, rfl⟩
  rw [← ha]
  have hD1 := defers_behind ha hD_2
  have bb1 := bb_2.trans hC.below
  obtain ⟨cs, hg, hP⟩ := (show (kRes (w.heap.size + 1 + 1) 9 ((Rat.divInt (p) (q)).num) (((Rat.divInt (p) (q)).den : Int))).sem _ _ _ _ from hall 4 (of_decide_eq_true (by kernel_rfl)))
  have e1 := slot_old (t := 4) ha (by kernel_rfl) e4_2
  have e2 := (slot_new (t := 5) (i := 5) ha hN_2 (by kernel_rfl) (by kernel_rfl)).trans (show x 5 = .int .i64 (0) from hall 5 (of_decide_eq_true (by kernel_rfl)))
  repeat (first | refine wp_seq ?_ | (refine wp_skip ?_; refine then_n ?_))
  refine wp_ret ?_
  repeat (refine then_r ?_)
  exact ret_cellP2 (t := 4) (u := 5) rfl hD1 e1 e2 hg hP fun v hv => ⟨v, rfl, hv, bb1⟩
end Go.Proofs.YthgclmkhmcfflaaGreatDoor
namespace Go.Proofs.YthgclmkhmcfflaaGreatDoor
open Go.RowKit
set_option maxRecDepth 100000 in
set_option maxHeartbeats 4000000 in
theorem floor_9 {w : World} {v1 : Value} {a : Rat} (h1 : Pr w v1 9 (a.num) ((a.den : Int))) :
    Calls Tryz.prog 48 #[v1] w (TellsZ w 10 (zq (a.num) ((a.den : Int)))) := by
  obtain ⟨A1, l1, c1, A1', l1', c1', rfl, ⟨r1, u1⟩, r1', u1'⟩ := h1
  obtain ⟨b1, hb1⟩ : ∃ s, s = decide (a.num < 0) := ⟨_, rfl⟩
  obtain ⟨b1', hb1'⟩ : ∃ s, s = decide ((a.den : Int) < 0) := ⟨_, rfl⟩
  rw [← hb1, ← hb1']
  have H1 := Lib.hid (show _ ∧ _ ∧ _ ∧ _ ∧ _ ∧ _ from ⟨hb1, hb1', r1, u1, r1', u1'⟩)
  clear hb1 hb1' r1 u1 r1' u1'
  go_enter Tryz.func48, Tryz.ntmps48
  repeat (refine wp_seq ?_)
  refine region_k ?_
  intro K hK
  have HK := Lib.hid hK
  clear hK
  go_wp2
  refine HK.out _ _ ?_
  clear HK
  refine then_n ?_
  obtain ⟨W_0, hW⟩ : ∃ W, W = (w.alloc (Obj.cells #[Value.bool b1, Value.slice A1 l1 c1, Value.bool b1', Value.slice A1' l1' c1'] 53)).alloc (Obj.cells #[Value.bool false, Value.slice none 0 0] 25) := ⟨_, rfl⟩
  have bb_0 : Below w.heap.size w W_0 := by rw [hW]; exact bal (bal (Below.refl _ _) _) _
  have K0 : W_0.heap[w.heap.size]? = some (Obj.cells #[Value.bool b1, Value.slice A1 l1 c1, Value.bool b1', Value.slice A1' l1' c1'] 53) := by rw [hW]; rw [Below.heap_alloc _ _ _ (by simp <;> omega)]; exact new_at (by simp)
  have K1 : W_0.heap[w.heap.size + 1]? = some (Obj.cells #[Value.bool false, Value.slice none 0 0] 25) := by rw [hW]; exact new_at (by simp)
  rw [← hW]
  obtain ⟨m1, n1, m1', n1', _, _, _, _⟩ := four_cells K0
  have f1_0 : AtR W_0 (w.heap.size) 0 9 (a.num) := ⟨A1, l1, c1, by rw [← H1.out.1]; exact m1, n1, A1, l1, c1, rfl, H1.out.2.2.1.below bb_0, H1.out.2.2.2.1⟩
  have f1'_0 : AtR W_0 (w.heap.size) 2 9 ((a.den : Int)) := ⟨A1', l1', c1', by rw [← H1.out.2.1]; exact m1', n1', A1', l1', c1', rfl, H1.out.2.2.2.2.1.below bb_0, H1.out.2.2.2.2.2⟩
  clear m1 n1 m1' n1'
  have R_0 : Holds_ W_0 (w.heap.size + 1) #[Value.bool false, Value.slice none 0 0] := ⟨⟨_, K1⟩, by simp [noDig]⟩
  clear hW K0 K1
  refine name_frame (G := fun a => Code.wp _ _ _ a _) ?_
  intro a_0 ha
  have hN_0 : a_0.tmps.size = 18 := by subst ha; kernel_rfl
  have hD_0 : a_0.defers = [] := by subst ha; rfl
  have e1_0 : a_0.eval (.tmp 1) = .pointer (some ⟨w.heap.size, 0, none⟩) := by subst ha; kernel_rfl
  have e2_0 : a_0.eval (.tmp 2) = .pointer (some ⟨w.heap.size + 1, 0, none⟩) := by subst ha; kernel_rfl
  clear ha
  repeat (first | refine wp_seq ?_ | (refine wp_skip ?_; refine then_n ?_))
  refine wp_region_law hN_0 w.heap.size
    [kIs (.pointer (some ⟨w.heap.size, 0, none⟩)), kIs (.pointer (some ⟨w.heap.size, 0, none⟩)), kZ 9 (a.num), kIs (.pointer (some ⟨w.heap.size, 0, none⟩)), kIs (.pointer (some ⟨w.heap.size, 2, none⟩)), kZ 9 ((a.den : Int)), kZQ 10 9 (zq (a.num) ((a.den : Int))) (zm (a.num) ((a.den : Int))) 0, kZQ 10 9 (zq (a.num) ((a.den : Int))) (zm (a.num) ((a.den : Int))) 0, kZ 10 (zq (a.num) ((a.den : Int))), kZ 9 (zm (a.num) ((a.den : Int))), kIs (.int .i64 (0)), PK.fresh 2, PK.fresh 2, kPutZ 11 10 (zq (a.num) ((a.den : Int))), kPutZ 12 9 (zm (a.num) ((a.den : Int))), kIs (.int .i64 (0))]
    [ [], [(0, some 7)], [(1, some 8)], [], [(3, some 10)], [(4, some 11)], [(2, some 9), (5, some 12)], [(6, some 13)], [(7, some 6)], [(7, some 6)], [(7, some 6)], [], [], [(11, some 3), (8, some 14)], [(12, some 4), (9, some 15)], [(10, some 16)] ]
    [(0, some 7), (1, some 8), (2, some 9), (3, some 10), (4, some 11), (5, some 12), (6, some 13), (7, some 6), (8, some 14), (9, some 15), (10, some 16), (11, some 3), (12, some 4), (13, none), (14, none), (15, some 5)] [] [] (by kernel_rfl) (by kernel_rfl) (by kernel_rfl) (by kernel_rfl) (by kernel_rfl) (by kernel_rfl) (by kernel_rfl) bb_0.size ?_ ?_
  ·
    refine pk_cons rfl rfl (st_pure [] [(1, .pointer (some ⟨w.heap.size, 0, none⟩))] (.pointer (some ⟨w.heap.size, 0, none⟩)) rfl hN_0 (by kernel_rfl) (by kernel_rfl) (by kernel_rfl) (old1 e1_0) (by kernel_rfl) (by kernel_rfl) (by kernel_rfl) (fun _ => by kernel_rfl)) ?_
    refine pk_cons rfl rfl (st_pure [.pointer (some ⟨w.heap.size, 0, none⟩)] [] (.pointer (some ⟨w.heap.size, 0, none⟩)) rfl hN_0 (by kernel_rfl) (by kernel_rfl) (by kernel_rfl) old0 (by kernel_rfl) (by kernel_rfl) (by kernel_rfl) (fun _ => by kernel_rfl)) ?_
    refine pk_cons rfl rfl (st_loadA f1_0 (by simp) hN_0 (by kernel_rfl) (by kernel_rfl) rfl rfl) ?_
    refine pk_cons rfl rfl (st_pure [] [(1, .pointer (some ⟨w.heap.size, 0, none⟩))] (.pointer (some ⟨w.heap.size, 0, none⟩)) rfl hN_0 (by kernel_rfl) (by kernel_rfl) (by kernel_rfl) (old1 e1_0) (by kernel_rfl) (by kernel_rfl) (by kernel_rfl) (fun _ => by kernel_rfl)) ?_
    refine pk_cons rfl rfl (st_pure [.pointer (some ⟨w.heap.size, 0, none⟩)] [] (.pointer (some ⟨w.heap.size, 2, none⟩)) rfl hN_0 (by kernel_rfl) (by kernel_rfl) (by kernel_rfl) old0 (by kernel_rfl) (by kernel_rfl) (by kernel_rfl) (fun _ => by kernel_rfl)) ?_
    refine pk_cons rfl rfl (st_loadA f1'_0 (by simp) hN_0 (by kernel_rfl) (by kernel_rfl) rfl rfl) ?_
    refine pk_cons rfl rfl (st_call2 hN_0 (by kernel_rfl) (by kernel_rfl) (by kernel_rfl) (by kernel_rfl) (by kernel_rfl) rfl rfl rfl fun w x v1 v2 hC h1 h2 => tq (z_divMod (m := 10) (rz h1) (rz h2) (den_ne a) (by decide) (by decide) (by decide) (by decide))) ?_
    refine pk_cons rfl rfl (st_move hN_0 (by kernel_rfl) (by kernel_rfl) rfl rfl) ?_
    refine pk_cons rfl rfl (st_ext hN_0 (by kernel_rfl) (by kernel_rfl) rfl rfl ext_q) ?_
    refine pk_cons rfl rfl (st_ext hN_0 (by kernel_rfl) (by kernel_rfl) rfl rfl ext_r) ?_
    refine pk_cons rfl rfl (st_ext hN_0 (by kernel_rfl) (by kernel_rfl) rfl rfl ext_e) ?_
    refine pk_cons rfl rfl (st_alloc hN_0 (by kernel_rfl) (Nat.le_refl _) rfl) ?_
    refine pk_cons rfl rfl (st_alloc hN_0 (by kernel_rfl) (Nat.le_refl _) rfl) ?_
    refine pk_cons rfl rfl (st_put hN_0 (by kernel_rfl) (by kernel_rfl) (by kernel_rfl) rfl rfl rfl) ?_
    refine pk_cons rfl rfl (st_put hN_0 (by kernel_rfl) (by kernel_rfl) (by kernel_rfl) rfl rfl rfl) ?_
    refine pk_cons rfl rfl (st_pure [.int .i64 (0)] [] (.int .i64 (0)) rfl hN_0 (by kernel_rfl) (by kernel_rfl) (by kernel_rfl) old0 (by kernel_rfl) (by kernel_rfl) (by kernel_rfl) (fun _ => by kernel_rfl)) ?_
    exact pk_nil rfl
  intro W_1 x hC hall
  refine then_n ?_
  obtain ⟨a_1, ha⟩ : ∃ a, a = putE x a_0 [(0, some 7), (1, some 8), (2, some 9), (3, some 10), (4, some 11), (5, some 12), (6, some 13), (7, some 6), (8, some 14), (9, some 15), (10, some 16), (11, some 3), (12, some 4), (13, none), (14, none), (15, some 5)] := ⟨_, rfl⟩
  rw [← ha]
  have hN_1 := size_behind ha hN_0
  have hD_1 := defers_behind ha hD_0
  have bb_1 := bb_0.trans hC.below
  have e1_1 := slot_old ha (by kernel_rfl) e1_0
  have e2_1 := slot_old ha (by kernel_rfl) e2_0
  have f1_1 := hC.at0 f1_0
  have f1'_1 := hC.at0 f1'_0
  have R_1 := hC.holds R_0
  obtain ⟨g3, hx, hge, l3_1⟩ := put_locG (show (kPutZ 11 10 (zq (a.num) ((a.den : Int)))).sem _ _ _ _ from hall 13 (of_decide_eq_true (by kernel_rfl)))
  have d3 := Nat.lt_of_lt_of_le R_0.lt hge
  clear hge
  have e3_1 := (slot_new (t := 3) (i := 11) ha hN_0 (by kernel_rfl) (by kernel_rfl)).trans hx
  clear hx
  clear hall hC ha bb_0 hD_0 e1_0 e2_0 f1_0 f1'_0 R_0
  repeat (first | refine wp_seq ?_ | (refine wp_skip ?_; refine then_n ?_))
  refine wp_region_res hN_1 w.heap.size (w.heap.size + 1) R_1 (by omega)
    [kZ 10 (zq (a.num) ((a.den : Int))), kResZ (w.heap.size + 1) 10 (zq (a.num) ((a.den : Int)))]
    [ [], [(0, some 17)] ]
    [(0, some 17), (1, none)] [] [] (by kernel_rfl) (by kernel_rfl) (by kernel_rfl) (by kernel_rfl) (by kernel_rfl) (by kernel_rfl) (by kernel_rfl) bb_1.size ?_ ?_
  ·
    refine pk_cons rfl rfl (st_loadB (l3_1.atR) (by simp only [List.mem_singleton]; omega) e3_1 hN_1 (by kernel_rfl) rfl) ?_
    refine pk_cons rfl rfl (st_resZ R_1 (by simp) e2_1 hN_1 (by kernel_rfl) (by kernel_rfl) rfl rfl) ?_
    exact pk_nil rfl
  intro W x hC hall
  refine then_n ?_
  obtain ⟨a1, ha⟩ : ∃ a, a = putE x a_1 [(0, some 17), (1, none)] := ⟨_, rfl⟩
  rw [← ha]
  have hD1 := defers_behind ha hD_1
  have bb1 := bb_1.trans hC.below
  obtain ⟨cs, hg, hP⟩ := (show (kResZ (w.heap.size + 1) 10 (zq (a.num) ((a.den : Int)))).sem _ _ _ _ from hall 1 (of_decide_eq_true (by kernel_rfl)))
  have e1 := slot_old (t := 2) ha (by kernel_rfl) e2_1
  repeat (first | refine wp_seq ?_ | (refine wp_skip ?_; refine then_n ?_))
  refine wp_ret ?_
  repeat (refine then_r ?_)
  exact ret_cellZ (t := 2) rfl hD1 e1 hg hP fun v hv => ⟨v, rfl, hv, bb1⟩
set_option maxRecDepth 100000 in
set_option maxHeartbeats 4000000 in
theorem Floor_9 {w : World} {v1 : Value} {a : Rat} (h1 : Pr w v1 9 (a.num) ((a.den : Int))) :
    Calls Tryz.prog 20 #[v1] w (TellsZ w 10 (zq (a.num) ((a.den : Int)))) := by
  obtain ⟨A1, l1, c1, A1', l1', c1', rfl, ⟨r1, u1⟩, r1', u1'⟩ := h1
  obtain ⟨b1, hb1⟩ : ∃ s, s = decide (a.num < 0) := ⟨_, rfl⟩
  obtain ⟨b1', hb1'⟩ : ∃ s, s = decide ((a.den : Int) < 0) := ⟨_, rfl⟩
  rw [← hb1, ← hb1']
  have H1 := Lib.hid (show _ ∧ _ ∧ _ ∧ _ ∧ _ ∧ _ from ⟨hb1, hb1', r1, u1, r1', u1'⟩)
  clear hb1 hb1' r1 u1 r1' u1'
  go_enter Tryz.func20, Tryz.ntmps20
  repeat (refine wp_seq ?_)
  refine region_k ?_
  intro K hK
  have HK := Lib.hid hK
  clear hK
  go_wp2
  refine HK.out _ _ ?_
  clear HK
  refine then_n ?_
  obtain ⟨W_0, hW⟩ : ∃ W, W = (w.alloc (Obj.cells #[Value.bool b1, Value.slice A1 l1 c1, Value.bool b1', Value.slice A1' l1' c1'] 27)).alloc (Obj.cells #[Value.bool false, Value.slice none 0 0] 25) := ⟨_, rfl⟩
  have bb_0 : Below w.heap.size w W_0 := by rw [hW]; exact bal (bal (Below.refl _ _) _) _
  have K0 : W_0.heap[w.heap.size]? = some (Obj.cells #[Value.bool b1, Value.slice A1 l1 c1, Value.bool b1', Value.slice A1' l1' c1'] 27) := by rw [hW]; rw [Below.heap_alloc _ _ _ (by simp <;> omega)]; exact new_at (by simp)
  have K1 : W_0.heap[w.heap.size + 1]? = some (Obj.cells #[Value.bool false, Value.slice none 0 0] 25) := by rw [hW]; exact new_at (by simp)
  rw [← hW]
  obtain ⟨m1, n1, m1', n1', _, _, _, _⟩ := four_cells K0
  have f1_0 : AtR W_0 (w.heap.size) 0 9 (a.num) := ⟨A1, l1, c1, by rw [← H1.out.1]; exact m1, n1, A1, l1, c1, rfl, H1.out.2.2.1.below bb_0, H1.out.2.2.2.1⟩
  have f1'_0 : AtR W_0 (w.heap.size) 2 9 ((a.den : Int)) := ⟨A1', l1', c1', by rw [← H1.out.2.1]; exact m1', n1', A1', l1', c1', rfl, H1.out.2.2.2.2.1.below bb_0, H1.out.2.2.2.2.2⟩
  clear m1 n1 m1' n1'
  have R_0 : Holds_ W_0 (w.heap.size + 1) #[Value.bool false, Value.slice none 0 0] := ⟨⟨_, K1⟩, by simp [noDig]⟩
  clear hW K0 K1
  refine name_frame (G := fun a => Code.wp _ _ _ a _) ?_
  intro a_0 ha
  have hN_0 : a_0.tmps.size = 6 := by subst ha; kernel_rfl
  have hD_0 : a_0.defers = [] := by subst ha; rfl
  have e1_0 : a_0.eval (.tmp 1) = .pointer (some ⟨w.heap.size, 0, none⟩) := by subst ha; kernel_rfl
  have e2_0 : a_0.eval (.tmp 2) = .pointer (some ⟨w.heap.size + 1, 0, none⟩) := by subst ha; kernel_rfl
  clear ha
  repeat (first | refine wp_seq ?_ | (refine wp_skip ?_; refine then_n ?_))
  refine wp_region_res hN_0 w.heap.size (w.heap.size + 1) R_0 (by omega)
    [kP 9 (a.num) ((a.den : Int)), kP 9 (a.num) ((a.den : Int)), kZ 10 (zq (a.num) ((a.den : Int))), kResZ (w.heap.size + 1) 10 (zq (a.num) ((a.den : Int)))]
    [ [], [(0, some 3)], [(1, some 4)], [(2, some 5)] ]
    [(0, some 3), (1, some 4), (2, some 5), (3, none)] [] [] (by kernel_rfl) (by kernel_rfl) (by kernel_rfl) (by kernel_rfl) (by kernel_rfl) (by kernel_rfl) (by kernel_rfl) bb_0.size ?_ ?_
  ·
    refine pk_cons rfl rfl (st_load4P f1_0 f1'_0 (by simp only [List.mem_singleton]; omega) e1_0 hN_0 (by kernel_rfl) rfl) ?_
    refine pk_cons rfl rfl (st_call1 hN_0 (by kernel_rfl) (by kernel_rfl) (by kernel_rfl) rfl rfl fun w x v1 hC h1 => tp (of_9 (pm (by decide) h1))) ?_
    refine pk_cons rfl rfl (st_call1 hN_0 (by kernel_rfl) (by kernel_rfl) (by kernel_rfl) rfl rfl fun w x v1 hC h1 => tz (floor_9 (pm (by decide) h1))) ?_
    refine pk_cons rfl rfl (st_resZ R_0 (by simp) e2_0 hN_0 (by kernel_rfl) (by kernel_rfl) rfl rfl) ?_
    exact pk_nil rfl
  intro W x hC hall
  refine then_n ?_
  obtain ⟨a1, ha⟩ : ∃ a, a = putE x a_0 [(0, some 3), (1, some 4), (2, some 5), (3, none)] := ⟨_, rfl⟩
  rw [← ha]
  have hD1 := defers_behind ha hD_0
  have bb1 := bb_0.trans hC.below
  obtain ⟨cs, hg, hP⟩ := (show (kResZ (w.heap.size + 1) 10 (zq (a.num) ((a.den : Int)))).sem _ _ _ _ from hall 3 (of_decide_eq_true (by kernel_rfl)))
  have e1 := slot_old (t := 2) ha (by kernel_rfl) e2_0
  repeat (first | refine wp_seq ?_ | (refine wp_skip ?_; refine then_n ?_))
  refine wp_ret ?_
  repeat (refine then_r ?_)
  exact ret_cellZ (t := 2) rfl hD1 e1 hg hP fun v hv => ⟨v, rfl, hv, bb1⟩
end Go.Proofs.YthgclmkhmcfflaaGreatDoor
namespace Go.Proofs.YthgclmkhmcfflaaGreatDoor
open Go.RowKit
theorem run_adds {w : World} {x y : ByteArray} (h : x.size + y.size ≤ 1000000) : (binOp .add 9 (.string x) (.string y)).run Tryz.prog w = .ok (.string (x ++ y)) w := by
  have h' : x.size + y.size ≤ 9223372036854775807 := by omega
  have e := run_string_add_sum (P := Tryz.prog) (w := w) x y h'
  simpa [binOp] using e
theorem ex_adds {ρ : Operand → Value} {w : World} {d : Option Tmp} {T E2 : TypeId} {pos : String} {af : Array Edge} {gu : Option (Nat × Bool)} {a b : Operand} {x y : ByteArray} (ha : ρ a = .string x) (hb : ρ b = .string y) (h : x.size + y.size ≤ 1000000) :
    (execOp ρ { dst := d, op := .binOp .add 9 a b E2, type := T, pos := pos, after := af, guard := gu }).run Tryz.prog w = .ok (.value (.string (x ++ y))) w := by
  show (((do eqGuard .add 9 a b (ρ a) (ρ b); binOp .add 9 (ρ a) (ρ b)) : Sem Value) >>= fun v => pure (Next.value v)).run Tryz.prog w = _
  rw [ha, hb]
  have e2 : ((do eqGuard .add 9 a b (.string x) (.string y); binOp .add 9 (.string x) (.string y)) : Sem Value).run Tryz.prog w = .ok (.string (x ++ y)) w := by
    rw [run_then (v := ()) (w' := w) rfl]; exact run_adds h
  rw [run_then e2]; rfl
theorem ztext_size {z : Int} {k : Nat} (h : z.natAbs < 1000000000 ^ k) (hk : 0 < k) : (ztext z).size ≤ 9 * k + 1 := by
  have h1 := decDigits_len h hk
  unfold ztext ntext
  split
  · rw [ByteArray.size_append, dtext_size]
    show 1 + _ ≤ _
    omega
  · rw [dtext_size]; omega
end Go.Proofs.YthgclmkhmcfflaaGreatDoor
namespace Go.Proofs.YthgclmkhmcfflaaGreatDoor
open Go.RowKit
theorem den_one {a : Rat} (h : a.den ≠ 1) : (1 : Int) < (a.den : Int) := by have := a.den_pos; omega
theorem AtR.add1 {W : World} {g o k : Nat} {x : Int} (h : AtR W g o k x) (hk : 0 < k) (hk2 : k ≤ 1000) : (ztext x).size + (⟨#[47]⟩ : ByteArray).size ≤ 1000000 := by
  obtain ⟨_, _, _, _, _, h⟩ := h
  have := ztext_size h.lt hk
  show _ + 1 ≤ _
  omega
theorem AtR.add2 {W : World} {g o g' o' k k' : Nat} {x y : Int} (h : AtR W g o k x) (h' : AtR W g' o' k' y) (hk : 0 < k ∧ 0 < k') (hk2 : k ≤ 1000 ∧ k' ≤ 1000) : ((ztext x) ++ (⟨#[47]⟩ : ByteArray)).size + (ztext y).size ≤ 1000000 := by
  obtain ⟨_, _, _, _, _, h⟩ := h
  obtain ⟨_, _, _, _, _, h'⟩ := h'
  have := ztext_size h.lt hk.1
  have := ztext_size h'.lt hk.2
  rw [ByteArray.size_append]
  show _ + 1 + _ ≤ _
  omega
set_option maxRecDepth 100000 in
set_option maxHeartbeats 4000000 in
theorem decimal_9w {w : World} {v1 : Value} {a : Rat} (HT : Hid (Tab w ∧ 4 ≤ w.heap.size)) (hz : a.den = 1) (h1 : Pr w v1 9 (a.num) ((a.den : Int))) :
    Calls Tryz.prog 49 #[v1] w (fun e w' => e = .returned (.string (ztext (a.num))) ∧ Below w.heap.size w w') := by
  obtain ⟨A1, l1, c1, A1', l1', c1', rfl, ⟨r1, u1⟩, r1', u1'⟩ := h1
  obtain ⟨b1, hb1⟩ : ∃ s, s = decide (a.num < 0) := ⟨_, rfl⟩
  obtain ⟨b1', hb1'⟩ : ∃ s, s = decide ((a.den : Int) < 0) := ⟨_, rfl⟩
  rw [← hb1, ← hb1']
  have H1 := Lib.hid (show _ ∧ _ ∧ _ ∧ _ ∧ _ ∧ _ from ⟨hb1, hb1', r1, u1, r1', u1'⟩)
  clear hb1 hb1' r1 u1 r1' u1'
  go_enter Tryz.func49, Tryz.ntmps49
  repeat (refine wp_seq ?_)
  refine region_k ?_
  intro K hK
  have HK := Lib.hid hK
  clear hK
  go_wp2
  refine HK.out _ _ ?_
  clear HK
  refine then_n ?_
  obtain ⟨W_0, hW⟩ : ∃ W, W = w.alloc (Obj.cells #[Value.bool b1, Value.slice A1 l1 c1, Value.bool b1', Value.slice A1' l1' c1'] 53) := ⟨_, rfl⟩
  have bb_0 : Below w.heap.size w W_0 := by rw [hW]; exact bal (Below.refl _ _) _
  have K0 : W_0.heap[w.heap.size]? = some (Obj.cells #[Value.bool b1, Value.slice A1 l1 c1, Value.bool b1', Value.slice A1' l1' c1'] 53) := by rw [hW]; exact new_at (by simp)
  rw [← hW]
  obtain ⟨m1, n1, m1', n1', _, _, _, _⟩ := four_cells K0
  have f1_0 : AtR W_0 (w.heap.size) 0 9 (a.num) := ⟨A1, l1, c1, by rw [← H1.out.1]; exact m1, n1, A1, l1, c1, rfl, H1.out.2.2.1.below bb_0, H1.out.2.2.2.1⟩
  have f1'_0 : AtR W_0 (w.heap.size) 2 9 ((a.den : Int)) := ⟨A1', l1', c1', by rw [← H1.out.2.1]; exact m1', n1', A1', l1', c1', rfl, H1.out.2.2.2.2.1.below bb_0, H1.out.2.2.2.2.2⟩
  clear m1 n1 m1' n1'
  clear hW K0
  refine name_frame (G := fun a => Code.wp _ _ _ a _) ?_
  intro a_0 ha
  have hN_0 : a_0.tmps.size = 21 := by subst ha; kernel_rfl
  have hD_0 : a_0.defers = [] := by subst ha; rfl
  have e1_0 : a_0.eval (.tmp 1) = .pointer (some ⟨w.heap.size, 0, none⟩) := by subst ha; kernel_rfl
  clear ha
  repeat (first | refine wp_seq ?_ | (refine wp_skip ?_; refine then_n ?_))
  refine wp_region_law hN_0 w.heap.size
    [kIs (.pointer (some ⟨w.heap.size, 0, none⟩)), kIs (.pointer (some ⟨w.heap.size, 2, none⟩)), kZ 9 ((a.den : Int)), kIs (.bool true)]
    [ [], [(0, some 3)], [(1, some 4)], [(2, some 5)] ]
    [(0, some 3), (1, some 4), (2, some 5), (3, some 6)] [] [] (by kernel_rfl) (by kernel_rfl) (by kernel_rfl) (by kernel_rfl) (by kernel_rfl) (by kernel_rfl) (by kernel_rfl) bb_0.size ?_ ?_
  ·
    refine pk_cons rfl rfl (st_pure [] [(1, .pointer (some ⟨w.heap.size, 0, none⟩))] (.pointer (some ⟨w.heap.size, 0, none⟩)) rfl hN_0 (by kernel_rfl) (by kernel_rfl) (by kernel_rfl) (old1 e1_0) (by kernel_rfl) (by kernel_rfl) (by kernel_rfl) (fun _ => by kernel_rfl)) ?_
    refine pk_cons rfl rfl (st_pure [.pointer (some ⟨w.heap.size, 0, none⟩)] [] (.pointer (some ⟨w.heap.size, 2, none⟩)) rfl hN_0 (by kernel_rfl) (by kernel_rfl) (by kernel_rfl) old0 (by kernel_rfl) (by kernel_rfl) (by kernel_rfl) (fun _ => by kernel_rfl)) ?_
    refine pk_cons rfl rfl (st_loadA f1'_0 (by simp) hN_0 (by kernel_rfl) (by kernel_rfl) rfl rfl) ?_
    refine pk_cons rfl rfl (st_call1 hN_0 (by kernel_rfl) (by kernel_rfl) (by kernel_rfl) rfl rfl fun w x v1 hC h1 => ti (isOne_z1 (by rw [hz]; rfl) ((rr h1).mono (by decide)))) ?_
    exact pk_nil rfl
  intro W_1 x hC hall
  refine then_n ?_
  obtain ⟨a_1, ha⟩ : ∃ a, a = putE x a_0 [(0, some 3), (1, some 4), (2, some 5), (3, some 6)] := ⟨_, rfl⟩
  rw [← ha]
  have hN_1 := size_behind ha hN_0
  have hD_1 := defers_behind ha hD_0
  have bb_1 := bb_0.trans hC.below
  have e1_1 := slot_old ha (by kernel_rfl) e1_0
  have f1_1 := hC.at0 f1_0
  have f1'_1 := hC.at0 f1'_0
  have e6_1 := (slot_new (t := 6) (i := 3) ha hN_0 (by kernel_rfl) (by kernel_rfl)).trans (show x 3 = .bool true from hall 3 (of_decide_eq_true (by kernel_rfl)))
  clear hall hC ha bb_0 hD_0 e1_0 f1_0 f1'_0
  repeat (first | refine wp_seq ?_ | (refine wp_skip ?_; refine then_n ?_))
  refine wp_cond_true e6_1 ?_
  repeat (first | refine wp_seq ?_ | (refine wp_skip ?_; refine then_n ?_))
  refine wp_region_law hN_1 w.heap.size
    [kIs (.pointer (some ⟨w.heap.size, 0, none⟩)), kIs (.pointer (some ⟨w.heap.size, 0, none⟩)), kZ 9 (a.num), kIs (.string (ztext (a.num))), kIs (.string (ztext (a.num)))]
    [ [], [(0, some 7)], [(1, some 8)], [(2, some 9)], [(3, some 10)] ]
    [(0, some 7), (1, some 8), (2, some 9), (3, some 10), (4, some 2)] [] [] (by kernel_rfl) (by kernel_rfl) (by kernel_rfl) (by kernel_rfl) (by kernel_rfl) (by kernel_rfl) (by kernel_rfl) bb_1.size ?_ ?_
  ·
    refine pk_cons rfl rfl (st_pure [] [(1, .pointer (some ⟨w.heap.size, 0, none⟩))] (.pointer (some ⟨w.heap.size, 0, none⟩)) rfl hN_1 (by kernel_rfl) (by kernel_rfl) (by kernel_rfl) (old1 e1_1) (by kernel_rfl) (by kernel_rfl) (by kernel_rfl) (fun _ => by kernel_rfl)) ?_
    refine pk_cons rfl rfl (st_pure [.pointer (some ⟨w.heap.size, 0, none⟩)] [] (.pointer (some ⟨w.heap.size, 0, none⟩)) rfl hN_1 (by kernel_rfl) (by kernel_rfl) (by kernel_rfl) old0 (by kernel_rfl) (by kernel_rfl) (by kernel_rfl) (fun _ => by kernel_rfl)) ?_
    refine pk_cons rfl rfl (st_loadA f1_1 (by simp) hN_1 (by kernel_rfl) (by kernel_rfl) rfl rfl) ?_
    refine pk_cons rfl rfl (st_call1 hN_1 (by kernel_rfl) (by kernel_rfl) (by kernel_rfl) rfl rfl fun w x v1 hC h1 => ti (z_text (rz h1) (by decide) (HT.out.1.below (bb_1.trans hC.below) HT.out.2) (Nat.le_trans HT.out.2 (bb_1.trans hC.below).size))) ?_
    refine pk_cons rfl rfl (st_pure [.string (ztext (a.num))] [] (.string (ztext (a.num))) rfl hN_1 (by kernel_rfl) (by kernel_rfl) (by kernel_rfl) old0 (by kernel_rfl) (by kernel_rfl) (by kernel_rfl) (fun _ => by kernel_rfl)) ?_
    exact pk_nil rfl
  intro W x hC hall
  refine then_n ?_
  obtain ⟨a1, ha⟩ : ∃ a, a = putE x a_1 [(0, some 7), (1, some 8), (2, some 9), (3, some 10), (4, some 2)] := ⟨_, rfl⟩
  rw [← ha]
  have hD1 := defers_behind ha hD_1
  have bb1 := bb_1.trans hC.below
  have e1 := (slot_new (t := 2) (i := 4) ha hN_1 (by kernel_rfl) (by kernel_rfl)).trans (show x 4 = .string (ztext (a.num)) from hall 4 (of_decide_eq_true (by kernel_rfl)))
  repeat (first | refine wp_seq ?_ | (refine wp_skip ?_; refine then_n ?_))
  refine wp_ret ?_
  repeat (refine then_r ?_)
  exact ret_one (t := 2) rfl hD1 e1 ⟨rfl, bb1⟩
set_option maxRecDepth 100000 in
set_option maxHeartbeats 4000000 in
theorem Text_9w {w : World} {v1 : Value} {a : Rat} (HT : Hid (Tab w ∧ 4 ≤ w.heap.size)) (hz : a.den = 1) (h1 : Pr w v1 9 (a.num) ((a.den : Int))) :
    Calls Tryz.prog 21 #[v1] w (fun e w' => e = .returned (.string (ztext (a.num))) ∧ Below w.heap.size w w') := by
  obtain ⟨A1, l1, c1, A1', l1', c1', rfl, ⟨r1, u1⟩, r1', u1'⟩ := h1
  obtain ⟨b1, hb1⟩ : ∃ s, s = decide (a.num < 0) := ⟨_, rfl⟩
  obtain ⟨b1', hb1'⟩ : ∃ s, s = decide ((a.den : Int) < 0) := ⟨_, rfl⟩
  rw [← hb1, ← hb1']
  have H1 := Lib.hid (show _ ∧ _ ∧ _ ∧ _ ∧ _ ∧ _ from ⟨hb1, hb1', r1, u1, r1', u1'⟩)
  clear hb1 hb1' r1 u1 r1' u1'
  go_enter Tryz.func21, Tryz.ntmps21
  repeat (refine wp_seq ?_)
  refine region_k ?_
  intro K hK
  have HK := Lib.hid hK
  clear hK
  go_wp2
  refine HK.out _ _ ?_
  clear HK
  refine then_n ?_
  obtain ⟨W_0, hW⟩ : ∃ W, W = w.alloc (Obj.cells #[Value.bool b1, Value.slice A1 l1 c1, Value.bool b1', Value.slice A1' l1' c1'] 27) := ⟨_, rfl⟩
  have bb_0 : Below w.heap.size w W_0 := by rw [hW]; exact bal (Below.refl _ _) _
  have K0 : W_0.heap[w.heap.size]? = some (Obj.cells #[Value.bool b1, Value.slice A1 l1 c1, Value.bool b1', Value.slice A1' l1' c1'] 27) := by rw [hW]; exact new_at (by simp)
  rw [← hW]
  obtain ⟨m1, n1, m1', n1', _, _, _, _⟩ := four_cells K0
  have f1_0 : AtR W_0 (w.heap.size) 0 9 (a.num) := ⟨A1, l1, c1, by rw [← H1.out.1]; exact m1, n1, A1, l1, c1, rfl, H1.out.2.2.1.below bb_0, H1.out.2.2.2.1⟩
  have f1'_0 : AtR W_0 (w.heap.size) 2 9 ((a.den : Int)) := ⟨A1', l1', c1', by rw [← H1.out.2.1]; exact m1', n1', A1', l1', c1', rfl, H1.out.2.2.2.2.1.below bb_0, H1.out.2.2.2.2.2⟩
  clear m1 n1 m1' n1'
  clear hW K0
  refine name_frame (G := fun a => Code.wp _ _ _ a _) ?_
  intro a_0 ha
  have hN_0 : a_0.tmps.size = 6 := by subst ha; kernel_rfl
  have hD_0 : a_0.defers = [] := by subst ha; rfl
  have e1_0 : a_0.eval (.tmp 1) = .pointer (some ⟨w.heap.size, 0, none⟩) := by subst ha; kernel_rfl
  clear ha
  repeat (first | refine wp_seq ?_ | (refine wp_skip ?_; refine then_n ?_))
  refine wp_region_law hN_0 w.heap.size
    [kP 9 (a.num) ((a.den : Int)), kP 9 (a.num) ((a.den : Int)), kIs (.string (ztext (a.num))), kIs (.string (ztext (a.num)))]
    [ [], [(0, some 3)], [(1, some 4)], [(2, some 5)] ]
    [(0, some 3), (1, some 4), (2, some 5), (3, some 2)] [] [] (by kernel_rfl) (by kernel_rfl) (by kernel_rfl) (by kernel_rfl) (by kernel_rfl) (by kernel_rfl) (by kernel_rfl) bb_0.size ?_ ?_
  ·
    refine pk_cons rfl rfl (st_load4P f1_0 f1'_0 (by simp) e1_0 hN_0 (by kernel_rfl) rfl) ?_
    refine pk_cons rfl rfl (st_call1 hN_0 (by kernel_rfl) (by kernel_rfl) (by kernel_rfl) rfl rfl fun w x v1 hC h1 => tp (of_9 (pm (by decide) h1))) ?_
    refine pk_cons rfl rfl (st_call1 hN_0 (by kernel_rfl) (by kernel_rfl) (by kernel_rfl) rfl rfl fun w x v1 hC h1 => ti (decimal_9w (Lib.hid ⟨HT.out.1.below (bb_0.trans hC.below) HT.out.2, Nat.le_trans HT.out.2 (bb_0.trans hC.below).size⟩) hz (pm (by decide) h1))) ?_
    refine pk_cons rfl rfl (st_pure [.string (ztext (a.num))] [] (.string (ztext (a.num))) rfl hN_0 (by kernel_rfl) (by kernel_rfl) (by kernel_rfl) old0 (by kernel_rfl) (by kernel_rfl) (by kernel_rfl) (fun _ => by kernel_rfl)) ?_
    exact pk_nil rfl
  intro W x hC hall
  refine then_n ?_
  obtain ⟨a1, ha⟩ : ∃ a, a = putE x a_0 [(0, some 3), (1, some 4), (2, some 5), (3, some 2)] := ⟨_, rfl⟩
  rw [← ha]
  have hD1 := defers_behind ha hD_0
  have bb1 := bb_0.trans hC.below
  have e1 := (slot_new (t := 2) (i := 3) ha hN_0 (by kernel_rfl) (by kernel_rfl)).trans (show x 3 = .string (ztext (a.num)) from hall 3 (of_decide_eq_true (by kernel_rfl)))
  repeat (first | refine wp_seq ?_ | (refine wp_skip ?_; refine then_n ?_))
  refine wp_ret ?_
  repeat (refine then_r ?_)
  exact ret_one (t := 2) rfl hD1 e1 ⟨rfl, bb1⟩
set_option maxRecDepth 100000 in
set_option maxHeartbeats 4000000 in
theorem decimal_9b {w : World} {v1 : Value} {a : Rat} (HT : Hid (Tab w ∧ 4 ≤ w.heap.size)) (hz : a.den ≠ 1) (h1 : Pr w v1 9 (a.num) ((a.den : Int))) :
    Calls Tryz.prog 49 #[v1] w (fun e w' => e = .returned (.string (((ztext (a.num)) ++ ({ data := #[47] })) ++ (ztext ((a.den : Int))))) ∧ Below w.heap.size w w') := by
  obtain ⟨A1, l1, c1, A1', l1', c1', rfl, ⟨r1, u1⟩, r1', u1'⟩ := h1
  obtain ⟨b1, hb1⟩ : ∃ s, s = decide (a.num < 0) := ⟨_, rfl⟩
  obtain ⟨b1', hb1'⟩ : ∃ s, s = decide ((a.den : Int) < 0) := ⟨_, rfl⟩
  rw [← hb1, ← hb1']
  have H1 := Lib.hid (show _ ∧ _ ∧ _ ∧ _ ∧ _ ∧ _ from ⟨hb1, hb1', r1, u1, r1', u1'⟩)
  clear hb1 hb1' r1 u1 r1' u1'
  go_enter Tryz.func49, Tryz.ntmps49
  repeat (refine wp_seq ?_)
  refine region_k ?_
  intro K hK
  have HK := Lib.hid hK
  clear hK
  go_wp2
  refine HK.out _ _ ?_
  clear HK
  refine then_n ?_
  obtain ⟨W_0, hW⟩ : ∃ W, W = w.alloc (Obj.cells #[Value.bool b1, Value.slice A1 l1 c1, Value.bool b1', Value.slice A1' l1' c1'] 53) := ⟨_, rfl⟩
  have bb_0 : Below w.heap.size w W_0 := by rw [hW]; exact bal (Below.refl _ _) _
  have K0 : W_0.heap[w.heap.size]? = some (Obj.cells #[Value.bool b1, Value.slice A1 l1 c1, Value.bool b1', Value.slice A1' l1' c1'] 53) := by rw [hW]; exact new_at (by simp)
  rw [← hW]
  obtain ⟨m1, n1, m1', n1', _, _, _, _⟩ := four_cells K0
  have f1_0 : AtR W_0 (w.heap.size) 0 9 (a.num) := ⟨A1, l1, c1, by rw [← H1.out.1]; exact m1, n1, A1, l1, c1, rfl, H1.out.2.2.1.below bb_0, H1.out.2.2.2.1⟩
  have f1'_0 : AtR W_0 (w.heap.size) 2 9 ((a.den : Int)) := ⟨A1', l1', c1', by rw [← H1.out.2.1]; exact m1', n1', A1', l1', c1', rfl, H1.out.2.2.2.2.1.below bb_0, H1.out.2.2.2.2.2⟩
  clear m1 n1 m1' n1'
  clear hW K0
  refine name_frame (G := fun a => Code.wp _ _ _ a _) ?_
  intro a_0 ha
  have hN_0 : a_0.tmps.size = 21 := by subst ha; kernel_rfl
  have hD_0 : a_0.defers = [] := by subst ha; rfl
  have e1_0 : a_0.eval (.tmp 1) = .pointer (some ⟨w.heap.size, 0, none⟩) := by subst ha; kernel_rfl
  clear ha
  repeat (first | refine wp_seq ?_ | (refine wp_skip ?_; refine then_n ?_))
  refine wp_region_law hN_0 w.heap.size
    [kIs (.pointer (some ⟨w.heap.size, 0, none⟩)), kIs (.pointer (some ⟨w.heap.size, 2, none⟩)), kZ 9 ((a.den : Int)), kIs (.bool false)]
    [ [], [(0, some 3)], [(1, some 4)], [(2, some 5)] ]
    [(0, some 3), (1, some 4), (2, some 5), (3, some 6)] [] [] (by kernel_rfl) (by kernel_rfl) (by kernel_rfl) (by kernel_rfl) (by kernel_rfl) (by kernel_rfl) (by kernel_rfl) bb_0.size ?_ ?_
  ·
    refine pk_cons rfl rfl (st_pure [] [(1, .pointer (some ⟨w.heap.size, 0, none⟩))] (.pointer (some ⟨w.heap.size, 0, none⟩)) rfl hN_0 (by kernel_rfl) (by kernel_rfl) (by kernel_rfl) (old1 e1_0) (by kernel_rfl) (by kernel_rfl) (by kernel_rfl) (fun _ => by kernel_rfl)) ?_
    refine pk_cons rfl rfl (st_pure [.pointer (some ⟨w.heap.size, 0, none⟩)] [] (.pointer (some ⟨w.heap.size, 2, none⟩)) rfl hN_0 (by kernel_rfl) (by kernel_rfl) (by kernel_rfl) old0 (by kernel_rfl) (by kernel_rfl) (by kernel_rfl) (fun _ => by kernel_rfl)) ?_
    refine pk_cons rfl rfl (st_loadA f1'_0 (by simp) hN_0 (by kernel_rfl) (by kernel_rfl) rfl rfl) ?_
    refine pk_cons rfl rfl (st_call1 hN_0 (by kernel_rfl) (by kernel_rfl) (by kernel_rfl) rfl rfl fun w x v1 hC h1 => ti (isOne_z0 (den_one hz) ((rr h1).mono (by decide)))) ?_
    exact pk_nil rfl
  intro W_1 x hC hall
  refine then_n ?_
  obtain ⟨a_1, ha⟩ : ∃ a, a = putE x a_0 [(0, some 3), (1, some 4), (2, some 5), (3, some 6)] := ⟨_, rfl⟩
  rw [← ha]
  have hN_1 := size_behind ha hN_0
  have hD_1 := defers_behind ha hD_0
  have bb_1 := bb_0.trans hC.below
  have e1_1 := slot_old ha (by kernel_rfl) e1_0
  have f1_1 := hC.at0 f1_0
  have f1'_1 := hC.at0 f1'_0
  have e6_1 := (slot_new (t := 6) (i := 3) ha hN_0 (by kernel_rfl) (by kernel_rfl)).trans (show x 3 = .bool false from hall 3 (of_decide_eq_true (by kernel_rfl)))
  clear hall hC ha bb_0 hD_0 e1_0 f1_0 f1'_0
  repeat (first | refine wp_seq ?_ | (refine wp_skip ?_; refine then_n ?_))
  refine wp_cond_false e6_1 ?_
  repeat (first | refine wp_seq ?_ | (refine wp_skip ?_; refine then_n ?_))
  refine wp_region_law hN_1 w.heap.size
    [kIs (.pointer (some ⟨w.heap.size, 0, none⟩)), kIs (.pointer (some ⟨w.heap.size, 0, none⟩)), kZ 9 (a.num), kIs (.string (ztext (a.num))), kIs (.string ((ztext (a.num)) ++ ({ data := #[47] }))), kIs (.pointer (some ⟨w.heap.size, 0, none⟩)), kIs (.pointer (some ⟨w.heap.size, 2, none⟩)), kZ 9 ((a.den : Int)), kIs (.string (ztext ((a.den : Int)))), kIs (.string (((ztext (a.num)) ++ ({ data := #[47] })) ++ (ztext ((a.den : Int))))), kIs (.string (((ztext (a.num)) ++ ({ data := #[47] })) ++ (ztext ((a.den : Int)))))]
    [ [], [(0, some 11)], [(1, some 12)], [(2, some 13)], [(3, some 14)], [], [(5, some 16)], [(6, some 17)], [(7, some 18)], [(4, some 15), (8, some 19)], [(9, some 20)] ]
    [(0, some 11), (1, some 12), (2, some 13), (3, some 14), (4, some 15), (5, some 16), (6, some 17), (7, some 18), (8, some 19), (9, some 20), (10, some 2)] [] [] (by kernel_rfl) (by kernel_rfl) (by kernel_rfl) (by kernel_rfl) (by kernel_rfl) (by kernel_rfl) (by kernel_rfl) bb_1.size ?_ ?_
  ·
    refine pk_cons rfl rfl (st_pure [] [(1, .pointer (some ⟨w.heap.size, 0, none⟩))] (.pointer (some ⟨w.heap.size, 0, none⟩)) rfl hN_1 (by kernel_rfl) (by kernel_rfl) (by kernel_rfl) (old1 e1_1) (by kernel_rfl) (by kernel_rfl) (by kernel_rfl) (fun _ => by kernel_rfl)) ?_
    refine pk_cons rfl rfl (st_pure [.pointer (some ⟨w.heap.size, 0, none⟩)] [] (.pointer (some ⟨w.heap.size, 0, none⟩)) rfl hN_1 (by kernel_rfl) (by kernel_rfl) (by kernel_rfl) old0 (by kernel_rfl) (by kernel_rfl) (by kernel_rfl) (fun _ => by kernel_rfl)) ?_
    refine pk_cons rfl rfl (st_loadA f1_1 (by simp) hN_1 (by kernel_rfl) (by kernel_rfl) rfl rfl) ?_
    refine pk_cons rfl rfl (st_call1 hN_1 (by kernel_rfl) (by kernel_rfl) (by kernel_rfl) rfl rfl fun w x v1 hC h1 => ti (z_text (rz h1) (by decide) (HT.out.1.below (bb_1.trans hC.below) HT.out.2) (Nat.le_trans HT.out.2 (bb_1.trans hC.below).size))) ?_
    refine pk_cons rfl rfl (st_pure [.string (ztext (a.num))] [] (.string ((ztext (a.num)) ++ ({ data := #[47] }))) rfl hN_1 (by kernel_rfl) (by kernel_rfl) (by kernel_rfl) old0 (by kernel_rfl) (by kernel_rfl) (by kernel_rfl) (fun _ => ex_adds (by kernel_rfl) (by kernel_rfl) (f1_1.add1 (by decide) (by decide)))) ?_
    refine pk_cons rfl rfl (st_pure [] [(1, .pointer (some ⟨w.heap.size, 0, none⟩))] (.pointer (some ⟨w.heap.size, 0, none⟩)) rfl hN_1 (by kernel_rfl) (by kernel_rfl) (by kernel_rfl) (old1 e1_1) (by kernel_rfl) (by kernel_rfl) (by kernel_rfl) (fun _ => by kernel_rfl)) ?_
    refine pk_cons rfl rfl (st_pure [.pointer (some ⟨w.heap.size, 0, none⟩)] [] (.pointer (some ⟨w.heap.size, 2, none⟩)) rfl hN_1 (by kernel_rfl) (by kernel_rfl) (by kernel_rfl) old0 (by kernel_rfl) (by kernel_rfl) (by kernel_rfl) (fun _ => by kernel_rfl)) ?_
    refine pk_cons rfl rfl (st_loadA f1'_1 (by simp) hN_1 (by kernel_rfl) (by kernel_rfl) rfl rfl) ?_
    refine pk_cons rfl rfl (st_call1 hN_1 (by kernel_rfl) (by kernel_rfl) (by kernel_rfl) rfl rfl fun w x v1 hC h1 => ti (z_text (rz h1) (by decide) (HT.out.1.below (bb_1.trans hC.below) HT.out.2) (Nat.le_trans HT.out.2 (bb_1.trans hC.below).size))) ?_
    refine pk_cons rfl rfl (st_pure [.string ((ztext (a.num)) ++ ({ data := #[47] })), .string (ztext ((a.den : Int)))] [] (.string (((ztext (a.num)) ++ ({ data := #[47] })) ++ (ztext ((a.den : Int))))) rfl hN_1 (by kernel_rfl) (by kernel_rfl) (by kernel_rfl) old0 (by kernel_rfl) (by kernel_rfl) (by kernel_rfl) (fun _ => ex_adds (by kernel_rfl) (by kernel_rfl) (f1_1.add2 f1'_1 (by decide) (by decide)))) ?_
    refine pk_cons rfl rfl (st_pure [.string (((ztext (a.num)) ++ ({ data := #[47] })) ++ (ztext ((a.den : Int))))] [] (.string (((ztext (a.num)) ++ ({ data := #[47] })) ++ (ztext ((a.den : Int))))) rfl hN_1 (by kernel_rfl) (by kernel_rfl) (by kernel_rfl) old0 (by kernel_rfl) (by kernel_rfl) (by kernel_rfl) (fun _ => by kernel_rfl)) ?_
    exact pk_nil rfl
  intro W x hC hall
  refine then_n ?_
  obtain ⟨a1, ha⟩ : ∃ a, a = putE x a_1 [(0, some 11), (1, some 12), (2, some 13), (3, some 14), (4, some 15), (5, some 16), (6, some 17), (7, some 18), (8, some 19), (9, some 20), (10, some 2)] := ⟨_, rfl⟩
  rw [← ha]
  have hD1 := defers_behind ha hD_1
  have bb1 := bb_1.trans hC.below
  have e1 := (slot_new (t := 2) (i := 10) ha hN_1 (by kernel_rfl) (by kernel_rfl)).trans (show x 10 = .string (((ztext (a.num)) ++ ({ data := #[47] })) ++ (ztext ((a.den : Int)))) from hall 10 (of_decide_eq_true (by kernel_rfl)))
  repeat (first | refine wp_seq ?_ | (refine wp_skip ?_; refine then_n ?_))
  refine wp_ret ?_
  repeat (refine then_r ?_)
  exact ret_one (t := 2) rfl hD1 e1 ⟨rfl, bb1⟩
set_option maxRecDepth 100000 in
set_option maxHeartbeats 4000000 in
theorem Text_9b {w : World} {v1 : Value} {a : Rat} (HT : Hid (Tab w ∧ 4 ≤ w.heap.size)) (hz : a.den ≠ 1) (h1 : Pr w v1 9 (a.num) ((a.den : Int))) :
    Calls Tryz.prog 21 #[v1] w (fun e w' => e = .returned (.string (((ztext (a.num)) ++ ({ data := #[47] })) ++ (ztext ((a.den : Int))))) ∧ Below w.heap.size w w') := by
  obtain ⟨A1, l1, c1, A1', l1', c1', rfl, ⟨r1, u1⟩, r1', u1'⟩ := h1
  obtain ⟨b1, hb1⟩ : ∃ s, s = decide (a.num < 0) := ⟨_, rfl⟩
  obtain ⟨b1', hb1'⟩ : ∃ s, s = decide ((a.den : Int) < 0) := ⟨_, rfl⟩
  rw [← hb1, ← hb1']
  have H1 := Lib.hid (show _ ∧ _ ∧ _ ∧ _ ∧ _ ∧ _ from ⟨hb1, hb1', r1, u1, r1', u1'⟩)
  clear hb1 hb1' r1 u1 r1' u1'
  go_enter Tryz.func21, Tryz.ntmps21
  repeat (refine wp_seq ?_)
  refine region_k ?_
  intro K hK
  have HK := Lib.hid hK
  clear hK
  go_wp2
  refine HK.out _ _ ?_
  clear HK
  refine then_n ?_
  obtain ⟨W_0, hW⟩ : ∃ W, W = w.alloc (Obj.cells #[Value.bool b1, Value.slice A1 l1 c1, Value.bool b1', Value.slice A1' l1' c1'] 27) := ⟨_, rfl⟩
  have bb_0 : Below w.heap.size w W_0 := by rw [hW]; exact bal (Below.refl _ _) _
  have K0 : W_0.heap[w.heap.size]? = some (Obj.cells #[Value.bool b1, Value.slice A1 l1 c1, Value.bool b1', Value.slice A1' l1' c1'] 27) := by rw [hW]; exact new_at (by simp)
  rw [← hW]
  obtain ⟨m1, n1, m1', n1', _, _, _, _⟩ := four_cells K0
  have f1_0 : AtR W_0 (w.heap.size) 0 9 (a.num) := ⟨A1, l1, c1, by rw [← H1.out.1]; exact m1, n1, A1, l1, c1, rfl, H1.out.2.2.1.below bb_0, H1.out.2.2.2.1⟩
  have f1'_0 : AtR W_0 (w.heap.size) 2 9 ((a.den : Int)) := ⟨A1', l1', c1', by rw [← H1.out.2.1]; exact m1', n1', A1', l1', c1', rfl, H1.out.2.2.2.2.1.below bb_0, H1.out.2.2.2.2.2⟩
  clear m1 n1 m1' n1'
  clear hW K0
  refine name_frame (G := fun a => Code.wp _ _ _ a _) ?_
  intro a_0 ha
  have hN_0 : a_0.tmps.size = 6 := by subst ha; kernel_rfl
  have hD_0 : a_0.defers = [] := by subst ha; rfl
  have e1_0 : a_0.eval (.tmp 1) = .pointer (some ⟨w.heap.size, 0, none⟩) := by subst ha; kernel_rfl
  clear ha
  repeat (first | refine wp_seq ?_ | (refine wp_skip ?_; refine then_n ?_))
  refine wp_region_law hN_0 w.heap.size
    [kP 9 (a.num) ((a.den : Int)), kP 9 (a.num) ((a.den : Int)), kIs (.string (((ztext (a.num)) ++ ({ data := #[47] })) ++ (ztext ((a.den : Int))))), kIs (.string (((ztext (a.num)) ++ ({ data := #[47] })) ++ (ztext ((a.den : Int)))))]
    [ [], [(0, some 3)], [(1, some 4)], [(2, some 5)] ]
    [(0, some 3), (1, some 4), (2, some 5), (3, some 2)] [] [] (by kernel_rfl) (by kernel_rfl) (by kernel_rfl) (by kernel_rfl) (by kernel_rfl) (by kernel_rfl) (by kernel_rfl) bb_0.size ?_ ?_
  ·
    refine pk_cons rfl rfl (st_load4P f1_0 f1'_0 (by simp) e1_0 hN_0 (by kernel_rfl) rfl) ?_
    refine pk_cons rfl rfl (st_call1 hN_0 (by kernel_rfl) (by kernel_rfl) (by kernel_rfl) rfl rfl fun w x v1 hC h1 => tp (of_9 (pm (by decide) h1))) ?_
    refine pk_cons rfl rfl (st_call1 hN_0 (by kernel_rfl) (by kernel_rfl) (by kernel_rfl) rfl rfl fun w x v1 hC h1 => ti (decimal_9b (Lib.hid ⟨HT.out.1.below (bb_0.trans hC.below) HT.out.2, Nat.le_trans HT.out.2 (bb_0.trans hC.below).size⟩) hz (pm (by decide) h1))) ?_
    refine pk_cons rfl rfl (st_pure [.string (((ztext (a.num)) ++ ({ data := #[47] })) ++ (ztext ((a.den : Int))))] [] (.string (((ztext (a.num)) ++ ({ data := #[47] })) ++ (ztext ((a.den : Int))))) rfl hN_0 (by kernel_rfl) (by kernel_rfl) (by kernel_rfl) old0 (by kernel_rfl) (by kernel_rfl) (by kernel_rfl) (fun _ => by kernel_rfl)) ?_
    exact pk_nil rfl
  intro W x hC hall
  refine then_n ?_
  obtain ⟨a1, ha⟩ : ∃ a, a = putE x a_0 [(0, some 3), (1, some 4), (2, some 5), (3, some 2)] := ⟨_, rfl⟩
  rw [← ha]
  have hD1 := defers_behind ha hD_0
  have bb1 := bb_0.trans hC.below
  have e1 := (slot_new (t := 2) (i := 3) ha hN_0 (by kernel_rfl) (by kernel_rfl)).trans (show x 3 = .string (((ztext (a.num)) ++ ({ data := #[47] })) ++ (ztext ((a.den : Int)))) from hall 3 (of_decide_eq_true (by kernel_rfl)))
  repeat (first | refine wp_seq ?_ | (refine wp_skip ?_; refine then_n ?_))
  refine wp_ret ?_
  repeat (refine then_r ?_)
  exact ret_one (t := 2) rfl hD1 e1 ⟨rfl, bb1⟩
set_option maxRecDepth 100000 in
set_option maxHeartbeats 4000000 in
theorem decimal_19w {w : World} {v1 : Value} {a : Rat} (HT : Hid (Tab w ∧ 4 ≤ w.heap.size)) (hz : a.den = 1) (h1 : Pr w v1 19 (a.num) ((a.den : Int))) :
    Calls Tryz.prog 49 #[v1] w (fun e w' => e = .returned (.string (ztext (a.num))) ∧ Below w.heap.size w w') := by
  obtain ⟨A1, l1, c1, A1', l1', c1', rfl, ⟨r1, u1⟩, r1', u1'⟩ := h1
  obtain ⟨b1, hb1⟩ : ∃ s, s = decide (a.num < 0) := ⟨_, rfl⟩
  obtain ⟨b1', hb1'⟩ : ∃ s, s = decide ((a.den : Int) < 0) := ⟨_, rfl⟩
  rw [← hb1, ← hb1']
  have H1 := Lib.hid (show _ ∧ _ ∧ _ ∧ _ ∧ _ ∧ _ from ⟨hb1, hb1', r1, u1, r1', u1'⟩)
  clear hb1 hb1' r1 u1 r1' u1'
  go_enter Tryz.func49, Tryz.ntmps49
  repeat (refine wp_seq ?_)
  refine region_k ?_
  intro K hK
  have HK := Lib.hid hK
  clear hK
  go_wp2
  refine HK.out _ _ ?_
  clear HK
  refine then_n ?_
  obtain ⟨W_0, hW⟩ : ∃ W, W = w.alloc (Obj.cells #[Value.bool b1, Value.slice A1 l1 c1, Value.bool b1', Value.slice A1' l1' c1'] 53) := ⟨_, rfl⟩
  have bb_0 : Below w.heap.size w W_0 := by rw [hW]; exact bal (Below.refl _ _) _
  have K0 : W_0.heap[w.heap.size]? = some (Obj.cells #[Value.bool b1, Value.slice A1 l1 c1, Value.bool b1', Value.slice A1' l1' c1'] 53) := by rw [hW]; exact new_at (by simp)
  rw [← hW]
  obtain ⟨m1, n1, m1', n1', _, _, _, _⟩ := four_cells K0
  have f1_0 : AtR W_0 (w.heap.size) 0 19 (a.num) := ⟨A1, l1, c1, by rw [← H1.out.1]; exact m1, n1, A1, l1, c1, rfl, H1.out.2.2.1.below bb_0, H1.out.2.2.2.1⟩
  have f1'_0 : AtR W_0 (w.heap.size) 2 19 ((a.den : Int)) := ⟨A1', l1', c1', by rw [← H1.out.2.1]; exact m1', n1', A1', l1', c1', rfl, H1.out.2.2.2.2.1.below bb_0, H1.out.2.2.2.2.2⟩
  clear m1 n1 m1' n1'
  clear hW K0
  refine name_frame (G := fun a => Code.wp _ _ _ a _) ?_
  intro a_0 ha
  have hN_0 : a_0.tmps.size = 21 := by subst ha; kernel_rfl
  have hD_0 : a_0.defers = [] := by subst ha; rfl
  have e1_0 : a_0.eval (.tmp 1) = .pointer (some ⟨w.heap.size, 0, none⟩) := by subst ha; kernel_rfl
  clear ha
  repeat (first | refine wp_seq ?_ | (refine wp_skip ?_; refine then_n ?_))
  refine wp_region_law hN_0 w.heap.size
    [kIs (.pointer (some ⟨w.heap.size, 0, none⟩)), kIs (.pointer (some ⟨w.heap.size, 2, none⟩)), kZ 19 ((a.den : Int)), kIs (.bool true)]
    [ [], [(0, some 3)], [(1, some 4)], [(2, some 5)] ]
    [(0, some 3), (1, some 4), (2, some 5), (3, some 6)] [] [] (by kernel_rfl) (by kernel_rfl) (by kernel_rfl) (by kernel_rfl) (by kernel_rfl) (by kernel_rfl) (by kernel_rfl) bb_0.size ?_ ?_
  ·
    refine pk_cons rfl rfl (st_pure [] [(1, .pointer (some ⟨w.heap.size, 0, none⟩))] (.pointer (some ⟨w.heap.size, 0, none⟩)) rfl hN_0 (by kernel_rfl) (by kernel_rfl) (by kernel_rfl) (old1 e1_0) (by kernel_rfl) (by kernel_rfl) (by kernel_rfl) (fun _ => by kernel_rfl)) ?_
    refine pk_cons rfl rfl (st_pure [.pointer (some ⟨w.heap.size, 0, none⟩)] [] (.pointer (some ⟨w.heap.size, 2, none⟩)) rfl hN_0 (by kernel_rfl) (by kernel_rfl) (by kernel_rfl) old0 (by kernel_rfl) (by kernel_rfl) (by kernel_rfl) (fun _ => by kernel_rfl)) ?_
    refine pk_cons rfl rfl (st_loadA f1'_0 (by simp) hN_0 (by kernel_rfl) (by kernel_rfl) rfl rfl) ?_
    refine pk_cons rfl rfl (st_call1 hN_0 (by kernel_rfl) (by kernel_rfl) (by kernel_rfl) rfl rfl fun w x v1 hC h1 => ti (isOne_z1 (by rw [hz]; rfl) ((rr h1).mono (by decide)))) ?_
    exact pk_nil rfl
  intro W_1 x hC hall
  refine then_n ?_
  obtain ⟨a_1, ha⟩ : ∃ a, a = putE x a_0 [(0, some 3), (1, some 4), (2, some 5), (3, some 6)] := ⟨_, rfl⟩
  rw [← ha]
  have hN_1 := size_behind ha hN_0
  have hD_1 := defers_behind ha hD_0
  have bb_1 := bb_0.trans hC.below
  have e1_1 := slot_old ha (by kernel_rfl) e1_0
  have f1_1 := hC.at0 f1_0
  have f1'_1 := hC.at0 f1'_0
  have e6_1 := (slot_new (t := 6) (i := 3) ha hN_0 (by kernel_rfl) (by kernel_rfl)).trans (show x 3 = .bool true from hall 3 (of_decide_eq_true (by kernel_rfl)))
  clear hall hC ha bb_0 hD_0 e1_0 f1_0 f1'_0
  repeat (first | refine wp_seq ?_ | (refine wp_skip ?_; refine then_n ?_))
  refine wp_cond_true e6_1 ?_
  repeat (first | refine wp_seq ?_ | (refine wp_skip ?_; refine then_n ?_))
  refine wp_region_law hN_1 w.heap.size
    [kIs (.pointer (some ⟨w.heap.size, 0, none⟩)), kIs (.pointer (some ⟨w.heap.size, 0, none⟩)), kZ 19 (a.num), kIs (.string (ztext (a.num))), kIs (.string (ztext (a.num)))]
    [ [], [(0, some 7)], [(1, some 8)], [(2, some 9)], [(3, some 10)] ]
    [(0, some 7), (1, some 8), (2, some 9), (3, some 10), (4, some 2)] [] [] (by kernel_rfl) (by kernel_rfl) (by kernel_rfl) (by kernel_rfl) (by kernel_rfl) (by kernel_rfl) (by kernel_rfl) bb_1.size ?_ ?_
  ·
    refine pk_cons rfl rfl (st_pure [] [(1, .pointer (some ⟨w.heap.size, 0, none⟩))] (.pointer (some ⟨w.heap.size, 0, none⟩)) rfl hN_1 (by kernel_rfl) (by kernel_rfl) (by kernel_rfl) (old1 e1_1) (by kernel_rfl) (by kernel_rfl) (by kernel_rfl) (fun _ => by kernel_rfl)) ?_
    refine pk_cons rfl rfl (st_pure [.pointer (some ⟨w.heap.size, 0, none⟩)] [] (.pointer (some ⟨w.heap.size, 0, none⟩)) rfl hN_1 (by kernel_rfl) (by kernel_rfl) (by kernel_rfl) old0 (by kernel_rfl) (by kernel_rfl) (by kernel_rfl) (fun _ => by kernel_rfl)) ?_
    refine pk_cons rfl rfl (st_loadA f1_1 (by simp) hN_1 (by kernel_rfl) (by kernel_rfl) rfl rfl) ?_
    refine pk_cons rfl rfl (st_call1 hN_1 (by kernel_rfl) (by kernel_rfl) (by kernel_rfl) rfl rfl fun w x v1 hC h1 => ti (z_text (rz h1) (by decide) (HT.out.1.below (bb_1.trans hC.below) HT.out.2) (Nat.le_trans HT.out.2 (bb_1.trans hC.below).size))) ?_
    refine pk_cons rfl rfl (st_pure [.string (ztext (a.num))] [] (.string (ztext (a.num))) rfl hN_1 (by kernel_rfl) (by kernel_rfl) (by kernel_rfl) old0 (by kernel_rfl) (by kernel_rfl) (by kernel_rfl) (fun _ => by kernel_rfl)) ?_
    exact pk_nil rfl
  intro W x hC hall
  refine then_n ?_
  obtain ⟨a1, ha⟩ : ∃ a, a = putE x a_1 [(0, some 7), (1, some 8), (2, some 9), (3, some 10), (4, some 2)] := ⟨_, rfl⟩
  rw [← ha]
  have hD1 := defers_behind ha hD_1
  have bb1 := bb_1.trans hC.below
  have e1 := (slot_new (t := 2) (i := 4) ha hN_1 (by kernel_rfl) (by kernel_rfl)).trans (show x 4 = .string (ztext (a.num)) from hall 4 (of_decide_eq_true (by kernel_rfl)))
  repeat (first | refine wp_seq ?_ | (refine wp_skip ?_; refine then_n ?_))
  refine wp_ret ?_
  repeat (refine then_r ?_)
  exact ret_one (t := 2) rfl hD1 e1 ⟨rfl, bb1⟩
set_option maxRecDepth 100000 in
set_option maxHeartbeats 4000000 in
theorem Text_19w {w : World} {v1 : Value} {a : Rat} (HT : Hid (Tab w ∧ 4 ≤ w.heap.size)) (hz : a.den = 1) (h1 : Pr w v1 19 (a.num) ((a.den : Int))) :
    Calls Tryz.prog 21 #[v1] w (fun e w' => e = .returned (.string (ztext (a.num))) ∧ Below w.heap.size w w') := by
  obtain ⟨A1, l1, c1, A1', l1', c1', rfl, ⟨r1, u1⟩, r1', u1'⟩ := h1
  obtain ⟨b1, hb1⟩ : ∃ s, s = decide (a.num < 0) := ⟨_, rfl⟩
  obtain ⟨b1', hb1'⟩ : ∃ s, s = decide ((a.den : Int) < 0) := ⟨_, rfl⟩
  rw [← hb1, ← hb1']
  have H1 := Lib.hid (show _ ∧ _ ∧ _ ∧ _ ∧ _ ∧ _ from ⟨hb1, hb1', r1, u1, r1', u1'⟩)
  clear hb1 hb1' r1 u1 r1' u1'
  go_enter Tryz.func21, Tryz.ntmps21
  repeat (refine wp_seq ?_)
  refine region_k ?_
  intro K hK
  have HK := Lib.hid hK
  clear hK
  go_wp2
  refine HK.out _ _ ?_
  clear HK
  refine then_n ?_
  obtain ⟨W_0, hW⟩ : ∃ W, W = w.alloc (Obj.cells #[Value.bool b1, Value.slice A1 l1 c1, Value.bool b1', Value.slice A1' l1' c1'] 27) := ⟨_, rfl⟩
  have bb_0 : Below w.heap.size w W_0 := by rw [hW]; exact bal (Below.refl _ _) _
  have K0 : W_0.heap[w.heap.size]? = some (Obj.cells #[Value.bool b1, Value.slice A1 l1 c1, Value.bool b1', Value.slice A1' l1' c1'] 27) := by rw [hW]; exact new_at (by simp)
  rw [← hW]
  obtain ⟨m1, n1, m1', n1', _, _, _, _⟩ := four_cells K0
  have f1_0 : AtR W_0 (w.heap.size) 0 19 (a.num) := ⟨A1, l1, c1, by rw [← H1.out.1]; exact m1, n1, A1, l1, c1, rfl, H1.out.2.2.1.below bb_0, H1.out.2.2.2.1⟩
  have f1'_0 : AtR W_0 (w.heap.size) 2 19 ((a.den : Int)) := ⟨A1', l1', c1', by rw [← H1.out.2.1]; exact m1', n1', A1', l1', c1', rfl, H1.out.2.2.2.2.1.below bb_0, H1.out.2.2.2.2.2⟩
  clear m1 n1 m1' n1'
  clear hW K0
  refine name_frame (G := fun a => Code.wp _ _ _ a _) ?_
  intro a_0 ha
  have hN_0 : a_0.tmps.size = 6 := by subst ha; kernel_rfl
  have hD_0 : a_0.defers = [] := by subst ha; rfl
  have e1_0 : a_0.eval (.tmp 1) = .pointer (some ⟨w.heap.size, 0, none⟩) := by subst ha; kernel_rfl
  clear ha
  repeat (first | refine wp_seq ?_ | (refine wp_skip ?_; refine then_n ?_))
  refine wp_region_law hN_0 w.heap.size
    [kP 19 (a.num) ((a.den : Int)), kP 19 (a.num) ((a.den : Int)), kIs (.string (ztext (a.num))), kIs (.string (ztext (a.num)))]
    [ [], [(0, some 3)], [(1, some 4)], [(2, some 5)] ]
    [(0, some 3), (1, some 4), (2, some 5), (3, some 2)] [] [] (by kernel_rfl) (by kernel_rfl) (by kernel_rfl) (by kernel_rfl) (by kernel_rfl) (by kernel_rfl) (by kernel_rfl) bb_0.size ?_ ?_
  ·
    refine pk_cons rfl rfl (st_load4P f1_0 f1'_0 (by simp) e1_0 hN_0 (by kernel_rfl) rfl) ?_
    refine pk_cons rfl rfl (st_call1 hN_0 (by kernel_rfl) (by kernel_rfl) (by kernel_rfl) rfl rfl fun w x v1 hC h1 => tp (of_19 (pm (by decide) h1))) ?_
    refine pk_cons rfl rfl (st_call1 hN_0 (by kernel_rfl) (by kernel_rfl) (by kernel_rfl) rfl rfl fun w x v1 hC h1 => ti (decimal_19w (Lib.hid ⟨HT.out.1.below (bb_0.trans hC.below) HT.out.2, Nat.le_trans HT.out.2 (bb_0.trans hC.below).size⟩) hz (pm (by decide) h1))) ?_
    refine pk_cons rfl rfl (st_pure [.string (ztext (a.num))] [] (.string (ztext (a.num))) rfl hN_0 (by kernel_rfl) (by kernel_rfl) (by kernel_rfl) old0 (by kernel_rfl) (by kernel_rfl) (by kernel_rfl) (fun _ => by kernel_rfl)) ?_
    exact pk_nil rfl
  intro W x hC hall
  refine then_n ?_
  obtain ⟨a1, ha⟩ : ∃ a, a = putE x a_0 [(0, some 3), (1, some 4), (2, some 5), (3, some 2)] := ⟨_, rfl⟩
  rw [← ha]
  have hD1 := defers_behind ha hD_0
  have bb1 := bb_0.trans hC.below
  have e1 := (slot_new (t := 2) (i := 3) ha hN_0 (by kernel_rfl) (by kernel_rfl)).trans (show x 3 = .string (ztext (a.num)) from hall 3 (of_decide_eq_true (by kernel_rfl)))
  repeat (first | refine wp_seq ?_ | (refine wp_skip ?_; refine then_n ?_))
  refine wp_ret ?_
  repeat (refine then_r ?_)
  exact ret_one (t := 2) rfl hD1 e1 ⟨rfl, bb1⟩
set_option maxRecDepth 100000 in
set_option maxHeartbeats 4000000 in
theorem decimal_19b {w : World} {v1 : Value} {a : Rat} (HT : Hid (Tab w ∧ 4 ≤ w.heap.size)) (hz : a.den ≠ 1) (h1 : Pr w v1 19 (a.num) ((a.den : Int))) :
    Calls Tryz.prog 49 #[v1] w (fun e w' => e = .returned (.string (((ztext (a.num)) ++ ({ data := #[47] })) ++ (ztext ((a.den : Int))))) ∧ Below w.heap.size w w') := by
  obtain ⟨A1, l1, c1, A1', l1', c1', rfl, ⟨r1, u1⟩, r1', u1'⟩ := h1
  obtain ⟨b1, hb1⟩ : ∃ s, s = decide (a.num < 0) := ⟨_, rfl⟩
  obtain ⟨b1', hb1'⟩ : ∃ s, s = decide ((a.den : Int) < 0) := ⟨_, rfl⟩
  rw [← hb1, ← hb1']
  have H1 := Lib.hid (show _ ∧ _ ∧ _ ∧ _ ∧ _ ∧ _ from ⟨hb1, hb1', r1, u1, r1', u1'⟩)
  clear hb1 hb1' r1 u1 r1' u1'
  go_enter Tryz.func49, Tryz.ntmps49
  repeat (refine wp_seq ?_)
  refine region_k ?_
  intro K hK
  have HK := Lib.hid hK
  clear hK
  go_wp2
  refine HK.out _ _ ?_
  clear HK
  refine then_n ?_
  obtain ⟨W_0, hW⟩ : ∃ W, W = w.alloc (Obj.cells #[Value.bool b1, Value.slice A1 l1 c1, Value.bool b1', Value.slice A1' l1' c1'] 53) := ⟨_, rfl⟩
  have bb_0 : Below w.heap.size w W_0 := by rw [hW]; exact bal (Below.refl _ _) _
  have K0 : W_0.heap[w.heap.size]? = some (Obj.cells #[Value.bool b1, Value.slice A1 l1 c1, Value.bool b1', Value.slice A1' l1' c1'] 53) := by rw [hW]; exact new_at (by simp)
  rw [← hW]
  obtain ⟨m1, n1, m1', n1', _, _, _, _⟩ := four_cells K0
  have f1_0 : AtR W_0 (w.heap.size) 0 19 (a.num) := ⟨A1, l1, c1, by rw [← H1.out.1]; exact m1, n1, A1, l1, c1, rfl, H1.out.2.2.1.below bb_0, H1.out.2.2.2.1⟩
  have f1'_0 : AtR W_0 (w.heap.size) 2 19 ((a.den : Int)) := ⟨A1', l1', c1', by rw [← H1.out.2.1]; exact m1', n1', A1', l1', c1', rfl, H1.out.2.2.2.2.1.below bb_0, H1.out.2.2.2.2.2⟩
  clear m1 n1 m1' n1'
  clear hW K0
  refine name_frame (G := fun a => Code.wp _ _ _ a _) ?_
  intro a_0 ha
  have hN_0 : a_0.tmps.size = 21 := by subst ha; kernel_rfl
  have hD_0 : a_0.defers = [] := by subst ha; rfl
  have e1_0 : a_0.eval (.tmp 1) = .pointer (some ⟨w.heap.size, 0, none⟩) := by subst ha; kernel_rfl
  clear ha
  repeat (first | refine wp_seq ?_ | (refine wp_skip ?_; refine then_n ?_))
  refine wp_region_law hN_0 w.heap.size
    [kIs (.pointer (some ⟨w.heap.size, 0, none⟩)), kIs (.pointer (some ⟨w.heap.size, 2, none⟩)), kZ 19 ((a.den : Int)), kIs (.bool false)]
    [ [], [(0, some 3)], [(1, some 4)], [(2, some 5)] ]
    [(0, some 3), (1, some 4), (2, some 5), (3, some 6)] [] [] (by kernel_rfl) (by kernel_rfl) (by kernel_rfl) (by kernel_rfl) (by kernel_rfl) (by kernel_rfl) (by kernel_rfl) bb_0.size ?_ ?_
  ·
    refine pk_cons rfl rfl (st_pure [] [(1, .pointer (some ⟨w.heap.size, 0, none⟩))] (.pointer (some ⟨w.heap.size, 0, none⟩)) rfl hN_0 (by kernel_rfl) (by kernel_rfl) (by kernel_rfl) (old1 e1_0) (by kernel_rfl) (by kernel_rfl) (by kernel_rfl) (fun _ => by kernel_rfl)) ?_
    refine pk_cons rfl rfl (st_pure [.pointer (some ⟨w.heap.size, 0, none⟩)] [] (.pointer (some ⟨w.heap.size, 2, none⟩)) rfl hN_0 (by kernel_rfl) (by kernel_rfl) (by kernel_rfl) old0 (by kernel_rfl) (by kernel_rfl) (by kernel_rfl) (fun _ => by kernel_rfl)) ?_
    refine pk_cons rfl rfl (st_loadA f1'_0 (by simp) hN_0 (by kernel_rfl) (by kernel_rfl) rfl rfl) ?_
    refine pk_cons rfl rfl (st_call1 hN_0 (by kernel_rfl) (by kernel_rfl) (by kernel_rfl) rfl rfl fun w x v1 hC h1 => ti (isOne_z0 (den_one hz) ((rr h1).mono (by decide)))) ?_
    exact pk_nil rfl
  intro W_1 x hC hall
  refine then_n ?_
  obtain ⟨a_1, ha⟩ : ∃ a, a = putE x a_0 [(0, some 3), (1, some 4), (2, some 5), (3, some 6)] := ⟨_, rfl⟩
  rw [← ha]
  have hN_1 := size_behind ha hN_0
  have hD_1 := defers_behind ha hD_0
  have bb_1 := bb_0.trans hC.below
  have e1_1 := slot_old ha (by kernel_rfl) e1_0
  have f1_1 := hC.at0 f1_0
  have f1'_1 := hC.at0 f1'_0
  have e6_1 := (slot_new (t := 6) (i := 3) ha hN_0 (by kernel_rfl) (by kernel_rfl)).trans (show x 3 = .bool false from hall 3 (of_decide_eq_true (by kernel_rfl)))
  clear hall hC ha bb_0 hD_0 e1_0 f1_0 f1'_0
  repeat (first | refine wp_seq ?_ | (refine wp_skip ?_; refine then_n ?_))
  refine wp_cond_false e6_1 ?_
  repeat (first | refine wp_seq ?_ | (refine wp_skip ?_; refine then_n ?_))
  refine wp_region_law hN_1 w.heap.size
    [kIs (.pointer (some ⟨w.heap.size, 0, none⟩)), kIs (.pointer (some ⟨w.heap.size, 0, none⟩)), kZ 19 (a.num), kIs (.string (ztext (a.num))), kIs (.string ((ztext (a.num)) ++ ({ data := #[47] }))), kIs (.pointer (some ⟨w.heap.size, 0, none⟩)), kIs (.pointer (some ⟨w.heap.size, 2, none⟩)), kZ 19 ((a.den : Int)), kIs (.string (ztext ((a.den : Int)))), kIs (.string (((ztext (a.num)) ++ ({ data := #[47] })) ++ (ztext ((a.den : Int))))), kIs (.string (((ztext (a.num)) ++ ({ data := #[47] })) ++ (ztext ((a.den : Int)))))]
    [ [], [(0, some 11)], [(1, some 12)], [(2, some 13)], [(3, some 14)], [], [(5, some 16)], [(6, some 17)], [(7, some 18)], [(4, some 15), (8, some 19)], [(9, some 20)] ]
    [(0, some 11), (1, some 12), (2, some 13), (3, some 14), (4, some 15), (5, some 16), (6, some 17), (7, some 18), (8, some 19), (9, some 20), (10, some 2)] [] [] (by kernel_rfl) (by kernel_rfl) (by kernel_rfl) (by kernel_rfl) (by kernel_rfl) (by kernel_rfl) (by kernel_rfl) bb_1.size ?_ ?_
  ·
    refine pk_cons rfl rfl (st_pure [] [(1, .pointer (some ⟨w.heap.size, 0, none⟩))] (.pointer (some ⟨w.heap.size, 0, none⟩)) rfl hN_1 (by kernel_rfl) (by kernel_rfl) (by kernel_rfl) (old1 e1_1) (by kernel_rfl) (by kernel_rfl) (by kernel_rfl) (fun _ => by kernel_rfl)) ?_
    refine pk_cons rfl rfl (st_pure [.pointer (some ⟨w.heap.size, 0, none⟩)] [] (.pointer (some ⟨w.heap.size, 0, none⟩)) rfl hN_1 (by kernel_rfl) (by kernel_rfl) (by kernel_rfl) old0 (by kernel_rfl) (by kernel_rfl) (by kernel_rfl) (fun _ => by kernel_rfl)) ?_
    refine pk_cons rfl rfl (st_loadA f1_1 (by simp) hN_1 (by kernel_rfl) (by kernel_rfl) rfl rfl) ?_
    refine pk_cons rfl rfl (st_call1 hN_1 (by kernel_rfl) (by kernel_rfl) (by kernel_rfl) rfl rfl fun w x v1 hC h1 => ti (z_text (rz h1) (by decide) (HT.out.1.below (bb_1.trans hC.below) HT.out.2) (Nat.le_trans HT.out.2 (bb_1.trans hC.below).size))) ?_
    refine pk_cons rfl rfl (st_pure [.string (ztext (a.num))] [] (.string ((ztext (a.num)) ++ ({ data := #[47] }))) rfl hN_1 (by kernel_rfl) (by kernel_rfl) (by kernel_rfl) old0 (by kernel_rfl) (by kernel_rfl) (by kernel_rfl) (fun _ => ex_adds (by kernel_rfl) (by kernel_rfl) (f1_1.add1 (by decide) (by decide)))) ?_
    refine pk_cons rfl rfl (st_pure [] [(1, .pointer (some ⟨w.heap.size, 0, none⟩))] (.pointer (some ⟨w.heap.size, 0, none⟩)) rfl hN_1 (by kernel_rfl) (by kernel_rfl) (by kernel_rfl) (old1 e1_1) (by kernel_rfl) (by kernel_rfl) (by kernel_rfl) (fun _ => by kernel_rfl)) ?_
    refine pk_cons rfl rfl (st_pure [.pointer (some ⟨w.heap.size, 0, none⟩)] [] (.pointer (some ⟨w.heap.size, 2, none⟩)) rfl hN_1 (by kernel_rfl) (by kernel_rfl) (by kernel_rfl) old0 (by kernel_rfl) (by kernel_rfl) (by kernel_rfl) (fun _ => by kernel_rfl)) ?_
    refine pk_cons rfl rfl (st_loadA f1'_1 (by simp) hN_1 (by kernel_rfl) (by kernel_rfl) rfl rfl) ?_
    refine pk_cons rfl rfl (st_call1 hN_1 (by kernel_rfl) (by kernel_rfl) (by kernel_rfl) rfl rfl fun w x v1 hC h1 => ti (z_text (rz h1) (by decide) (HT.out.1.below (bb_1.trans hC.below) HT.out.2) (Nat.le_trans HT.out.2 (bb_1.trans hC.below).size))) ?_
    refine pk_cons rfl rfl (st_pure [.string ((ztext (a.num)) ++ ({ data := #[47] })), .string (ztext ((a.den : Int)))] [] (.string (((ztext (a.num)) ++ ({ data := #[47] })) ++ (ztext ((a.den : Int))))) rfl hN_1 (by kernel_rfl) (by kernel_rfl) (by kernel_rfl) old0 (by kernel_rfl) (by kernel_rfl) (by kernel_rfl) (fun _ => ex_adds (by kernel_rfl) (by kernel_rfl) (f1_1.add2 f1'_1 (by decide) (by decide)))) ?_
    refine pk_cons rfl rfl (st_pure [.string (((ztext (a.num)) ++ ({ data := #[47] })) ++ (ztext ((a.den : Int))))] [] (.string (((ztext (a.num)) ++ ({ data := #[47] })) ++ (ztext ((a.den : Int))))) rfl hN_1 (by kernel_rfl) (by kernel_rfl) (by kernel_rfl) old0 (by kernel_rfl) (by kernel_rfl) (by kernel_rfl) (fun _ => by kernel_rfl)) ?_
    exact pk_nil rfl
  intro W x hC hall
  refine then_n ?_
  obtain ⟨a1, ha⟩ : ∃ a, a = putE x a_1 [(0, some 11), (1, some 12), (2, some 13), (3, some 14), (4, some 15), (5, some 16), (6, some 17), (7, some 18), (8, some 19), (9, some 20), (10, some 2)] := ⟨_, rfl⟩
  rw [← ha]
  have hD1 := defers_behind ha hD_1
  have bb1 := bb_1.trans hC.below
  have e1 := (slot_new (t := 2) (i := 10) ha hN_1 (by kernel_rfl) (by kernel_rfl)).trans (show x 10 = .string (((ztext (a.num)) ++ ({ data := #[47] })) ++ (ztext ((a.den : Int)))) from hall 10 (of_decide_eq_true (by kernel_rfl)))
  repeat (first | refine wp_seq ?_ | (refine wp_skip ?_; refine then_n ?_))
  refine wp_ret ?_
  repeat (refine then_r ?_)
  exact ret_one (t := 2) rfl hD1 e1 ⟨rfl, bb1⟩
set_option maxRecDepth 100000 in
set_option maxHeartbeats 4000000 in
theorem Text_19b {w : World} {v1 : Value} {a : Rat} (HT : Hid (Tab w ∧ 4 ≤ w.heap.size)) (hz : a.den ≠ 1) (h1 : Pr w v1 19 (a.num) ((a.den : Int))) :
    Calls Tryz.prog 21 #[v1] w (fun e w' => e = .returned (.string (((ztext (a.num)) ++ ({ data := #[47] })) ++ (ztext ((a.den : Int))))) ∧ Below w.heap.size w w') := by
  obtain ⟨A1, l1, c1, A1', l1', c1', rfl, ⟨r1, u1⟩, r1', u1'⟩ := h1
  obtain ⟨b1, hb1⟩ : ∃ s, s = decide (a.num < 0) := ⟨_, rfl⟩
  obtain ⟨b1', hb1'⟩ : ∃ s, s = decide ((a.den : Int) < 0) := ⟨_, rfl⟩
  rw [← hb1, ← hb1']
  have H1 := Lib.hid (show _ ∧ _ ∧ _ ∧ _ ∧ _ ∧ _ from ⟨hb1, hb1', r1, u1, r1', u1'⟩)
  clear hb1 hb1' r1 u1 r1' u1'
  go_enter Tryz.func21, Tryz.ntmps21
  repeat (refine wp_seq ?_)
  refine region_k ?_
  intro K hK
  have HK := Lib.hid hK
  clear hK
  go_wp2
  refine HK.out _ _ ?_
  clear HK
  refine then_n ?_
  obtain ⟨W_0, hW⟩ : ∃ W, W = w.alloc (Obj.cells #[Value.bool b1, Value.slice A1 l1 c1, Value.bool b1', Value.slice A1' l1' c1'] 27) := ⟨_, rfl⟩
  have bb_0 : Below w.heap.size w W_0 := by rw [hW]; exact bal (Below.refl _ _) _
  have K0 : W_0.heap[w.heap.size]? = some (Obj.cells #[Value.bool b1, Value.slice A1 l1 c1, Value.bool b1', Value.slice A1' l1' c1'] 27) := by rw [hW]; exact new_at (by simp)
  rw [← hW]
  obtain ⟨m1, n1, m1', n1', _, _, _, _⟩ := four_cells K0
  have f1_0 : AtR W_0 (w.heap.size) 0 19 (a.num) := ⟨A1, l1, c1, by rw [← H1.out.1]; exact m1, n1, A1, l1, c1, rfl, H1.out.2.2.1.below bb_0, H1.out.2.2.2.1⟩
  have f1'_0 : AtR W_0 (w.heap.size) 2 19 ((a.den : Int)) := ⟨A1', l1', c1', by rw [← H1.out.2.1]; exact m1', n1', A1', l1', c1', rfl, H1.out.2.2.2.2.1.below bb_0, H1.out.2.2.2.2.2⟩
  clear m1 n1 m1' n1'
  clear hW K0
  refine name_frame (G := fun a => Code.wp _ _ _ a _) ?_
  intro a_0 ha
  have hN_0 : a_0.tmps.size = 6 := by subst ha; kernel_rfl
  have hD_0 : a_0.defers = [] := by subst ha; rfl
  have e1_0 : a_0.eval (.tmp 1) = .pointer (some ⟨w.heap.size, 0, none⟩) := by subst ha; kernel_rfl
  clear ha
  repeat (first | refine wp_seq ?_ | (refine wp_skip ?_; refine then_n ?_))
  refine wp_region_law hN_0 w.heap.size
    [kP 19 (a.num) ((a.den : Int)), kP 19 (a.num) ((a.den : Int)), kIs (.string (((ztext (a.num)) ++ ({ data := #[47] })) ++ (ztext ((a.den : Int))))), kIs (.string (((ztext (a.num)) ++ ({ data := #[47] })) ++ (ztext ((a.den : Int)))))]
    [ [], [(0, some 3)], [(1, some 4)], [(2, some 5)] ]
    [(0, some 3), (1, some 4), (2, some 5), (3, some 2)] [] [] (by kernel_rfl) (by kernel_rfl) (by kernel_rfl) (by kernel_rfl) (by kernel_rfl) (by kernel_rfl) (by kernel_rfl) bb_0.size ?_ ?_
  ·
    refine pk_cons rfl rfl (st_load4P f1_0 f1'_0 (by simp) e1_0 hN_0 (by kernel_rfl) rfl) ?_
    refine pk_cons rfl rfl (st_call1 hN_0 (by kernel_rfl) (by kernel_rfl) (by kernel_rfl) rfl rfl fun w x v1 hC h1 => tp (of_19 (pm (by decide) h1))) ?_
    refine pk_cons rfl rfl (st_call1 hN_0 (by kernel_rfl) (by kernel_rfl) (by kernel_rfl) rfl rfl fun w x v1 hC h1 => ti (decimal_19b (Lib.hid ⟨HT.out.1.below (bb_0.trans hC.below) HT.out.2, Nat.le_trans HT.out.2 (bb_0.trans hC.below).size⟩) hz (pm (by decide) h1))) ?_
    refine pk_cons rfl rfl (st_pure [.string (((ztext (a.num)) ++ ({ data := #[47] })) ++ (ztext ((a.den : Int))))] [] (.string (((ztext (a.num)) ++ ({ data := #[47] })) ++ (ztext ((a.den : Int))))) rfl hN_0 (by kernel_rfl) (by kernel_rfl) (by kernel_rfl) old0 (by kernel_rfl) (by kernel_rfl) (by kernel_rfl) (fun _ => by kernel_rfl)) ?_
    exact pk_nil rfl
  intro W x hC hall
  refine then_n ?_
  obtain ⟨a1, ha⟩ : ∃ a, a = putE x a_0 [(0, some 3), (1, some 4), (2, some 5), (3, some 2)] := ⟨_, rfl⟩
  rw [← ha]
  have hD1 := defers_behind ha hD_0
  have bb1 := bb_0.trans hC.below
  have e1 := (slot_new (t := 2) (i := 3) ha hN_0 (by kernel_rfl) (by kernel_rfl)).trans (show x 3 = .string (((ztext (a.num)) ++ ({ data := #[47] })) ++ (ztext ((a.den : Int)))) from hall 3 (of_decide_eq_true (by kernel_rfl)))
  repeat (first | refine wp_seq ?_ | (refine wp_skip ?_; refine then_n ?_))
  refine wp_ret ?_
  repeat (refine then_r ?_)
  exact ret_one (t := 2) rfl hD1 e1 ⟨rfl, bb1⟩
end Go.Proofs.YthgclmkhmcfflaaGreatDoor
namespace Go.Proofs.YthgclmkhmcfflaaGreatDoor
open Go.RowKit
theorem wp_region_pkE {P : Program} {id : Nat} {draw : Bool} {ops : Array Oper} {Q : Exit → Act → World → Prop} {a0 : Act} {W0 : World} (B : Nat) (ks : List PK) (es : List (List (Nat × Option Tmp))) (all : List (Nat × Option Tmp)) (bs : List (Nat × Bool)) (sk : List Nat) (hm : P.follows .mixedOrders = true) (hchk : growOK ops (fun i => !sk.contains i) es all a0.tmps.size = true) (hk : codesOK ks es = true) (hgu : guardOK ops bs sk = true) (hbs : bs.map (fun p => at_ ks p.1) = bs.map fun p => kIs (.bool p.2)) (hsk : sk.map (at_ ks) = sk.map fun _ => kIs undef)
    (hn : (blks ks).Nodup) (hB : ∀ g ∈ blks ks, B ≤ g) (hB0 : B ≤ W0.heap.size) (ht : ∀ g ∈ blks ks, ∃ cs, Holds_ W0 g cs)
    (E : (Nat → Bool) → World → Prop) (hE0 : ∀ W', W' = W0 ∨ W' = W0.drew → E (fun i => decide (ops.size ≤ i)) W') (hEs : ∀ i, i < ops.size → ∀ L x v w w', E L w → Reg B W0 (blks ks) w → L i = false → (sk.contains i = false → ∀ p ∈ es.getD i [], L p.1 = true) → (at_ ks i).move W0.heap.size x v w w' → E (upd L i true) w')
    (hs : ∀ i o, ops[i]? = some o → sk.contains i = false → ∀ L, L i = false → PkStep P (fun w => Reg B W0 (blks ks) w ∧ E L w) W0.heap.size ks a0 i o (es.getD i [])) (hend : ∀ w' x, Reg B W0 (blks ks) w' → (∀ i, i < ops.size → (at_ ks i).sem W0.heap.size x (x i) w') → Q .normal (putE x a0 all) w') : (Code.region id ops draw).wp P Q a0 W0 := by
  have hchk' := hchk
  unfold growOK at hchk'
  simp only [Bool.and_eq_true, decide_eq_true_eq] at hchk'
  have hall := hchk'.1.1.1
  have hops := hchk'.2
  have hlt : ∀ i o, ops[i]? = some o → ∀ p ∈ es.getD i [], p.1 < ops.size := fun i o ho p hp => by
    have hl : i < ops.size := (Array.getElem?_eq_some_iff.1 ho).1
    have h := List.all_eq_true.1 hops i (List.mem_range.2 hl)
    rw [ho] at h
    simp only [Bool.and_eq_true] at h
    have := List.all_eq_true.1 h.1.2 p hp
    simp only [Bool.and_eq_true, decide_eq_true_eq] at this
    exact this.1.2
  have hinto : ∀ i e, (at_ ks i).into = some e → i < ks.length ∧ (at_ ks e).isFresh = true ∧ (∃ p ∈ es.getD i [], p.1 = e) ∧ ∀ j, i ≠ j → (at_ ks j).into ≠ some e := fun i e hi => by
    have hl : i < ks.length := by
      rcases Nat.lt_or_ge i ks.length with h | h
      · exact h
      · unfold at_ at hi
        rw [List.getD_eq_getElem?_getD, List.getElem?_eq_none h] at hi
        simp [kAny, PK.into] at hi
    have h := List.all_eq_true.1 hk i (List.mem_range.2 hl)
    rw [hi] at h
    simp only [Bool.and_eq_true] at h
    obtain ⟨⟨⟨h1, h2⟩, h3⟩, _⟩ := h
    refine ⟨hl, h1, ?_, fun j hj hj2 => ?_⟩
    · obtain ⟨p, hp, hh⟩ := List.any_eq_true.1 h2
      exact ⟨p, hp, of_decide_eq_true hh⟩
    · have hlj : j < ks.length := by
        rcases Nat.lt_or_ge j ks.length with h | h
        · exact h
        · unfold at_ at hj2
          rw [List.getD_eq_getElem?_getD, List.getElem?_eq_none h] at hj2
          simp [kAny, PK.into] at hj2
      have := List.all_eq_true.1 h3 j (List.mem_range.2 hlj)
      simp [hj, hj2] at this
  have href : ∀ i e, (at_ ks i).ref = some e → ∃ p ∈ es.getD i [], p.1 = e := fun i e hi => by
    have hl : i < ks.length := by
      rcases Nat.lt_or_ge i ks.length with h | h
      · exact h
      · unfold at_ at hi
        rw [List.getD_eq_getElem?_getD, List.getElem?_eq_none h] at hi
        simp [kAny, PK.ref] at hi
    have h := List.all_eq_true.1 hk i (List.mem_range.2 hl)
    simp only [Bool.and_eq_true, hi] at h
    obtain ⟨p, hp, hh⟩ := List.any_eq_true.1 h.2
    exact ⟨p, hp, of_decide_eq_true hh⟩
  obtain ⟨Inv, hInv⟩ : ∃ Inv : (Nat → Bool) → (Nat → Value) → World → Prop, Inv = fun L x w => Reg B W0 (blks ks) w ∧ (∀ i, i < ops.size → L i = true → (at_ ks i).sem W0.heap.size x (x i) w) ∧ (∀ i j, i < ops.size → j < ops.size → i ≠ j → L i = true → L j = true → (at_ ks i).isNew = true → (at_ ks j).isNew = true → blockOf (x i) ≠ blockOf (x j)) ∧ ∀ i e, i < ops.size → L i = true → (at_ ks i).ref = some e → e < ops.size ∧ L e = true := ⟨_, rfl⟩
  have hgo : ∀ i, i < ops.size → ∀ L x w, Inv L x w → L i = false → (∀ e, (at_ ks i).ref = some e → e < ops.size ∧ L e = true) → ∀ v w', (at_ ks i).move W0.heap.size x v w w' → (at_ ks i).sem W0.heap.size x v w' → Inv (upd L i true) (upd x i v) w' := by
    intro i hil L x w hI hi hin v w' h1 h2
    rw [hInv] at hI ⊢
    have hintoi : ∀ j e, j < ops.size → L j = true → (at_ ks j).ref = some e → e ≠ i := fun j e hj hLj he hei => by
      have := (hI.2.2.2 j e hj hLj he).2
      rw [hei, hi] at this; cases this
    have hintoii : ∀ e, (at_ ks i).ref = some e → e ≠ i := fun e he hei => by
      have := (hin e he).2
      rw [hei, hi] at this; cases this
    -- the class
    have hR : Reg B W0 (blks ks) w' := by
      cases e : at_ ks i with
      | p f k1 k2 => rw [e] at h1; exact hI.1.step hB0 h1
      | fresh n => rw [e] at h1; exact hI.1.step hB0 h1.1
      | list n f k1 k2 => rw [e] at h1; exact hI.1.step hB0 h1.1
      | same e1 => rw [e] at h1; exact hI.1.step hB0 h1
      | cell g f k1 k2 =>
        rw [e] at h1
        have hg : g ∈ blks ks := blk_mem (i := i) (by rw [e]; rfl)
        exact hI.1.store (.inl hg) (hB g hg) h1
      | put n f k1 k2 =>
        rw [e] at h1
        obtain ⟨g, _, hg, hst⟩ := h1
        exact hI.1.store (.inr hg) (by omega) hst
    have hkeep : ∀ j, j < ops.size → L j = true → (at_ ks j).sem W0.heap.size x (x j) w' := fun j hj hLj => by
      have hij : i ≠ j := fun hh => by rw [hh, hLj] at hi; cases hi
      have hsem := hI.2.1 j hj hLj
      cases e : at_ ks i with
      | p f k1 k2 => rw [e] at h1; exact PK.step hsem h1
      | fresh n => rw [e] at h1; exact PK.step hsem h1.1
      | list n f k1 k2 => rw [e] at h1; exact PK.step hsem h1.1
      | same e1 => rw [e] at h1; exact PK.step hsem h1
      | cell g f k1 k2 =>
        rw [e] at h1
        have hgl : g < W0.heap.size := by
          obtain ⟨cs, hh⟩ := ht g (blk_mem (i := i) (by rw [e]; rfl))
          exact hh.lt
        refine PK.store hsem h1 (fun hb => hij (blk_inj hn (i := i) (j := j) (g := g) (by rw [e]; rfl) hb)) (fun e2 he2 hx => ?_) fun hf hnw hbl => ?_
        rotate_left 1
        · cases ej : at_ ks j with
          | list n3 f3 k3 k4 =>
            rw [ej] at hsem
            obtain ⟨g', q1, q2, _⟩ := hsem
            rw [q1] at hbl
            injection hbl with hbl
            have : g' = g := hbl
            omega
          | fresh n => rw [ej] at hf; cases hf
          | _ => rw [ej] at hnw; cases hnw
        cases ej : at_ ks j with
        | put e3 f3 k3 k4 =>
          rw [ej] at hsem he2
          obtain ⟨g', _, q1, q2, _⟩ := hsem
          injection he2 with he2
          subst he2
          rw [q1] at hx
          injection hx with hx
          injection hx with hx
          injection hx with hx
          omega
        | _ => rw [ej] at he2; cases he2
      | put e1 f k1 k2 =>
        rw [e] at h1
        obtain ⟨g, hxe, hg, hst⟩ := h1
        obtain ⟨_, q1, _, q3⟩ := hinto i e1 (by rw [e]; rfl)
        obtain ⟨he1l, hLe1⟩ := hin e1 (by rw [e]; rfl)
        refine PK.store hsem hst (fun hb => ?_) (fun e2 he2 hx => ?_) fun hf hnw hbl => ?_
        · obtain ⟨cs, hh⟩ := ht g (blk_mem hb)
          have := hh.lt
          omega
        rotate_left 1
        · have hne : e1 ≠ j := fun hh => by rw [← hh, q1] at hf; cases hf
          exact hI.2.2.1 e1 j he1l hj hne hLe1 hLj (PK.new_of_fresh q1) hnw (by rw [hxe, hbl]; rfl)
        ·
          have hne : e1 ≠ e2 := fun hh => q3 j hij (hh ▸ he2)
          have q4 := hinto j e2 he2
          have q5 := hI.2.2.2 j e2 hj hLj (PK.ref_of_into he2)
          exact hI.2.2.1 e1 e2 he1l q5.1 hne hLe1 q5.2 (PK.new_of_fresh q1) (PK.new_of_fresh q4.2.1) (by rw [hxe, hx])
    refine ⟨hR, fun j hj hLj => ?_, fun j k hj hk' hjk hLj hLk hfj hfk => ?_, fun j e hj hLj he => ?_⟩
    · by_cases e : j = i
      · subst e
        rw [upd_same]
        exact PK.sem_upd h2 hintoii
      · rw [upd_ne _ _ e] at hLj
        rw [upd_ne _ _ e]
        exact PK.sem_upd (hkeep j hj hLj) fun e2 he2 => hintoi j e2 hj hLj he2
    · have old : ∀ k, k < ops.size → L k = true → (at_ ks k).isNew = true → ∃ g', blockOf (x k) = some g' ∧ g' < w.heap.size := fun k hkl hLk hfk => by
        have hsem := hI.2.1 k hkl hLk
        cases e2 : at_ ks k with
        | fresh m =>
          rw [e2] at hsem
          obtain ⟨g', cs, q1, _, q3, _⟩ := hsem
          exact ⟨g', by rw [q1]; rfl, q3.lt⟩
        | list m f3 k3 k4 =>
          rw [e2] at hsem
          obtain ⟨g', q1, _, q3, _⟩ := hsem
          exact ⟨g', by rw [q1]; rfl, q3⟩
        | _ => rw [e2] at hfk; cases hfk
      have new : (at_ ks i).isNew = true → ∃ g', blockOf v = some g' ∧ w.heap.size ≤ g' := fun hfi => by
        cases e1 : at_ ks i with
        | fresh n =>
          rw [e1] at h1
          obtain ⟨_, g, hg, hgs⟩ := h1
          exact ⟨g, by rw [hg]; rfl, hgs⟩
        | list n f3 k3 k4 =>
          rw [e1] at h1
          obtain ⟨_, g, hg, hgs⟩ := h1
          exact ⟨g, by rw [hg]; rfl, hgs⟩
        | _ => rw [e1] at hfi; cases hfi
      have fr : ∀ k, k ≠ i → k < ops.size → L k = true → (at_ ks k).isNew = true → (at_ ks i).isNew = true → blockOf v ≠ blockOf (x k) := fun k _ hkl hLk hfk hfi hv => by
        obtain ⟨g', q1, q2⟩ := old k hkl hLk hfk
        obtain ⟨g, q3, q4⟩ := new hfi
        rw [q1, q3] at hv
        injection hv with hv
        omega
      by_cases e : j = i
      · subst e
        rw [upd_same, upd_ne _ _ (fun h => hjk h.symm)]
        rw [upd_ne _ _ (fun h => hjk h.symm)] at hLk
        exact fr k (fun h => hjk h.symm) hk' hLk hfk hfj
      · rw [upd_ne _ _ e] at hLj ⊢
        by_cases e' : k = i
        · subst e'
          rw [upd_same]
          exact fun h => fr j e hj hLj hfj hfk h.symm
        · rw [upd_ne _ _ e'] at hLk ⊢
          exact hI.2.2.1 j k hj hk' hjk hLj hLk hfj hfk
    · by_cases e' : j = i
      · subst e'
        refine ⟨(hin e he).1, ?_⟩
        rw [upd_ne _ _ (hintoii e he)]
        exact (hin e he).2
      · rw [upd_ne _ _ e'] at hLj
        have q := hI.2.2.2 j e hj hLj he
        refine ⟨q.1, ?_⟩
        rw [upd_ne _ _ (hintoi j e hj hLj he)]
        exact q.2
  refine wp_region_grow hm (fun L x w => Inv L x w ∧ E L w) (fun i => !sk.contains i) es all hchk ?_ (fun i o g ho hg L x w hI hL => ?_) (fun i hil hWi L x w hI hi => ?_) (fun i o ho hW L x w hI hi hd K hK => ?_) (fun L x w' hL hI => ?_)
  · intro W' hW'
    refine ⟨?_, hE0 W' hW'⟩
    rw [hInv]
    exact ⟨Reg.start ht hW', fun i hi h => absurd (of_decide_eq_true h) (by omega), fun i _ hi _ _ h => absurd (of_decide_eq_true h) (by omega), fun i _ hi h => absurd (of_decide_eq_true h) (by omega)⟩
  · replace hI := hI.1
    rw [hInv] at hI
    have hil : i < ops.size := (Array.getElem?_eq_some_iff.1 ho).1
    have h := List.all_eq_true.1 hgu i (List.mem_range.2 hil)
    rw [ho] at h
    simp only [hg, Bool.or_eq_true] at h
    rcases h with h | h
    · obtain ⟨p, hp, hh⟩ := List.any_eq_true.1 h
      simp only [Bool.and_eq_true, decide_eq_true_eq, beq_iff_eq] at hh
      obtain ⟨⟨h1, h2⟩, h3⟩ := hh
      have hs1 := hI.2.1 g.1 h2 hL
      have hk1 : at_ ks g.1 = kIs (.bool p.2) := by
        rw [← h1]
        exact List.map_inj_left.1 hbs p hp
      rw [hk1] at hs1
      exact .inl ⟨p.2, hs1, h3⟩
    · simp only [Bool.and_eq_true, decide_eq_true_eq] at h
      obtain ⟨⟨h1, h2⟩, h3⟩ := h
      have hs1 := hI.2.1 g.1 h1 hL
      have hk1 : at_ ks g.1 = kIs undef := List.map_inj_left.1 hsk g.1 (by simpa using h2)
      rw [hk1] at hs1
      exact .inr ⟨hs1, by rw [h3]; rfl⟩
  · have hm : i ∈ sk := by simpa using hWi
    have hk1 : at_ ks i = kIs undef := List.map_inj_left.1 hsk i hm
    have hmv : (at_ ks i).move W0.heap.size x undef w w := by rw [hk1]; exact Below.refl _ _
    have hI1 := hI.1
    rw [hInv] at hI1
    exact ⟨hgo i hil L x w hI.1 hi (fun e he => by rw [hk1] at he; cases he) undef w hmv (by rw [hk1]; rfl), hEs i hil L x undef w w hI.2 hI1.1 hi (fun h => absurd (show sk.contains i = true by simpa using hm) (by rw [h]; decide)) hmv⟩
  · have hil : i < ops.size := (Array.getElem?_eq_some_iff.1 ho).1
    have hI' := hI.1
    rw [hInv] at hI'
    refine deps_use (es.getD i []) (fun p hp => hI'.2.1 p.1 (hlt i o ho p hp) (hd p hp)) (hs i o ho (by simpa using hW) L hi w x ⟨hI'.1, hI.2⟩) K fun v w' h1 h2 => hK v w' ⟨hgo i hil L x w hI.1 hi (fun e he => ?_) v w' h1 h2, hEs i hil L x v w w' hI.2 hI'.1 hi (fun _ => hd) h1⟩
    obtain ⟨p, hp, hpe⟩ := href i e he
    exact ⟨hpe ▸ hlt i o ho p hp, hpe ▸ hd p hp⟩
  · replace hI := hI.1
    rw [hInv] at hI
    exact hend w' x hI.1 fun i hi => hI.2.1 i hi (hL i hi)
/-- Does operation s wait for operation j (or is it that one)? -/
def waits (es : List (List (Nat × Option Tmp))) (sk : List Nat) (n s j : Nat) : Bool := decide (j = s) || decide (s < n) && !sk.contains s && (es.getD s []).any fun p => decide (p.1 = j) || decide (p.1 < n) && !sk.contains p.1 && (es.getD p.1 []).any fun q => decide (q.1 = j)
theorem waits_not {es : List (List (Nat × Option Tmp))} {sk : List Nat} {n s j : Nat} {L : Nat → Bool} (h : waits es sk n s j = true) (hj : L j = false) (hd : ∀ i, i < n → sk.contains i = false → L i = true → ∀ p ∈ es.getD i [], L p.1 = true) : L s = false := by
  cases hs : L s with
  | false => rfl
  | true =>
    exfalso
    unfold waits at h
    rw [Bool.or_eq_true] at h
    rcases h with h | h
    · rw [of_decide_eq_true h] at hj; rw [hj] at hs; cases hs
    · rw [Bool.and_eq_true, Bool.and_eq_true] at h
      obtain ⟨⟨h1, h2⟩, h⟩ := h
      obtain ⟨p, hp, h⟩ := List.any_eq_true.1 h
      have hp1 := hd s (of_decide_eq_true h1) (by simpa using h2) hs p hp
      rw [Bool.or_eq_true] at h
      rcases h with h | h
      · rw [of_decide_eq_true h, hj] at hp1; cases hp1
      · rw [Bool.and_eq_true, Bool.and_eq_true] at h
        obtain ⟨⟨h3, h4⟩, h⟩ := h
        obtain ⟨q, hq, h⟩ := List.any_eq_true.1 h
        have hq1 := hd p.1 (of_decide_eq_true h3) (by simpa using h4) hp1 q hq
        rw [of_decide_eq_true h, hj] at hq1; cases hq1
/-- The steps, those of js with the cell as it was. -/
def PkFromL (P : Program) (ops : Array Oper) (es : List (List (Nat × Option Tmp))) (sk : List Nat) (B : Nat) (W0 : World) (g : Nat) (ks : List PK) (a0 : Act) (js : List Nat) (i : Nat) : Prop :=
  ∀ k o, i ≤ k → ops[k]? = some o → sk.contains k = false → PkStep P (fun w => Reg B W0 [g] w ∧ (js.contains k = true → w.heap[g]? = W0.heap[g]?)) W0.heap.size ks a0 k o (es.getD k [])
section
variable {P : Program} {ops : Array Oper} {es : List (List (Nat × Option Tmp))} {sk : List Nat} {B : Nat} {W0 : World} {g : Nat} {ks : List PK} {a0 : Act} {js : List Nat} {i : Nat} {o : Oper} {e : List (Nat × Option Tmp)}
theorem pkl_cons (ho : ops[i]? = some o) (he : es.getD i [] = e) (h : PkStep P (Reg B W0 [g]) W0.heap.size ks a0 i o e) (hr : PkFromL P ops es sk B W0 g ks a0 js (i + 1)) : PkFromL P ops es sk B W0 g ks a0 js i := fun k o' hk ho' hs => by
  by_cases e1 : k = i
  · subst e1
    rw [ho] at ho'
    injection ho' with ho'
    rw [← ho', he]
    exact fun w x hC => h w x hC.1
  · exact hr k o' (by omega) ho' hs
theorem pkl_keep (ho : ops[i]? = some o) (he : es.getD i [] = e) (hj : js.contains i = true) (h : PkStep P (fun w => Reg B W0 [g] w ∧ w.heap[g]? = W0.heap[g]?) W0.heap.size ks a0 i o e) (hr : PkFromL P ops es sk B W0 g ks a0 js (i + 1)) : PkFromL P ops es sk B W0 g ks a0 js i := fun k o' hk ho' hs => by
  by_cases e1 : k = i
  · subst e1
    rw [ho] at ho'
    injection ho' with ho'
    rw [← ho', he]
    exact fun w x hC => h w x ⟨hC.1, hC.2 hj⟩
  · exact hr k o' (by omega) ho' hs
theorem pkl_nil (h : ops.size = i) : PkFromL P ops es sk B W0 g ks a0 js i := fun k o hk ho _ => by
  have := (Array.getElem?_eq_some_iff.1 ho).1
  omega
end
/-- A region that stores into one old block g, by operation s; the operations js, for which s waits, find it as it was. -/
theorem wp_region_keep {P : Program} {id : Nat} {draw : Bool} {ops : Array Oper} {Q : Exit → Act → World → Prop} {a0 : Act} {W0 : World} {N : Nat} (hN : a0.tmps.size = N) (B g : Nat) {cs : Array Value} (hg : Holds_ W0 g cs) (hBg : B ≤ g) (s : Nat) (js : List Nat) (ks : List PK) (es : List (List (Nat × Option Tmp))) (all : List (Nat × Option Tmp)) (bs : List (Nat × Bool)) (sk : List Nat) (hm : P.follows .mixedOrders = true) (hchk : growOK ops (fun i => !sk.contains i) es all N = true) (hk : codesOK ks es = true) (hgu : guardOK ops bs sk = true) (hbs : bs.map (fun p => at_ ks p.1) = bs.map fun p => kIs (.bool p.2)) (hsk : sk.map (at_ ks) = sk.map fun _ => kIs undef)
    (hb : blks ks = [g]) (hsg : (at_ ks s).blk = some g) (hjs : js.all (waits es sk ops.size s) = true) (hB0 : B ≤ W0.heap.size) (hs : PkFromL P ops es sk B W0 g ks a0 js 0) (hend : ∀ w' x, Reg B W0 [g] w' → (∀ i, i < ops.size → (at_ ks i).sem W0.heap.size x (x i) w') → Q .normal (putE x a0 all) w') : (Code.region id ops draw).wp P Q a0 W0 := by
  subst hN
  have hn : (blks ks).Nodup := by rw [hb]; exact List.nodup_cons.2 ⟨by simp, List.nodup_nil⟩
  have hops := hchk
  unfold growOK at hops
  simp only [Bool.and_eq_true, decide_eq_true_eq] at hops
  have hlt : ∀ i, i < ops.size → ∀ p ∈ es.getD i [], p.1 < ops.size := fun i hi p hp => by
    have h := List.all_eq_true.1 hops.2 i (List.mem_range.2 hi)
    rw [Array.getElem?_eq_getElem hi] at h
    simp only [Bool.and_eq_true] at h
    have := List.all_eq_true.1 h.1.2 p hp
    simp only [Bool.and_eq_true, decide_eq_true_eq] at this
    exact this.1.2
  refine wp_region_pkE B ks es all bs sk hm hchk hk hgu hbs hsk hn ?_ hB0 ?_ (fun L w => (L s = false → w.heap[g]? = W0.heap[g]?) ∧ ∀ i, i < ops.size → sk.contains i = false → L i = true → ∀ p ∈ es.getD i [], L p.1 = true) ?_ ?_ ?_ ?_
  · rw [hb]; intro g' hg'; rw [List.mem_singleton.1 hg']; exact hBg
  · rw [hb]; intro g' hg'; rw [List.mem_singleton.1 hg']; exact ⟨_, hg⟩
  · intro W' hW'
    refine ⟨fun _ => ?_, fun i hi _ h => absurd (of_decide_eq_true h) (by omega)⟩
    rcases hW' with rfl | rfl <;> rfl
  · intro i hil L x v w w' hE hR hi hd hmv
    refine ⟨fun hL => ?_, fun k hk1 hk2 hk3 p hp => ?_⟩
    · have hne : s ≠ i := fun h => by rw [h, upd_same] at hL; cases hL
      rw [upd_ne _ _ hne] at hL
      have hw := hE.1 hL
      have hgw : g < w.heap.size := Nat.lt_of_lt_of_le hg.lt hR.below.size
      refine Eq.trans ?_ hw
      cases e : at_ ks i with
      | p f k1 k2 => rw [e] at hmv; exact hmv.block g hgw
      | fresh n => rw [e] at hmv; exact hmv.1.block g hgw
      | list n f k1 k2 => rw [e] at hmv; exact hmv.1.block g hgw
      | same e1 => rw [e] at hmv; exact hmv.block g hgw
      | cell g' f k1 k2 =>
        rw [e] at hmv
        refine hmv.other g fun h => hne (blk_inj hn (i := s) (j := i) (g := g) hsg ?_)
        rw [e, h]; rfl
      | put n f k1 k2 =>
        rw [e] at hmv
        obtain ⟨g', _, hg', hst⟩ := hmv
        refine hst.other g fun h => ?_
        have := hg.lt
        omega
    · by_cases e : k = i
      · subst e
        by_cases e2 : p.1 = k
        · rw [e2, upd_same]
        · rw [upd_ne _ _ e2]; exact hd hk2 p hp
      · rw [upd_ne _ _ e] at hk3
        by_cases e2 : p.1 = i
        · rw [e2, upd_same]
        · rw [upd_ne _ _ e2]; exact hE.2 k hk1 hk2 hk3 p hp
  · intro i o ho hsi L hi w x hC
    rw [hb] at hC
    exact hs i o (Nat.zero_le _) ho hsi w x ⟨hC.1, fun hj => hC.2.1 (waits_not (List.all_eq_true.1 hjs i (by simpa using hj)) hi hC.2.2)⟩
  · rw [hb]; exact hend
end Go.Proofs.YthgclmkhmcfflaaGreatDoor

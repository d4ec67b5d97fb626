/- Steps of a region that draws its order: a cell loaded, a place in a list, a byte in a list of its own, that list as a text, two texts in one. No condition. -/
import Derived.Test.YtbccknhinmgibaaDoorBk0
import Derived.Test.YtbccknhinmgibaaDoorLM
set_option linter.unusedVariables false
set_option linter.unusedSimpArgs false
namespace Go.Proofs.YtbccknhinmgibaaDoor
open Go.RowKit

section
variable {W0 : World} {ks : List BK} {a0 : Act} {i N : Nat} {T : TypeId} {pos : String} {af : Array Edge} {gu : Option (Nat × Bool)}
theorem ex_conv {P : Program} {w w' : World} {ρ : Operand → Value} {d : Option Tmp} {E F : TypeId} {t : Tmp} {v u : Value} (h : ρ (.tmp t) = v) (hr : (convert E F v).run P w = .ok u w') : (execOp ρ { dst := d, op := .convert E F (.tmp t), type := T, pos := pos, after := af, guard := gu }).run P w = .ok (.value u) w' := by
  show Sem.run P ((convert E F (ρ (.tmp t))) >>= fun v => pure (Next.value v)) w = _
  rw [h]
  rw [run_then hr]; rfl
theorem ex_idx {P : Program} {w w' : World} {ρ : Operand → Value} {d : Option Tmp} {E : TypeId} {t t2 : Tmp} {v v2 u : Value} (h : ρ (.tmp t) = v) (h2 : ρ (.tmp t2) = v2) (hr : (Instr.indexAt E v v2).run P w = .ok u w') : (execOp ρ { dst := d, op := .indexAddr E (.tmp t) (.tmp t2), type := T, pos := pos, after := af, guard := gu }).run P w = .ok (.value u) w' := by
  show Sem.run P ((Instr.indexAt E (ρ (.tmp t)) (ρ (.tmp t2))) >>= fun v => pure (Next.value v)) w = _
  rw [h, h2]
  rw [run_then hr]; rfl
theorem run_lds {w : World} {p : Addr} {s : ByteArray} (h : w.cell? p = some (.string s)) : (Instr.loadAt 9 (.pointer (some p))).run Tryd.prog w = .ok (.string s) w := by go_simp
theorem run_idxs {w : World} {ad : Addr} {k n c : Nat} (h : k < n) : (Instr.indexAt 22 (.slice (some ad) n c) (.int .i64 (k : Int))).run Tryd.prog w = .ok (.pointer (some (ad.add k))) w := by
  have h' : (k : Int) < (n : Int) := by omega
  go_simp
/-- A text loaded. -/
theorem b_lds {d t j : Nat} {p : Addr} {s : ByteArray} (h : W0.cell? p = some (.string s)) (hN : a0.tmps.size = N) (hd : decide (d < N) = true) (ht : decide (t < N) = true) (hj : bat ks j = bIs (.pointer (some p))) (hi : bat ks i = bIs (.string s)) :
    BStep Tryd.prog W0 ks a0 i { dst := some d, op := .load 9 (.tmp t), type := T, pos := pos, after := af, guard := gu } [(j, some t)] := by
  intro w x hC hdeps K hK
  have g1 := hdeps (j, some t) (by simp)
  rw [hj] at g1
  replace g1 : x j = .pointer (some p) := g1
  have e1 : (putE x a0 [(j, some t)]).eval (.tmp t) = x j := putE_new _ _ (by rw [hN]; exact of_decide_eq_true ht) (by simp [slotAt])
  refine wp_val (w' := w) rfl (by rw [putE_size, hN]) hd (ex_load (e1.trans g1) (run_lds ((hC.cell (cell_lt h)).trans h))) (hK _ _ (Below.refl _ _) ?_)
  rw [hi]; rfl
/-- A place in a list of texts. -/
theorem b_idxs {d t1 j1 t2 j2 k n c : Nat} {ad : Addr} (hk : k < n) (hN : a0.tmps.size = N) (hd : decide (d < N) = true) (ht1 : decide (t1 < N) = true) (ht2 : decide (t2 < N) = true) (hne : decide (t1 = t2) = false) (h1 : bat ks j1 = bIs (.slice (some ad) n c)) (h2 : bat ks j2 = bIs (.int .i64 (k : Int))) (hi : bat ks i = bIs (.pointer (some (ad.add k)))) :
    BStep Tryd.prog W0 ks a0 i { dst := some d, op := .indexAddr 22 (.tmp t1) (.tmp t2), type := T, pos := pos, after := af, guard := gu } [(j1, some t1), (j2, some t2)] := by
  intro w x hC hdeps K hK
  have g1 := hdeps (j1, some t1) (by simp)
  have g2 := hdeps (j2, some t2) (by simp)
  rw [h1] at g1
  rw [h2] at g2
  replace g1 : x j1 = .slice (some ad) n c := g1
  replace g2 : x j2 = .int .i64 (k : Int) := g2
  have hne' := of_decide_eq_false hne
  have e1 : (putE x a0 [(j1, some t1), (j2, some t2)]).eval (.tmp t1) = x j1 := putE_new _ _ (by rw [hN]; exact of_decide_eq_true ht1) (by simp [slotAt, Ne.symm hne'])
  have e2 : (putE x a0 [(j1, some t1), (j2, some t2)]).eval (.tmp t2) = x j2 := putE_new _ _ (by rw [hN]; exact of_decide_eq_true ht2) (by simp [slotAt])
  refine wp_val (w' := w) rfl (by rw [putE_size, hN]) hd (ex_idx (e1.trans g1) (e2.trans g2) (run_idxs hk)) (hK _ _ (Below.refl _ _) ?_)
  rw [hi]; rfl
/-- A list of one byte, in memory. -/
def bOne (b : UInt8) : BK := ⟨fun v w => ∃ g, v = .slice (some ⟨g, 0, none⟩) 1 1 ∧ w.cell? ⟨g, 0, none⟩ = some (.int .u8 (b.toNat : Int)), fun _ _ _ ⟨g, e, h⟩ hb => ⟨g, e, (hb.cell (cell_lt h)).trans h⟩⟩
theorem run_byte {w : World} {v : Int} : (Instr.buildSlice 25 1 #[(0, .int .u8 v)]).run Tryd.prog w = .ok (.slice (some ⟨w.heap.size, 0, none⟩) 1 1) (w.alloc (.cells #[.int .u8 v] 5)) := by go_simp
set_option maxRecDepth 100000 in
theorem b_one {d t1 j1 : Nat} {b : UInt8} (hN : a0.tmps.size = N) (hd : decide (d < N) = true) (ht1 : decide (t1 < N) = true) (h1 : bat ks j1 = bIs (.int .u8 (b.toNat : Int))) (hi : bat ks i = bOne b) :
    BStep Tryd.prog W0 ks a0 i { dst := some d, op := .buildSlice 25 1 #[(0, .tmp t1)], type := T, pos := pos, after := af, guard := gu } [(j1, some t1)] := by
  intro w x hC hdeps K hK
  have g1 := hdeps (j1, some t1) (by simp)
  rw [h1] at g1
  replace g1 : x j1 = .int .u8 (b.toNat : Int) := g1
  have e1 : (putE x a0 [(j1, some t1)]).eval (.tmp t1) = x j1 := putE_new _ _ (by rw [hN]; exact of_decide_eq_true ht1) (by simp [slotAt])
  refine wp_val rfl (by rw [putE_size, hN]) hd (ex_slice1 (e1.trans g1) run_byte) (hK _ _ ((Below.refl _ _).alloc (Nat.le_refl _) _) ?_)
  rw [hi]
  exact ⟨_, rfl, (cell_of_row _ _ 0 _ _ _ (heap_alloc_new _ _)).trans rfl⟩
set_option maxRecDepth 100000 in
theorem b_text {d t1 j1 : Nat} {b : UInt8} (hN : a0.tmps.size = N) (hd : decide (d < N) = true) (ht1 : decide (t1 < N) = true) (h1 : bat ks j1 = bOne b) (hi : bat ks i = bIs (.string ⟨#[b]⟩)) :
    BStep Tryd.prog W0 ks a0 i { dst := some d, op := .convert 25 9 (.tmp t1), type := T, pos := pos, after := af, guard := gu } [(j1, some t1)] := by
  intro w x hC hdeps K hK
  have g1 := hdeps (j1, some t1) (by simp)
  rw [h1] at g1
  obtain ⟨g, hg, hc⟩ := g1
  have e1 : (putE x a0 [(j1, some t1)]).eval (.tmp t1) = x j1 := putE_new _ _ (by rw [hN]; exact of_decide_eq_true ht1) (by simp [slotAt])
  refine wp_val (w' := w) rfl (by rw [putE_size, hN]) hd (ex_conv (e1.trans hg) (run_convert_bytes_back w 25 9 5 ⟨g, 0, none⟩ 1 [b] Tryd.underlying25 Tryd.underlying5 Tryd.underlying9 fun j hj => ?_)) (hK _ _ (Below.refl _ _) ?_)
  · obtain rfl : j = 0 := by simpa using hj
    rw [add_eq0]; exact hc
  · rw [hi]; rfl
theorem run_adds {w : World} {x y : ByteArray} (h : x.size + y.size ≤ 1000000) : (binOp .add 9 (.string x) (.string y)).run Tryd.prog w = .ok (.string (x ++ y)) w := by
  have h' : x.size + y.size ≤ 9223372036854775807 := by omega
  have e := run_string_add_sum (P := Tryd.prog) (w := w) x y h'
  simpa [binOp] using e
theorem ex_adds {ρ : Operand → Value} {w : World} {d : Option Tmp} {E2 : TypeId} {a b : Operand} {x y : ByteArray} (ha : ρ a = .string x) (hb : ρ b = .string y) (h : x.size + y.size ≤ 1000000) :
    (execOp ρ { dst := d, op := .binOp .add 9 a b E2, type := T, pos := pos, after := af, guard := gu }).run Tryd.prog w = .ok (.value (.string (x ++ y))) w := by
  show (((do eqGuard .add 9 a b (ρ a) (ρ b); binOp .add 9 (ρ a) (ρ b)) : Sem Value) >>= fun v => pure (Next.value v)).run Tryd.prog w = _
  rw [ha, hb]
  have e2 : ((do eqGuard .add 9 a b (.string x) (.string y); binOp .add 9 (.string x) (.string y)) : Sem Value).run Tryd.prog w = .ok (.string (x ++ y)) w := by
    rw [run_then (v := ()) (w' := w) rfl]; exact run_adds h
  rw [run_then e2]; rfl
/-- Two texts in one. -/
theorem b_add {d t1 j1 t2 j2 : Nat} {x1 x2 : ByteArray} {E2 : TypeId} (hb : x1.size + x2.size ≤ 1000000) (hN : a0.tmps.size = N) (hd : decide (d < N) = true) (ht1 : decide (t1 < N) = true) (ht2 : decide (t2 < N) = true) (hne : decide (t1 = t2) = false) (h1 : bat ks j1 = bIs (.string x1)) (h2 : bat ks j2 = bIs (.string x2)) (hi : bat ks i = bIs (.string (x1 ++ x2))) :
    BStep Tryd.prog W0 ks a0 i { dst := some d, op := .binOp .add 9 (.tmp t1) (.tmp t2) E2, type := T, pos := pos, after := af, guard := gu } [(j1, some t1), (j2, some t2)] := by
  intro w x hC hdeps K hK
  have g1 := hdeps (j1, some t1) (by simp)
  have g2 := hdeps (j2, some t2) (by simp)
  rw [h1] at g1
  rw [h2] at g2
  replace g1 : x j1 = .string x1 := g1
  replace g2 : x j2 = .string x2 := g2
  have hne' := of_decide_eq_false hne
  have e1 : (putE x a0 [(j1, some t1), (j2, some t2)]).eval (.tmp t1) = x j1 := putE_new _ _ (by rw [hN]; exact of_decide_eq_true ht1) (by simp [slotAt, Ne.symm hne'])
  have e2 : (putE x a0 [(j1, some t1), (j2, some t2)]).eval (.tmp t2) = x j2 := putE_new _ _ (by rw [hN]; exact of_decide_eq_true ht2) (by simp [slotAt])
  refine wp_val (w' := w) rfl (by rw [putE_size, hN]) hd (ex_adds (e1.trans g1) (e2.trans g2) hb) (hK _ _ (Below.refl _ _) ?_)
  rw [hi]; rfl
/-- A text of any bytes, not long. -/
def bTxt : BK := ⟨fun v _ => ∃ s : ByteArray, v = .string s ∧ s.size ≤ 1000, fun _ _ _ h _ => h⟩
end
end Go.Proofs.YtbccknhinmgibaaDoor

/- Trees appended behind trees of the call's own. No program's function, no condition. -/
import Derived.Test.YtbccknhinmgibaaDoorLTrees
set_option linter.unusedVariables false
set_option linter.unusedSimpArgs false
namespace Go.Proofs.YtbccknhinmgibaaDoor
open Go.RowKit

/-- The cells of trees in memory. -/
theorem FoAt.cells {W : World} {N : Nat} (hN : W.heap.size ≤ N) : ∀ (f : Fo) {K : Option Addr} {j : Nat}, FoAt W K j f → ∃ C, KidsC (fun m => m < N) W C f ∧ (∀ u ∈ C, u.oneCell' = true) ∧ ∀ i u, C[i]? = some u → ∃ g o, K = some ⟨g, o, none⟩ ∧ W.cell? ⟨g, o + j * 4 + i, none⟩ = some u
  | .nil, K, j, _ => ⟨[], rfl, fun u hu => (by cases hu), fun i u hu => by simp at hu⟩
  | .cons s k b p r, K, j, ⟨⟨g, o, A, c, eK, h0, h1, h2, h3, h4, h5⟩, h6⟩ => by
    subst eK
    obtain ⟨C, hC, h1c, hc⟩ := FoAt.cells hN r h6
    refine ⟨.string s :: .slice A k.len c :: .bool b :: .int .i64 p :: C, ⟨A, c, C, rfl, h4, fun W' hW => h5.keep k fun a u hu => hW a u hu (Nat.lt_of_lt_of_le (cell_lt hu) hN), hC⟩, fun u hu => ?_, fun i u hu => ?_⟩
    · simp only [List.mem_cons] at hu
      rcases hu with rfl | rfl | rfl | rfl | hu
      · rfl
      · rfl
      · rfl
      · rfl
      · exact h1c u hu
    · match i, hu with
      | 0, hu => simp at hu; subst hu; exact ⟨g, o, rfl, h0⟩
      | 1, hu => simp at hu; subst hu; exact ⟨g, o, rfl, h1⟩
      | 2, hu => simp at hu; subst hu; exact ⟨g, o, rfl, h2⟩
      | 3, hu => simp at hu; subst hu; exact ⟨g, o, rfl, h3⟩
      | i + 4, hu =>
        obtain ⟨g', o', e, h⟩ := hc i u (by simpa using hu)
        simp only [Option.some.injEq, Addr.mk.injEq, and_true] at e
        obtain ⟨rfl, rfl⟩ := e
        refine ⟨g, o, rfl, ?_⟩
        rw [show o + j * 4 + (i + 4) = o + (j + 1) * 4 + i by omega]
        exact h
theorem KidsC.app {D : Nat → Prop} {W : World} : ∀ (f g : Fo) {C E : List Value}, KidsC D W C f → KidsC D W E g → KidsC D W (C ++ E) (f.app g)
  | .nil, g, C, E, h1, h2 => by rw [show C = [] from h1]; exact h2
  | .cons s k b p r, g, C, E, ⟨A, c, C', e, h3, h4, h5⟩, h2 => by
    subst e
    exact ⟨A, c, C' ++ E, rfl, h3, h4, KidsC.app r g h5 h2⟩
theorem run_from_none4 {P : Program} {w : World} {base : Nat} {t ty e : TypeId} {i : TypeInfo} (ht : P.underlying t = some (.slice e)) (hi : P.info? e = some i) {v : Value} {n sz : Nat} {xs : List Value} (hown : w.ownsRow base e sz v n xs) (A : Option Addr) (c : Nat) :
    (Builtin.append_ #[t, t] ty #[v, .slice A 0 c]).run P w = .ok v w := by
  rcases hown.2 with ⟨rfl, rfl⟩ | ⟨g, cap, cur, rfl, _, _, hle, _⟩
  all_goals cases A <;> simp [Builtin.append_, run_underlying ht, sizeOf, typeInfo, Builtin.lenOf, Builtin.firstCells, storeCells, loadCells, loadCellsFrom, *]
/-- Rows of the call's own, by blocks from N on; what stands in them hangs on older blocks. -/
theorem run_append_fo {P : Program} {w : World} (t ty : TypeId) (N : Nat)
    (e : TypeId) (i : TypeInfo) (z : Value) (bytes : Nat) (ht : P.underlying t = some (.slice e)) (hi : P.info? e = some i) (hz : i.zero = some z) (hsize : i.size = 4) (hby : i.bytes = bytes) (hzs : z.cells.size = 4)
    (v : Value) (f : Fo) (hv : RowF N e (fun m => m < N) w v f) (K : Option Addr) (c : Nat) (g : Fo) (hg : ∃ C, KidsC (fun m => m < N) w C g ∧ (∀ u ∈ C, u.oneCell' = true) ∧ ∀ i u, C[i]? = some u → ∃ ad, K = some ad ∧ w.cell? (ad.add i) = some u) (h63 : f.len + g.len ≤ 1000000) (hbytes : bytes ≤ 100) (hN : N ≤ w.heap.size) :
    ∃ v' w', (Builtin.append_ #[t, t] ty #[v, .slice K g.len c]).run P w = .ok v' w' ∧ RowF N e (fun m => m < N) w' v' (f.app g) ∧ Below N w w' := by
  obtain ⟨C, hC, h1, hc⟩ := hg
  obtain ⟨E, hE, hkE⟩ := hv
  cases g with
  | nil =>
    refine ⟨v, w, run_from_none4 ht hi hE K c, ⟨E, by rw [Fo.app_nil]; exact hE, by rw [Fo.app_nil]; exact hkE⟩, Below.refl _ _⟩
  | cons s' k b p r =>
    have hCl := KidsC.len _ hC
    obtain ⟨ad, hK, _⟩ := hc 0 (.string s') (by obtain ⟨A, c, C', e, _⟩ := hC; rw [e]; rfl)
    subst hK
    have hnews : ∀ j u, C[j]? = some u → w.cell? (ad.add j) = some u := fun j u hu => by
      obtain ⟨ad', e', h⟩ := hc j u hu
      injection e' with e'
      rw [e']; exact h
    obtain ⟨v', w', hr, h2, h3, _⟩ := run_append_own (P := P) w N t ty e i z 4 bytes ht hi hz hsize hby hzs (by decide) v f.len E hE ad (Fo.cons s' k b p r).len c C hCl hnews h1 (by unfold maxLen; omega) (by
      have h9 : (f.len + (Fo.cons s' k b p r).len) * bytes ≤ 1000000 * 100 := Nat.mul_le_mul h63 hbytes
      omega) hN
    have hkeep : ∀ a u, w.cell? a = some u → a.block < N → w'.cell? a = some u := fun a u hu ha => by
      refine (cell_congr (h3.block _ (cell_lt hu) fun e => ?_)).trans hu
      have := (World.ownsRow.lt hE a.block e.symm).1
      omega
    refine ⟨v', w', hr, ⟨E ++ C, by rw [Fo.len_app]; exact h2, KidsC.app _ _ (KidsC.to (fun a u hu hD => ⟨hkeep a u hu hD, hD⟩) _ hkE) (KidsC.to (fun a u hu hD => ⟨hkeep a u hu hD, hD⟩) _ hC)⟩, h3.os, h3.tape, h3.output, h3.size, fun m hm => h3.block m (by omega) fun e => ?_⟩
    have := (World.ownsRow.lt hE m e.symm).1
    omega
/-- An append whose run is known, guarded or not. -/
theorem wpList_ran {P : Program} {ops : Array Oper} {Q : Exit → Act → World → Prop} {a : Act} {w w' : World} {rest : List Oper} {o : Oper} {s x : Operand} {t : TypeId} {v u v' : Value} (hw : Region.wanted o (yielded ops a.tmps) = true) (ho : o.op = .call { callee := .builtin .append, args := #[s, x], argTypes := #[t, t] }) (hs : a.eval s = v) (hx : a.eval x = u)
    (hr : (Builtin.append_ #[t, t] o.type #[v, u]).run P w = .ok v' w') (h : wpList P ops Q rest (a.put o.dst v') w') : wpList P ops Q (o :: rest) a w := by
  refine wpList_step fun K hK => ?_
  rw [if_pos hw]
  unfold Oper.wp execOp
  simp only [ho, resolve, invoke, builtin, Sem.run_bind, Sem.run_pure, Result.andThen_ok, List.map_toArray, List.map_cons, List.map_nil, hs, hx, hr]
  exact hK _ _ h
end Go.Proofs.YtbccknhinmgibaaDoor

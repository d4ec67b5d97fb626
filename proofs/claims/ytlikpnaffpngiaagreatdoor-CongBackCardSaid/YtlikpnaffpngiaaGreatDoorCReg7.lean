/- The region of CongBack that puts two rows of places together and asks Same along them: what holds while its operations are done in whatever order. Condition: of sizes. The region of CongBack that puts two rows of places together and asks Same along them: each of its operations. Condition: of sizes. -/
import Derived.Test.YtlikpnaffpngiaaGreatDoorGrowA
import Derived.Test.YtlikpnaffpngiaaGreatDoorStepT
import Derived.Test.YtlikpnaffpngiaaGreatDoorCTold
import Derived.Maps.AppendAt
import Derived.Test.YtlikpnaffpngiaaGreatDoorTDStep
set_option linter.unusedVariables false
set_option linter.unusedSimpArgs false
namespace Go.Proofs.YtlikpnaffpngiaaGreatDoor
open Go.RowKit

theorem info_int : (Tryz.prog.info? 3).map (fun i => (i.zero, i.size, i.bytes)) = some (some (.int .i64 0), 1, 8) := by kernel_rfl
/-- A row of numbers of the call's own, in blocks from B on. -/
def I64s (W : World) (B : Nat) (v : Value) (ps : List Int) : Prop := W.ownsRow B 3 1 v ps.length (IntsV ps)
theorem intsV_length (ps : List Int) : (IntsV ps).length = ps.length := by unfold IntsV; simp
theorem intsV_append (ps qs : List Int) : IntsV (ps ++ qs) = IntsV ps ++ IntsV qs := by unfold IntsV; simp
theorem I64s.kept {W W' : World} {B : Nat} {v : Value} {ps : List Int} (h : I64s W B v ps) (hb : ∀ k, v.ownBlock = some k → k < W.heap.size → W'.heap[k]? = W.heap[k]?) : I64s W' B v ps := by
  have hh : W.ownsRow B 3 1 v ps.length (IntsV ps) := h
  refine ⟨hh.1, ?_⟩
  rcases hh.2 with h0 | ⟨g, cap, cur, e, hB, hg, r⟩
  · exact .inl h0
  · refine .inr ⟨g, cap, cur, e, hB, ?_, r⟩
    rw [hb g (by rw [e]; rfl) (Own.lt.cell_lt' hg)]; exact hg
theorem I64s.bel {W W' : World} {B : Nat} {v : Value} {ps : List Int} (h : I64s W B v ps) (hb : Below W.heap.size W W') : I64s W' B v ps := h.kept fun k _ hk => hb.block k hk
theorem I64s.lt {W : World} {B : Nat} {v : Value} {ps : List Int} (h : I64s W B v ps) {k : Nat} (hk : v.ownBlock = some k) : k < W.heap.size := by
  rcases h.2 with ⟨e, _⟩ | ⟨g, cap, cur, e, hB, hg, r⟩
  · rw [e] at hk; cases hk
  · rw [e] at hk
    injection hk with hk
    rw [← hk]
    exact Own.lt.cell_lt' hg
theorem I64s.slice {W : World} {B : Nat} {v : Value} {ps : List Int} (h : I64s W B v ps) : ∃ A c, v = .slice A ps.length c ∧ Row W A (IntsV ps) := by
  have hh : W.ownsRow B 3 1 v ps.length (IntsV ps) := h
  rcases hh.2 with ⟨e, h0⟩ | ⟨g, cap, cur, e, hB, _⟩
  · have e1 : ps = [] := List.length_eq_zero_iff.1 h0
    subst e1
    exact ⟨none, 0, e, Row.nil _ _⟩
  · refine ⟨some ⟨g, 0, none⟩, cap, e, fun j v hj => ⟨_, rfl, ?_⟩⟩
    have hjl : j < ps.length := by
      have := (List.getElem?_eq_some_iff.1 hj).1
      rwa [intsV_length] at this
    subst e
    have := World.ownsRow.cellAt hh j (by rw [Nat.mul_one]; exact hjl)
    rw [hj] at this
    rw [add_eq, Nat.zero_add]
    exact this
theorem run_app_none {P : Program} {w : World} {base : Nat} {t ty e : TypeId} {i : TypeInfo} (ht : P.underlying t = some (.slice e)) (hi : P.info? e = some i) {v : Value} {n : Nat} {xs : List Value} (hown : w.ownsRow base e 1 v n xs) (c : Nat) :
    (Builtin.append_ #[t, t] ty #[v, .slice none 0 c]).run P w = .ok v w := by
  rcases hown.2 with ⟨rfl, rfl⟩ | ⟨g, cap, cur, rfl, _, _, hle, _⟩
  all_goals simp [Builtin.append_, run_underlying ht, sizeOf, typeInfo, Builtin.lenOf, Builtin.firstCells, storeCells, *]
set_option maxRecDepth 100000 in
/-- An append of numbers to a row of the call's own, at the operation. -/
theorem wp_app_int {o : Oper} {a : Act} {w : World} {K : Act → World → Prop} {Q : Exit → Act → World → Prop} (s x : Operand) (ho : o.op = .call { callee := .builtin .append, args := #[s, x], argTypes := #[ 29, 29 ] })
    {B : Nat} {v : Value} {ps qs : List Int} (hs : a.eval s = v) (hown : I64s w B v ps) {A : Option Addr} {c m : Nat} (hx : a.eval x = .slice A m c) (hm : m = qs.length) (hr : Row w A (IntsV qs)) (hB : B ≤ w.heap.size) (hl : ps.length + qs.length ≤ 100000)
    (h : ∀ v' w', I64s w' B v' (ps ++ qs) → w.grownBy w' v.ownBlock → (v'.ownBlock = v.ownBlock ∨ v'.ownBlock = some w.heap.size) → K (a.put o.dst v') w') : o.wp Tryz.prog a w K Q := by
  subst hm
  obtain ⟨i0, hi, hz0, hz1, hz2⟩ := info_parts info_int
  have hfin : ∀ v' w', w'.ownsRow B 3 1 v' (ps.length + qs.length) (IntsV ps ++ IntsV qs) → I64s w' B v' (ps ++ qs) := fun v' w' hh => by
    unfold I64s
    rw [List.length_append, intsV_append]
    exact hh
  have hrun : ∃ v' w', (Builtin.append_ #[ 29, 29 ] o.type #[v, .slice A qs.length c]).run Tryz.prog w = .ok v' w' ∧ I64s w' B v' (ps ++ qs) ∧ w.grownBy w' v.ownBlock ∧ (v'.ownBlock = v.ownBlock ∨ v'.ownBlock = some w.heap.size) := by
    cases A with
    | none =>
      have hq : qs = [] := by
        cases qs with
        | nil => rfl
        | cons q qs =>
          obtain ⟨ad, e, _⟩ := hr 0 (.int .i64 q) rfl
          cases e
      subst hq
      exact ⟨v, w, run_app_none Tryz.underlying29 hi hown c, by rw [List.append_nil]; exact hown, World.grownBy.refl w _, .inl rfl⟩
    | some ad =>
      obtain ⟨v', w', h1, h2, h3, _, h5⟩ := run_append_own_at (P := Tryz.prog) w B 29 o.type 3 i0 _ 1 8 Tryz.underlying29 hi hz0 hz1 hz2 rfl (by decide) v ps.length (IntsV ps) hown ad qs.length c (IntsV qs) (by rw [intsV_length]; omega) (fun j u hj => by
        obtain ⟨ad', e, hc⟩ := hr j u hj
        injection e with e
        rw [e]; exact hc) (fun u hu => by
        unfold IntsV at hu
        obtain ⟨q, _, rfl⟩ := List.mem_map.1 hu
        rfl) (by unfold maxLen; omega) (by omega) hB
      exact ⟨v', w', h1, hfin _ _ h2, h3, h5⟩
  obtain ⟨v', w', h1, h2, h3, h4⟩ := hrun
  unfold Oper.wp execOp
  simp only [ho, resolve, invoke, builtin, Sem.run_bind, Sem.run_pure, Result.andThen_ok, List.map_toArray, List.map_cons, List.map_nil, hs, hx, h1]
  exact h v' w' h2 h3 h4
/-- What a call of Same tells, as far as the law asks it: r is 0 just if there is a path, else 31. -/
def ToldR (X : Prop) (v : Value) : Prop := ∃ (k : Int) (s : ByteArray) (t : Bool) (A : Option Addr) (n c : Nat) (K : Option Addr) (n' c' : Nat) (r : Int), v = .tuple #[.agg #[.int .u8 k, .string s, .bool t, .slice A n c, .slice K n' c'], .int .i64 r] ∧ ((r = 0 ∧ X) ∨ (r = 31 ∧ ¬ X))
abbrev zeroC : Obj := .cells #[.int .u8 0, .string ⟨#[]⟩, .bool false, .slice none 0 0, .slice none 0 0] 28
/-- Which of the chain's operations come ahead of which. -/
def OrdR (L : Nat → Bool) : Prop := (L 7 = true → L 5 = true) ∧ (L 8 = true → L 7 = true) ∧ (L 9 = true → L 8 = true) ∧ (L 10 = true → L 9 = true)
theorem upd_up {L : Nat → Bool} {i j : Nat} (h : L j = true) : upd L i true j = true := by
  by_cases e : j = i
  · subst e; exact upd_same _ _ _
  · rw [upd_ne _ _ e]; exact h
theorem OrdR.up {L : Nat → Bool} {i : Nat} (h : OrdR L) (h7 : i = 7 → L 5 = true) (h8 : i = 8 → L 7 = true) (h9 : i = 9 → L 8 = true) (h10 : i = 10 → L 9 = true) : OrdR (upd L i true) := by
  have key : ∀ {j k : Nat}, (L j = true → L k = true) → (i = j → L k = true) → upd L i true j = true → upd L i true k = true := fun {j k} h1 h2 hl => by
    by_cases e : j = i
    · exact upd_up (h2 e.symm)
    · rw [upd_ne _ _ e] at hl; exact upd_up (h1 hl)
  exact ⟨key h.1 h7, key h.2.1 h8, key h.2.2.1 h9, key h.2.2.2 h10⟩
/-- What holds while the region's operations are done. -/
structure RI (W0 : World) (ps qs : List Int) (X : Prop) (vf va vd vp vq : Value) (L : Nat → Bool) (x : Nat → Value) (w : World) : Prop where
  ord : OrdR L
  bel : Below W0.heap.size W0 w
  c0 : L 0 = true → x 0 = vf
  c1 : L 1 = true → x 1 = va
  c2 : L 2 = true → x 2 = vd
  c4 : L 4 = true → x 4 = vp
  c6 : L 6 = true → x 6 = vq
  r3 : L 3 = true → L 5 = false → I64s w W0.heap.size (x 3) []
  r5 : L 5 = true → L 7 = false → I64s w W0.heap.size (x 5) ps
  r7 : L 7 = true → L 8 = false → I64s w W0.heap.size (x 7) (ps ++ qs)
  v : L 12 = true → L 13 = false → ∃ g, x 12 = .pointer (some ⟨g, 0, none⟩) ∧ W0.heap.size ≤ g ∧ w.heap[g]? = some zeroC ∧ (L 3 = true → L 5 = false → (x 3).ownBlock ≠ some g) ∧ (L 5 = true → L 7 = false → (x 5).ownBlock ≠ some g)
  t8 : L 8 = true → ToldR X (x 8)
  t9 : L 9 = true → ToldR X (x 9)
  t10 : L 10 = true → ∃ (k : Int) (s : ByteArray) (t : Bool) (A : Option Addr) (n c : Nat) (K : Option Addr) (n' c' : Nat), x 10 = .agg #[.int .u8 k, .string s, .bool t, .slice A n c, .slice K n' c']
  t11 : L 11 = true → ∃ r : Int, x 11 = .int .i64 r ∧ ((r = 0 ∧ X) ∨ (r = 31 ∧ ¬ X))
  t14 : L 14 = true → ∃ r : Int, x 14 = .int .i64 r ∧ ((r = 0 ∧ X) ∨ (r = 31 ∧ ¬ X))
section
variable {W0 : World} {ps qs : List Int} {X : Prop} {vf va vd vp vq : Value} {L : Nat → Bool} {x : Nat → Value} {w w' : World} {u : Value} {i : Nat}
/-- An operation behind which memory is as it was, or has grown, and which is none of the chain's. -/
theorem RI.quiet (h : RI W0 ps qs X vf va vd vp vq L x w) (hb : Below w.heap.size w w') (h3 : i ≠ 3) (h5 : i ≠ 5) (h7 : i ≠ 7) (h8 : i ≠ 8) (h12 : i ≠ 12) (h13 : i ≠ 13) (g9 : i = 9 → L 8 = true) (g10 : i = 10 → L 9 = true) (f0 : i = 0 → u = vf) (f1 : i = 1 → u = va) (f2 : i = 2 → u = vd) (f4 : i = 4 → u = vp) (f6 : i = 6 → u = vq)
    (f9 : i = 9 → ToldR X u) (f10 : i = 10 → ∃ (k : Int) (s : ByteArray) (t : Bool) (A : Option Addr) (n c : Nat) (K : Option Addr) (n' c' : Nat), u = .agg #[.int .u8 k, .string s, .bool t, .slice A n c, .slice K n' c']) (f11 : i = 11 → ∃ r : Int, u = .int .i64 r ∧ ((r = 0 ∧ X) ∨ (r = 31 ∧ ¬ X))) (f14 : i = 14 → ∃ r : Int, u = .int .i64 r ∧ ((r = 0 ∧ X) ∨ (r = 31 ∧ ¬ X))) :
    RI W0 ps qs X vf va vd vp vq (upd L i true) (upd x i u) w' := by
  have key : ∀ {j : Nat} {F : Value → Prop}, (L j = true → F (x j)) → (i = j → F u) → upd L i true j = true → F (upd x i u j) := fun {j F} hF hf hl => by
    by_cases e : j = i
    · subst e; rw [upd_same]; exact hf rfl
    · rw [upd_ne _ _ e] at hl ⊢; exact hF hl
  refine ⟨h.ord.up (fun e => absurd e h7) (fun e => absurd e h8) g9 g10, h.bel.trans (hb.mono h.bel.size), key (F := fun y => y = vf) h.c0 f0, key (F := fun y => y = va) h.c1 f1, key (F := fun y => y = vd) h.c2 f2, key (F := fun y => y = vp) h.c4 f4, key (F := fun y => y = vq) h.c6 f6, fun h1 h2 => ?_, fun h1 h2 => ?_, fun h1 h2 => ?_, fun h1 h2 => ?_, key (F := ToldR X) h.t8 (fun e => absurd e h8), key (F := ToldR X) h.t9 f9, key (F := fun y => ∃ (k : Int) (s : ByteArray) (t : Bool) (A : Option Addr) (n c : Nat) (K : Option Addr) (n' c' : Nat), y = .agg #[.int .u8 k, .string s, .bool t, .slice A n c, .slice K n' c']) h.t10 f10, key (F := fun y => ∃ r : Int, y = .int .i64 r ∧ ((r = 0 ∧ X) ∨ (r = 31 ∧ ¬ X))) h.t11 f11, key (F := fun y => ∃ r : Int, y = .int .i64 r ∧ ((r = 0 ∧ X) ∨ (r = 31 ∧ ¬ X))) h.t14 f14⟩
  · rw [upd_ne _ _ (Ne.symm h3)] at h1 ⊢; rw [upd_ne _ _ (Ne.symm h5)] at h2; exact (h.r3 h1 h2).bel hb
  · rw [upd_ne _ _ (Ne.symm h5)] at h1 ⊢; rw [upd_ne _ _ (Ne.symm h7)] at h2; exact (h.r5 h1 h2).bel hb
  · rw [upd_ne _ _ (Ne.symm h7)] at h1 ⊢; rw [upd_ne _ _ (Ne.symm h8)] at h2; exact (h.r7 h1 h2).bel hb
  · rw [upd_ne _ _ (Ne.symm h12)] at h1 ⊢; rw [upd_ne _ _ (Ne.symm h13)] at h2
    obtain ⟨g, e, hg, hz, d3, d5⟩ := h.v h1 h2
    refine ⟨g, e, hg, (hb.block _ (Own.lt.cell_lt' hz)).trans hz, fun a b => ?_, fun a b => ?_⟩
    · rw [upd_ne _ _ (Ne.symm h3)] at a ⊢; rw [upd_ne _ _ (Ne.symm h5)] at b; exact d3 a b
    · rw [upd_ne _ _ (Ne.symm h5)] at a ⊢; rw [upd_ne _ _ (Ne.symm h7)] at b; exact d5 a b
theorem own_empty (w : World) (B : Nat) (hB : B ≤ w.heap.size) : I64s (w.alloc (.cells #[] 3)) B (.slice (some ⟨w.heap.size, 0, none⟩) 0 0) [] :=
  ⟨rfl, .inr ⟨w.heap.size, 0, #[], rfl, hB, heap_alloc_new _ _, Nat.le_refl _, Nat.zero_le _, rfl, rfl⟩⟩
/-- The empty row is made. -/
theorem RI.d3 (h : RI W0 ps qs X vf va vd vp vq L x w) (hL : L 3 = false) : RI W0 ps qs X vf va vd vp vq (upd L 3 true) (upd x 3 (.slice (some ⟨w.heap.size, 0, none⟩) 0 0)) (w.alloc (.cells #[] 3)) := by
  have hb : Below w.heap.size w (w.alloc (.cells #[] 3)) := (Below.refl _ _).alloc (Nat.le_refl _) _
  have ne : ∀ {j : Nat}, j ≠ 3 → upd L 3 true j = L j := fun hj => upd_ne _ _ hj
  have nx : ∀ {j : Nat}, j ≠ 3 → upd x 3 (.slice (some ⟨w.heap.size, 0, none⟩) 0 0) j = x j := fun hj => upd_ne _ _ hj
  refine ⟨h.ord.up (fun e => absurd e (by decide)) (fun e => absurd e (by decide)) (fun e => absurd e (by decide)) (fun e => absurd e (by decide)), h.bel.trans (hb.mono h.bel.size), ?_, ?_, ?_, ?_, ?_, fun _ _ => ?_, fun h1 h2 => ?_, fun h1 h2 => ?_, fun h1 h2 => ?_, ?_, ?_, ?_, ?_, ?_⟩
  · rw [ne (by decide), nx (by decide)]; exact h.c0
  · rw [ne (by decide), nx (by decide)]; exact h.c1
  · rw [ne (by decide), nx (by decide)]; exact h.c2
  · rw [ne (by decide), nx (by decide)]; exact h.c4
  · rw [ne (by decide), nx (by decide)]; exact h.c6
  · rw [upd_same]; exact own_empty w _ h.bel.size
  · rw [ne (by decide)] at h1 h2; rw [nx (by decide)]; exact (h.r5 h1 h2).bel hb
  · rw [ne (by decide)] at h1 h2; rw [nx (by decide)]; exact (h.r7 h1 h2).bel hb
  · rw [ne (by decide)] at h1 h2
    obtain ⟨g, e, hg, hz, d3, d5⟩ := h.v h1 h2
    refine ⟨g, by rw [nx (by decide)]; exact e, hg, (hb.block _ (Own.lt.cell_lt' hz)).trans hz, fun _ _ => ?_, fun a b => ?_⟩
    · rw [upd_same]
      intro e
      injection e with e
      have e' : w.heap.size = g := e
      have := Own.lt.cell_lt' hz
      omega
    · rw [ne (by decide)] at a b; rw [nx (by decide)]; exact d5 a b
  · rw [ne (by decide), nx (by decide)]; exact h.t8
  · rw [ne (by decide), nx (by decide)]; exact h.t9
  · rw [ne (by decide), nx (by decide)]; exact h.t10
  · rw [ne (by decide), nx (by decide)]; exact h.t11
  · rw [ne (by decide), nx (by decide)]; exact h.t14
/-- The first append is done. -/
theorem RI.d5 (h : RI W0 ps qs X vf va vd vp vq L x w) (hL : L 5 = false) (h3 : L 3 = true) (h7 : L 7 = false) {y : Value} (hr : I64s w' W0.heap.size y ps) (hg : w.grownBy w' (x 3).ownBlock) (hy : y.ownBlock = (x 3).ownBlock ∨ y.ownBlock = some w.heap.size) : RI W0 ps qs X vf va vd vp vq (upd L 5 true) (upd x 5 y) w' := by
  have h30 := h.r3 h3 hL
  have hbl : Below W0.heap.size w w' := ⟨hg.os, hg.tape, hg.output, hg.size, fun k hk => hg.block k (Nat.lt_of_lt_of_le hk h.bel.size) fun e => by
    have := (World.ownsRow.lt h30 k e.symm).1
    omega⟩
  have ne : ∀ {j : Nat}, j ≠ 5 → upd L 5 true j = L j := fun hj => upd_ne _ _ hj
  have nx : ∀ {j : Nat}, j ≠ 5 → upd x 5 y j = x j := fun hj => upd_ne _ _ hj
  refine ⟨h.ord.up (fun e => absurd e (by decide)) (fun e => absurd e (by decide)) (fun e => absurd e (by decide)) (fun e => absurd e (by decide)), h.bel.trans hbl, ?_, ?_, ?_, ?_, ?_, fun _ h2 => ?_, fun _ _ => ?_, fun h1 _ => ?_, fun h1 h2 => ?_, ?_, ?_, ?_, ?_, ?_⟩
  · rw [ne (by decide), nx (by decide)]; exact h.c0
  · rw [ne (by decide), nx (by decide)]; exact h.c1
  · rw [ne (by decide), nx (by decide)]; exact h.c2
  · rw [ne (by decide), nx (by decide)]; exact h.c4
  · rw [ne (by decide), nx (by decide)]; exact h.c6
  · rw [upd_same] at h2; cases h2
  · rw [upd_same]; exact hr
  · rw [ne (by decide), h7] at h1; cases h1
  · rw [ne (by decide)] at h1 h2
    obtain ⟨g, e, hg0, hz, d3, d5⟩ := h.v h1 h2
    have hne := d3 h3 hL
    refine ⟨g, by rw [nx (by decide)]; exact e, hg0, (hg.block _ (Own.lt.cell_lt' hz) fun e => hne e.symm).trans hz, fun _ b => ?_, fun _ _ => ?_⟩
    · rw [upd_same] at b; cases b
    · rw [upd_same]
      intro e
      rcases hy with hy | hy
      · exact hne (hy ▸ e)
      · rw [hy] at e
        injection e with e
        have := Own.lt.cell_lt' hz
        omega
  · rw [ne (by decide), nx (by decide)]; exact h.t8
  · rw [ne (by decide), nx (by decide)]; exact h.t9
  · rw [ne (by decide), nx (by decide)]; exact h.t10
  · rw [ne (by decide), nx (by decide)]; exact h.t11
  · rw [ne (by decide), nx (by decide)]; exact h.t14
/-- The second append is done. -/
theorem RI.d7 (h : RI W0 ps qs X vf va vd vp vq L x w) (hL : L 7 = false) (h5 : L 5 = true) (h8 : L 8 = false) {y : Value} (hr : I64s w' W0.heap.size y (ps ++ qs)) (hg : w.grownBy w' (x 5).ownBlock) : RI W0 ps qs X vf va vd vp vq (upd L 7 true) (upd x 7 y) w' := by
  have h50 := h.r5 h5 hL
  have hbl : Below W0.heap.size w w' := ⟨hg.os, hg.tape, hg.output, hg.size, fun k hk => hg.block k (Nat.lt_of_lt_of_le hk h.bel.size) fun e => by
    have := (World.ownsRow.lt h50 k e.symm).1
    omega⟩
  have ne : ∀ {j : Nat}, j ≠ 7 → upd L 7 true j = L j := fun hj => upd_ne _ _ hj
  have nx : ∀ {j : Nat}, j ≠ 7 → upd x 7 y j = x j := fun hj => upd_ne _ _ hj
  refine ⟨h.ord.up (fun _ => h5) (fun e => absurd e (by decide)) (fun e => absurd e (by decide)) (fun e => absurd e (by decide)), h.bel.trans hbl, ?_, ?_, ?_, ?_, ?_, fun h1 h2 => ?_, fun _ h2 => ?_, fun _ _ => ?_, fun h1 h2 => ?_, ?_, ?_, ?_, ?_, ?_⟩
  · rw [ne (by decide), nx (by decide)]; exact h.c0
  · rw [ne (by decide), nx (by decide)]; exact h.c1
  · rw [ne (by decide), nx (by decide)]; exact h.c2
  · rw [ne (by decide), nx (by decide)]; exact h.c4
  · rw [ne (by decide), nx (by decide)]; exact h.c6
  · rw [ne (by decide), h5] at h2; cases h2
  · rw [upd_same] at h2; cases h2
  · rw [upd_same]; exact hr
  · rw [ne (by decide)] at h1 h2
    obtain ⟨g, e, hg0, hz, d3, d5⟩ := h.v h1 h2
    have hne := d5 h5 hL
    refine ⟨g, by rw [nx (by decide)]; exact e, hg0, (hg.block _ (Own.lt.cell_lt' hz) fun e => hne e.symm).trans hz, fun _ b => ?_, fun _ b => ?_⟩
    · rw [ne (by decide), h5] at b; cases b
    · rw [upd_same] at b; cases b
  · rw [ne (by decide), nx (by decide)]; exact h.t8
  · rw [ne (by decide), nx (by decide)]; exact h.t9
  · rw [ne (by decide), nx (by decide)]; exact h.t10
  · rw [ne (by decide), nx (by decide)]; exact h.t11
  · rw [ne (by decide), nx (by decide)]; exact h.t14
/-- The call is done. -/
theorem RI.d8 (h : RI W0 ps qs X vf va vd vp vq L x w) (h7 : L 7 = true) (h5 : L 5 = true) (hb : Below w.heap.size w w') {y : Value} (hy : ToldR X y) : RI W0 ps qs X vf va vd vp vq (upd L 8 true) (upd x 8 y) w' := by
  have ne : ∀ {j : Nat}, j ≠ 8 → upd L 8 true j = L j := fun hj => upd_ne _ _ hj
  have nx : ∀ {j : Nat}, j ≠ 8 → upd x 8 y j = x j := fun hj => upd_ne _ _ hj
  refine ⟨h.ord.up (fun e => absurd e (by decide)) (fun _ => h7) (fun e => absurd e (by decide)) (fun e => absurd e (by decide)), h.bel.trans (hb.mono h.bel.size), ?_, ?_, ?_, ?_, ?_, fun h1 h2 => ?_, fun h1 h2 => ?_, fun _ h2 => ?_, fun h1 h2 => ?_, fun _ => ?_, ?_, ?_, ?_, ?_⟩
  · rw [ne (by decide), nx (by decide)]; exact h.c0
  · rw [ne (by decide), nx (by decide)]; exact h.c1
  · rw [ne (by decide), nx (by decide)]; exact h.c2
  · rw [ne (by decide), nx (by decide)]; exact h.c4
  · rw [ne (by decide), nx (by decide)]; exact h.c6
  · rw [ne (by decide), h5] at h2; cases h2
  · rw [ne (by decide), h7] at h2; cases h2
  · rw [upd_same] at h2; cases h2
  · rw [ne (by decide)] at h1 h2
    obtain ⟨g, e, hg0, hz, d3, d5⟩ := h.v h1 h2
    refine ⟨g, by rw [nx (by decide)]; exact e, hg0, (hb.block _ (Own.lt.cell_lt' hz)).trans hz, fun a b => ?_, fun a b => ?_⟩
    · rw [ne (by decide), h5] at b; cases b
    · rw [ne (by decide), h7] at b; cases b
  · rw [upd_same]; exact hy
  · rw [ne (by decide), nx (by decide)]; exact h.t9
  · rw [ne (by decide), nx (by decide)]; exact h.t10
  · rw [ne (by decide), nx (by decide)]; exact h.t11
  · rw [ne (by decide), nx (by decide)]; exact h.t14
/-- The variable is made. -/
theorem RI.d12 (h : RI W0 ps qs X vf va vd vp vq L x w) (hL : L 12 = false) : RI W0 ps qs X vf va vd vp vq (upd L 12 true) (upd x 12 (.pointer (some ⟨w.heap.size, 0, none⟩))) (w.alloc zeroC) := by
  have hb : Below w.heap.size w (w.alloc zeroC) := (Below.refl _ _).alloc (Nat.le_refl _) _
  have ne : ∀ {j : Nat}, j ≠ 12 → upd L 12 true j = L j := fun hj => upd_ne _ _ hj
  have nx : ∀ {j : Nat}, j ≠ 12 → upd x 12 (.pointer (some ⟨w.heap.size, 0, none⟩)) j = x j := fun hj => upd_ne _ _ hj
  refine ⟨h.ord.up (fun e => absurd e (by decide)) (fun e => absurd e (by decide)) (fun e => absurd e (by decide)) (fun e => absurd e (by decide)), h.bel.trans (hb.mono h.bel.size), ?_, ?_, ?_, ?_, ?_, fun h1 h2 => ?_, fun h1 h2 => ?_, fun h1 h2 => ?_, fun _ _ => ?_, ?_, ?_, ?_, ?_, ?_⟩
  · rw [ne (by decide), nx (by decide)]; exact h.c0
  · rw [ne (by decide), nx (by decide)]; exact h.c1
  · rw [ne (by decide), nx (by decide)]; exact h.c2
  · rw [ne (by decide), nx (by decide)]; exact h.c4
  · rw [ne (by decide), nx (by decide)]; exact h.c6
  · rw [ne (by decide)] at h1 h2; rw [nx (by decide)]; exact (h.r3 h1 h2).bel hb
  · rw [ne (by decide)] at h1 h2; rw [nx (by decide)]; exact (h.r5 h1 h2).bel hb
  · rw [ne (by decide)] at h1 h2; rw [nx (by decide)]; exact (h.r7 h1 h2).bel hb
  · refine ⟨w.heap.size, upd_same _ _ _, h.bel.size, heap_alloc_new _ _, fun a b => ?_, fun a b => ?_⟩
    · rw [ne (by decide)] at a b; rw [nx (by decide)]
      intro e
      have := (h.r3 a b).lt e
      omega
    · rw [ne (by decide)] at a b; rw [nx (by decide)]
      intro e
      have := (h.r5 a b).lt e
      omega
  · rw [ne (by decide), nx (by decide)]; exact h.t8
  · rw [ne (by decide), nx (by decide)]; exact h.t9
  · rw [ne (by decide), nx (by decide)]; exact h.t10
  · rw [ne (by decide), nx (by decide)]; exact h.t11
  · rw [ne (by decide), nx (by decide)]; exact h.t14
/-- The variable is stored into. -/
theorem RI.d13 (h : RI W0 ps qs X vf va vd vp vq L x w) (h5 : L 5 = true) (h7 : L 7 = true) (h8 : L 8 = true) (hb : Below W0.heap.size w w') {y : Value} : RI W0 ps qs X vf va vd vp vq (upd L 13 true) (upd x 13 y) w' := by
  have ne : ∀ {j : Nat}, j ≠ 13 → upd L 13 true j = L j := fun hj => upd_ne _ _ hj
  have nx : ∀ {j : Nat}, j ≠ 13 → upd x 13 y j = x j := fun hj => upd_ne _ _ hj
  refine ⟨h.ord.up (fun e => absurd e (by decide)) (fun e => absurd e (by decide)) (fun e => absurd e (by decide)) (fun e => absurd e (by decide)), h.bel.trans hb, ?_, ?_, ?_, ?_, ?_, fun h1 h2 => ?_, fun h1 h2 => ?_, fun _ h2 => ?_, fun _ h2 => ?_, ?_, ?_, ?_, ?_, ?_⟩
  · rw [ne (by decide), nx (by decide)]; exact h.c0
  · rw [ne (by decide), nx (by decide)]; exact h.c1
  · rw [ne (by decide), nx (by decide)]; exact h.c2
  · rw [ne (by decide), nx (by decide)]; exact h.c4
  · rw [ne (by decide), nx (by decide)]; exact h.c6
  · rw [ne (by decide), h5] at h2; cases h2
  · rw [ne (by decide), h7] at h2; cases h2
  · rw [ne (by decide), h8] at h2; cases h2
  · rw [upd_same] at h2; cases h2
  · rw [ne (by decide), nx (by decide)]; exact h.t8
  · rw [ne (by decide), nx (by decide)]; exact h.t9
  · rw [ne (by decide), nx (by decide)]; exact h.t10
  · rw [ne (by decide), nx (by decide)]; exact h.t11
  · rw [ne (by decide), nx (by decide)]; exact h.t14
end
end Go.Proofs.YtlikpnaffpngiaaGreatDoor

namespace Go.Proofs.YtlikpnaffpngiaaGreatDoor
open Go.RowKit

section
variable {W0 : World} {ps qs : List Int} {X : Prop} {vf va vd vp vq : Value} {a0 : Act} {T : TypeId} {pos : String} {af : Array Edge}
theorem s_move {i d t : Nat} {u : Value} (hi : (i = 0 ∧ u = vf) ∨ (i = 4 ∧ u = vp) ∨ (i = 6 ∧ u = vq)) (hd : decide (d < 132) = true) (hN : a0.tmps.size = 132) (h0 : a0.eval (.tmp t) = u) :
    GrowStep Tryz.prog (RI W0 ps qs X vf va vd vp vq) a0 i { dst := some d, op := .move (.tmp t), type := T, pos := pos, after := af, guard := none } [] := by
  intro L x w hI hL hdep K hK
  have hr : (execOp (putE x a0 []).eval { dst := some d, op := .move (.tmp t), type := T, pos := pos, after := af, guard := none }).run Tryz.prog w = .ok (.value u) w := by
    show (execOp a0.eval _).run Tryz.prog w = _
    unfold execOp
    simp only [h0]
    go_simp
  refine wp_val (N := 132) rfl hN hd hr (hK _ _ ?_)
  rcases hi with ⟨rfl, rfl⟩ | ⟨rfl, rfl⟩ | ⟨rfl, rfl⟩
  all_goals exact hI.quiet (Below.refl _ _) (by decide) (by decide) (by decide) (by decide) (by decide) (by decide) (fun e => absurd e (by decide)) (fun e => absurd e (by decide)) (by first | exact fun _ => rfl | exact fun e => absurd e (by decide)) (fun e => absurd e (by decide)) (fun e => absurd e (by decide)) (by first | exact fun _ => rfl | exact fun e => absurd e (by decide)) (by first | exact fun _ => rfl | exact fun e => absurd e (by decide)) (fun e => absurd e (by decide)) (fun e => absurd e (by decide)) (fun e => absurd e (by decide)) (fun e => absurd e (by decide))
theorem s_load {i d t : Nat} {p : Addr} {u0 u1 u2 u3 u4 : Value} (hi : (i = 1 ∧ .agg #[u0, u1, u2, u3, u4] = va) ∨ (i = 2 ∧ .agg #[u0, u1, u2, u3, u4] = vd)) (hd : decide (d < 132) = true) (hN : a0.tmps.size = 132) (h0 : a0.eval (.tmp t) = .pointer (some p))
    (c0 : W0.cell? p = some u0) (c1 : W0.cell? { block := p.block, off := p.off + 1 } = some u1) (c2 : W0.cell? { block := p.block, off := p.off + 2 } = some u2) (c3 : W0.cell? { block := p.block, off := p.off + 3 } = some u3) (c4 : W0.cell? { block := p.block, off := p.off + 4 } = some u4) :
    GrowStep Tryz.prog (RI W0 ps qs X vf va vd vp vq) a0 i { dst := some d, op := .load 28 (.tmp t), type := T, pos := pos, after := af, guard := none } [] := by
  intro L x w hI hL hdep K hK
  have k : ∀ {a : Addr} {v : Value}, W0.cell? a = some v → w.cell? a = some v := fun h => (hI.bel.cell (cell_lt h)).trans h
  refine wp_val (N := 132) rfl hN hd (ex_load (p := .pointer (some p)) h0 (run_ldT (k c0) (k c1) (k c2) (k c3) (k c4))) (hK _ _ ?_)
  rcases hi with ⟨rfl, rfl⟩ | ⟨rfl, rfl⟩
  all_goals exact hI.quiet (Below.refl _ _) (by decide) (by decide) (by decide) (by decide) (by decide) (by decide) (fun e => absurd e (by decide)) (fun e => absurd e (by decide)) (fun e => absurd e (by decide)) (by first | exact fun _ => rfl | exact fun e => absurd e (by decide)) (by first | exact fun _ => rfl | exact fun e => absurd e (by decide)) (fun e => absurd e (by decide)) (fun e => absurd e (by decide)) (fun e => absurd e (by decide)) (fun e => absurd e (by decide)) (fun e => absurd e (by decide)) (fun e => absurd e (by decide))
set_option maxRecDepth 100000 in
theorem s_empty {d : Nat} (hd : decide (d < 132) = true) (hN : a0.tmps.size = 132) :
    GrowStep Tryz.prog (RI W0 ps qs X vf va vd vp vq) a0 3 { dst := some d, op := .buildSlice 29 0 #[], type := T, pos := pos, after := af, guard := none } [] := by
  intro L x w hI hL hdep K hK
  have hr : (execOp (putE x a0 []).eval { dst := some d, op := .buildSlice 29 0 #[], type := T, pos := pos, after := af, guard := none }).run Tryz.prog w = .ok (.value (.slice (some ⟨w.heap.size, 0, none⟩) 0 0)) (w.alloc (.cells #[] 3)) := by
    unfold execOp
    go_simp
  exact wp_val (N := 132) rfl hN hd hr (hK _ _ (hI.d3 hL))
theorem s_app1 {d s t : Nat} {P : Option Addr} {cp : Nat} (hvp : vp = .slice P ps.length cp) (hps : Row W0 P (IntsV ps)) (hl : ps.length + qs.length ≤ 100000) (hd : decide (d < 132) = true) (hs : decide (s < 132) = true) (ht : decide (t < 132) = true) (hst : s ≠ t) (hN : a0.tmps.size = 132) :
    GrowStep Tryz.prog (RI W0 ps qs X vf va vd vp vq) a0 5 { dst := some d, op := .call { callee := .builtin .append, args := #[.tmp s, .tmp t], argTypes := #[ 29, 29 ] }, type := T, pos := pos, after := af, guard := none } [(3, some s), (4, some t)] := by
  intro L x w hI hL hdep K hK
  have h3 : L 3 = true := hdep (3, some s) (List.mem_cons_self ..)
  have h4 : L 4 = true := hdep (4, some t) (List.mem_cons_of_mem _ (List.mem_cons_self ..))
  have h7 : L 7 = false := by cases h : L 7 with | false => rfl | true => rw [hI.ord.1 h] at hL; cases hL
  have e3 : (putE x a0 [(3, some s), (4, some t)]).eval (.tmp s) = x 3 := putE_new (i := 3) _ _ (by rw [hN]; exact of_decide_eq_true hs) (by simp [slotAt, hst, Ne.symm hst])
  have e4 : (putE x a0 [(3, some s), (4, some t)]).eval (.tmp t) = .slice P ps.length cp := by
    rw [putE_new (i := 4) _ _ (by rw [hN]; exact of_decide_eq_true ht) (by simp [slotAt, hst, Ne.symm hst]), hI.c4 h4, hvp]
  refine wp_app_int (.tmp s) (.tmp t) rfl e3 (hI.r3 h3 hL) e4 rfl (hps.below hI.bel) hI.bel.size (by show 0 + _ ≤ _; omega) ?_
  intro v' w' hr hg hv
  exact put_ret1 (N := 132) (by rw [putE_size]; exact hN) hd (hK _ _ (hI.d5 hL h3 h7 hr hg hv))
theorem s_app2 {d s t : Nat} {Q : Option Addr} {cq : Nat} (hvq : vq = .slice Q qs.length cq) (hqs : Row W0 Q (IntsV qs)) (hl : ps.length + qs.length ≤ 100000) (hd : decide (d < 132) = true) (hs : decide (s < 132) = true) (ht : decide (t < 132) = true) (hst : s ≠ t) (hN : a0.tmps.size = 132) :
    GrowStep Tryz.prog (RI W0 ps qs X vf va vd vp vq) a0 7 { dst := some d, op := .call { callee := .builtin .append, args := #[.tmp s, .tmp t], argTypes := #[ 29, 29 ] }, type := T, pos := pos, after := af, guard := none } [(5, some s), (6, some t)] := by
  intro L x w hI hL hdep K hK
  have h5 : L 5 = true := hdep (5, some s) (List.mem_cons_self ..)
  have h6 : L 6 = true := hdep (6, some t) (List.mem_cons_of_mem _ (List.mem_cons_self ..))
  have h8 : L 8 = false := by cases h : L 8 with | false => rfl | true => rw [hI.ord.2.1 h] at hL; cases hL
  have e5 : (putE x a0 [(5, some s), (6, some t)]).eval (.tmp s) = x 5 := putE_new (i := 5) _ _ (by rw [hN]; exact of_decide_eq_true hs) (by simp [slotAt, hst, Ne.symm hst])
  have e6 : (putE x a0 [(5, some s), (6, some t)]).eval (.tmp t) = .slice Q qs.length cq := by
    rw [putE_new (i := 6) _ _ (by rw [hN]; exact of_decide_eq_true ht) (by simp [slotAt, hst, Ne.symm hst]), hI.c6 h6, hvq]
  refine wp_app_int (.tmp s) (.tmp t) rfl e5 (hI.r5 h5 hL) e6 rfl (hqs.below hI.bel) hI.bel.size hl ?_
  intro v' w' hr hg hv
  exact put_ret1 (N := 132) (by rw [putE_size]; exact hN) hd (hK _ _ (hI.d7 hL h5 h8 hr hg))
set_option maxRecDepth 100000 in
theorem s_call {ats : Array TypeId} (hN : a0.tmps.size = 132) (hcall : ∀ w A c, Below W0.heap.size W0 w → Row w A (IntsV (ps ++ qs)) → Calls Tryz.prog 6 #[vf, va, vd, .slice A (ps ++ qs).length c] w fun e w' => ∃ y, e = .returned y ∧ ToldR X y ∧ Below w.heap.size w w') :
    GrowStep Tryz.prog (RI W0 ps qs X vf va vd vp vq) a0 8 { dst := some 66, op := .call { callee := .value (.func 6), args := #[.tmp 58, .tmp 59, .tmp 60, .tmp 65], argTypes := ats }, type := T, pos := pos, after := af, guard := none } [(0, some 58), (1, some 59), (2, some 60), (7, some 65)] := by
  intro L x w hI hL hdep K hK
  have h0 : L 0 = true := hdep (0, some 58) (by simp)
  have h1 : L 1 = true := hdep (1, some 59) (by simp)
  have h2 : L 2 = true := hdep (2, some 60) (by simp)
  have h7 : L 7 = true := hdep (7, some 65) (by simp)
  obtain ⟨A, c, e7, hrow⟩ := (hI.r7 h7 hL).slice
  have q0 : (putE x a0 [(0, some 58), (1, some 59), (2, some 60), (7, some 65)]).eval (.tmp 58) = vf := by
    rw [putE_new (i := 0) _ _ (by rw [hN]; decide) rfl]; exact hI.c0 h0
  have q1 : (putE x a0 [(0, some 58), (1, some 59), (2, some 60), (7, some 65)]).eval (.tmp 59) = va := by
    rw [putE_new (i := 1) _ _ (by rw [hN]; decide) rfl]; exact hI.c1 h1
  have q2 : (putE x a0 [(0, some 58), (1, some 59), (2, some 60), (7, some 65)]).eval (.tmp 60) = vd := by
    rw [putE_new (i := 2) _ _ (by rw [hN]; decide) rfl]; exact hI.c2 h2
  have q7 : (putE x a0 [(0, some 58), (1, some 59), (2, some 60), (7, some 65)]).eval (.tmp 65) = .slice A (ps ++ qs).length c := by
    rw [putE_new (i := 7) _ _ (by rw [hN]; decide) rfl]; exact e7
  refine wp_ent (N := 132) (F := 6) (args := #[vf, va, vd, .slice A (ps ++ qs).length c]) rfl (by rw [putE_size]; exact hN) (by decide) ?_ ((hcall w A c hI.bel hrow).mono ?_)
  · have hF : enters Tryz.prog 6 = true := by kernel_rfl
    unfold execOp
    simp only [resolve, Act.eval, invoke, List.map_toArray, List.map_cons, List.map_nil] at q0 q1 q2 q7 ⊢
    simp [go_sem, run_enters hF, q0, q1, q2, q7]
  · rintro e w' ⟨y, rfl, hy, hb⟩
    exact ⟨y, rfl, hK _ _ (hI.d8 h7 (hI.ord.1 h7) hb hy)⟩
theorem s_told (hN : a0.tmps.size = 132) :
    GrowStep Tryz.prog (RI W0 ps qs X vf va vd vp vq) a0 9 { dst := some 57, op := .move (.tmp 66), type := T, pos := pos, after := af, guard := none } [(8, some 66)] := by
  intro L x w hI hL hdep K hK
  have h8 : L 8 = true := hdep (8, some 66) (by simp)
  have e8 : (putE x a0 [(8, some 66)]).eval (.tmp 66) = x 8 := putE_new (i := 8) _ _ (by rw [hN]; decide) rfl
  have hr : (execOp (putE x a0 [(8, some 66)]).eval { dst := some 57, op := .move (.tmp 66), type := T, pos := pos, after := af, guard := none }).run Tryz.prog w = .ok (.value (x 8)) w := by
    unfold execOp
    simp only [e8]
    go_simp
  refine wp_val (N := 132) rfl (by rw [putE_size]; exact hN) (by decide) hr (hK _ _ ?_)
  exact hI.quiet (Below.refl _ _) (by decide) (by decide) (by decide) (by decide) (by decide) (by decide) (fun _ => h8) (fun e => absurd e (by decide)) (fun e => absurd e (by decide)) (fun e => absurd e (by decide)) (fun e => absurd e (by decide)) (fun e => absurd e (by decide)) (fun e => absurd e (by decide)) (fun _ => hI.t8 h8) (fun e => absurd e (by decide)) (fun e => absurd e (by decide)) (fun e => absurd e (by decide))
theorem s_fst (hN : a0.tmps.size = 132) :
    GrowStep Tryz.prog (RI W0 ps qs X vf va vd vp vq) a0 10 { dst := some 67, op := .extract (.tmp 57) 0, type := T, pos := pos, after := af, guard := none } [(9, some 57)] := by
  intro L x w hI hL hdep K hK
  have h9 : L 9 = true := hdep (9, some 57) (by simp)
  obtain ⟨k, s, t, A, n, c, KK, n', c', r, e, hx⟩ := hI.t9 h9
  have e9 : (putE x a0 [(9, some 57)]).eval (.tmp 57) = .tuple #[.agg #[.int .u8 k, .string s, .bool t, .slice A n c, .slice KK n' c'], .int .i64 r] := by
    rw [putE_new (i := 9) _ _ (by rw [hN]; decide) rfl]; exact e
  have hr : (execOp (putE x a0 [(9, some 57)]).eval { dst := some 67, op := .extract (.tmp 57) 0, type := T, pos := pos, after := af, guard := none }).run Tryz.prog w = .ok (.value (.agg #[.int .u8 k, .string s, .bool t, .slice A n c, .slice KK n' c'])) w := by
    unfold execOp
    simp only [e9]
    go_simp
  refine wp_val (N := 132) rfl (by rw [putE_size]; exact hN) (by decide) hr (hK _ _ ?_)
  exact hI.quiet (Below.refl _ _) (by decide) (by decide) (by decide) (by decide) (by decide) (by decide) (fun e => absurd e (by decide)) (fun _ => h9) (fun e => absurd e (by decide)) (fun e => absurd e (by decide)) (fun e => absurd e (by decide)) (fun e => absurd e (by decide)) (fun e => absurd e (by decide)) (fun e => absurd e (by decide)) (fun _ => ⟨_, _, _, _, _, _, _, _, _, rfl⟩) (fun e => absurd e (by decide)) (fun e => absurd e (by decide))
theorem s_snd (hN : a0.tmps.size = 132) :
    GrowStep Tryz.prog (RI W0 ps qs X vf va vd vp vq) a0 11 { dst := some 68, op := .extract (.tmp 57) 1, type := T, pos := pos, after := af, guard := none } [(9, some 57)] := by
  intro L x w hI hL hdep K hK
  have h9 : L 9 = true := hdep (9, some 57) (by simp)
  obtain ⟨k, s, t, A, n, c, KK, n', c', r, e, hx⟩ := hI.t9 h9
  have e9 : (putE x a0 [(9, some 57)]).eval (.tmp 57) = .tuple #[.agg #[.int .u8 k, .string s, .bool t, .slice A n c, .slice KK n' c'], .int .i64 r] := by
    rw [putE_new (i := 9) _ _ (by rw [hN]; decide) rfl]; exact e
  have hr : (execOp (putE x a0 [(9, some 57)]).eval { dst := some 68, op := .extract (.tmp 57) 1, type := T, pos := pos, after := af, guard := none }).run Tryz.prog w = .ok (.value (.int .i64 r)) w := by
    unfold execOp
    simp only [e9]
    go_simp
  refine wp_val (N := 132) rfl (by rw [putE_size]; exact hN) (by decide) hr (hK _ _ ?_)
  exact hI.quiet (Below.refl _ _) (by decide) (by decide) (by decide) (by decide) (by decide) (by decide) (fun e => absurd e (by decide)) (fun e => absurd e (by decide)) (fun e => absurd e (by decide)) (fun e => absurd e (by decide)) (fun e => absurd e (by decide)) (fun e => absurd e (by decide)) (fun e => absurd e (by decide)) (fun e => absurd e (by decide)) (fun e => absurd e (by decide)) (fun _ => ⟨r, rfl, hx⟩) (fun e => absurd e (by decide))
theorem s_asg (hN : a0.tmps.size = 132) :
    GrowStep Tryz.prog (RI W0 ps qs X vf va vd vp vq) a0 14 { dst := some 18, op := .assign (.tmp 68), type := T, pos := pos, after := af, guard := none } [(11, some 68)] := by
  intro L x w hI hL hdep K hK
  have h11 : L 11 = true := hdep (11, some 68) (by simp)
  obtain ⟨r, e, hx⟩ := hI.t11 h11
  have e11 : (putE x a0 [(11, some 68)]).eval (.tmp 68) = .int .i64 r := by
    rw [putE_new (i := 11) _ _ (by rw [hN]; decide) rfl]; exact e
  have hr : (execOp (putE x a0 [(11, some 68)]).eval { dst := some 18, op := .assign (.tmp 68), type := T, pos := pos, after := af, guard := none }).run Tryz.prog w = .ok (.value (.int .i64 r)) w := by
    unfold execOp
    simp only [e11]
    go_simp
  refine wp_val (N := 132) rfl (by rw [putE_size]; exact hN) (by decide) hr (hK _ _ ?_)
  exact hI.quiet (Below.refl _ _) (by decide) (by decide) (by decide) (by decide) (by decide) (by decide) (fun e => absurd e (by decide)) (fun e => absurd e (by decide)) (fun e => absurd e (by decide)) (fun e => absurd e (by decide)) (fun e => absurd e (by decide)) (fun e => absurd e (by decide)) (fun e => absurd e (by decide)) (fun e => absurd e (by decide)) (fun e => absurd e (by decide)) (fun e => absurd e (by decide)) (fun _ => ⟨r, rfl, hx⟩)
set_option maxRecDepth 100000 in
theorem s_new {d : Nat} (hd : decide (d < 132) = true) (hN : a0.tmps.size = 132) :
    GrowStep Tryz.prog (RI W0 ps qs X vf va vd vp vq) a0 12 { dst := some d, op := .alloc 28, type := T, pos := pos, after := af, guard := none } [] := by
  intro L x w hI hL hdep K hK
  have hr : (Instr.alloc 28 true (.tuple #[])).run Tryz.prog w = .ok (.pointer (some ⟨w.heap.size, 0, none⟩)) (w.alloc zeroC) := by kernel_rfl
  exact wp_val (N := 132) rfl hN hd (ex_alloc hr) (hK _ _ (hI.d12 hL))
set_option maxRecDepth 100000 in
theorem s_store (hN : a0.tmps.size = 132) :
    GrowStep Tryz.prog (RI W0 ps qs X vf va vd vp vq) a0 13 { dst := none, op := .store 28 (.tmp 17) (.tmp 67), type := T, pos := pos, after := af, guard := none } [(12, some 17), (10, some 67)] := by
  intro L x w hI hL hdep K hK
  have h12 : L 12 = true := hdep (12, some 17) (by simp)
  have h10 : L 10 = true := hdep (10, some 67) (by simp)
  have h9 := hI.ord.2.2.2 h10
  have h8 := hI.ord.2.2.1 h9
  have h7 := hI.ord.2.1 h8
  have h5 := hI.ord.1 h7
  obtain ⟨g, e, hg, hz, _⟩ := hI.v h12 hL
  obtain ⟨k, s, t, A, n, c, KK, n', c', e'⟩ := hI.t10 h10
  have e12 : (putE x a0 [(12, some 17), (10, some 67)]).eval (.tmp 17) = .pointer (some ⟨g, 0, none⟩) := by
    rw [putE_new (i := 12) _ _ (by rw [hN]; decide) rfl]; exact e
  have e10 : (putE x a0 [(12, some 17), (10, some 67)]).eval (.tmp 67) = .agg #[.int .u8 k, .string s, .bool t, .slice A n c, .slice KK n' c'] := by
    rw [putE_new (i := 10) _ _ (by rw [hN]; decide) rfl]; exact e'
  have c0 : w.cell? ⟨g, 0, none⟩ = some (.int .u8 0) := cell_of_row _ _ 0 _ _ _ hz
  have c1 : w.cell? ⟨g, 1, none⟩ = some (.string ⟨#[]⟩) := cell_of_row _ _ 1 _ _ _ hz
  have c2 : w.cell? ⟨g, 2, none⟩ = some (.bool false) := cell_of_row _ _ 2 _ _ _ hz
  have c3 : w.cell? ⟨g, 3, none⟩ = some (.slice none 0 0) := cell_of_row _ _ 3 _ _ _ hz
  have c4 : w.cell? ⟨g, 4, none⟩ = some (.slice none 0 0) := cell_of_row _ _ 4 _ _ _ hz
  have ff : ∀ o, w.frozen? ⟨g, o, none⟩ = false := fun o => by simp [World.frozen?, hz]
  have f0 := ff 0
  have f1 := ff 1
  have f2 := ff 2
  have f3 := ff 3
  have f4 := ff 4
  have hr : (Instr.storeAt 28 (.pointer (some ⟨g, 0, none⟩)) (.agg #[.int .u8 k, .string s, .bool t, .slice A n c, .slice KK n' c'])).run Tryz.prog w = .ok () (((((w.setCell ⟨g, 0, none⟩ (.int .u8 k)).setCell ⟨g, 1, none⟩ (.string s)).setCell ⟨g, 2, none⟩ (.bool t)).setCell ⟨g, 3, none⟩ (.slice A n c)).setCell ⟨g, 4, none⟩ (.slice KK n' c')) := by
    clear hI hdep hK e e' e12 e10 hz ff
    go_simp
  exact wp_skp rfl (ex_store e12 e10 hr) (hK _ _ (hI.d13 h5 h7 h8 (five_belowC hg _ _ _ _ _ _)))
end
end Go.Proofs.YtlikpnaffpngiaaGreatDoor

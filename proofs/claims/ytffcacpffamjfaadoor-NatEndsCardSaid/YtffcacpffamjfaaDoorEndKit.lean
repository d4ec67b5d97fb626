/- Rows of rows that the call owns: appends onto them, as the last operation of a region that draws its order. No condition. -/
import Derived.Test.YtffcacpffamjfaaDoorGrowA
import Derived.Test.YtffcacpffamjfaaDoorStepN
import Derived.Test.YtffcacpffamjfaaDoorAppRow
import Derived.Deep.AppendLies
namespace Go.Proofs.YtffcacpffamjfaaDoor
open Go.RowKit

def ends7 : List Nat := [0, 1, 2, 999999998, 999999999, 1000000000, 4294967295]
def Own32 (w : World) (B : Nat) (r : Value × List Nat) : Prop := Own w B 23 r.1 (u32s r.2) ∧ small 4294967296 r.2 ∧ r.2.length ≤ 3
/-- A row of rows of the call's own. -/
def OwnRows (w : World) (B : Nat) (v : Value) (L : List (Value × List Nat)) : Prop := Own w B 24 v (L.map (·.1)) ∧ ∀ r ∈ L, Own32 w B r
theorem OwnRows.below {w w' : World} {B : Nat} {v : Value} {L : List (Value × List Nat)} (h : OwnRows w B v L) (hb : Below w.heap.size w w') : OwnRows w' B v L :=
  ⟨h.1.below hb, fun r hr => ⟨(h.2 r hr).1.below hb, (h.2 r hr).2⟩⟩

theorem own_grown {w w' : World} {B B' T T' : Nat} {v lv : Value} {xs ls : List Value} (h : Own w B T v xs) (hl : Own w B' T' lv ls) (hne : T ≠ T') (hg : w.grownBy w' lv.ownBlock) : Own w' B T v xs := by
  have hh : w.ownsRow B T 1 v xs.length xs := h
  have hll : w.ownsRow B' T' 1 lv ls.length ls := hl
  refine World.ownsRow.kept hh hg ?_
  rcases hh.2 with ⟨rfl, _⟩ | ⟨g, cap, cur, rfl, _, hq, _⟩
  · exact .inl rfl
  · refine .inr fun e => ?_
    rcases hll.2 with ⟨rfl, _⟩ | ⟨g2, cap2, cur2, rfl, _, hq2, _⟩
    · simp [Value.ownBlock] at e
    · have e2 : g = g2 := by simpa [Value.ownBlock] using e
      subst e2
      rw [hq] at hq2
      injection hq2 with hq2
      injection hq2 with _ ht
      exact hne ht
theorem below_grown {w w' : World} {B T : Nat} {lv : Value} {ls : List Value} (hl : Own w B T lv ls) (hB : B ≤ w.heap.size) (hg : w.grownBy w' lv.ownBlock) : Below B w w' := by
  have hll : w.ownsRow B T 1 lv ls.length ls := hl
  refine ⟨hg.os, hg.tape, hg.output, hg.size, fun k hk => hg.block k (by omega) fun e => ?_⟩
  have := (hll.lt k e.symm).1
  omega
theorem own_lit (w : World) (cs : Array Value) (T B : Nat) (hB : B ≤ w.heap.size) (h : cs.size ≤ maxLen) : Own (w.alloc (.cells cs T)) B T (.slice (some ⟨w.heap.size, 0, none⟩) cs.size cs.size) cs.toList := by
  show World.ownsRow _ _ _ _ _ _ _
  refine ⟨by simp, .inr ⟨w.heap.size, cs.size, cs, by simp, hB, heap_alloc_new w _, by simp, h, by simp, List.take_of_length_le (by simp)⟩⟩

def kRow (B : Nat) (ds : List Nat) : PK := .p (fun v w => Own w B 23 v (u32s ds)) (fun _ _ _ h hb => h.below hb) (fun _ _ _ _ h hs => h.stored hs)
def isNews (B : Nat) (dss : List (List Nat)) (g : Nat) (w : World) : Prop := ∃ vs : List Value, w.heap[g]? = some (.cells vs.toArray 24 (0, 0)) ∧ vs.length = dss.length ∧ ∀ p ∈ vs.zip dss, Own w B 23 p.1 (u32s p.2)
def kNews (B : Nat) (dss : List (List Nat)) : PK := .list dss.length (isNews B dss) (fun _ _ _ ⟨vs, h1, h2, h3⟩ hb => ⟨vs, (hb.block _ (lt_block h1)).trans h1, h2, fun p hp => (h3 p hp).below hb⟩) (fun _ _ _ _ ⟨vs, h1, h2, h3⟩ hs hne => ⟨vs, (hs.other _ hne).trans h1, h2, fun p hp => (h3 p hp).stored hs⟩)

theorem run_loadD {w : World} {g i : Nat} {v : Value} (h : w.cell? ⟨g, i, none⟩ = some v) : (Instr.loadAt 23 (.pointer (some ⟨g, i, none⟩))).run Tryd.prog w = .ok v w := by go_simp
theorem run_idxD {w : World} {g i n : Nat} (h : i < n) : (Instr.indexAt 24 (.slice (some ⟨g, 0, none⟩) n n) (.int .i64 (i : Int))).run Tryd.prog w = .ok (.pointer (some ⟨g, i, none⟩)) w := by
  have h1 : (0 : Int) ≤ (i : Int) ∧ (i : Int) < (n : Int) := by omega
  go_simp
theorem run_row1 {w : World} {a : Int} : (Instr.buildSlice 24 1 #[(0, .int .u32 a)]).run Tryd.prog w = .ok (.slice (some ⟨w.heap.size, 0, none⟩) 1 1) (w.alloc (.cells #[.int .u32 a] 23)) := by go_simp
theorem run_row2 {w : World} {a b : Int} : (Instr.buildSlice 24 2 #[(0, .int .u32 a), (1, .int .u32 b)]).run Tryd.prog w = .ok (.slice (some ⟨w.heap.size, 0, none⟩) 2 2) (w.alloc (.cells #[.int .u32 a, .int .u32 b] 23)) := by go_simp
theorem run_row3 {w : World} {a b c : Int} : (Instr.buildSlice 24 3 #[(0, .int .u32 a), (1, .int .u32 b), (2, .int .u32 c)]).run Tryd.prog w = .ok (.slice (some ⟨w.heap.size, 0, none⟩) 3 3) (w.alloc (.cells #[.int .u32 a, .int .u32 b, .int .u32 c] 23)) := by go_simp
theorem run_new1 {w : World} {A : Option Addr} {l c : Nat} : (Instr.buildSlice 25 1 #[(0, .slice A l c)]).run Tryd.prog w = .ok (.slice (some ⟨w.heap.size, 0, none⟩) 1 1) (w.alloc (.cells #[.slice A l c] 24)) := by go_simp
theorem run_new2 {w : World} {A A' : Option Addr} {l c l' c' : Nat} : (Instr.buildSlice 25 2 #[(0, .slice A l c), (1, .slice A' l' c')]).run Tryd.prog w = .ok (.slice (some ⟨w.heap.size, 0, none⟩) 2 2) (w.alloc (.cells #[.slice A l c, .slice A' l' c'] 24)) := by go_simp
theorem info_row : (Tryd.prog.info? 24).map (fun i => (i.zero, i.size, i.bytes)) = some (some (.slice none 0 0), 1, 24) := by kernel_rfl

section
variable {C : World → Prop} {W0 : World} {B S0 N i : Nat} {ks : List PK} {a0 : Act} {T : TypeId} {pos : String} {af : Array Edge} {gu : Option (Nat × Bool)}
set_option maxRecDepth 100000 in
theorem st_loadD {d t j g k : Nat} {v : Value} (hc : W0.cell? ⟨g, k, none⟩ = some v) (hN : a0.tmps.size = N) (hd : decide (d < N) = true) (ht : decide (t < N) = true) (hj : at_ ks j = kIs (.pointer (some ⟨g, k, none⟩))) (hi : at_ ks i = kIs v) :
    PkStep Tryd.prog (Reg B W0 []) S0 ks a0 i { dst := some d, op := .load 23 (.tmp t), type := T, pos := pos, after := af, guard := gu } [(j, some t)] := by
  intro w x hC
  refine deps_all _ fun hdeps K hK => ?_
  have h1 := hdeps (j, some t) (by simp)
  rw [hj] at h1
  have e1 : (putE x a0 [(j, some t)]).eval (.tmp t) = x j := putE_new _ _ (by rw [hN]; exact of_decide_eq_true ht) (by simp [slotAt])
  refine wp_val rfl (by rw [putE_size, hN]) hd (ex_load (e1.trans h1) (run_loadD (((hC.cell (cell_lt hc) (by simp) k).1).trans hc))) (hK _ _ ?_ ?_)
  · rw [hi]; exact Below.refl _ _
  · rw [hi]; rfl
set_option maxRecDepth 100000 in
theorem st_idxD {d t1 j1 t2 j2 g k n : Nat} (hk : k < n) (hN : a0.tmps.size = N) (hd : decide (d < N) = true) (ht1 : decide (t1 < N) = true) (ht2 : decide (t2 < N) = true) (hne : decide (t1 = t2) = false) (h1 : at_ ks j1 = kIs (.slice (some ⟨g, 0, none⟩) n n)) (h2 : at_ ks j2 = kIs (.int .i64 (k : Int))) (hi : at_ ks i = kIs (.pointer (some ⟨g, k, none⟩))) :
    PkStep Tryd.prog C S0 ks a0 i { dst := some d, op := .indexAddr 24 (.tmp t1) (.tmp t2), type := T, pos := pos, after := af, guard := gu } [(j1, some t1), (j2, some t2)] := by
  intro w x hC
  refine deps_all _ fun hdeps K hK => ?_
  have g1 := hdeps (j1, some t1) (by simp)
  rw [h1] at g1
  have g2 := hdeps (j2, some t2) (by simp)
  rw [h2] at g2
  have n12 := of_decide_eq_false hne
  have e1 : (putE x a0 [(j1, some t1), (j2, some t2)]).eval (.tmp t1) = x j1 := putE_new _ _ (by rw [hN]; exact of_decide_eq_true ht1) (by simp [slotAt, Ne.symm n12])
  have e2 : (putE x a0 [(j1, some t1), (j2, some t2)]).eval (.tmp t2) = x j2 := putE_new _ _ (by rw [hN]; exact of_decide_eq_true ht2) (by simp [slotAt])
  refine wp_val (v := .pointer (some ⟨g, k, none⟩)) (w' := w) rfl (by rw [putE_size, hN]) hd ?_ (hK _ _ ?_ ?_)
  · show Sem.run _ (Instr.indexAt 24 ((putE x a0 [(j1, some t1), (j2, some t2)]).eval (.tmp t1)) ((putE x a0 [(j1, some t1), (j2, some t2)]).eval (.tmp t2)) >>= fun v => pure (Next.value v)) w = _
    rw [e1.trans g1, e2.trans g2, run_then (run_idxD hk)]; rfl
  · rw [hi]; exact Below.refl _ _
  · rw [hi]; rfl
set_option maxRecDepth 100000 in
theorem st_row1 {d t1 j1 : Nat} {a : Nat} (hB : B ≤ W0.heap.size) (hN : a0.tmps.size = N) (hd : decide (d < N) = true) (ht1 : decide (t1 < N) = true) (h1 : at_ ks j1 = kIs (.int .u32 (a : Int))) (hi : at_ ks i = kRow B [a]) :
    PkStep Tryd.prog (Reg B W0 []) S0 ks a0 i { dst := some d, op := .buildSlice 24 1 #[(0, .tmp t1)], type := T, pos := pos, after := af, guard := gu } [(j1, some t1)] := by
  intro w x hC
  refine deps_all _ fun hdeps K hK => ?_
  have g1 := hdeps (j1, some t1) (by simp)
  rw [h1] at g1
  have e1 : (putE x a0 [(j1, some t1)]).eval (.tmp t1) = x j1 := putE_new _ _ (by rw [hN]; exact of_decide_eq_true ht1) (by simp [slotAt])
  refine wp_val rfl (by rw [putE_size, hN]) hd (ex_slice1 (e1.trans g1) run_row1) (hK _ _ ?_ ?_)
  · rw [hi]; exact (Below.refl _ _).alloc (Nat.le_refl _) _
  · rw [hi]; exact own_lit w #[.int .u32 (a : Int)] 23 B (Nat.le_trans hB hC.below.size) (by simp [maxLen])
set_option maxRecDepth 100000 in
theorem st_row2 {d t1 j1 t2 j2 : Nat} {a b : Nat} (hB : B ≤ W0.heap.size) (hN : a0.tmps.size = N) (hd : decide (d < N) = true) (ht1 : decide (t1 < N) = true) (ht2 : decide (t2 < N) = true) (hne : decide (t1 = t2) = false) (h1 : at_ ks j1 = kIs (.int .u32 (a : Int))) (h2 : at_ ks j2 = kIs (.int .u32 (b : Int))) (hi : at_ ks i = kRow B [a, b]) :
    PkStep Tryd.prog (Reg B W0 []) S0 ks a0 i { dst := some d, op := .buildSlice 24 2 #[(0, .tmp t1), (1, .tmp t2)], type := T, pos := pos, after := af, guard := gu } [(j1, some t1), (j2, some t2)] := by
  intro w x hC
  refine deps_all _ fun hdeps K hK => ?_
  have g1 := hdeps (j1, some t1) (by simp)
  rw [h1] at g1
  have g2 := hdeps (j2, some t2) (by simp)
  rw [h2] at g2
  have n12 := of_decide_eq_false hne
  have e1 : (putE x a0 [(j1, some t1), (j2, some t2)]).eval (.tmp t1) = x j1 := putE_new _ _ (by rw [hN]; exact of_decide_eq_true ht1) (by simp [slotAt, Ne.symm n12])
  have e2 : (putE x a0 [(j1, some t1), (j2, some t2)]).eval (.tmp t2) = x j2 := putE_new _ _ (by rw [hN]; exact of_decide_eq_true ht2) (by simp [slotAt])
  refine wp_val rfl (by rw [putE_size, hN]) hd (ex_slice2 (e1.trans g1) (e2.trans g2) run_row2) (hK _ _ ?_ ?_)
  · rw [hi]; exact (Below.refl _ _).alloc (Nat.le_refl _) _
  · rw [hi]; exact own_lit w #[.int .u32 (a : Int), .int .u32 (b : Int)] 23 B (Nat.le_trans hB hC.below.size) (by simp [maxLen])
theorem ex_slice3m {P : Program} {ρ : Operand → Value} {w w' : World} {d : Option Tmp} {E : TypeId} {t1 t3 : Tmp} {v1 v2 v3 v : Value} (h1 : ρ (.tmp t1) = v1) (h2 : ρ (.const v2) = v2) (h3 : ρ (.tmp t3) = v3) (hr : (Instr.buildSlice E 3 #[(0, v1), (1, v2), (2, v3)]).run P w = .ok v w') : (execOp ρ { dst := d, op := .buildSlice E 3 #[(0, .tmp t1), (1, .const v2), (2, .tmp t3)], type := T, pos := pos, after := af, guard := gu }).run P w = .ok (.value v) w' := by
  have e : (#[(0, .tmp t1), (1, .const v2), (2, .tmp t3)] : Array (Nat × Operand)).map (fun p => (p.1, ρ p.2)) = #[(0, v1), (1, v2), (2, v3)] := by simp [h1, h2, h3]
  show Sem.run P ((Instr.buildSlice E 3 ((#[(0, .tmp t1), (1, .const v2), (2, .tmp t3)] : Array (Nat × Operand)).map (fun p => (p.1, ρ p.2)))) >>= fun v => pure (Next.value v)) w = _
  rw [e]
  rw [run_then hr]; rfl
set_option maxRecDepth 100000 in
theorem st_row3 {d t1 j1 t2 j2 : Nat} {a b : Nat} (hB : B ≤ W0.heap.size) (hN : a0.tmps.size = N) (hd : decide (d < N) = true) (ht1 : decide (t1 < N) = true) (ht2 : decide (t2 < N) = true) (hne : decide (t1 = t2) = false) (h1 : at_ ks j1 = kIs (.int .u32 (a : Int))) (h2 : at_ ks j2 = kIs (.int .u32 (b : Int))) (hi : at_ ks i = kRow B [a, 0, b]) :
    PkStep Tryd.prog (Reg B W0 []) S0 ks a0 i { dst := some d, op := .buildSlice 24 3 #[(0, .tmp t1), (1, .const (.int .u32 0)), (2, .tmp t2)], type := T, pos := pos, after := af, guard := gu } [(j1, some t1), (j2, some t2)] := by
  intro w x hC
  refine deps_all _ fun hdeps K hK => ?_
  have g1 := hdeps (j1, some t1) (by simp)
  rw [h1] at g1
  have g2 := hdeps (j2, some t2) (by simp)
  rw [h2] at g2
  have n12 := of_decide_eq_false hne
  have e1 : (putE x a0 [(j1, some t1), (j2, some t2)]).eval (.tmp t1) = x j1 := putE_new _ _ (by rw [hN]; exact of_decide_eq_true ht1) (by simp [slotAt, Ne.symm n12])
  have e2 : (putE x a0 [(j1, some t1), (j2, some t2)]).eval (.tmp t2) = x j2 := putE_new _ _ (by rw [hN]; exact of_decide_eq_true ht2) (by simp [slotAt])
  refine wp_val rfl (by rw [putE_size, hN]) hd (ex_slice3m (e1.trans g1) rfl (e2.trans g2) run_row3) (hK _ _ ?_ ?_)
  · rw [hi]; exact (Below.refl _ _).alloc (Nat.le_refl _) _
  · rw [hi]; exact own_lit w #[.int .u32 (a : Int), .int .u32 0, .int .u32 (b : Int)] 23 B (Nat.le_trans hB hC.below.size) (by simp [maxLen])
theorem isNews_new {w : World} {ds : List Nat} {vs : List Value} {dss : List (List Nat)} (hl : vs.length = dss.length) (h : ∀ p ∈ vs.zip dss, Own w B 23 p.1 (u32s p.2)) (_ : ds = ds) : isNews B dss w.heap.size (w.alloc (.cells vs.toArray 24)) :=
  ⟨vs, heap_alloc_new w _, hl, fun p hp => (h p hp).alloc _⟩
set_option maxRecDepth 100000 in
theorem st_news1 {d t1 j1 : Nat} {ds : List Nat} (hS : S0 ≤ W0.heap.size) (hN : a0.tmps.size = N) (hd : decide (d < N) = true) (ht1 : decide (t1 < N) = true) (h1 : at_ ks j1 = kRow B ds) (hi : at_ ks i = kNews B [ds]) :
    PkStep Tryd.prog (Reg B W0 []) S0 ks a0 i { dst := some d, op := .buildSlice 25 1 #[(0, .tmp t1)], type := T, pos := pos, after := af, guard := gu } [(j1, some t1)] := by
  intro w x hC
  refine deps_all _ fun hdeps K hK => ?_
  have g1 := hdeps (j1, some t1) (by simp)
  rw [h1] at g1
  have g1' : Own w B 23 (x j1) (u32s ds) := g1
  have e1 : (putE x a0 [(j1, some t1)]).eval (.tmp t1) = x j1 := putE_new _ _ (by rw [hN]; exact of_decide_eq_true ht1) (by simp [slotAt])
  obtain ⟨A, c, hv, _⟩ := g1'.slice32
  refine wp_val rfl (by rw [putE_size, hN]) hd (ex_slice1 (e1.trans hv) run_new1) (hK _ _ ?_ ?_)
  · rw [hi]; exact ⟨(Below.refl _ _).alloc (Nat.le_refl _) _, _, rfl, Nat.le_refl _⟩
  · rw [hi]
    refine ⟨_, rfl, Nat.le_trans hS hC.below.size, lt_block (heap_alloc_new w _), ?_⟩
    rw [← hv]
    refine isNews_new (ds := ds) (vs := [x j1]) rfl (fun p hp => ?_) rfl
    simp only [List.zip_cons_cons, List.zip_nil_left, List.mem_cons, List.not_mem_nil, or_false] at hp
    subst hp; exact g1'
set_option maxRecDepth 100000 in
theorem st_news2 {d t1 j1 t2 j2 : Nat} {ds ds' : List Nat} (hS : S0 ≤ W0.heap.size) (hN : a0.tmps.size = N) (hd : decide (d < N) = true) (ht1 : decide (t1 < N) = true) (ht2 : decide (t2 < N) = true) (hne : decide (t1 = t2) = false) (h1 : at_ ks j1 = kRow B ds) (h2 : at_ ks j2 = kRow B ds') (hi : at_ ks i = kNews B [ds, ds']) :
    PkStep Tryd.prog (Reg B W0 []) S0 ks a0 i { dst := some d, op := .buildSlice 25 2 #[(0, .tmp t1), (1, .tmp t2)], type := T, pos := pos, after := af, guard := gu } [(j1, some t1), (j2, some t2)] := by
  intro w x hC
  refine deps_all _ fun hdeps K hK => ?_
  have g1 := hdeps (j1, some t1) (by simp)
  rw [h1] at g1
  have g1' : Own w B 23 (x j1) (u32s ds) := g1
  have g2 := hdeps (j2, some t2) (by simp)
  rw [h2] at g2
  have g2' : Own w B 23 (x j2) (u32s ds') := g2
  have n12 := of_decide_eq_false hne
  have e1 : (putE x a0 [(j1, some t1), (j2, some t2)]).eval (.tmp t1) = x j1 := putE_new _ _ (by rw [hN]; exact of_decide_eq_true ht1) (by simp [slotAt, Ne.symm n12])
  have e2 : (putE x a0 [(j1, some t1), (j2, some t2)]).eval (.tmp t2) = x j2 := putE_new _ _ (by rw [hN]; exact of_decide_eq_true ht2) (by simp [slotAt])
  obtain ⟨A, c, hv, _⟩ := g1'.slice32
  obtain ⟨A', c', hv', _⟩ := g2'.slice32
  refine wp_val rfl (by rw [putE_size, hN]) hd (ex_slice2 (e1.trans hv) (e2.trans hv') run_new2) (hK _ _ ?_ ?_)
  · rw [hi]; exact ⟨(Below.refl _ _).alloc (Nat.le_refl _) _, _, rfl, Nat.le_refl _⟩
  · rw [hi]
    refine ⟨_, rfl, Nat.le_trans hS hC.below.size, lt_block (heap_alloc_new w _), ?_⟩
    rw [← hv, ← hv']
    refine isNews_new (ds := ds) (vs := [x j1, x j2]) rfl (fun p hp => ?_) rfl
    simp only [List.zip_cons_cons, List.zip_nil_left, List.mem_cons, List.not_mem_nil, or_false] at hp
    rcases hp with rfl | rfl
    · exact g1'
    · exact g2'
theorem ex_slice1c {P : Program} {ρ : Operand → Value} {w w' : World} {d : Option Tmp} {E : TypeId} {v1 v : Value} (h1 : ρ (.const v1) = v1) (hr : (Instr.buildSlice E 1 #[(0, v1)]).run P w = .ok v w') : (execOp ρ { dst := d, op := .buildSlice E 1 #[(0, .const v1)], type := T, pos := pos, after := af, guard := gu }).run P w = .ok (.value v) w' := by
  have e : (#[(0, .const v1)] : Array (Nat × Operand)).map (fun p => (p.1, ρ p.2)) = #[(0, v1)] := by simp [h1]
  show Sem.run P ((Instr.buildSlice E 1 ((#[(0, .const v1)] : Array (Nat × Operand)).map (fun p => (p.1, ρ p.2)))) >>= fun v => pure (Next.value v)) w = _
  rw [e]
  rw [run_then hr]; rfl
set_option maxRecDepth 100000 in
theorem st_news0 {d : Nat} (hS : S0 ≤ W0.heap.size) (hN : a0.tmps.size = N) (hd : decide (d < N) = true) (hi : at_ ks i = kNews B [ [] ]) :
    PkStep Tryd.prog (Reg B W0 []) S0 ks a0 i { dst := some d, op := .buildSlice 25 1 #[(0, .const (.slice none 0 0))], type := T, pos := pos, after := af, guard := gu } [] := by
  intro w x hC
  refine deps_all _ fun hdeps K hK => ?_
  refine wp_val rfl (by rw [putE_size, hN]) hd (ex_slice1c rfl run_new1) (hK _ _ ?_ ?_)
  · rw [hi]; exact ⟨(Below.refl _ _).alloc (Nat.le_refl _) _, _, rfl, Nat.le_refl _⟩
  · rw [hi]
    refine ⟨_, rfl, Nat.le_trans hS hC.below.size, lt_block (heap_alloc_new w _), ?_⟩
    refine isNews_new (ds := []) (vs := [.slice none 0 0]) rfl (fun p hp => ?_) rfl
    simp only [List.zip_cons_cons, List.zip_nil_left, List.mem_cons, List.not_mem_nil, or_false] at hp
    subst hp; exact Own.nil _ _ _
end

/-- What an append leaves. -/
def Longer (B : Nat) (W0 : World) (ends : Value) (L : List (Value × List Nat)) (dss : List (List Nat)) (v : Value) (w : World) : Prop :=
  ∃ vs : List Value, vs.length = dss.length ∧ OwnRows w B v (L ++ vs.zip dss) ∧ Own w B 23 ends (u32s ends7) ∧ Below B W0 w
set_option maxRecDepth 100000 in
theorem app_step {W0 w : World} {B S0 N d t0 t1 j : Nat} {a0 : Act} {x : Nat → Value} {T : TypeId} {pos : String} {af : Array Edge} {lv ends : Value} {L : List (Value × List Nat)} {dss : List (List Nat)} {K : Value → World → Prop}
    (hL : OwnRows W0 B lv L) (hE : Own W0 B 23 ends (u32s ends7)) (_hS : S0 = W0.heap.size) (hB : B ≤ W0.heap.size) (hn : L.length + dss.length ≤ 1000) (hm : 0 < dss.length) (hds : ∀ ds ∈ dss, small 4294967296 ds ∧ ds.length ≤ 3)
    (hC : Reg B W0 [] w) (hN : a0.tmps.size = N) (hd : decide (d < N) = true) (ht0 : decide (t0 < N) = true) (ht1 : decide (t1 < N) = true) (hne : decide (t0 = t1) = false) (h0 : x 0 = lv) (h1 : (kNews B dss).sem S0 x (x j) w) (hK : ∀ v w', Longer B W0 ends L dss v w' → K v w') :
    Oper.wp Tryd.prog { dst := some d, op := .call { callee := .builtin .append, args := #[.tmp t0, .tmp t1], argTypes := #[ 25, 25 ] }, type := T, pos := pos, after := af, guard := none } (putE x a0 [(0, some t0), (j, some t1)]) w (fun a' w' => a'.defers = (putE x a0 [(0, some t0), (j, some t1)]).defers ∧ K (retOf (some d) a') w') (fun _ _ _ => False) := by
  obtain ⟨i0, hi, hz0, hz1, hz2⟩ := info_parts info_row
  have n12 := of_decide_eq_false hne
  have e1 : (putE x a0 [(0, some t0), (j, some t1)]).eval (.tmp t0) = x 0 := putE_new _ _ (by rw [hN]; exact of_decide_eq_true ht0) (by simp [slotAt, Ne.symm n12])
  have e2 : (putE x a0 [(0, some t0), (j, some t1)]).eval (.tmp t1) = x j := putE_new _ _ (by rw [hN]; exact of_decide_eq_true ht1) (by simp [slotAt])
  obtain ⟨g, hg, _, _, vs, hgc, hvl, hvs⟩ := h1
  have hb0 : Below W0.heap.size W0 w := ⟨hC.below.os, hC.below.tape, hC.below.output, hC.below.size, fun k hk => hC.old k hk (by simp)⟩
  have hLw := hL.below hb0
  have hEw := hE.below hb0
  have hBw : B ≤ w.heap.size := Nat.le_trans hB hb0.size
  have hll : (L.map (·.1)).length = L.length := by simp
  have hLs : w.ownsRow B 24 1 lv L.length (L.map (·.1)) := by rw [← hll]; exact hLw.1
  refine wp_append_lies w (.tmp t0) (.tmp t1) 25 rfl B 24 i0 (.slice none 0 0) 1 24 Tryd.underlying25 hi hz0 hz1 hz2 rfl (by decide) lv L.length (L.map (·.1)) (e1.trans h0) hLs ⟨g, 0, none⟩ dss.length dss.length vs (e2.trans hg) (by rw [hvl]; omega) ?_ ?_ hm ?_ ?_ hBw _ rfl ?_
  · have := World.news_of_block hgc
    simpa using this
  · intro u hu
    obtain ⟨k, hk, rfl⟩ := List.getElem_of_mem hu
    have := hvs (vs[k], dss[k]'(by omega)) (by
      refine List.mem_iff_getElem.2 ⟨k, by simp; omega, by simp⟩)
    obtain ⟨A, c, hv, _⟩ := this.slice32
    have hv' : vs[k] = _ := hv
    rw [hv']; rfl
  · simp only [maxLen]; omega
  · omega
  · intro g' cap w' hown hgrow _ _
    refine ⟨rfl, ?_⟩
    show K (((putE x a0 [(0, some t0), (j, some t1)]).put (some d) _).eval (.tmp d)) w'
    rw [put_eval _ _ _ (by rw [putE_size, hN]; exact of_decide_eq_true hd)]
    refine hK _ _ ⟨vs, hvl, ⟨?_, fun r hr => ?_⟩, own_grown hEw hLw.1 (by decide) hgrow, hC.below.trans (below_grown hLw.1 hBw hgrow)⟩
    · have e : (L ++ vs.zip dss).map (·.1) = L.map (·.1) ++ vs := by
        rw [List.map_append]
        congr 1
        exact List.map_fst_zip (by omega)
      rw [e]
      have e3 : (L.map (·.1) ++ vs).length = L.length + dss.length := by simp [hvl]
      show World.ownsRow _ _ _ _ _ _ _
      rw [e3]; exact hown
    · rcases List.mem_append.1 hr with hr | hr
      · have := hLw.2 r hr
        exact ⟨own_grown this.1 hLw.1 (by decide) hgrow, this.2⟩
      · exact ⟨own_grown (hvs r hr) hLw.1 (by decide) hgrow, hds r.2 (List.of_mem_zip hr).2⟩
/-- What a call told. -/
def Told (c : PK) (S0 : Nat) (x : Nat → Value) (w : World) (e : Ending) (w' : World) : Prop := ∃ v, e = .returned v ∧ c.move S0 x v w w' ∧ c.sem S0 x v w'
section
variable {G : List Nat} {C : World → Prop} {S0 B : Nat} {ks : List PK} {a0 : Act} {i : Nat} {N : Nat} {W0 : World} {P : Program} {T : TypeId} {pos : String} {af : Array Edge} {gu : Option (Nat × Bool)} {ats : Array TypeId}
theorem st_call1 {d F j1 t1 : Nat} {c1 c : PK} (hN : a0.tmps.size = N) (hd : decide (d < N) = true) (ht1 : decide (t1 < N) = true) (hF : enters P F = true) (h1 : at_ ks j1 = c1) (hi : at_ ks i = c)
    (h : ∀ w x v1, C w → c1.sem S0 x v1 w → Calls P F #[v1] w (Told c S0 x w)) :
    PkStep P C S0 ks a0 i { dst := some d, op := .call { callee := .value (.func F), args := #[.tmp t1], argTypes := ats }, type := T, pos := pos, after := af, guard := gu } [(j1, some t1)] :=
  st_call (ss := [.dep j1]) hN (by simp [esIn]; exact of_decide_eq_true ht1) hd hF (by simp [src, slotAt]) fun w x hC hdeps => by
    have g1 := hdeps (j1, some t1) (by simp)
    rw [h1] at g1
    rw [hi]
    exact h w x (x j1) hC g1
theorem st_call2 {d F j1 t1 j2 t2 : Nat} {c1 c2 c : PK} (hN : a0.tmps.size = N) (hd : decide (d < N) = true) (ht1 : decide (t1 < N) = true) (ht2 : decide (t2 < N) = true) (hne : decide (t1 = t2) = false) (hF : enters P F = true) (h1 : at_ ks j1 = c1) (h2 : at_ ks j2 = c2) (hi : at_ ks i = c)
    (h : ∀ w x v1 v2, C w → c1.sem S0 x v1 w → c2.sem S0 x v2 w → Calls P F #[v1, v2] w (Told c S0 x w)) :
    PkStep P C S0 ks a0 i { dst := some d, op := .call { callee := .value (.func F), args := #[.tmp t1, .tmp t2], argTypes := ats }, type := T, pos := pos, after := af, guard := gu } [(j1, some t1), (j2, some t2)] :=
  st_call (ss := [.dep j1, .dep j2]) hN (by simp [esIn]; exact ⟨of_decide_eq_true ht1, of_decide_eq_true ht2⟩) hd hF (by have := of_decide_eq_false hne; simp [src, slotAt, Ne.symm this]) fun w x hC hdeps => by
    have g1 := hdeps (j1, some t1) (by simp)
    have g2 := hdeps (j2, some t2) (by simp)
    rw [h1] at g1
    rw [h2] at g2
    rw [hi]
    exact h w x (x j1) (x j2) hC g1 g2
theorem st_call0 {d F : Nat} {args : Array Operand} {c : PK} (vs : List Value) (hN : a0.tmps.size = N) (hd : decide (d < N) = true) (hF : enters P F = true) (hs : args.toList.map (src []) = vs.map Src.val) (hi : at_ ks i = c) (h : ∀ w x, C w → Calls P F vs.toArray w (Told c S0 x w)) :
    PkStep P C S0 ks a0 i { dst := some d, op := .call { callee := .value (.func F), args := args, argTypes := ats }, type := T, pos := pos, after := af, guard := gu } [] :=
  st_call (ss := vs.map Src.val) hN rfl hd hF hs fun w x hC _ => by
    have e : (vs.map Src.val).map (Src.get x a0) = vs := by
      rw [List.map_map]
      exact List.map_id _
    rw [e, hi]
    exact h w x hC
end
theorem ret_one {P : Program} {fn : Func} {R : Ending → World → Prop} {a : Act} {w : World} {v : Value} {t : Tmp} (hres : fn.results = #[.tmp t]) (hd : a.defers = []) (hv : a.eval (.tmp t) = v) (hR : R (.returned v) w) : bodyPost P fn R .ret a w := by
  refine bodyPost_ret (v := v) ?_ hd hR
  have h : a.tmps[t]?.getD undef = v := by
    rw [← Array.getD_eq_getD_getElem?]; exact hv
  simp [results, hres, go_sem, h]
theorem in_block {id : Nat} {Q : Exit → Act → World → Prop} {a : Act} {w : World} (h : Q .normal a w) : Exit.inBlock id Q .normal a w := h
theorem then_x {next : Act → World → Prop} {id : Nat} {Q : Exit → Act → World → Prop} {a : Act} {w : World} (h : Q (.exit id) a w) : Exit.then next Q (.exit id) a w := h
theorem out_block {id : Nat} {Q : Exit → Act → World → Prop} {a : Act} {w : World} (h : Q .normal a w) : Exit.inBlock id Q (.exit id) a w := by
  show (if id = id then Q .normal a w else _)
  rw [if_pos rfl]; exact h
theorem wpOps_val {P : Program} {ops : Array Oper} {Q : Exit → Act → World → Prop} {i : Nat} {rest : List Nat} {o : Oper} {a : Act} {w : World} {v : Value} (ho : ops[i]? = some o) (hg : o.guard = none) (h : (execOp a.eval o).run P w = .ok (.value v) w) (hk : wpOps P ops Q rest (a.put o.dst v) w) : wpOps P ops Q (i :: rest) a w := by
  rw [wpOps_cons]
  unfold wpOp
  rw [ho]
  have hw : Region.wanted o (yielded ops a.tmps) = true := by simp [Region.wanted, hg]
  show if Region.wanted o _ = true then _ else _
  rw [if_pos hw]
  left
  unfold Oper.wp
  rw [h]
  exact hk
theorem wp_incr {P : Program} {id : Nat} {Q : Exit → Act → World → Prop} {a : Act} {w : World} {A B I N : Nat} {n m : Int} {E E2 T1 T2 T3 : TypeId} {p1 p2 p3 : String} {f1 f2 f3 : Array Edge} (hN : a.tmps.size = N) (hA : decide (A < N) = true) (hB : decide (B < N) = true) (hI : a.eval (.tmp I) = .int .i64 n) (hadd : ∀ w, (binOp .add E (.int .i64 n) (.int .i64 1)).run P w = .ok (.int .i64 m) w)
    (hend : ∀ x : Nat → Value, x 2 = .int .i64 m → Q .normal (putE x a [(0, some A), (1, some B), (2, some I)]) w) :
    (Code.region id #[{ dst := some A, op := .move (.tmp I), type := T1, pos := p1, after := f1, guard := none }, { dst := some B, op := .binOp .add E (.tmp A) (.const (.int .i64 1)) E2, type := T2, pos := p2, after := f2, guard := none }, { dst := some I, op := .assign (.tmp B), type := T3, pos := p3, after := f3, guard := none }] false).wp P Q a w := by
  refine wp_region ?_
  have e : List.range (#[({ dst := some A, op := .move (.tmp I), type := T1, pos := p1, after := f1, guard := none } : Oper), { dst := some B, op := .binOp .add E (.tmp A) (.const (.int .i64 1)) E2, type := T2, pos := p2, after := f2, guard := none }, { dst := some I, op := .assign (.tmp B), type := T3, pos := p3, after := f3, guard := none }]).size = [0, 1, 2] := rfl
  rw [e]
  refine wpOps_val (v := .int .i64 n) rfl rfl ?_ ?_
  · show (pure (Next.value (a.eval (.tmp I))) : Sem Next).run P w = _
    rw [hI]; rfl
  refine wpOps_val (v := .int .i64 m) rfl rfl ?_ ?_
  · have e1 : (a.put (some A) (.int .i64 n)).eval (.tmp A) = .int .i64 n := put_eval _ _ _ (by rw [hN]; exact of_decide_eq_true hA)
    show (((do eqGuard .add E (.tmp A) (.const (.int .i64 1)) ((a.put (some A) (.int .i64 n)).eval (.tmp A)) (.int .i64 1); binOp .add E ((a.put (some A) (.int .i64 n)).eval (.tmp A)) (.int .i64 1)) : Sem Value) >>= fun v => pure (Next.value v)).run P w = _
    rw [e1]
    have e2 : ((do eqGuard .add E (.tmp A) (.const (.int .i64 1)) (.int .i64 n) (.int .i64 1); binOp .add E (.int .i64 n) (.int .i64 1)) : Sem Value).run P w = .ok (.int .i64 m) w := by
      rw [run_then (v := ()) (w' := w) rfl]; exact hadd w
    rw [run_then e2]; rfl
  refine wpOps_val (v := .int .i64 m) rfl rfl ?_ ?_
  · have e1 : ((a.put (some A) (.int .i64 n)).put (some B) (.int .i64 m)).eval (.tmp B) = .int .i64 m := put_eval _ _ _ (by rw [put_size, hN]; exact of_decide_eq_true hB)
    show (pure (Next.value (((a.put (some A) (.int .i64 n)).put (some B) (.int .i64 m)).eval (.tmp B))) : Sem Next).run P w = _
    rw [e1]; rfl
  exact hend (fun i => if i = 0 then .int .i64 n else .int .i64 m) rfl

theorem then_n {next : Act → World → Prop} {Q : Exit → Act → World → Prop} {a : Act} {w : World} (h : next a w) : Exit.then next Q .normal a w := h

/-- The walk's own regions: a counter set, held against a length, moved on. -/
theorem wp_set {P : Program} {id : Nat} {Q : Exit → Act → World → Prop} {a : Act} {w : World} {I : Nat} {v : Value} {T1 : TypeId} {p1 : String} {f1 : Array Edge}
    (hend : ∀ x : Nat → Value, x 0 = v → Q .normal (putE x a [(0, some I)]) w) :
    (Code.region id #[{ dst := some I, op := .assign (.const v), type := T1, pos := p1, after := f1, guard := none }] false).wp P Q a w := by
  refine wp_region ?_
  have e : List.range (#[({ dst := some I, op := .assign (.const v), type := T1, pos := p1, after := f1, guard := none } : Oper)]).size = [0] := rfl
  rw [e]
  refine wpOps_val (v := v) rfl rfl rfl ?_
  exact hend (fun _ => v) rfl
set_option maxRecDepth 100000 in
theorem wp_less {id : Nat} {Q : Exit → Act → World → Prop} {a : Act} {w : World} {A B C D I S N : Nat} {n : Int} {b : Option Addr} {m c : Nat} {U E : TypeId} {T1 T2 T3 T4 : TypeId} {p1 p2 p3 p4 : String} {f1 f2 f3 f4 : Array Edge} (hN : a.tmps.size = N) (hA : decide (A < N) = true) (hB : decide (B < N) = true) (hC : decide (C < N) = true) (hAB : decide (A = B) = false) (hAC : decide (A = C) = false) (hSA : decide (S = A) = false) (hI : a.eval (.tmp I) = .int .i64 n) (hS : a.eval (.tmp S) = .slice b m c)
    (hlen : ∀ w, (Builtin.len_ #[U] T3 #[.slice b m c]).run Tryd.prog w = .ok (.int .i64 (m : Int)) w)
    (hless : ∀ w, (binOp .lss E (.int .i64 n) (.int .i64 (m : Int))).run Tryd.prog w = .ok (.bool (decide (n < (m : Int)))) w)
    (hend : ∀ x : Nat → Value, x 3 = .bool (decide (n < (m : Int))) → Q .normal (putE x a [(0, some A), (1, some B), (2, some C), (3, some D)]) w) :
    (Code.region id #[{ dst := some A, op := .move (.tmp I), type := T1, pos := p1, after := f1, guard := none }, { dst := some B, op := .move (.tmp S), type := T2, pos := p2, after := f2, guard := none }, { dst := some C, op := .call { callee := .builtin .len, args := #[.tmp B], argTypes := #[U] }, type := T3, pos := p3, after := f3, guard := none }, { dst := some D, op := .binOp .lss E (.tmp A) (.tmp C) E, type := T4, pos := p4, after := f4, guard := none }] false).wp Tryd.prog Q a w := by
  refine wp_region ?_
  have e : List.range (#[({ dst := some A, op := .move (.tmp I), type := T1, pos := p1, after := f1, guard := none } : Oper), { dst := some B, op := .move (.tmp S), type := T2, pos := p2, after := f2, guard := none }, { dst := some C, op := .call { callee := .builtin .len, args := #[.tmp B], argTypes := #[U] }, type := T3, pos := p3, after := f3, guard := none }, { dst := some D, op := .binOp .lss E (.tmp A) (.tmp C) E, type := T4, pos := p4, after := f4, guard := none }]).size = [0, 1, 2, 3] := rfl
  rw [e]
  refine wpOps_val (v := .int .i64 n) rfl rfl ?_ ?_
  · show (pure (Next.value (a.eval (.tmp I))) : Sem Next).run _ w = _
    rw [hI]; rfl
  have nSA := of_decide_eq_false hSA
  refine wpOps_val (v := .slice b m c) rfl rfl ?_ ?_
  · have e1 : (a.put (some A) (.int .i64 n)).eval (.tmp S) = .slice b m c := (put_eval_ne a _ (fun h => nSA (by injection h with h; exact h.symm))).trans hS
    show (pure (Next.value ((a.put (some A) (.int .i64 n)).eval (.tmp S))) : Sem Next).run _ w = _
    rw [e1]; rfl
  refine wpOps_val (v := .int .i64 (m : Int)) rfl rfl ?_ ?_
  · have e1 : ((a.put (some A) (.int .i64 n)).put (some B) (.slice b m c)).eval (.tmp B) = .slice b m c := put_eval _ _ _ (by rw [put_size, hN]; exact of_decide_eq_true hB)
    have e2 : ((#[.tmp B] : Array Operand).map ((a.put (some A) (.int .i64 n)).put (some B) (.slice b m c)).eval) = #[.slice b m c] := by simp [e1]
    have h2 := hlen w
    show Sem.run _ (execOp (((a.put (some A) (.int .i64 n)).put (some B) (.slice b m c))).eval { dst := some C, op := .call { callee := .builtin .len, args := #[.tmp B], argTypes := #[U] }, type := T3, pos := p3, after := f3, guard := none }) w = _
    simp only [execOp, resolve, invoke, builtin, Sem.run_bind, Sem.run_pure, Result.andThen_ok, e2, h2]
  refine wpOps_val (v := .bool (decide (n < (m : Int)))) rfl rfl ?_ ?_
  · have nAB := of_decide_eq_false hAB
    have nAC := of_decide_eq_false hAC
    have e1 : (((a.put (some A) (.int .i64 n)).put (some B) (.slice b m c)).put (some C) (.int .i64 (m : Int))).eval (.tmp C) = .int .i64 (m : Int) := put_eval _ _ _ (by rw [put_size, put_size, hN]; exact of_decide_eq_true hC)
    have e0 : (((a.put (some A) (.int .i64 n)).put (some B) (.slice b m c)).put (some C) (.int .i64 (m : Int))).eval (.tmp A) = .int .i64 n := by
      rw [put_eval_ne _ _ (fun h => nAC (by injection h with h; exact h.symm)), put_eval_ne _ _ (fun h => nAB (by injection h with h; exact h.symm))]
      exact put_eval _ _ _ (by rw [hN]; exact of_decide_eq_true hA)
    show (((do eqGuard .lss E (.tmp A) (.tmp C) ((((a.put (some A) (.int .i64 n)).put (some B) (.slice b m c)).put (some C) (.int .i64 (m : Int))).eval (.tmp A)) ((((a.put (some A) (.int .i64 n)).put (some B) (.slice b m c)).put (some C) (.int .i64 (m : Int))).eval (.tmp C)); binOp .lss E ((((a.put (some A) (.int .i64 n)).put (some B) (.slice b m c)).put (some C) (.int .i64 (m : Int))).eval (.tmp A)) ((((a.put (some A) (.int .i64 n)).put (some B) (.slice b m c)).put (some C) (.int .i64 (m : Int))).eval (.tmp C))) : Sem Value) >>= fun v => pure (Next.value v)).run _ w = _
    rw [e0, e1]
    have e2 : ((do eqGuard .lss E (.tmp A) (.tmp C) (.int .i64 n) (.int .i64 (m : Int)); binOp .lss E (.int .i64 n) (.int .i64 (m : Int))) : Sem Value).run Tryd.prog w = .ok (.bool (decide (n < (m : Int)))) w := by
      rw [run_then (v := ()) (w' := w) rfl]; exact hless w
    rw [run_then e2]; rfl
  exact hend (fun i => if i = 0 then .int .i64 n else if i = 1 then .slice b m c else if i = 2 then .int .i64 (m : Int) else .bool (decide (n < (m : Int)))) rfl
theorem less_run (n m : Int) : ∀ w, (binOp .lss 3 (.int .i64 n) (.int .i64 m)).run Tryd.prog w = .ok (.bool (decide (n < m))) w := fun _ => by kernel_rfl
theorem len_runD (b : Option Addr) (m c : Nat) (T : TypeId) : ∀ w, (Builtin.len_ #[ 24 ] T #[.slice b m c]).run Tryd.prog w = .ok (.int .i64 (m : Int)) w := fun _ => by kernel_rfl
theorem len_runL (b : Option Addr) (m c : Nat) (T : TypeId) : ∀ w, (Builtin.len_ #[ 25 ] T #[.slice b m c]).run Tryd.prog w = .ok (.int .i64 (m : Int)) w := fun _ => by kernel_rfl
theorem add_run (n m : Nat) (h : n + m < 9223372036854775808) : ∀ w, (binOp .add 3 (.int .i64 (n : Int)) (.int .i64 (m : Int))).run Tryd.prog w = .ok (.int .i64 ((n + m : Nat) : Int)) w := fun w => by
  go_simp
  rw [IntKind.wrap_i64]; omega
theorem rem_run (n : Nat) (h : n < 9223372036854775808) : ∀ w, (binOp .rem 3 (.int .i64 (n : Int)) (.int .i64 3)).run Tryd.prog w = .ok (.int .i64 ((n % 3 : Nat) : Int)) w := fun w => by
  go_simp
  exact Int.tmod_eq_emod_of_nonneg (by omega)
set_option maxRecDepth 100000 in
theorem wp_jump {id : Nat} {Q : Exit → Act → World → Prop} {a : Act} {w : World} {A B C D E K I N n m : Nat} {O1 O2 : TypeId} {T1 T2 T3 T4 T5 T6 : TypeId} {p1 p2 p3 p4 p5 p6 : String} {f1 f2 f3 f4 f5 f6 : Array Edge} (hN : a.tmps.size = N) (hA : decide (A < N) = true) (hB : decide (B < N) = true) (hC : decide (C < N) = true) (hD : decide (D < N) = true) (hE : decide (E < N) = true)
    (hIA : decide (I = A) = false) (hIB : decide (I = B) = false) (hBC : decide (B = C) = false) (hBD : decide (B = D) = false) (hK : a.eval (.tmp K) = .int .i64 (n : Int)) (hI : a.eval (.tmp I) = .int .i64 (m : Int)) (hn : n < 1000000) (hm : m < 1000000)
    (hend : ∀ x : Nat → Value, x 5 = .int .i64 ((n + 1 + m % 3 : Nat) : Int) → Q .normal (putE x a [(0, some A), (1, some B), (2, some C), (3, some D), (4, some E), (5, some K)]) w) :
    (Code.region id #[{ dst := some A, op := .move (.tmp K), type := T1, pos := p1, after := f1, guard := none }, { dst := some B, op := .binOp .add 3 (.tmp A) (.const (.int .i64 1)) O1, type := T2, pos := p2, after := f2, guard := none }, { dst := some C, op := .move (.tmp I), type := T3, pos := p3, after := f3, guard := none }, { dst := some D, op := .binOp .rem 3 (.tmp C) (.const (.int .i64 3)) O2, type := T4, pos := p4, after := f4, guard := none }, { dst := some E, op := .binOp .add 3 (.tmp B) (.tmp D) O1, type := T5, pos := p5, after := f5, guard := none }, { dst := some K, op := .assign (.tmp E), type := T6, pos := p6, after := f6, guard := none }] false).wp Tryd.prog Q a w := by
  refine wp_region ?_
  have e : List.range (#[({ dst := some A, op := .move (.tmp K), type := T1, pos := p1, after := f1, guard := none } : Oper), { dst := some B, op := .binOp .add 3 (.tmp A) (.const (.int .i64 1)) O1, type := T2, pos := p2, after := f2, guard := none }, { dst := some C, op := .move (.tmp I), type := T3, pos := p3, after := f3, guard := none }, { dst := some D, op := .binOp .rem 3 (.tmp C) (.const (.int .i64 3)) O2, type := T4, pos := p4, after := f4, guard := none }, { dst := some E, op := .binOp .add 3 (.tmp B) (.tmp D) O1, type := T5, pos := p5, after := f5, guard := none }, { dst := some K, op := .assign (.tmp E), type := T6, pos := p6, after := f6, guard := none }]).size = [0, 1, 2, 3, 4, 5] := rfl
  rw [e]
  have add2 : ∀ (op : BinOp) (x y : Operand) (u v r : Value) (T : TypeId) (w : World), (binOp op T u v).run Tryd.prog w = .ok r w → (eqGuard op T x y u v).run Tryd.prog w = .ok () w → (((do eqGuard op T x y u v; binOp op T u v) : Sem Value) >>= fun v => pure (Next.value v)).run Tryd.prog w = .ok (.value r) w := fun op x y u v r T w h1 h2 => by
    have e2 : ((do eqGuard op T x y u v; binOp op T u v) : Sem Value).run Tryd.prog w = .ok r w := by
      rw [run_then h2]; exact h1
    rw [run_then e2]; rfl
  refine wpOps_val (v := .int .i64 (n : Int)) rfl rfl ?_ ?_
  · show (pure (Next.value (a.eval (.tmp K))) : Sem Next).run _ w = _
    rw [hK]; rfl
  obtain ⟨a1, h1⟩ : ∃ a1, a1 = a.put (some A) (.int .i64 (n : Int)) := ⟨_, rfl⟩
  have N1 : a1.tmps.size = N := by rw [h1, put_size, hN]
  have eA : a1.eval (.tmp A) = .int .i64 (n : Int) := by rw [h1]; exact put_eval _ _ _ (by rw [hN]; exact of_decide_eq_true hA)
  have eI : a1.eval (.tmp I) = .int .i64 (m : Int) := by rw [h1, put_eval_ne _ _ (fun h => of_decide_eq_false hIA (by injection h with h; exact h.symm))]; exact hI
  show wpOps _ _ _ _ (a.put (some A) (.int .i64 (n : Int))) w
  rw [← h1]
  refine wpOps_val (v := .int .i64 ((n + 1 : Nat) : Int)) rfl rfl ?_ ?_
  · show (((do eqGuard .add 3 (.tmp A) (.const (.int .i64 1)) (a1.eval (.tmp A)) (.int .i64 1); binOp .add 3 (a1.eval (.tmp A)) (.int .i64 1)) : Sem Value) >>= fun v => pure (Next.value v)).run _ w = _
    rw [eA]
    exact add2 _ _ _ _ _ _ _ _ (add_run n 1 (by omega) w) rfl
  obtain ⟨a2, h2⟩ : ∃ a2, a2 = a1.put (some B) (.int .i64 ((n + 1 : Nat) : Int)) := ⟨_, rfl⟩
  have N2 : a2.tmps.size = N := by rw [h2, put_size, N1]
  have eB : a2.eval (.tmp B) = .int .i64 ((n + 1 : Nat) : Int) := by rw [h2]; exact put_eval _ _ _ (by rw [N1]; exact of_decide_eq_true hB)
  have eI2 : a2.eval (.tmp I) = .int .i64 (m : Int) := by rw [h2, put_eval_ne _ _ (fun h => of_decide_eq_false hIB (by injection h with h; exact h.symm))]; exact eI
  show wpOps _ _ _ _ (a1.put (some B) (.int .i64 ((n + 1 : Nat) : Int))) w
  rw [← h2]
  refine wpOps_val (v := .int .i64 (m : Int)) rfl rfl ?_ ?_
  · show (pure (Next.value (a2.eval (.tmp I))) : Sem Next).run _ w = _
    rw [eI2]; rfl
  obtain ⟨a3, h3⟩ : ∃ a3, a3 = a2.put (some C) (.int .i64 (m : Int)) := ⟨_, rfl⟩
  have N3 : a3.tmps.size = N := by rw [h3, put_size, N2]
  have eC : a3.eval (.tmp C) = .int .i64 (m : Int) := by rw [h3]; exact put_eval _ _ _ (by rw [N2]; exact of_decide_eq_true hC)
  have eB3 : a3.eval (.tmp B) = .int .i64 ((n + 1 : Nat) : Int) := by rw [h3, put_eval_ne _ _ (fun h => of_decide_eq_false hBC (by injection h with h; exact h.symm))]; exact eB
  show wpOps _ _ _ _ (a2.put (some C) (.int .i64 (m : Int))) w
  rw [← h3]
  refine wpOps_val (v := .int .i64 ((m % 3 : Nat) : Int)) rfl rfl ?_ ?_
  · show (((do eqGuard .rem 3 (.tmp C) (.const (.int .i64 3)) (a3.eval (.tmp C)) (.int .i64 3); binOp .rem 3 (a3.eval (.tmp C)) (.int .i64 3)) : Sem Value) >>= fun v => pure (Next.value v)).run _ w = _
    rw [eC]
    exact add2 _ _ _ _ _ _ _ _ (rem_run m (by omega) w) rfl
  obtain ⟨a4, h4⟩ : ∃ a4, a4 = a3.put (some D) (.int .i64 ((m % 3 : Nat) : Int)) := ⟨_, rfl⟩
  have N4 : a4.tmps.size = N := by rw [h4, put_size, N3]
  have eD : a4.eval (.tmp D) = .int .i64 ((m % 3 : Nat) : Int) := by rw [h4]; exact put_eval _ _ _ (by rw [N3]; exact of_decide_eq_true hD)
  have eB4 : a4.eval (.tmp B) = .int .i64 ((n + 1 : Nat) : Int) := by rw [h4, put_eval_ne _ _ (fun h => of_decide_eq_false hBD (by injection h with h; exact h.symm))]; exact eB3
  show wpOps _ _ _ _ (a3.put (some D) (.int .i64 ((m % 3 : Nat) : Int))) w
  rw [← h4]
  refine wpOps_val (v := .int .i64 ((n + 1 + m % 3 : Nat) : Int)) rfl rfl ?_ ?_
  · show (((do eqGuard .add 3 (.tmp B) (.tmp D) (a4.eval (.tmp B)) (a4.eval (.tmp D)); binOp .add 3 (a4.eval (.tmp B)) (a4.eval (.tmp D))) : Sem Value) >>= fun v => pure (Next.value v)).run _ w = _
    rw [eB4, eD]
    exact add2 _ _ _ _ _ _ _ _ (add_run (n + 1) (m % 3) (by omega) w) rfl
  refine wpOps_val (v := .int .i64 ((n + 1 + m % 3 : Nat) : Int)) rfl rfl ?_ ?_
  · have e1 : (a4.put (some E) (.int .i64 ((n + 1 + m % 3 : Nat) : Int))).eval (.tmp E) = .int .i64 ((n + 1 + m % 3 : Nat) : Int) := put_eval _ _ _ (by rw [N4]; exact of_decide_eq_true hE)
    show (pure (Next.value ((a4.put (some E) (.int .i64 ((n + 1 + m % 3 : Nat) : Int))).eval (.tmp E))) : Sem Next).run _ w = _
    rw [e1]; rfl
  subst h4; subst h3; subst h2; subst h1
  exact hend (fun i => if i = 0 then .int .i64 (n : Int) else if i = 1 then .int .i64 ((n + 1 : Nat) : Int) else if i = 2 then .int .i64 (m : Int) else if i = 3 then .int .i64 ((m % 3 : Nat) : Int) else .int .i64 ((n + 1 + m % 3 : Nat) : Int)) rfl
theorem then_r {next : Act → World → Prop} {Q : Exit → Act → World → Prop} {a : Act} {w : World} (h : Q .ret a w) : Exit.then next Q .ret a w := h
theorem ends_cell {W : World} {B g1 i : Nat} (h : Own W B 23 (.slice (some ⟨g1, 0, none⟩) 7 7) (u32s ends7)) (hi : i < 7) : ∃ y : Nat, y < 4294967296 ∧ W.cell? ⟨g1, i, none⟩ = some (.int .u32 (y : Int)) := by
  obtain ⟨ad, x, e, hc, _, hx⟩ := h.row32.dig (k := i) hi
  injection e with e
  subst e
  refine ⟨x, ?_, ?_⟩
  · have : ∀ d ∈ ends7, d < 4294967296 := by decide
    exact this x hx
  · have hadd : (⟨g1, 0, none⟩ : Addr).add i = ⟨g1, i, none⟩ := by unfold Addr.add; split <;> simp_all
    rw [← hadd]; exact hc
theorem small1 {y : Nat} (h : y < 4294967296) : small 4294967296 [y] := by intro d hd; rw [List.mem_singleton.1 hd]; exact h
theorem small23 {y z : Nat} (hy : y < 4294967296) (hz : z < 4294967296) {ds : List Nat} (h : ds ∈ [ [y, z], [y, 0, z] ]) : small 4294967296 ds ∧ ds.length ≤ 3 := by
  simp only [List.mem_cons, List.not_mem_nil, or_false] at h
  rcases h with rfl | rfl
  · refine ⟨fun d hd => ?_, by simp⟩
    simp only [List.mem_cons, List.not_mem_nil, or_false] at hd
    omega
  · refine ⟨fun d hd => ?_, by simp⟩
    simp only [List.mem_cons, List.not_mem_nil, or_false] at hd
    omega
theorem own32_below {W W' : World} {B : Nat} {r : Value × List Nat} (h : Own32 W B r) (hb : Below W.heap.size W W') : Own32 W' B r := ⟨h.1.below hb, h.2⟩
theorem reg_below {W w : World} {B : Nat} (h : Reg B W [] w) : Below W.heap.size W w := ⟨h.below.os, h.below.tape, h.below.output, h.below.size, fun k hk => h.old k hk (by simp)⟩
theorem rows_cell {W : World} {B n c k : Nat} {A : Option Addr} {L : List (Value × List Nat)} (h : OwnRows W B (.slice A n c) L) (hk : k < L.length) : ∃ g r, A = some ⟨g, 0, none⟩ ∧ Own32 W B r ∧ W.cell? ⟨g, k, none⟩ = some r.1 := by
  have hl : (L.map (·.1)).length = L.length := by simp
  obtain ⟨_, hA⟩ := Own.lt h.1
  obtain ⟨A', c', e, hr, _⟩ := h.1.slice
  injection e with e1 e2 e3
  subst e1
  obtain ⟨ad, ea, hc⟩ := hr.at_ (k := k) (by rw [hl]; exact hk)
  obtain ⟨g, eg, _⟩ := hA ad ea
  subst eg
  refine ⟨g, L[k], ea, h.2 _ (List.getElem_mem hk), ?_⟩
  have hadd : (⟨g, 0, none⟩ : Addr).add k = ⟨g, k, none⟩ := by unfold Addr.add; split <;> simp_all
  rw [← hadd]
  simpa using hc
theorem run_loadL {w : World} {g i : Nat} {v : Value} (h : w.cell? ⟨g, i, none⟩ = some v) : (Instr.loadAt 24 (.pointer (some ⟨g, i, none⟩))).run Tryd.prog w = .ok v w := by go_simp
theorem run_idxL {w : World} {g i n c : Nat} (h : i < n) : (Instr.indexAt 25 (.slice (some ⟨g, 0, none⟩) n c) (.int .i64 (i : Int))).run Tryd.prog w = .ok (.pointer (some ⟨g, i, none⟩)) w := by
  have h1 : (0 : Int) ≤ (i : Int) ∧ (i : Int) < (n : Int) := by omega
  go_simp
section
variable {C : World → Prop} {W0 : World} {B S0 N i : Nat} {ks : List PK} {a0 : Act} {T : TypeId} {pos : String} {af : Array Edge} {gu : Option (Nat × Bool)}
set_option maxRecDepth 100000 in
theorem st_loadL {d t j g k : Nat} {v : Value} (hc : W0.cell? ⟨g, k, none⟩ = some v) (hN : a0.tmps.size = N) (hd : decide (d < N) = true) (ht : decide (t < N) = true) (hj : at_ ks j = kIs (.pointer (some ⟨g, k, none⟩))) (hi : at_ ks i = kIs v) :
    PkStep Tryd.prog (Reg B W0 []) S0 ks a0 i { dst := some d, op := .load 24 (.tmp t), type := T, pos := pos, after := af, guard := gu } [(j, some t)] := by
  intro w x hC
  refine deps_all _ fun hdeps K hK => ?_
  have h1 := hdeps (j, some t) (by simp)
  rw [hj] at h1
  have e1 : (putE x a0 [(j, some t)]).eval (.tmp t) = x j := putE_new _ _ (by rw [hN]; exact of_decide_eq_true ht) (by simp [slotAt])
  refine wp_val rfl (by rw [putE_size, hN]) hd (ex_load (e1.trans h1) (run_loadL (((hC.cell (cell_lt hc) (by simp) k).1).trans hc))) (hK _ _ ?_ ?_)
  · rw [hi]; exact Below.refl _ _
  · rw [hi]; rfl
set_option maxRecDepth 100000 in
theorem st_idxL {d t1 j1 t2 j2 g k n c : Nat} (hk : k < n) (hN : a0.tmps.size = N) (hd : decide (d < N) = true) (ht1 : decide (t1 < N) = true) (ht2 : decide (t2 < N) = true) (hne : decide (t1 = t2) = false) (h1 : at_ ks j1 = kIs (.slice (some ⟨g, 0, none⟩) n c)) (h2 : at_ ks j2 = kIs (.int .i64 (k : Int))) (hi : at_ ks i = kIs (.pointer (some ⟨g, k, none⟩))) :
    PkStep Tryd.prog C S0 ks a0 i { dst := some d, op := .indexAddr 25 (.tmp t1) (.tmp t2), type := T, pos := pos, after := af, guard := gu } [(j1, some t1), (j2, some t2)] := by
  intro w x hC
  refine deps_all _ fun hdeps K hK => ?_
  have g1 := hdeps (j1, some t1) (by simp)
  rw [h1] at g1
  have g2 := hdeps (j2, some t2) (by simp)
  rw [h2] at g2
  have n12 := of_decide_eq_false hne
  have e1 : (putE x a0 [(j1, some t1), (j2, some t2)]).eval (.tmp t1) = x j1 := putE_new _ _ (by rw [hN]; exact of_decide_eq_true ht1) (by simp [slotAt, Ne.symm n12])
  have e2 : (putE x a0 [(j1, some t1), (j2, some t2)]).eval (.tmp t2) = x j2 := putE_new _ _ (by rw [hN]; exact of_decide_eq_true ht2) (by simp [slotAt])
  refine wp_val (v := .pointer (some ⟨g, k, none⟩)) (w' := w) rfl (by rw [putE_size, hN]) hd ?_ (hK _ _ ?_ ?_)
  · show Sem.run _ (Instr.indexAt 25 ((putE x a0 [(j1, some t1), (j2, some t2)]).eval (.tmp t1)) ((putE x a0 [(j1, some t1), (j2, some t2)]).eval (.tmp t2)) >>= fun v => pure (Next.value v)) w = _
    rw [e1.trans g1, e2.trans g2, run_then (run_idxL hk)]; rfl
  · rw [hi]; exact Below.refl _ _
  · rw [hi]; rfl
end
theorem tells_told {P : Program} {F S0 : Nat} {x : Nat → Value} {w : World} {v1 v2 u1 u2 : Value} (h : Calls P F #[u1, u2] w (fun e w' => e = .returned (.bool true) ∧ Below w.heap.size w w')) (h1 : (kIs u1).sem S0 x v1 w) (h2 : (kIs u2).sem S0 x v2 w) : Calls P F #[v1, v2] w (Told (kIs (.bool true)) S0 x w) := by
  have e1 : v1 = u1 := h1
  have e2 : v2 = u2 := h2
  subst e1
  subst e2
  exact h.mono fun e w' ⟨he, hb⟩ => ⟨_, he, hb, rfl⟩
theorem texts_told {P : Program} {F S0 : Nat} {x : Nat → Value} {w : World} {vs : Array Value} (h : Calls P F vs w (fun e w' => e = .returned (.bool true) ∧ Below w.heap.size w w')) : Calls P F vs w (Told (kIs (.bool true)) S0 x w) :=
  h.mono fun _ _ ⟨he, hb⟩ => ⟨_, he, hb, rfl⟩
end Go.Proofs.YtffcacpffamjfaaDoor

/- More steps over whole numbers: seven right ones in a list, a load out of it, a list handed on; sums and products of none; texts told and read back. Premise where texts are told: the table of powers of ten reads as it is laid. -/
import Derived.Test.YthjgfkmnelefpaaGreatDoorStepZ
namespace Go.Proofs.YthjgfkmnelefpaaGreatDoor
open Go.RowKit

/-- A list of right numbers. -/
def ZRs (W : World) (g : Nat) (l : List (Nat × Int)) : Prop := ∀ j q, l[j]? = some q → ∃ A n c, W.cell? ⟨g, j * 2, none⟩ = some (.bool (decide (q.2 < 0))) ∧ W.cell? ⟨g, j * 2 + 1, none⟩ = some (.slice A n c) ∧ Zr W (.agg #[.bool (decide (q.2 < 0)), .slice A n c]) q.1 q.2
theorem ZRs.below {W w' : World} {g : Nat} {l : List (Nat × Int)} (h : ZRs W g l) (hb : Below W.heap.size W w') : ZRs w' g l := fun j q hj => by
  obtain ⟨A, n, c, h1, h2, h3⟩ := h j q hj
  exact ⟨A, n, c, (hb.cell (cell_lt h1)).trans h1, (hb.cell (cell_lt h2)).trans h2, h3.below hb⟩
def kZRs (l : List (Nat × Int)) : PK := .list l.length (fun g w => ZRs w g l) (fun _ _ _ h hb => h.below hb) (fun _ _ _ _ h hs hne j q hj => by
  obtain ⟨A, n, c, h1, h2, h3⟩ := h j q hj
  exact ⟨A, n, c, (World.cell?_of_block (hs.other _ hne)).trans h1, (World.cell?_of_block (hs.other _ hne)).trans h2, h3.stored hs⟩)
theorem Reg.zr {B : Nat} {W0 w : World} {G : List Nat} (h : Reg B W0 G w) {v : Value} {k : Nat} {z : Int} (hr : Zr W0 v k z) : Zr w v k z := by
  obtain ⟨A, l, c, e, h2, h3⟩ := hr
  exact ⟨A, l, c, e, h.rr h2, h3⟩
theorem Reg.zrs {B : Nat} {W0 w : World} (h : Reg B W0 [] w) {g : Nat} {l : List (Nat × Int)} (hl : ZRs W0 g l) : ZRs w g l := fun j q hj => by
  obtain ⟨A, n, c, h1, h2, h3⟩ := hl j q hj
  exact ⟨A, n, c, ((h.cell (cell_lt h1) (by simp) _).1).trans h1, ((h.cell (cell_lt h2) (by simp) _).1).trans h2, h.zr h3⟩
theorem run_loadAt {w : World} {g o : Nat} {u v : Value} (h0 : w.cell? ⟨g, o, none⟩ = some u) (h1 : w.cell? ⟨g, o + 1, none⟩ = some v) : (Instr.loadAt 29 (.pointer (some ⟨g, o, none⟩))).run Tryz.prog w = .ok (.agg #[u, v]) w := by go_simp
theorem run_list7 {w : World} {b1 b2 b3 b4 b5 b6 b7 : Bool} {A1 A2 A3 A4 A5 A6 A7 : Option Addr} {l1 c1 l2 c2 l3 c3 l4 c4 l5 c5 l6 c6 l7 c7 : Nat} : (Instr.buildSlice 22 7 #[(0, .agg #[.bool b1, .slice A1 l1 c1]), (1, .agg #[.bool b2, .slice A2 l2 c2]), (2, .agg #[.bool b3, .slice A3 l3 c3]), (3, .agg #[.bool b4, .slice A4 l4 c4]), (4, .agg #[.bool b5, .slice A5 l5 c5]), (5, .agg #[.bool b6, .slice A6 l6 c6]), (6, .agg #[.bool b7, .slice A7 l7 c7])]).run Tryz.prog w =
    .ok (.slice (some ⟨w.heap.size, 0, none⟩) 7 7) (w.alloc (.cells #[.bool b1, .slice A1 l1 c1, .bool b2, .slice A2 l2 c2, .bool b3, .slice A3 l3 c3, .bool b4, .slice A4 l4 c4, .bool b5, .slice A5 l5 c5, .bool b6, .slice A6 l6 c6, .bool b7, .slice A7 l7 c7] 29)) := by go_simp
theorem ex_slice7 {P : Program} {w w' : World} {ρ : Operand → Value} {d : Option Tmp} {T : TypeId} {pos : String} {af : Array Edge} {gu : Option (Nat × Bool)} {E : TypeId} {t1 t2 t3 t4 t5 t6 t7 : Tmp} {v1 v2 v3 v4 v5 v6 v7 v : Value} (h1 : ρ (.tmp t1) = v1) (h2 : ρ (.tmp t2) = v2) (h3 : ρ (.tmp t3) = v3) (h4 : ρ (.tmp t4) = v4) (h5 : ρ (.tmp t5) = v5) (h6 : ρ (.tmp t6) = v6) (h7 : ρ (.tmp t7) = v7)
    (hr : (Instr.buildSlice E 7 #[(0, v1), (1, v2), (2, v3), (3, v4), (4, v5), (5, v6), (6, v7)]).run P w = .ok v w') : (execOp ρ { dst := d, op := .buildSlice E 7 #[(0, .tmp t1), (1, .tmp t2), (2, .tmp t3), (3, .tmp t4), (4, .tmp t5), (5, .tmp t6), (6, .tmp t7)], type := T, pos := pos, after := af, guard := gu }).run P w = .ok (.value v) w' := by
  have e : (#[(0, .tmp t1), (1, .tmp t2), (2, .tmp t3), (3, .tmp t4), (4, .tmp t5), (5, .tmp t6), (6, .tmp t7)] : Array (Nat × Operand)).map (fun p => (p.1, ρ p.2)) = #[(0, v1), (1, v2), (2, v3), (3, v4), (4, v5), (5, v6), (6, v7)] := by simp [h1, h2, h3, h4, h5, h6, h7]
  show Sem.run P ((Instr.buildSlice E 7 ((#[(0, .tmp t1), (1, .tmp t2), (2, .tmp t3), (3, .tmp t4), (4, .tmp t5), (5, .tmp t6), (6, .tmp t7)] : Array (Nat × Operand)).map (fun p => (p.1, ρ p.2)))) >>= fun v => pure (Next.value v)) w = _
  rw [e]
  rw [run_then hr]; rfl

section
variable {C : World → Prop} {S0 B : Nat} {ks : List PK} {a0 : Act} {i : Nat} {N : Nat} {W0 : World} {P : Program} {T : TypeId} {pos : String} {af : Array Edge} {gu : Option (Nat × Bool)}
/-- A list handed on. -/
theorem st_same {d j : Nat} {t : Tmp} (hN : a0.tmps.size = N) (hd : decide (d < N) = true) (ht : decide (t < N) = true) (hi : at_ ks i = .same j) :
    PkStep P C S0 ks a0 i { dst := some d, op := .assign (.tmp t), type := T, pos := pos, after := af, guard := gu } [(j, some t)] := by
  intro w x hC
  refine deps_all _ fun hdeps K hK => ?_
  have hev : (putE x a0 [(j, some t)]).eval (.tmp t) = x j := putE_new _ _ (by rw [hN]; exact of_decide_eq_true ht) (by simp [slotAt])
  refine wp_val (v := x j) (w' := w) rfl (by rw [putE_size, hN]) hd ?_ (hK _ _ ?_ ?_)
  · show (pure (Next.value ((putE x a0 [(j, some t)]).eval (.tmp t))) : Sem Next).run P w = _
    rw [hev]; rfl
  · rw [hi]; exact Below.refl _ _
  · rw [hi]; rfl
set_option maxRecDepth 100000 in
/-- A load out of a list that lies there. -/
theorem st_loadI {d t j g o n k : Nat} {z : Int} {l : List (Nat × Int)} (hl : ZRs W0 g l) (hn : l[n]? = some (k, z)) (ho : o = n * 2) (hN : a0.tmps.size = N) (hd : decide (d < N) = true) (ht : decide (t < N) = true) (hj : at_ ks j = kIs (.pointer (some ⟨g, o, none⟩))) (hi : at_ ks i = kZ k z) :
    PkStep Tryz.prog (Reg B W0 []) S0 ks a0 i { dst := some d, op := .load 29 (.tmp t), type := T, pos := pos, after := af, guard := gu } [(j, some t)] := by
  subst ho
  intro w x hC
  refine deps_all _ fun hdeps K hK => ?_
  have g1 := hdeps (j, some t) (by simp)
  rw [hj] at g1
  have g2 : x j = .pointer (some ⟨g, n * 2, none⟩) := g1
  have e1 : (putE x a0 [(j, some t)]).eval (.tmp t) = x j := putE_new _ _ (by rw [hN]; exact of_decide_eq_true ht) (by simp [slotAt])
  obtain ⟨A, m, c, h1, h2, h3⟩ := (hC.zrs hl) n (k, z) hn
  refine wp_val (v := .agg #[.bool (decide (z < 0)), .slice A m c]) (w' := w) rfl (by rw [putE_size, hN]) hd ?_ (hK _ _ ?_ ?_)
  · exact ex_load (e1.trans g2) (run_loadAt h1 h2)
  · rw [hi]; exact Below.refl _ _
  · rw [hi]; exact h3
set_option maxRecDepth 100000 in
theorem st_list7 {d j1 t1 k1 j2 t2 k2 j3 t3 k3 j4 t4 k4 j5 t5 k5 j6 t6 k6 j7 t7 k7 : Nat} {z1 z2 z3 z4 z5 z6 z7 : Int} (hN : a0.tmps.size = N) (hd : decide (d < N) = true) (he : esIn [(j1, some t1), (j2, some t2), (j3, some t3), (j4, some t4), (j5, some t5), (j6, some t6), (j7, some t7)] N = true)
    (hs : [src [(j1, some t1), (j2, some t2), (j3, some t3), (j4, some t4), (j5, some t5), (j6, some t6), (j7, some t7)] (.tmp t1), src [(j1, some t1), (j2, some t2), (j3, some t3), (j4, some t4), (j5, some t5), (j6, some t6), (j7, some t7)] (.tmp t2), src [(j1, some t1), (j2, some t2), (j3, some t3), (j4, some t4), (j5, some t5), (j6, some t6), (j7, some t7)] (.tmp t3), src [(j1, some t1), (j2, some t2), (j3, some t3), (j4, some t4), (j5, some t5), (j6, some t6), (j7, some t7)] (.tmp t4), src [(j1, some t1), (j2, some t2), (j3, some t3), (j4, some t4), (j5, some t5), (j6, some t6), (j7, some t7)] (.tmp t5), src [(j1, some t1), (j2, some t2), (j3, some t3), (j4, some t4), (j5, some t5), (j6, some t6), (j7, some t7)] (.tmp t6), src [(j1, some t1), (j2, some t2), (j3, some t3), (j4, some t4), (j5, some t5), (j6, some t6), (j7, some t7)] (.tmp t7)] = [.dep j1, .dep j2, .dep j3, .dep j4, .dep j5, .dep j6, .dep j7]) (hS : S0 ≤ W0.heap.size)
    (h1 : at_ ks j1 = kZ k1 z1) (h2 : at_ ks j2 = kZ k2 z2) (h3 : at_ ks j3 = kZ k3 z3) (h4 : at_ ks j4 = kZ k4 z4) (h5 : at_ ks j5 = kZ k5 z5) (h6 : at_ ks j6 = kZ k6 z6) (h7 : at_ ks j7 = kZ k7 z7) (hi : at_ ks i = kZRs [(k1, z1), (k2, z2), (k3, z3), (k4, z4), (k5, z5), (k6, z6), (k7, z7)]) :
    PkStep Tryz.prog (Reg B W0 []) S0 ks a0 i { dst := some d, op := .buildSlice 22 7 #[(0, .tmp t1), (1, .tmp t2), (2, .tmp t3), (3, .tmp t4), (4, .tmp t5), (5, .tmp t6), (6, .tmp t7)], type := T, pos := pos, after := af, guard := gu } [(j1, some t1), (j2, some t2), (j3, some t3), (j4, some t4), (j5, some t5), (j6, some t6), (j7, some t7)] := by
  intro w x hC
  refine deps_all _ fun hdeps K hK => ?_
  injection hs with s1 hs; injection hs with s2 hs; injection hs with s3 hs; injection hs with s4 hs; injection hs with s5 hs; injection hs with s6 hs; injection hs with s7 _
  have key : ∀ (j t k : Nat) (z : Int), (j, some t) ∈ [(j1, some t1), (j2, some t2), (j3, some t3), (j4, some t4), (j5, some t5), (j6, some t6), (j7, some t7)] → src [(j1, some t1), (j2, some t2), (j3, some t3), (j4, some t4), (j5, some t5), (j6, some t6), (j7, some t7)] (.tmp t) = .dep j → at_ ks j = kZ k z →
      ∃ A l c, (putE x a0 [(j1, some t1), (j2, some t2), (j3, some t3), (j4, some t4), (j5, some t5), (j6, some t6), (j7, some t7)]).eval (.tmp t) = .agg #[.bool (decide (z < 0)), .slice A l c] ∧ Zr w (.agg #[.bool (decide (z < 0)), .slice A l c]) k z := fun j t k z hm hsr hk => by
    have h := hdeps _ hm
    rw [hk] at h
    have h' : Zr w (x j) k z := h
    obtain ⟨A, l, c, e, hr⟩ := h'
    exact ⟨A, l, c, by rw [eval_src hN he, hsr]; exact e, A, l, c, rfl, hr⟩
  obtain ⟨A1, l1, c1, e1, r1⟩ := key j1 t1 k1 z1 (by simp) s1 h1
  obtain ⟨A2, l2, c2, e2, r2⟩ := key j2 t2 k2 z2 (by simp) s2 h2
  obtain ⟨A3, l3, c3, e3, r3⟩ := key j3 t3 k3 z3 (by simp) s3 h3
  obtain ⟨A4, l4, c4, e4, r4⟩ := key j4 t4 k4 z4 (by simp) s4 h4
  obtain ⟨A5, l5, c5, e5, r5⟩ := key j5 t5 k5 z5 (by simp) s5 h5
  obtain ⟨A6, l6, c6, e6, r6⟩ := key j6 t6 k6 z6 (by simp) s6 h6
  obtain ⟨A7, l7, c7, e7, r7⟩ := key j7 t7 k7 z7 (by simp) s7 h7
  have hsz := hC.below.size
  refine wp_val rfl (by rw [putE_size, hN]) hd (ex_slice7 e1 e2 e3 e4 e5 e6 e7 run_list7) (hK _ _ ?_ ?_)
  · rw [hi]; exact ⟨(Below.refl _ _).alloc (Nat.le_refl _) _, _, rfl, Nat.le_refl _⟩
  · rw [hi]
    have ba := fun (o : Obj) => (Below.refl w.heap.size w).alloc (Nat.le_refl _) o
    refine ⟨_, rfl, Nat.le_trans hS hsz, lt_alloc _ _, fun j q hj => ?_⟩
    match j, hj with
    | 0, hj => simp at hj; subst hj; exact ⟨A1, l1, c1, by simp, by simp, r1.below (ba _)⟩
    | 1, hj => simp at hj; subst hj; exact ⟨A2, l2, c2, by simp, by simp, r2.below (ba _)⟩
    | 2, hj => simp at hj; subst hj; exact ⟨A3, l3, c3, by simp, by simp, r3.below (ba _)⟩
    | 3, hj => simp at hj; subst hj; exact ⟨A4, l4, c4, by simp, by simp, r4.below (ba _)⟩
    | 4, hj => simp at hj; subst hj; exact ⟨A5, l5, c5, by simp, by simp, r5.below (ba _)⟩
    | 5, hj => simp at hj; subst hj; exact ⟨A6, l6, c6, by simp, by simp, r6.below (ba _)⟩
    | 6, hj => simp at hj; subst hj; exact ⟨A7, l7, c7, by simp, by simp, r7.below (ba _)⟩
end

/-- A sum, a product of none. -/
theorem each_none {w : World} {fn : Value} {c : Nat} : Calls Tryz.prog 28 #[fn, .slice none 0 c] w fun e w' => (∃ v, e = .returned v) ∧ w' = w := by
  go_enter Tryz.func28, Tryz.ntmps28
  go_wp2_with fail
  go_loopw [8] (fun i wr => i = .int .i64 0 ∧ wr = w) (fun _ _ => 0)
  case atStart => exact ⟨rfl, rfl⟩
  case round =>
    obtain ⟨rfl, rfl⟩ := hrel
    go_wp2
    go_end0
    exact ⟨⟨_, rfl⟩, rfl⟩
set_option maxRecDepth 100000 in
set_option maxHeartbeats 1600000 in
theorem z_add0 {w : World} {c : Nat} : Calls Tryz.prog 10 #[.slice none 0 c] w (TellsZ w 1 0) := by
  have hmf : ∀ (fn : Fn) (first cap : Array Value) (w : World), (Instr.makeFunc fn first cap).run Tryz.prog w = .ok (.func fn first cap) w := fun _ _ _ _ => rfl
  obtain ⟨w1, hw1⟩ : ∃ w1, w1 = w.alloc (Obj.cells #[Value.bool false, Value.slice none 0 0] 29) := ⟨_, rfl⟩
  have b1 : Below w.heap.size w w1 := by rw [hw1]; exact bal (Below.refl _ _) _
  have s1 : w1.heap.size = w.heap.size + 1 := by rw [hw1]; simp
  have K1 : w1.heap[w.heap.size]? = some (Obj.cells #[Value.bool false, Value.slice none 0 0] 29) := by rw [hw1]; exact heap_alloc_new _ _
  have HW1 := Lib.hid hw1
  have HK1 := Lib.hid K1
  have HB1 := Lib.hid b1
  have HS1 := Lib.hid s1
  clear hw1 K1 b1 s1
  go_enter Tryz.func10, Tryz.ntmps10
  go_wp2_with fail
  rw [← HW1.out]
  refine each_none.mono ?_
  rintro e w2 ⟨⟨v, rfl⟩, rfl⟩
  have hg : (w1.alloc (Obj.cells #[Value.slice none 0 0, Value.bool false] 49)).heap[w.heap.size + 1]? = some (.cells #[.slice none 0 0, .bool false] 49 (0, 0)) := by rw [← HS1.out]; exact heap_alloc_new _ _
  obtain ⟨q1, q2, _, _⟩ := cell_of_two hg
  have hb := bal (Below.refl w1.heap.size w1) (Obj.cells #[Value.slice none 0 0, Value.bool false] 49)
  have K2 := (hb.block w.heap.size (by have := HS1.out; omega)).trans HK1.out
  have HK2 := Lib.hid K2
  have HB2 := Lib.hid (HB1.out.trans (hb.mono (by have := HS1.out; omega)))
  have hz := hb.size
  have hz1 := HS1.out
  have HZ := Lib.hid (show w.heap.size + 1 ≤ (w1.alloc (Obj.cells #[Value.slice none 0 0, Value.bool false] 49)).heap.size by omega)
  have HT := Lib.hid (told_any (b := false) (rr_nil (w1.alloc (Obj.cells #[Value.slice none 0 0, Value.bool false] 49))) (fun _ => rfl))
  clear hg hb K2 hz hz1
  go_wp2_with fail
  refine HT.out.mono ?_
  rintro e w4 ⟨A4, k4, c4, rfl, h4, z4, hb4⟩
  have K4 := (hb4.block w.heap.size (by have := HZ.out; omega)).trans HK2.out
  have bw4 := bstep HB2.out hb4
  obtain ⟨m1, m2, m3, m4⟩ := cell_of_two K4
  obtain ⟨n1, n2, n3⟩ := two_stored (a' := .bool false) (b' := .slice A4 k4 c4) K4 (fun d h => by cases h) (fun d h => by cases h) h4
  clear hb4 K4 q1 q2
  go_wp2
  refine bodyPost_ret (v := .agg #[.bool false, .slice A4 k4 c4]) (by simp [results, Tryz.results10, go_sem, n1, n2]) rfl ?_
  exact ⟨_, rfl, ⟨A4, k4, c4, rfl, n3, by decide⟩, (bw4.setCell (Nat.le_refl _) _).setCell (Nat.le_refl _) _⟩
set_option maxRecDepth 100000 in
set_option maxHeartbeats 1600000 in
theorem z_mul0 {w : World} {c : Nat} : Calls Tryz.prog 12 #[.slice none 0 c] w (TellsZ w 1 1) := by
  have hmf : ∀ (fn : Fn) (first cap : Array Value) (w : World), (Instr.makeFunc fn first cap).run Tryz.prog w = .ok (.func fn first cap) w := fun _ _ _ _ => rfl
  obtain ⟨w1, hw1⟩ : ∃ w1, w1 = w.alloc (Obj.cells #[Value.bool false, Value.slice none 0 0] 29) := ⟨_, rfl⟩
  have b1 : Below w.heap.size w w1 := by rw [hw1]; exact bal (Below.refl _ _) _
  have s1 : w1.heap.size = w.heap.size + 1 := by rw [hw1]; simp
  have K1 : w1.heap[w.heap.size]? = some (Obj.cells #[Value.bool false, Value.slice none 0 0] 29) := by rw [hw1]; exact heap_alloc_new _ _
  have HW1 := Lib.hid hw1
  have HK1 := Lib.hid K1
  clear hw1 K1
  go_enter Tryz.func12, Tryz.ntmps12
  go_wp2_with fail
  rw [← HW1.out]
  have hone := rr_lit1 w1
  rw [s1] at hone
  have hsg := signed_s false hone
  rw [show sgn 1 false = false from rfl] at hsg
  refine hsg.mono ?_
  clear hsg hone
  rintro e w5 ⟨A5, k5, c5, rfl, h5, _, b5⟩
  have HB5 := Lib.hid (bstep (bal (Below.refl w1.heap.size w1) _) b5)
  have hz5 : w1.heap.size ≤ w5.heap.size := HB5.out.size
  have H5 := Lib.hid h5
  clear b5 h5
  go_wp2_with fail
  refine each_none.mono ?_
  rintro e w2 ⟨⟨v, rfl⟩, rfl⟩
  have hg : (w5.alloc (Obj.cells #[Value.slice A5 k5 c5, Value.bool false] 49)).heap[w5.heap.size]? = some (.cells #[.slice A5 k5 c5, .bool false] 49 (0, 0)) := heap_alloc_new _ _
  obtain ⟨q1, q2, _, _⟩ := cell_of_two hg
  have hb := bal HB5.out (Obj.cells #[Value.slice A5 k5 c5, Value.bool false] 49)
  have K2 := (hb.block w.heap.size (by omega)).trans HK1.out
  have bw2 := b1.trans (hb.mono (by omega))
  have hz := hb.size
  have HK2 := Lib.hid K2
  have HT := Lib.hid (told_any (b := false) (H5.out.alloc (Obj.cells #[Value.slice A5 k5 c5, Value.bool false] 49)) (fun h => by cases h))
  clear hb hg HK1 K2
  go_wp2_with fail
  refine HT.out.mono ?_
  rintro e w4 ⟨A4, k4, c4, rfl, h4, z4, hb4⟩
  have K4 := (hb4.block w.heap.size (by omega)).trans HK2.out
  have bw4 := bstep bw2 hb4
  obtain ⟨m1, m2, m3, m4⟩ := cell_of_two K4
  obtain ⟨n1, n2, n3⟩ := two_stored (a' := .bool false) (b' := .slice A4 k4 c4) K4 (fun d h => by cases h) (fun d h => by cases h) h4
  clear hb4 K4 q1 q2
  go_wp2
  refine bodyPost_ret (v := .agg #[.bool false, .slice A4 k4 c4]) (by simp [results, Tryz.results12, go_sem, n1, n2]) rfl ?_
  exact ⟨_, rfl, ⟨A4, k4, c4, rfl, n3, by decide⟩, (bw4.setCell (Nat.le_refl _) _).setCell (Nat.le_refl _) _⟩

/-- A number's text. -/
def ztext (z : Int) : ByteArray := ntext z.natAbs (decide (z < 0))
theorem z_text {w : World} {v : Value} {k : Nat} {z : Int} (h : Zd w v k z) (hk : k ≤ 4000) (htab : Tab w) (hw : 3 ≤ w.heap.size) : Calls Tryz.prog 20 #[v] w fun e w' => e = .returned (.string (ztext z)) ∧ Below w.heap.size w w' := by
  obtain ⟨b, A, l, c, n, rfl, h1, h2, rfl⟩ := h
  have := numText_any b h1 h2 hk htab hw
  unfold ztext
  rw [zOf_abs, zOf_neg]
  exact this
theorem dec_head {n : Nat} : ∃ x r, Lib.decDigits n = x :: r ∧ x ≠ 45 := by
  have h := dtext_isDec n
  rw [dtext_bt] at h
  cases hd : Lib.decDigits n with
  | nil =>
    exfalso
    by_cases h10 : n < 10
    · rw [decDigits_small h10] at hd; cases hd
    · rw [decDigits_big (by omega)] at hd; simp at hd
  | cons x r =>
    refine ⟨x, r, rfl, fun e => ?_⟩
    have := (h.1 0 (by rw [hd]; simp)).1
    rw [hd, e] at this
    simp at this
theorem cut_text (z : Int) : (⟨(Lib.trimPrefix (ztext z).data.toList [45]).toArray⟩ : ByteArray) = dtext z.natAbs ∧ Lib.hasPrefix (ztext z).data.toList [45] = decide (z < 0) := by
  have tl : ∀ n, (dtext n).data.toList = Lib.decDigits n := fun n => by unfold dtext; simp
  have ev : ∀ (x : UInt8) (r : List UInt8), Lib.hasPrefix (x :: r) [45] = (45 == x) := fun x r => by
    show ((45 == x) && List.isPrefixOf [] r) = _
    rw [List.isPrefixOf_nil_left, Bool.and_true]
  have et : ∀ (x : UInt8) (r : List UInt8), Lib.trimPrefix (x :: r) [45] = if Lib.hasPrefix (x :: r) [45] then r else x :: r := fun _ _ => rfl
  unfold ztext ntext
  by_cases h : z < 0
  · rw [decide_eq_true h, if_pos rfl]
    have e : (⟨#[45]⟩ ++ dtext z.natAbs : ByteArray).data.toList = 45 :: Lib.decDigits z.natAbs := by rw [← tl]; simp
    rw [e, et, ev]
    exact ⟨by simp [dtext], rfl⟩
  · rw [decide_eq_false h, if_neg (by decide), tl]
    obtain ⟨x, r, e, hx⟩ := dec_head (n := z.natAbs)
    have hb : (45 == x) = false := beq_eq_false_iff_ne.2 fun h => hx h.symm
    rw [e, et, ev, hb]
    exact ⟨by simp [dtext, e], rfl⟩
theorem z_parse {w : World} (z : Int) (k : Nat) (hz : z.natAbs < 1000000000 ^ k) (hk : k ≤ 4000) : Calls Tryz.prog 19 #[.string (ztext z)] w (RetIntB w z.natAbs (decide (z < 0)) true) := by
  obtain ⟨e1, e2⟩ := cut_text z
  have hs : sgn z.natAbs (decide (z < 0)) = decide (z < 0) := by
    unfold sgn
    by_cases h : z < 0
    · rw [decide_eq_true h, decide_eq_true (by omega)]; rfl
    · rw [decide_eq_false h]; rfl
  have h := numParse_core (s := ztext z) (t := dtext z.natAbs) (neg := decide (z < 0)) (ok := true) (sb := decide (z < 0)) (v := z.natAbs) (fun W' => ?_) (fun W' => ?_) (fun W' A k c h => by have := signed_s (decide (z < 0)) h; rw [hs] at this; exact this) w
  · rw [Bool.true_and, beq_self_eq_true, if_pos rfl, Bool.true_and] at h
    exact h
  · have := Tryz.strings_CutPrefix (ztext z) ⟨#[45]⟩ W'
    rw [← e1, ← e2]
    exact this
  · refine (of_yes (s := dtext z.natAbs) W' (Nat.le_trans (dtext_short hz hk) (by decide)) (dtext_isDec _)).mono fun e w' h => ?_
    obtain ⟨v, rfl, hv, hb⟩ := h
    rw [dtext_val] at hv
    have hr := rr_isNat hv hz hk
    obtain ⟨A, k, c, rfl⟩ := hr.shape
    exact ⟨A, k, c, rfl, hr, hb⟩
theorem parse_told {S0 : Nat} {x : Nat → Value} {w : World} {v : Value} {z : Int} (k : Nat) (h : (kIs (.string (ztext z))).sem S0 x v w) (hz : z.natAbs < 1000000000 ^ k) (hk : k ≤ 4000) : Calls Tryz.prog 19 #[v] w (Told (kZB k z true) S0 x w) := by
  have e : v = .string (ztext z) := h
  subst e
  exact (z_parse z k hz hk).mono fun e w' ⟨A, l, c, e1, h1, _, h2⟩ => ⟨_, e1, h2, _, rfl, A, l, c, rfl, h1, hz⟩
end Go.Proofs.YthjgfkmnelefpaaGreatDoor

/- Contracts of the answers of stages 2 and 3 over right numbers and ratios: Cmp; zero, one, nought, Right, take, Whole. No condition. What nat.Of and whetstoneref01.Of tell of any text of at most 4000 bytes, in one form: a number, and whether the text is decimal. Contracts of the answer's Parse of stage 2. What num.Parse and the answer's Parse tell of any text of at most 4000 bytes, in one form. -/
import Derived.Test.YthgclmkhmcfflaaGreatDoorT1
import Derived.Test.YthgclmkhmcfflaaGreatDoorT2
import Derived.Test.YthgclmkhmcfflaaGreatDoorT3
import Derived.Test.YthgclmkhmcfflaaGreatDoorT4
import Derived.Test.YthgclmkhmcfflaaGreatDoorT5
namespace Go.Proofs.YthgclmkhmcfflaaGreatDoor
open Go.RowKit
theorem block_r {id : Nat} {Q : Exit → Act → World → Prop} {a : Act} {w : World} (h : Q .ret a w) : Exit.inBlock id Q .ret a w := h
def kRow (z : Int) : PK := .p (fun v w => Rr w v z.natAbs) (fun _ _ _ h hb => h.below hb) (fun _ _ _ _ h hs => hs.rr h)
theorem run_loadRow {w : World} {g o : Nat} {A : Option Addr} {l c : Nat} (h0 : w.cell? ⟨g, o, none⟩ = some (.slice A l c)) : (Instr.loadAt 23 (.pointer (some ⟨g, o, none⟩))).run Tryz.prog w = .ok (.slice A l c) w := by go_simp
section
variable {G : List Nat} {S0 B : Nat} {ks : List PK} {a0 : Act} {i : Nat} {N : Nat} {W0 : World} {T : TypeId} {pos : String} {af : Array Edge} {gu : Option (Nat × Bool)}
set_option maxRecDepth 100000 in
theorem st_loadRow {d t j g o k : Nat} {z : Int} (hl : AtR W0 g o k z) (hG : g ∉ G) (hN : a0.tmps.size = N) (hd : decide (d < N) = true) (ht : decide (t < N) = true) (hj : at_ ks j = kIs (.pointer (some ⟨g, o + 1, none⟩))) (hi : at_ ks i = kRow z) :
    PkStep Tryz.prog (Reg B W0 G) S0 ks a0 i { dst := some d, op := .load 23 (.tmp t), type := T, pos := pos, after := af, guard := gu } [(j, some t)] := by
  intro w x hC
  refine deps_all _ fun hdeps K hK => ?_
  have g1 := hdeps (j, some t) (by simp)
  rw [hj] at g1
  have g2 : x j = .pointer (some ⟨g, o + 1, none⟩) := g1
  have e1 : (putE x a0 [(j, some t)]).eval (.tmp t) = x j := putE_new _ _ (by rw [hN]; exact of_decide_eq_true ht) (by simp [slotAt])
  obtain ⟨A, m, c, _, h2, A', m', c', e, h3, _⟩ := hC.atR hG hl
  injection e with e; injection e with e; injection e with _ e; injection e with e _
  injection e with q1 q2 q3
  subst q1; subst q2; subst q3
  refine wp_val (v := .slice A m c) (w' := w) rfl (by rw [putE_size, hN]) hd (ex_load (e1.trans g2) (run_loadRow h2)) (hK _ _ ?_ ?_)
  · rw [hi]; exact Below.refl _ _
  · rw [hi]; exact h3
set_option maxRecDepth 100000 in
theorem st_loadKP {d t g k : Nat} {z1 z2 : Int} (hl : AtR W0 g 0 k z1) (hl2 : AtR W0 g 2 k z2) (hp : a0.eval (.tmp t) = .pointer (some ⟨g, 0, none⟩)) (hN : a0.tmps.size = N) (hd : decide (d < N) = true) (hi : at_ ks i = kP k z1 z2) :
    PkStep Tryz.prog (fun w => Reg B W0 [g] w ∧ w.heap[g]? = W0.heap[g]?) S0 ks a0 i { dst := some d, op := .load 27 (.tmp t), type := T, pos := pos, after := af, guard := gu } [] := by
  intro w x hC K hK
  obtain ⟨A, m, c, h1, h2, A1, m1, c1, e1, h3⟩ := keep_atR hC hl
  obtain ⟨A', m', c', h4, h5, A2, m2, c2, e2, h6⟩ := keep_atR hC hl2
  injection e1 with e1; injection e1 with e1; injection e1 with _ e1; injection e1 with e1 _; injection e1 with a b c; subst a; subst b; subst c
  injection e2 with e2; injection e2 with e2; injection e2 with _ e2; injection e2 with e2 _; injection e2 with a b c; subst a; subst b; subst c
  refine wp_val (w' := w) rfl hN hd (ex_load hp (run_load4P h1 h2 h4 h5)) (hK _ _ ?_ ?_)
  · rw [hi]; exact Below.refl _ _
  · rw [hi]; exact ⟨_, _, _, _, _, _, rfl, h3, h6⟩
set_option maxRecDepth 100000 in
theorem st_listR2 {d j1 t1 k1 j2 t2 k2 : Nat} {z1 z2 : Int} (hN : a0.tmps.size = N) (hd : decide (d < N) = true) (ht1 : decide (t1 < N) = true) (ht2 : decide (t2 < N) = true) (hne : decide (t1 = t2) = false) (hS : S0 ≤ W0.heap.size) (h1 : at_ ks j1 = kZ k1 z1) (h2 : at_ ks j2 = kZ k2 z2) (hi : at_ ks i = kZRs [(k1, z1), (k2, z2)]) :
    PkStep Tryz.prog (Reg B W0 G) S0 ks a0 i { dst := some d, op := .buildSlice 82 2 #[(0, .tmp t1), (1, .tmp t2)], type := T, pos := pos, after := af, guard := gu } [(j1, some t1), (j2, some t2)] := by
  intro w x hC
  refine deps_all _ fun hdeps K hK => ?_
  have g1 := hdeps (j1, some t1) (by simp)
  have g2 := hdeps (j2, some t2) (by simp)
  rw [h1] at g1
  rw [h2] at g2
  have hne' : t1 ≠ t2 := of_decide_eq_false hne
  have e1 : (putE x a0 [(j1, some t1), (j2, some t2)]).eval (.tmp t1) = x j1 := putE_new _ _ (by rw [hN]; exact of_decide_eq_true ht1) (by simp [slotAt, Ne.symm hne'])
  have e2 : (putE x a0 [(j1, some t1), (j2, some t2)]).eval (.tmp t2) = x j2 := putE_new _ _ (by rw [hN]; exact of_decide_eq_true ht2) (by simp [slotAt])
  obtain ⟨A1, l1, c1, hx, q1⟩ := (show Zr w (x j1) k1 z1 from g1)
  obtain ⟨A2, l2, c2, hy, q2⟩ := (show Zr w (x j2) k2 z2 from g2)
  have hsz := hC.below.size
  refine wp_val rfl (by rw [putE_size, hN]) hd (ex_slice2 (e1.trans hx) (e2.trans hy) run_list2) (hK _ _ ?_ ?_)
  · rw [hi]; exact ⟨(Below.refl _ _).alloc (Nat.le_refl _) _, _, rfl, Nat.le_refl _⟩
  · rw [hi]
    have ba := fun (o : Obj) => (Below.refl w.heap.size w).alloc (Nat.le_refl _) o
    refine ⟨_, rfl, Nat.le_trans hS hsz, lt_alloc _ _, fun j q hj => ?_⟩
    match j, hj with
    | 0, hj => simp at hj; subst hj; exact ⟨A1, l1, c1, by simp, by simp, A1, l1, c1, rfl, q1.1.below (ba _), q1.2⟩
    | 1, hj => simp at hj; subst hj; exact ⟨A2, l2, c2, by simp, by simp, A2, l2, c2, rfl, q2.1.below (ba _), q2.2⟩
end
theorem r2_of {w : World} (n : Int) (h1 : -9223372036854775808 ≤ n) (h2 : n ≤ 9223372036854775807) (hn : n.natAbs < 1000000000 ^ 1) : Calls Tryz.prog 57 #[.int .i64 n] w (TellsZ w 1 n) :=
  (ref2Of_any n n.natAbs h1 h2 rfl).mono fun _ _ h => tellsZ_of hn h
set_option maxRecDepth 100000 in
set_option maxHeartbeats 4000000 in
theorem r2_cmp_np {w : World} {v1 v2 : Value} {zx zy : Int} (hx : decide (zx < 0) = true) (hy : decide (zy < 0) = false) (h1 : Zr w v1 39 (zx)) (h2 : Zr w v2 39 (zy)) :
    Calls Tryz.prog 62 #[v1, v2] w (fun e w' => e = .returned (.int .i64 (-1)) ∧ Below w.heap.size w w') := by
  obtain ⟨A1, l1, c1, rfl, r1, u1⟩ := h1
  obtain ⟨b1, hb1⟩ : ∃ s, s = decide (zx < 0) := ⟨_, rfl⟩
  rw [← hb1]
  have H1 := Lib.hid (show _ ∧ _ ∧ _ from ⟨hb1, r1, u1⟩)
  clear hb1 r1 u1
  obtain ⟨A2, l2, c2, rfl, r2, u2⟩ := h2
  obtain ⟨b2, hb2⟩ : ∃ s, s = decide (zy < 0) := ⟨_, rfl⟩
  rw [← hb2]
  have H2 := Lib.hid (show _ ∧ _ ∧ _ from ⟨hb2, r2, u2⟩)
  clear hb2 r2 u2
  go_enter Tryz.func62, Tryz.ntmps62
  repeat (refine wp_seq ?_)
  refine region_k ?_
  intro K hK
  have HK := Lib.hid hK
  clear hK
  go_wp2
  refine HK.out _ _ ?_
  clear HK
  refine then_n ?_
  obtain ⟨W_0, hW⟩ : ∃ W, W = (w.alloc (Obj.cells #[Value.bool b1, Value.slice A1 l1 c1] 25)).alloc (Obj.cells #[Value.bool b2, Value.slice A2 l2 c2] 25) := ⟨_, rfl⟩
  have bb_0 : Below w.heap.size w W_0 := by rw [hW]; exact bal (bal (Below.refl _ _) _) _
  have K0 : W_0.heap[w.heap.size]? = some (Obj.cells #[Value.bool b1, Value.slice A1 l1 c1] 25) := by rw [hW]; rw [Below.heap_alloc _ _ _ (by simp <;> omega)]; exact new_at (by simp)
  have K1 : W_0.heap[w.heap.size + 1]? = some (Obj.cells #[Value.bool b2, Value.slice A2 l2 c2] 25) := by rw [hW]; exact new_at (by simp)
  rw [← hW]
  obtain ⟨m1, n1, _, _⟩ := cell_of_two K0
  have f1_0 : AtR W_0 (w.heap.size) 0 39 (zx) := ⟨A1, l1, c1, by rw [← H1.out.1]; exact m1, n1, A1, l1, c1, rfl, H1.out.2.1.below bb_0, H1.out.2.2⟩
  clear m1 n1
  obtain ⟨m2, n2, _, _⟩ := cell_of_two K1
  have f2_0 : AtR W_0 (w.heap.size + 1) 0 39 (zy) := ⟨A2, l2, c2, by rw [← H2.out.1]; exact m2, n2, A2, l2, c2, rfl, H2.out.2.1.below bb_0, H2.out.2.2⟩
  clear m2 n2
  clear hW K0 K1
  refine name_frame (G := fun a => Code.wp _ _ _ a _) ?_
  intro a_0 ha
  have hN_0 : a_0.tmps.size = 40 := by subst ha; kernel_rfl
  have hD_0 : a_0.defers = [] := by subst ha; rfl
  have e2_0 : a_0.eval (.tmp 2) = .pointer (some ⟨w.heap.size, 0, none⟩) := by subst ha; kernel_rfl
  have e3_0 : a_0.eval (.tmp 3) = .pointer (some ⟨w.heap.size + 1, 0, none⟩) := by subst ha; kernel_rfl
  clear ha
  repeat (first | refine wp_seq ?_ | (refine wp_skip ?_; refine then_n ?_))
  refine wp_region_law hN_0 w.heap.size
    [kZ 39 (zx), kZ 39 (zx), kZ 39 (zy), kZ 39 (zy), PK.fresh 2, PK.fresh 2, kPutZ 4 39 (zx), kPutZ 5 39 (zy)]
    [ [], [(0, some 7)], [], [(2, some 9)], [], [], [(4, some 5), (1, some 8)], [(5, some 6), (3, some 10)] ]
    [(0, some 7), (1, some 8), (2, some 9), (3, some 10), (4, some 5), (5, some 6), (6, none), (7, none)] [] [] (by kernel_rfl) (by kernel_rfl) (by kernel_rfl) (by kernel_rfl) (by kernel_rfl) (by kernel_rfl) (by kernel_rfl) bb_0.size ?_ ?_
  ·
    refine pk_cons rfl rfl (st_loadB f1_0 (by simp) e2_0 hN_0 (by kernel_rfl) rfl) ?_
    refine pk_cons rfl rfl (st_call1 hN_0 (by kernel_rfl) (by kernel_rfl) (by kernel_rfl) rfl rfl fun w x v1 hC h1 => tz (r2_norm ((rr h1).zc (by decide)) (by decide))) ?_
    refine pk_cons rfl rfl (st_loadB f2_0 (by simp) e3_0 hN_0 (by kernel_rfl) rfl) ?_
    refine pk_cons rfl rfl (st_call1 hN_0 (by kernel_rfl) (by kernel_rfl) (by kernel_rfl) rfl rfl fun w x v1 hC h1 => tz (r2_norm ((rr h1).zc (by decide)) (by decide))) ?_
    refine pk_cons rfl rfl (st_alloc hN_0 (by kernel_rfl) (Nat.le_refl _) rfl) ?_
    refine pk_cons rfl rfl (st_alloc hN_0 (by kernel_rfl) (Nat.le_refl _) rfl) ?_
    refine pk_cons rfl rfl (st_put hN_0 (by kernel_rfl) (by kernel_rfl) (by kernel_rfl) rfl rfl rfl) ?_
    refine pk_cons rfl rfl (st_put hN_0 (by kernel_rfl) (by kernel_rfl) (by kernel_rfl) rfl rfl rfl) ?_
    exact pk_nil rfl
  intro W_1 x hC hall
  refine then_n ?_
  obtain ⟨a_1, ha⟩ : ∃ a, a = putE x a_0 [(0, some 7), (1, some 8), (2, some 9), (3, some 10), (4, some 5), (5, some 6), (6, none), (7, none)] := ⟨_, rfl⟩
  rw [← ha]
  have hN_1 := size_behind ha hN_0
  have hD_1 := defers_behind ha hD_0
  have bb_1 := bb_0.trans hC.below
  have e2_1 := slot_old ha (by kernel_rfl) e2_0
  have e3_1 := slot_old ha (by kernel_rfl) e3_0
  have f1_1 := hC.at0 f1_0
  have f2_1 := hC.at0 f2_0
  obtain ⟨g5, hx, l5_1⟩ := put_loc (show (kPutZ 4 39 (zx)).sem _ _ _ _ from hall 6 (of_decide_eq_true (by kernel_rfl)))
  have e5_1 := (slot_new (t := 5) (i := 4) ha hN_0 (by kernel_rfl) (by kernel_rfl)).trans hx
  clear hx
  obtain ⟨g6, hx, l6_1⟩ := put_loc (show (kPutZ 5 39 (zy)).sem _ _ _ _ from hall 7 (of_decide_eq_true (by kernel_rfl)))
  have e6_1 := (slot_new (t := 6) (i := 5) ha hN_0 (by kernel_rfl) (by kernel_rfl)).trans hx
  clear hx
  clear hall hC ha bb_0 hD_0 e2_0 e3_0 f1_0 f2_0
  have q5_1 := l5_1.atR
  clear l5_1
  have q6_1 := l6_1.atR
  clear l6_1
  repeat (first | refine wp_seq ?_ | (refine wp_skip ?_; refine then_n ?_))
  refine wp_block ?_
  repeat (first | refine wp_seq ?_ | (refine wp_skip ?_; refine then_n ?_))
  refine wp_region_law hN_1 w.heap.size
    [kIs (.pointer (some ⟨g5, 0, none⟩)), kIs (.bool true), kIs (.bool true), kIs (.pointer (some ⟨g6, 0, none⟩)), kIs (.bool false), kIs (.bool true), kIs (.bool true), kIs (.bool true)]
    [ [], [(0, some 12)], [(1, some 13)], [], [(3, some 15)], [(4, some 16)], [(2, some 14), (5, some 17)], [(6, some 18)] ]
    [(0, some 12), (1, some 13), (2, some 14), (3, some 15), (4, some 16), (5, some 17), (6, some 18), (7, some 11)] [(2, true)] [] (by kernel_rfl) (by kernel_rfl) (by kernel_rfl) (by kernel_rfl) (by kernel_rfl) (by kernel_rfl) (by kernel_rfl) bb_1.size ?_ ?_
  ·
    refine pk_cons rfl rfl (st_pure [] [(5, .pointer (some ⟨g5, 0, none⟩))] (.pointer (some ⟨g5, 0, none⟩)) rfl hN_1 (by kernel_rfl) (by kernel_rfl) (by kernel_rfl) (old1 e5_1) (by kernel_rfl) (by kernel_rfl) (by kernel_rfl) (fun _ => by kernel_rfl)) ?_
    refine pk_cons rfl rfl (st_loadS (s := true) q5_1 hx (by simp) hN_1 (by kernel_rfl) (by kernel_rfl) rfl rfl) ?_
    refine pk_cons rfl rfl (st_pure [.bool true] [] (.bool true) rfl hN_1 (by kernel_rfl) (by kernel_rfl) (by kernel_rfl) old0 (by kernel_rfl) (by kernel_rfl) (by kernel_rfl) (fun _ => by kernel_rfl)) ?_
    refine pk_cons rfl rfl (st_pure [] [(6, .pointer (some ⟨g6, 0, none⟩))] (.pointer (some ⟨g6, 0, none⟩)) rfl hN_1 (by kernel_rfl) (by kernel_rfl) (by kernel_rfl) (old1 e6_1) (by kernel_rfl) (by kernel_rfl) (by kernel_rfl) (fun _ => by kernel_rfl)) ?_
    refine pk_cons rfl rfl (st_loadS (s := false) q6_1 hy (by simp) hN_1 (by kernel_rfl) (by kernel_rfl) rfl rfl) ?_
    refine pk_cons rfl rfl (st_pure [.bool false] [] (.bool true) rfl hN_1 (by kernel_rfl) (by kernel_rfl) (by kernel_rfl) old0 (by kernel_rfl) (by kernel_rfl) (by kernel_rfl) (fun _ => by kernel_rfl)) ?_
    refine pk_cons rfl rfl (st_pure [.bool true, .bool true] [] (.bool true) rfl hN_1 (by kernel_rfl) (by kernel_rfl) (by kernel_rfl) old0 (by kernel_rfl) (by kernel_rfl) (by kernel_rfl) (fun _ => by kernel_rfl)) ?_
    refine pk_cons rfl rfl (st_pure [.bool true] [] (.bool true) rfl hN_1 (by kernel_rfl) (by kernel_rfl) (by kernel_rfl) old0 (by kernel_rfl) (by kernel_rfl) (by kernel_rfl) (fun _ => by kernel_rfl)) ?_
    exact pk_nil rfl
  intro W_2 x hC hall
  refine then_n ?_
  obtain ⟨a_2, ha⟩ : ∃ a, a = putE x a_1 [(0, some 12), (1, some 13), (2, some 14), (3, some 15), (4, some 16), (5, some 17), (6, some 18), (7, some 11)] := ⟨_, rfl⟩
  rw [← ha]
  have hN_2 := size_behind ha hN_1
  have hD_2 := defers_behind ha hD_1
  have bb_2 := bb_1.trans hC.below
  have e2_2 := slot_old ha (by kernel_rfl) e2_1
  have e3_2 := slot_old ha (by kernel_rfl) e3_1
  have e5_2 := slot_old ha (by kernel_rfl) e5_1
  have e6_2 := slot_old ha (by kernel_rfl) e6_1
  have f1_2 := hC.at0 f1_1
  have f2_2 := hC.at0 f2_1
  have q5_2 := hC.at0 q5_1
  have q6_2 := hC.at0 q6_1
  have e11_2 := (slot_new (t := 11) (i := 7) ha hN_1 (by kernel_rfl) (by kernel_rfl)).trans (show x 7 = .bool true from hall 7 (of_decide_eq_true (by kernel_rfl)))
  clear hall hC ha bb_1 hD_1 e2_1 e3_1 e5_1 e6_1 f1_1 f2_1 q5_1 q6_1
  repeat (first | refine wp_seq ?_ | (refine wp_skip ?_; refine then_n ?_))
  refine wp_cond_true e11_2 ?_
  repeat (first | refine wp_seq ?_ | (refine wp_skip ?_; refine then_n ?_))
  refine wp_region_law hN_2 w.heap.size
    [kIs (.int .i64 (-1))]
    [ [] ]
    [(0, some 4)] [] [] (by kernel_rfl) (by kernel_rfl) (by kernel_rfl) (by kernel_rfl) (by kernel_rfl) (by kernel_rfl) (by kernel_rfl) bb_2.size ?_ ?_
  ·
    refine pk_cons rfl rfl (st_pure [] [] (.int .i64 (-1)) rfl hN_2 (by kernel_rfl) (by kernel_rfl) (by kernel_rfl) old0 (by kernel_rfl) (by kernel_rfl) (by kernel_rfl) (fun _ => by kernel_rfl)) ?_
    exact pk_nil rfl
  intro W x hC hall
  refine then_n ?_
  obtain ⟨a1, ha⟩ : ∃ a, a = putE x a_2 [(0, some 4)] := ⟨_, rfl⟩
  rw [← ha]
  have hD1 := defers_behind ha hD_2
  have bb1 := bb_2.trans hC.below
  have e1 := (slot_new (t := 4) (i := 0) ha hN_2 (by kernel_rfl) (by kernel_rfl)).trans (show x 0 = .int .i64 (-1) from hall 0 (of_decide_eq_true (by kernel_rfl)))
  repeat (first | refine wp_seq ?_ | (refine wp_skip ?_; refine then_n ?_))
  refine wp_ret ?_
  repeat (first | refine then_r ?_ | refine block_r ?_)
  exact ret_one (t := 4) rfl hD1 e1 ⟨rfl, bb1⟩
set_option maxRecDepth 100000 in
set_option maxHeartbeats 4000000 in
theorem r2_cmp_pn {w : World} {v1 v2 : Value} {zx zy : Int} (hx : decide (zx < 0) = false) (hy : decide (zy < 0) = true) (h1 : Zr w v1 39 (zx)) (h2 : Zr w v2 39 (zy)) :
    Calls Tryz.prog 62 #[v1, v2] w (fun e w' => e = .returned (.int .i64 (1)) ∧ Below w.heap.size w w') := by
  obtain ⟨A1, l1, c1, rfl, r1, u1⟩ := h1
  obtain ⟨b1, hb1⟩ : ∃ s, s = decide (zx < 0) := ⟨_, rfl⟩
  rw [← hb1]
  have H1 := Lib.hid (show _ ∧ _ ∧ _ from ⟨hb1, r1, u1⟩)
  clear hb1 r1 u1
  obtain ⟨A2, l2, c2, rfl, r2, u2⟩ := h2
  obtain ⟨b2, hb2⟩ : ∃ s, s = decide (zy < 0) := ⟨_, rfl⟩
  rw [← hb2]
  have H2 := Lib.hid (show _ ∧ _ ∧ _ from ⟨hb2, r2, u2⟩)
  clear hb2 r2 u2
  go_enter Tryz.func62, Tryz.ntmps62
  repeat (refine wp_seq ?_)
  refine region_k ?_
  intro K hK
  have HK := Lib.hid hK
  clear hK
  go_wp2
  refine HK.out _ _ ?_
  clear HK
  refine then_n ?_
  obtain ⟨W_0, hW⟩ : ∃ W, W = (w.alloc (Obj.cells #[Value.bool b1, Value.slice A1 l1 c1] 25)).alloc (Obj.cells #[Value.bool b2, Value.slice A2 l2 c2] 25) := ⟨_, rfl⟩
  have bb_0 : Below w.heap.size w W_0 := by rw [hW]; exact bal (bal (Below.refl _ _) _) _
  have K0 : W_0.heap[w.heap.size]? = some (Obj.cells #[Value.bool b1, Value.slice A1 l1 c1] 25) := by rw [hW]; rw [Below.heap_alloc _ _ _ (by simp <;> omega)]; exact new_at (by simp)
  have K1 : W_0.heap[w.heap.size + 1]? = some (Obj.cells #[Value.bool b2, Value.slice A2 l2 c2] 25) := by rw [hW]; exact new_at (by simp)
  rw [← hW]
  obtain ⟨m1, n1, _, _⟩ := cell_of_two K0
  have f1_0 : AtR W_0 (w.heap.size) 0 39 (zx) := ⟨A1, l1, c1, by rw [← H1.out.1]; exact m1, n1, A1, l1, c1, rfl, H1.out.2.1.below bb_0, H1.out.2.2⟩
  clear m1 n1
  obtain ⟨m2, n2, _, _⟩ := cell_of_two K1
  have f2_0 : AtR W_0 (w.heap.size + 1) 0 39 (zy) := ⟨A2, l2, c2, by rw [← H2.out.1]; exact m2, n2, A2, l2, c2, rfl, H2.out.2.1.below bb_0, H2.out.2.2⟩
  clear m2 n2
  clear hW K0 K1
  refine name_frame (G := fun a => Code.wp _ _ _ a _) ?_
  intro a_0 ha
  have hN_0 : a_0.tmps.size = 40 := by subst ha; kernel_rfl
  have hD_0 : a_0.defers = [] := by subst ha; rfl
  have e2_0 : a_0.eval (.tmp 2) = .pointer (some ⟨w.heap.size, 0, none⟩) := by subst ha; kernel_rfl
  have e3_0 : a_0.eval (.tmp 3) = .pointer (some ⟨w.heap.size + 1, 0, none⟩) := by subst ha; kernel_rfl
  clear ha
  repeat (first | refine wp_seq ?_ | (refine wp_skip ?_; refine then_n ?_))
  refine wp_region_law hN_0 w.heap.size
    [kZ 39 (zx), kZ 39 (zx), kZ 39 (zy), kZ 39 (zy), PK.fresh 2, PK.fresh 2, kPutZ 4 39 (zx), kPutZ 5 39 (zy)]
    [ [], [(0, some 7)], [], [(2, some 9)], [], [], [(4, some 5), (1, some 8)], [(5, some 6), (3, some 10)] ]
    [(0, some 7), (1, some 8), (2, some 9), (3, some 10), (4, some 5), (5, some 6), (6, none), (7, none)] [] [] (by kernel_rfl) (by kernel_rfl) (by kernel_rfl) (by kernel_rfl) (by kernel_rfl) (by kernel_rfl) (by kernel_rfl) bb_0.size ?_ ?_
  ·
    refine pk_cons rfl rfl (st_loadB f1_0 (by simp) e2_0 hN_0 (by kernel_rfl) rfl) ?_
    refine pk_cons rfl rfl (st_call1 hN_0 (by kernel_rfl) (by kernel_rfl) (by kernel_rfl) rfl rfl fun w x v1 hC h1 => tz (r2_norm ((rr h1).zc (by decide)) (by decide))) ?_
    refine pk_cons rfl rfl (st_loadB f2_0 (by simp) e3_0 hN_0 (by kernel_rfl) rfl) ?_
    refine pk_cons rfl rfl (st_call1 hN_0 (by kernel_rfl) (by kernel_rfl) (by kernel_rfl) rfl rfl fun w x v1 hC h1 => tz (r2_norm ((rr h1).zc (by decide)) (by decide))) ?_
    refine pk_cons rfl rfl (st_alloc hN_0 (by kernel_rfl) (Nat.le_refl _) rfl) ?_
    refine pk_cons rfl rfl (st_alloc hN_0 (by kernel_rfl) (Nat.le_refl _) rfl) ?_
    refine pk_cons rfl rfl (st_put hN_0 (by kernel_rfl) (by kernel_rfl) (by kernel_rfl) rfl rfl rfl) ?_
    refine pk_cons rfl rfl (st_put hN_0 (by kernel_rfl) (by kernel_rfl) (by kernel_rfl) rfl rfl rfl) ?_
    exact pk_nil rfl
  intro W_1 x hC hall
  refine then_n ?_
  obtain ⟨a_1, ha⟩ : ∃ a, a = putE x a_0 [(0, some 7), (1, some 8), (2, some 9), (3, some 10), (4, some 5), (5, some 6), (6, none), (7, none)] := ⟨_, rfl⟩
  rw [← ha]
  have hN_1 := size_behind ha hN_0
  have hD_1 := defers_behind ha hD_0
  have bb_1 := bb_0.trans hC.below
  have e2_1 := slot_old ha (by kernel_rfl) e2_0
  have e3_1 := slot_old ha (by kernel_rfl) e3_0
  have f1_1 := hC.at0 f1_0
  have f2_1 := hC.at0 f2_0
  obtain ⟨g5, hx, l5_1⟩ := put_loc (show (kPutZ 4 39 (zx)).sem _ _ _ _ from hall 6 (of_decide_eq_true (by kernel_rfl)))
  have e5_1 := (slot_new (t := 5) (i := 4) ha hN_0 (by kernel_rfl) (by kernel_rfl)).trans hx
  clear hx
  obtain ⟨g6, hx, l6_1⟩ := put_loc (show (kPutZ 5 39 (zy)).sem _ _ _ _ from hall 7 (of_decide_eq_true (by kernel_rfl)))
  have e6_1 := (slot_new (t := 6) (i := 5) ha hN_0 (by kernel_rfl) (by kernel_rfl)).trans hx
  clear hx
  clear hall hC ha bb_0 hD_0 e2_0 e3_0 f1_0 f2_0
  have q5_1 := l5_1.atR
  clear l5_1
  have q6_1 := l6_1.atR
  clear l6_1
  repeat (first | refine wp_seq ?_ | (refine wp_skip ?_; refine then_n ?_))
  refine wp_block ?_
  repeat (first | refine wp_seq ?_ | (refine wp_skip ?_; refine then_n ?_))
  refine wp_region_law hN_1 w.heap.size
    [kIs (.pointer (some ⟨g5, 0, none⟩)), kIs (.bool false), kIs (.bool false), kIs undef, kIs undef, kIs undef, kIs (.bool false), kIs (.bool false)]
    [ [], [(0, some 12)], [(1, some 13)], [], [(3, some 15)], [(4, some 16)], [(2, some 14), (5, some 17)], [(6, some 18)] ]
    [(0, some 12), (1, some 13), (2, some 14), (3, some 15), (4, some 16), (5, some 17), (6, some 18), (7, some 11)] [(2, false)] [3, 4, 5] (by kernel_rfl) (by kernel_rfl) (by kernel_rfl) (by kernel_rfl) (by kernel_rfl) (by kernel_rfl) (by kernel_rfl) bb_1.size ?_ ?_
  ·
    refine pk_cons rfl rfl (st_pure [] [(5, .pointer (some ⟨g5, 0, none⟩))] (.pointer (some ⟨g5, 0, none⟩)) rfl hN_1 (by kernel_rfl) (by kernel_rfl) (by kernel_rfl) (old1 e5_1) (by kernel_rfl) (by kernel_rfl) (by kernel_rfl) (fun _ => by kernel_rfl)) ?_
    refine pk_cons rfl rfl (st_loadS (s := false) q5_1 hx (by simp) hN_1 (by kernel_rfl) (by kernel_rfl) rfl rfl) ?_
    refine pk_cons rfl rfl (st_pure [.bool false] [] (.bool false) rfl hN_1 (by kernel_rfl) (by kernel_rfl) (by kernel_rfl) old0 (by kernel_rfl) (by kernel_rfl) (by kernel_rfl) (fun _ => by kernel_rfl)) ?_
    refine pk_skip rfl ?_
    refine pk_skip rfl ?_
    refine pk_skip rfl ?_
    refine pk_cons rfl rfl (st_pure [.bool false, undef] [] (.bool false) rfl hN_1 (by kernel_rfl) (by kernel_rfl) (by kernel_rfl) old0 (by kernel_rfl) (by kernel_rfl) (by kernel_rfl) (fun _ => by kernel_rfl)) ?_
    refine pk_cons rfl rfl (st_pure [.bool false] [] (.bool false) rfl hN_1 (by kernel_rfl) (by kernel_rfl) (by kernel_rfl) old0 (by kernel_rfl) (by kernel_rfl) (by kernel_rfl) (fun _ => by kernel_rfl)) ?_
    exact pk_nil rfl
  intro W_2 x hC hall
  refine then_n ?_
  obtain ⟨a_2, ha⟩ : ∃ a, a = putE x a_1 [(0, some 12), (1, some 13), (2, some 14), (3, some 15), (4, some 16), (5, some 17), (6, some 18), (7, some 11)] := ⟨_, rfl⟩
  rw [← ha]
  have hN_2 := size_behind ha hN_1
  have hD_2 := defers_behind ha hD_1
  have bb_2 := bb_1.trans hC.below
  have e2_2 := slot_old ha (by kernel_rfl) e2_1
  have e3_2 := slot_old ha (by kernel_rfl) e3_1
  have e5_2 := slot_old ha (by kernel_rfl) e5_1
  have e6_2 := slot_old ha (by kernel_rfl) e6_1
  have f1_2 := hC.at0 f1_1
  have f2_2 := hC.at0 f2_1
  have q5_2 := hC.at0 q5_1
  have q6_2 := hC.at0 q6_1
  have e11_2 := (slot_new (t := 11) (i := 7) ha hN_1 (by kernel_rfl) (by kernel_rfl)).trans (show x 7 = .bool false from hall 7 (of_decide_eq_true (by kernel_rfl)))
  clear hall hC ha bb_1 hD_1 e2_1 e3_1 e5_1 e6_1 f1_1 f2_1 q5_1 q6_1
  repeat (first | refine wp_seq ?_ | (refine wp_skip ?_; refine then_n ?_))
  refine wp_cond_false e11_2 ?_
  repeat (first | refine wp_seq ?_ | (refine wp_skip ?_; refine then_n ?_))
  refine wp_region_law hN_2 w.heap.size
    [kIs (.pointer (some ⟨g5, 0, none⟩)), kIs (.bool false), kIs (.bool true), kIs (.bool true), kIs (.pointer (some ⟨g6, 0, none⟩)), kIs (.bool true), kIs (.bool true), kIs (.bool true)]
    [ [], [(0, some 20)], [(1, some 21)], [(2, some 22)], [], [(4, some 24)], [(3, some 23), (5, some 25)], [(6, some 26)] ]
    [(0, some 20), (1, some 21), (2, some 22), (3, some 23), (4, some 24), (5, some 25), (6, some 26), (7, some 19)] [(3, true)] [] (by kernel_rfl) (by kernel_rfl) (by kernel_rfl) (by kernel_rfl) (by kernel_rfl) (by kernel_rfl) (by kernel_rfl) bb_2.size ?_ ?_
  ·
    refine pk_cons rfl rfl (st_pure [] [(5, .pointer (some ⟨g5, 0, none⟩))] (.pointer (some ⟨g5, 0, none⟩)) rfl hN_2 (by kernel_rfl) (by kernel_rfl) (by kernel_rfl) (old1 e5_2) (by kernel_rfl) (by kernel_rfl) (by kernel_rfl) (fun _ => by kernel_rfl)) ?_
    refine pk_cons rfl rfl (st_loadS (s := false) q5_2 hx (by simp) hN_2 (by kernel_rfl) (by kernel_rfl) rfl rfl) ?_
    refine pk_cons rfl rfl (st_pure [.bool false] [] (.bool true) rfl hN_2 (by kernel_rfl) (by kernel_rfl) (by kernel_rfl) old0 (by kernel_rfl) (by kernel_rfl) (by kernel_rfl) (fun _ => by kernel_rfl)) ?_
    refine pk_cons rfl rfl (st_pure [.bool true] [] (.bool true) rfl hN_2 (by kernel_rfl) (by kernel_rfl) (by kernel_rfl) old0 (by kernel_rfl) (by kernel_rfl) (by kernel_rfl) (fun _ => by kernel_rfl)) ?_
    refine pk_cons rfl rfl (st_pure [] [(6, .pointer (some ⟨g6, 0, none⟩))] (.pointer (some ⟨g6, 0, none⟩)) rfl hN_2 (by kernel_rfl) (by kernel_rfl) (by kernel_rfl) (old1 e6_2) (by kernel_rfl) (by kernel_rfl) (by kernel_rfl) (fun _ => by kernel_rfl)) ?_
    refine pk_cons rfl rfl (st_loadS (s := true) q6_2 hy (by simp) hN_2 (by kernel_rfl) (by kernel_rfl) rfl rfl) ?_
    refine pk_cons rfl rfl (st_pure [.bool true, .bool true] [] (.bool true) rfl hN_2 (by kernel_rfl) (by kernel_rfl) (by kernel_rfl) old0 (by kernel_rfl) (by kernel_rfl) (by kernel_rfl) (fun _ => by kernel_rfl)) ?_
    refine pk_cons rfl rfl (st_pure [.bool true] [] (.bool true) rfl hN_2 (by kernel_rfl) (by kernel_rfl) (by kernel_rfl) old0 (by kernel_rfl) (by kernel_rfl) (by kernel_rfl) (fun _ => by kernel_rfl)) ?_
    exact pk_nil rfl
  intro W_3 x hC hall
  refine then_n ?_
  obtain ⟨a_3, ha⟩ : ∃ a, a = putE x a_2 [(0, some 20), (1, some 21), (2, some 22), (3, some 23), (4, some 24), (5, some 25), (6, some 26), (7, some 19)] := ⟨_, rfl⟩
  rw [← ha]
  have hN_3 := size_behind ha hN_2
  have hD_3 := defers_behind ha hD_2
  have bb_3 := bb_2.trans hC.below
  have e2_3 := slot_old ha (by kernel_rfl) e2_2
  have e3_3 := slot_old ha (by kernel_rfl) e3_2
  have e5_3 := slot_old ha (by kernel_rfl) e5_2
  have e6_3 := slot_old ha (by kernel_rfl) e6_2
  have e11_3 := slot_old ha (by kernel_rfl) e11_2
  have f1_3 := hC.at0 f1_2
  have f2_3 := hC.at0 f2_2
  have q5_3 := hC.at0 q5_2
  have q6_3 := hC.at0 q6_2
  have e19_3 := (slot_new (t := 19) (i := 7) ha hN_2 (by kernel_rfl) (by kernel_rfl)).trans (show x 7 = .bool true from hall 7 (of_decide_eq_true (by kernel_rfl)))
  clear hall hC ha bb_2 hD_2 e2_2 e3_2 e5_2 e6_2 e11_2 f1_2 f2_2 q5_2 q6_2
  repeat (first | refine wp_seq ?_ | (refine wp_skip ?_; refine then_n ?_))
  refine wp_cond_true e19_3 ?_
  repeat (first | refine wp_seq ?_ | (refine wp_skip ?_; refine then_n ?_))
  refine wp_region_law hN_3 w.heap.size
    [kIs (.int .i64 (1))]
    [ [] ]
    [(0, some 4)] [] [] (by kernel_rfl) (by kernel_rfl) (by kernel_rfl) (by kernel_rfl) (by kernel_rfl) (by kernel_rfl) (by kernel_rfl) bb_3.size ?_ ?_
  ·
    refine pk_cons rfl rfl (st_pure [] [] (.int .i64 (1)) rfl hN_3 (by kernel_rfl) (by kernel_rfl) (by kernel_rfl) old0 (by kernel_rfl) (by kernel_rfl) (by kernel_rfl) (fun _ => by kernel_rfl)) ?_
    exact pk_nil rfl
  intro W x hC hall
  refine then_n ?_
  obtain ⟨a1, ha⟩ : ∃ a, a = putE x a_3 [(0, some 4)] := ⟨_, rfl⟩
  rw [← ha]
  have hD1 := defers_behind ha hD_3
  have bb1 := bb_3.trans hC.below
  have e1 := (slot_new (t := 4) (i := 0) ha hN_3 (by kernel_rfl) (by kernel_rfl)).trans (show x 0 = .int .i64 (1) from hall 0 (of_decide_eq_true (by kernel_rfl)))
  repeat (first | refine wp_seq ?_ | (refine wp_skip ?_; refine then_n ?_))
  refine wp_ret ?_
  repeat (first | refine then_r ?_ | refine block_r ?_)
  exact ret_one (t := 4) rfl hD1 e1 ⟨rfl, bb1⟩
set_option maxRecDepth 100000 in
set_option maxHeartbeats 4000000 in
theorem r2_cmp_nn {w : World} {v1 v2 : Value} {zx zy : Int} (hx : decide (zx < 0) = true) (hy : decide (zy < 0) = true) (h1 : Zr w v1 39 (zx)) (h2 : Zr w v2 39 (zy)) :
    Calls Tryz.prog 62 #[v1, v2] w (fun e w' => e = .returned (.int .i64 (ordI ((zy).natAbs : Int) ((zx).natAbs : Int))) ∧ Below w.heap.size w w') := by
  obtain ⟨A1, l1, c1, rfl, r1, u1⟩ := h1
  obtain ⟨b1, hb1⟩ : ∃ s, s = decide (zx < 0) := ⟨_, rfl⟩
  rw [← hb1]
  have H1 := Lib.hid (show _ ∧ _ ∧ _ from ⟨hb1, r1, u1⟩)
  clear hb1 r1 u1
  obtain ⟨A2, l2, c2, rfl, r2, u2⟩ := h2
  obtain ⟨b2, hb2⟩ : ∃ s, s = decide (zy < 0) := ⟨_, rfl⟩
  rw [← hb2]
  have H2 := Lib.hid (show _ ∧ _ ∧ _ from ⟨hb2, r2, u2⟩)
  clear hb2 r2 u2
  go_enter Tryz.func62, Tryz.ntmps62
  repeat (refine wp_seq ?_)
  refine region_k ?_
  intro K hK
  have HK := Lib.hid hK
  clear hK
  go_wp2
  refine HK.out _ _ ?_
  clear HK
  refine then_n ?_
  obtain ⟨W_0, hW⟩ : ∃ W, W = (w.alloc (Obj.cells #[Value.bool b1, Value.slice A1 l1 c1] 25)).alloc (Obj.cells #[Value.bool b2, Value.slice A2 l2 c2] 25) := ⟨_, rfl⟩
  have bb_0 : Below w.heap.size w W_0 := by rw [hW]; exact bal (bal (Below.refl _ _) _) _
  have K0 : W_0.heap[w.heap.size]? = some (Obj.cells #[Value.bool b1, Value.slice A1 l1 c1] 25) := by rw [hW]; rw [Below.heap_alloc _ _ _ (by simp <;> omega)]; exact new_at (by simp)
  have K1 : W_0.heap[w.heap.size + 1]? = some (Obj.cells #[Value.bool b2, Value.slice A2 l2 c2] 25) := by rw [hW]; exact new_at (by simp)
  rw [← hW]
  obtain ⟨m1, n1, _, _⟩ := cell_of_two K0
  have f1_0 : AtR W_0 (w.heap.size) 0 39 (zx) := ⟨A1, l1, c1, by rw [← H1.out.1]; exact m1, n1, A1, l1, c1, rfl, H1.out.2.1.below bb_0, H1.out.2.2⟩
  clear m1 n1
  obtain ⟨m2, n2, _, _⟩ := cell_of_two K1
  have f2_0 : AtR W_0 (w.heap.size + 1) 0 39 (zy) := ⟨A2, l2, c2, by rw [← H2.out.1]; exact m2, n2, A2, l2, c2, rfl, H2.out.2.1.below bb_0, H2.out.2.2⟩
  clear m2 n2
  clear hW K0 K1
  refine name_frame (G := fun a => Code.wp _ _ _ a _) ?_
  intro a_0 ha
  have hN_0 : a_0.tmps.size = 40 := by subst ha; kernel_rfl
  have hD_0 : a_0.defers = [] := by subst ha; rfl
  have e2_0 : a_0.eval (.tmp 2) = .pointer (some ⟨w.heap.size, 0, none⟩) := by subst ha; kernel_rfl
  have e3_0 : a_0.eval (.tmp 3) = .pointer (some ⟨w.heap.size + 1, 0, none⟩) := by subst ha; kernel_rfl
  clear ha
  repeat (first | refine wp_seq ?_ | (refine wp_skip ?_; refine then_n ?_))
  refine wp_region_law hN_0 w.heap.size
    [kZ 39 (zx), kZ 39 (zx), kZ 39 (zy), kZ 39 (zy), PK.fresh 2, PK.fresh 2, kPutZ 4 39 (zx), kPutZ 5 39 (zy)]
    [ [], [(0, some 7)], [], [(2, some 9)], [], [], [(4, some 5), (1, some 8)], [(5, some 6), (3, some 10)] ]
    [(0, some 7), (1, some 8), (2, some 9), (3, some 10), (4, some 5), (5, some 6), (6, none), (7, none)] [] [] (by kernel_rfl) (by kernel_rfl) (by kernel_rfl) (by kernel_rfl) (by kernel_rfl) (by kernel_rfl) (by kernel_rfl) bb_0.size ?_ ?_
  ·
    refine pk_cons rfl rfl (st_loadB f1_0 (by simp) e2_0 hN_0 (by kernel_rfl) rfl) ?_
    refine pk_cons rfl rfl (st_call1 hN_0 (by kernel_rfl) (by kernel_rfl) (by kernel_rfl) rfl rfl fun w x v1 hC h1 => tz (r2_norm ((rr h1).zc (by decide)) (by decide))) ?_
    refine pk_cons rfl rfl (st_loadB f2_0 (by simp) e3_0 hN_0 (by kernel_rfl) rfl) ?_
    refine pk_cons rfl rfl (st_call1 hN_0 (by kernel_rfl) (by kernel_rfl) (by kernel_rfl) rfl rfl fun w x v1 hC h1 => tz (r2_norm ((rr h1).zc (by decide)) (by decide))) ?_
    refine pk_cons rfl rfl (st_alloc hN_0 (by kernel_rfl) (Nat.le_refl _) rfl) ?_
    refine pk_cons rfl rfl (st_alloc hN_0 (by kernel_rfl) (Nat.le_refl _) rfl) ?_
    refine pk_cons rfl rfl (st_put hN_0 (by kernel_rfl) (by kernel_rfl) (by kernel_rfl) rfl rfl rfl) ?_
    refine pk_cons rfl rfl (st_put hN_0 (by kernel_rfl) (by kernel_rfl) (by kernel_rfl) rfl rfl rfl) ?_
    exact pk_nil rfl
  intro W_1 x hC hall
  refine then_n ?_
  obtain ⟨a_1, ha⟩ : ∃ a, a = putE x a_0 [(0, some 7), (1, some 8), (2, some 9), (3, some 10), (4, some 5), (5, some 6), (6, none), (7, none)] := ⟨_, rfl⟩
  rw [← ha]
  have hN_1 := size_behind ha hN_0
  have hD_1 := defers_behind ha hD_0
  have bb_1 := bb_0.trans hC.below
  have e2_1 := slot_old ha (by kernel_rfl) e2_0
  have e3_1 := slot_old ha (by kernel_rfl) e3_0
  have f1_1 := hC.at0 f1_0
  have f2_1 := hC.at0 f2_0
  obtain ⟨g5, hx, l5_1⟩ := put_loc (show (kPutZ 4 39 (zx)).sem _ _ _ _ from hall 6 (of_decide_eq_true (by kernel_rfl)))
  have e5_1 := (slot_new (t := 5) (i := 4) ha hN_0 (by kernel_rfl) (by kernel_rfl)).trans hx
  clear hx
  obtain ⟨g6, hx, l6_1⟩ := put_loc (show (kPutZ 5 39 (zy)).sem _ _ _ _ from hall 7 (of_decide_eq_true (by kernel_rfl)))
  have e6_1 := (slot_new (t := 6) (i := 5) ha hN_0 (by kernel_rfl) (by kernel_rfl)).trans hx
  clear hx
  clear hall hC ha bb_0 hD_0 e2_0 e3_0 f1_0 f2_0
  have q5_1 := l5_1.atR
  clear l5_1
  have q6_1 := l6_1.atR
  clear l6_1
  repeat (first | refine wp_seq ?_ | (refine wp_skip ?_; refine then_n ?_))
  refine wp_block ?_
  repeat (first | refine wp_seq ?_ | (refine wp_skip ?_; refine then_n ?_))
  refine wp_region_law hN_1 w.heap.size
    [kIs (.pointer (some ⟨g5, 0, none⟩)), kIs (.bool true), kIs (.bool true), kIs (.pointer (some ⟨g6, 0, none⟩)), kIs (.bool true), kIs (.bool false), kIs (.bool false), kIs (.bool false)]
    [ [], [(0, some 12)], [(1, some 13)], [], [(3, some 15)], [(4, some 16)], [(2, some 14), (5, some 17)], [(6, some 18)] ]
    [(0, some 12), (1, some 13), (2, some 14), (3, some 15), (4, some 16), (5, some 17), (6, some 18), (7, some 11)] [(2, true)] [] (by kernel_rfl) (by kernel_rfl) (by kernel_rfl) (by kernel_rfl) (by kernel_rfl) (by kernel_rfl) (by kernel_rfl) bb_1.size ?_ ?_
  ·
    refine pk_cons rfl rfl (st_pure [] [(5, .pointer (some ⟨g5, 0, none⟩))] (.pointer (some ⟨g5, 0, none⟩)) rfl hN_1 (by kernel_rfl) (by kernel_rfl) (by kernel_rfl) (old1 e5_1) (by kernel_rfl) (by kernel_rfl) (by kernel_rfl) (fun _ => by kernel_rfl)) ?_
    refine pk_cons rfl rfl (st_loadS (s := true) q5_1 hx (by simp) hN_1 (by kernel_rfl) (by kernel_rfl) rfl rfl) ?_
    refine pk_cons rfl rfl (st_pure [.bool true] [] (.bool true) rfl hN_1 (by kernel_rfl) (by kernel_rfl) (by kernel_rfl) old0 (by kernel_rfl) (by kernel_rfl) (by kernel_rfl) (fun _ => by kernel_rfl)) ?_
    refine pk_cons rfl rfl (st_pure [] [(6, .pointer (some ⟨g6, 0, none⟩))] (.pointer (some ⟨g6, 0, none⟩)) rfl hN_1 (by kernel_rfl) (by kernel_rfl) (by kernel_rfl) (old1 e6_1) (by kernel_rfl) (by kernel_rfl) (by kernel_rfl) (fun _ => by kernel_rfl)) ?_
    refine pk_cons rfl rfl (st_loadS (s := true) q6_1 hy (by simp) hN_1 (by kernel_rfl) (by kernel_rfl) rfl rfl) ?_
    refine pk_cons rfl rfl (st_pure [.bool true] [] (.bool false) rfl hN_1 (by kernel_rfl) (by kernel_rfl) (by kernel_rfl) old0 (by kernel_rfl) (by kernel_rfl) (by kernel_rfl) (fun _ => by kernel_rfl)) ?_
    refine pk_cons rfl rfl (st_pure [.bool true, .bool false] [] (.bool false) rfl hN_1 (by kernel_rfl) (by kernel_rfl) (by kernel_rfl) old0 (by kernel_rfl) (by kernel_rfl) (by kernel_rfl) (fun _ => by kernel_rfl)) ?_
    refine pk_cons rfl rfl (st_pure [.bool false] [] (.bool false) rfl hN_1 (by kernel_rfl) (by kernel_rfl) (by kernel_rfl) old0 (by kernel_rfl) (by kernel_rfl) (by kernel_rfl) (fun _ => by kernel_rfl)) ?_
    exact pk_nil rfl
  intro W_2 x hC hall
  refine then_n ?_
  obtain ⟨a_2, ha⟩ : ∃ a, a = putE x a_1 [(0, some 12), (1, some 13), (2, some 14), (3, some 15), (4, some 16), (5, some 17), (6, some 18), (7, some 11)] := ⟨_, rfl⟩
  rw [← ha]
  have hN_2 := size_behind ha hN_1
  have hD_2 := defers_behind ha hD_1
  have bb_2 := bb_1.trans hC.below
  have e2_2 := slot_old ha (by kernel_rfl) e2_1
  have e3_2 := slot_old ha (by kernel_rfl) e3_1
  have e5_2 := slot_old ha (by kernel_rfl) e5_1
  have e6_2 := slot_old ha (by kernel_rfl) e6_1
  have f1_2 := hC.at0 f1_1
  have f2_2 := hC.at0 f2_1
  have q5_2 := hC.at0 q5_1
  have q6_2 := hC.at0 q6_1
  have e11_2 := (slot_new (t := 11) (i := 7) ha hN_1 (by kernel_rfl) (by kernel_rfl)).trans (show x 7 = .bool false from hall 7 (of_decide_eq_true (by kernel_rfl)))
  clear hall hC ha bb_1 hD_1 e2_1 e3_1 e5_1 e6_1 f1_1 f2_1 q5_1 q6_1
  repeat (first | refine wp_seq ?_ | (refine wp_skip ?_; refine then_n ?_))
  refine wp_cond_false e11_2 ?_
  repeat (first | refine wp_seq ?_ | (refine wp_skip ?_; refine then_n ?_))
  refine wp_region_law hN_2 w.heap.size
    [kIs (.pointer (some ⟨g5, 0, none⟩)), kIs (.bool true), kIs (.bool false), kIs (.bool false), kIs undef, kIs undef, kIs (.bool false), kIs (.bool false)]
    [ [], [(0, some 20)], [(1, some 21)], [(2, some 22)], [], [(4, some 24)], [(3, some 23), (5, some 25)], [(6, some 26)] ]
    [(0, some 20), (1, some 21), (2, some 22), (3, some 23), (4, some 24), (5, some 25), (6, some 26), (7, some 19)] [(3, false)] [4, 5] (by kernel_rfl) (by kernel_rfl) (by kernel_rfl) (by kernel_rfl) (by kernel_rfl) (by kernel_rfl) (by kernel_rfl) bb_2.size ?_ ?_
  ·
    refine pk_cons rfl rfl (st_pure [] [(5, .pointer (some ⟨g5, 0, none⟩))] (.pointer (some ⟨g5, 0, none⟩)) rfl hN_2 (by kernel_rfl) (by kernel_rfl) (by kernel_rfl) (old1 e5_2) (by kernel_rfl) (by kernel_rfl) (by kernel_rfl) (fun _ => by kernel_rfl)) ?_
    refine pk_cons rfl rfl (st_loadS (s := true) q5_2 hx (by simp) hN_2 (by kernel_rfl) (by kernel_rfl) rfl rfl) ?_
    refine pk_cons rfl rfl (st_pure [.bool true] [] (.bool false) rfl hN_2 (by kernel_rfl) (by kernel_rfl) (by kernel_rfl) old0 (by kernel_rfl) (by kernel_rfl) (by kernel_rfl) (fun _ => by kernel_rfl)) ?_
    refine pk_cons rfl rfl (st_pure [.bool false] [] (.bool false) rfl hN_2 (by kernel_rfl) (by kernel_rfl) (by kernel_rfl) old0 (by kernel_rfl) (by kernel_rfl) (by kernel_rfl) (fun _ => by kernel_rfl)) ?_
    refine pk_skip rfl ?_
    refine pk_skip rfl ?_
    refine pk_cons rfl rfl (st_pure [.bool false, undef] [] (.bool false) rfl hN_2 (by kernel_rfl) (by kernel_rfl) (by kernel_rfl) old0 (by kernel_rfl) (by kernel_rfl) (by kernel_rfl) (fun _ => by kernel_rfl)) ?_
    refine pk_cons rfl rfl (st_pure [.bool false] [] (.bool false) rfl hN_2 (by kernel_rfl) (by kernel_rfl) (by kernel_rfl) old0 (by kernel_rfl) (by kernel_rfl) (by kernel_rfl) (fun _ => by kernel_rfl)) ?_
    exact pk_nil rfl
  intro W_3 x hC hall
  refine then_n ?_
  obtain ⟨a_3, ha⟩ : ∃ a, a = putE x a_2 [(0, some 20), (1, some 21), (2, some 22), (3, some 23), (4, some 24), (5, some 25), (6, some 26), (7, some 19)] := ⟨_, rfl⟩
  rw [← ha]
  have hN_3 := size_behind ha hN_2
  have hD_3 := defers_behind ha hD_2
  have bb_3 := bb_2.trans hC.below
  have e2_3 := slot_old ha (by kernel_rfl) e2_2
  have e3_3 := slot_old ha (by kernel_rfl) e3_2
  have e5_3 := slot_old ha (by kernel_rfl) e5_2
  have e6_3 := slot_old ha (by kernel_rfl) e6_2
  have e11_3 := slot_old ha (by kernel_rfl) e11_2
  have f1_3 := hC.at0 f1_2
  have f2_3 := hC.at0 f2_2
  have q5_3 := hC.at0 q5_2
  have q6_3 := hC.at0 q6_2
  have e19_3 := (slot_new (t := 19) (i := 7) ha hN_2 (by kernel_rfl) (by kernel_rfl)).trans (show x 7 = .bool false from hall 7 (of_decide_eq_true (by kernel_rfl)))
  clear hall hC ha bb_2 hD_2 e2_2 e3_2 e5_2 e6_2 e11_2 f1_2 f2_2 q5_2 q6_2
  repeat (first | refine wp_seq ?_ | (refine wp_skip ?_; refine then_n ?_))
  refine wp_cond_false e19_3 ?_
  repeat (first | refine wp_seq ?_ | (refine wp_skip ?_; refine then_n ?_))
  refine wp_region_law hN_3 w.heap.size
    [kIs (.pointer (some ⟨g5, 0, none⟩)), kIs (.bool true), kIs (.bool true)]
    [ [], [(0, some 28)], [(1, some 29)] ]
    [(0, some 28), (1, some 29), (2, some 27)] [] [] (by kernel_rfl) (by kernel_rfl) (by kernel_rfl) (by kernel_rfl) (by kernel_rfl) (by kernel_rfl) (by kernel_rfl) bb_3.size ?_ ?_
  ·
    refine pk_cons rfl rfl (st_pure [] [(5, .pointer (some ⟨g5, 0, none⟩))] (.pointer (some ⟨g5, 0, none⟩)) rfl hN_3 (by kernel_rfl) (by kernel_rfl) (by kernel_rfl) (old1 e5_3) (by kernel_rfl) (by kernel_rfl) (by kernel_rfl) (fun _ => by kernel_rfl)) ?_
    refine pk_cons rfl rfl (st_loadS (s := true) q5_3 hx (by simp) hN_3 (by kernel_rfl) (by kernel_rfl) rfl rfl) ?_
    refine pk_cons rfl rfl (st_pure [.bool true] [] (.bool true) rfl hN_3 (by kernel_rfl) (by kernel_rfl) (by kernel_rfl) old0 (by kernel_rfl) (by kernel_rfl) (by kernel_rfl) (fun _ => by kernel_rfl)) ?_
    exact pk_nil rfl
  intro W_4 x hC hall
  refine then_n ?_
  obtain ⟨a_4, ha⟩ : ∃ a, a = putE x a_3 [(0, some 28), (1, some 29), (2, some 27)] := ⟨_, rfl⟩
  rw [← ha]
  have hN_4 := size_behind ha hN_3
  have hD_4 := defers_behind ha hD_3
  have bb_4 := bb_3.trans hC.below
  have e2_4 := slot_old ha (by kernel_rfl) e2_3
  have e3_4 := slot_old ha (by kernel_rfl) e3_3
  have e5_4 := slot_old ha (by kernel_rfl) e5_3
  have e6_4 := slot_old ha (by kernel_rfl) e6_3
  have e11_4 := slot_old ha (by kernel_rfl) e11_3
  have e19_4 := slot_old ha (by kernel_rfl) e19_3
  have f1_4 := hC.at0 f1_3
  have f2_4 := hC.at0 f2_3
  have q5_4 := hC.at0 q5_3
  have q6_4 := hC.at0 q6_3
  have e27_4 := (slot_new (t := 27) (i := 2) ha hN_3 (by kernel_rfl) (by kernel_rfl)).trans (show x 2 = .bool true from hall 2 (of_decide_eq_true (by kernel_rfl)))
  clear hall hC ha bb_3 hD_3 e2_3 e3_3 e5_3 e6_3 e11_3 e19_3 f1_3 f2_3 q5_3 q6_3
  repeat (first | refine wp_seq ?_ | (refine wp_skip ?_; refine then_n ?_))
  refine wp_cond_true e27_4 ?_
  repeat (first | refine wp_seq ?_ | (refine wp_skip ?_; refine then_n ?_))
  refine wp_region_law hN_4 w.heap.size
    [kIs (.pointer (some ⟨g6, 1, none⟩)), kRow (zy), kIs (.pointer (some ⟨g5, 1, none⟩)), kRow (zx), kIs (.int .i64 (ordI ((zy).natAbs : Int) ((zx).natAbs : Int))), kIs (.int .i64 (ordI ((zy).natAbs : Int) ((zx).natAbs : Int)))]
    [ [], [(0, some 30)], [], [(2, some 32)], [(1, some 31), (3, some 33)], [(4, some 34)] ]
    [(0, some 30), (1, some 31), (2, some 32), (3, some 33), (4, some 34), (5, some 4)] [] [] (by kernel_rfl) (by kernel_rfl) (by kernel_rfl) (by kernel_rfl) (by kernel_rfl) (by kernel_rfl) (by kernel_rfl) bb_4.size ?_ ?_
  ·
    refine pk_cons rfl rfl (st_pure [] [(6, .pointer (some ⟨g6, 0, none⟩))] (.pointer (some ⟨g6, 1, none⟩)) rfl hN_4 (by kernel_rfl) (by kernel_rfl) (by kernel_rfl) (old1 e6_4) (by kernel_rfl) (by kernel_rfl) (by kernel_rfl) (fun _ => by kernel_rfl)) ?_
    refine pk_cons rfl rfl (st_loadRow q6_4 (by simp) hN_4 (by kernel_rfl) (by kernel_rfl) rfl rfl) ?_
    refine pk_cons rfl rfl (st_pure [] [(5, .pointer (some ⟨g5, 0, none⟩))] (.pointer (some ⟨g5, 1, none⟩)) rfl hN_4 (by kernel_rfl) (by kernel_rfl) (by kernel_rfl) (old1 e5_4) (by kernel_rfl) (by kernel_rfl) (by kernel_rfl) (fun _ => by kernel_rfl)) ?_
    refine pk_cons rfl rfl (st_loadRow q5_4 (by simp) hN_4 (by kernel_rfl) (by kernel_rfl) rfl rfl) ?_
    refine pk_cons rfl rfl (st_call2 hN_4 (by kernel_rfl) (by kernel_rfl) (by kernel_rfl) (by kernel_rfl) (by kernel_rfl) rfl rfl rfl fun w x v1 v2 hC h1 h2 => ti (vr_cmp (N := 39) h1 h2 H2.out.2.2 H1.out.2.2 (by decide))) ?_
    refine pk_cons rfl rfl (st_pure [.int .i64 (ordI ((zy).natAbs : Int) ((zx).natAbs : Int))] [] (.int .i64 (ordI ((zy).natAbs : Int) ((zx).natAbs : Int))) rfl hN_4 (by kernel_rfl) (by kernel_rfl) (by kernel_rfl) old0 (by kernel_rfl) (by kernel_rfl) (by kernel_rfl) (fun _ => by kernel_rfl)) ?_
    exact pk_nil rfl
  intro W x hC hall
  refine then_n ?_
  obtain ⟨a1, ha⟩ : ∃ a, a = putE x a_4 [(0, some 30), (1, some 31), (2, some 32), (3, some 33), (4, some 34), (5, some 4)] := ⟨_, rfl⟩
  rw [← ha]
  have hD1 := defers_behind ha hD_4
  have bb1 := bb_4.trans hC.below
  have e1 := (slot_new (t := 4) (i := 5) ha hN_4 (by kernel_rfl) (by kernel_rfl)).trans (show x 5 = .int .i64 (ordI ((zy).natAbs : Int) ((zx).natAbs : Int)) from hall 5 (of_decide_eq_true (by kernel_rfl)))
  repeat (first | refine wp_seq ?_ | (refine wp_skip ?_; refine then_n ?_))
  refine wp_ret ?_
  repeat (first | refine then_r ?_ | refine block_r ?_)
  exact ret_one (t := 4) rfl hD1 e1 ⟨rfl, bb1⟩
set_option maxRecDepth 100000 in
set_option maxHeartbeats 4000000 in
theorem r2_cmp_pp {w : World} {v1 v2 : Value} {zx zy : Int} (hx : decide (zx < 0) = false) (hy : decide (zy < 0) = false) (h1 : Zr w v1 39 (zx)) (h2 : Zr w v2 39 (zy)) :
    Calls Tryz.prog 62 #[v1, v2] w (fun e w' => e = .returned (.int .i64 (ordI ((zx).natAbs : Int) ((zy).natAbs : Int))) ∧ Below w.heap.size w w') := by
  obtain ⟨A1, l1, c1, rfl, r1, u1⟩ := h1
  obtain ⟨b1, hb1⟩ : ∃ s, s = decide (zx < 0) := ⟨_, rfl⟩
  rw [← hb1]
  have H1 := Lib.hid (show _ ∧ _ ∧ _ from ⟨hb1, r1, u1⟩)
  clear hb1 r1 u1
  obtain ⟨A2, l2, c2, rfl, r2, u2⟩ := h2
  obtain ⟨b2, hb2⟩ : ∃ s, s = decide (zy < 0) := ⟨_, rfl⟩
  rw [← hb2]
  have H2 := Lib.hid (show _ ∧ _ ∧ _ from ⟨hb2, r2, u2⟩)
  clear hb2 r2 u2
  go_enter Tryz.func62, Tryz.ntmps62
  repeat (refine wp_seq ?_)
  refine region_k ?_
  intro K hK
  have HK := Lib.hid hK
  clear hK
  go_wp2
  refine HK.out _ _ ?_
  clear HK
  refine then_n ?_
  obtain ⟨W_0, hW⟩ : ∃ W, W = (w.alloc (Obj.cells #[Value.bool b1, Value.slice A1 l1 c1] 25)).alloc (Obj.cells #[Value.bool b2, Value.slice A2 l2 c2] 25) := ⟨_, rfl⟩
  have bb_0 : Below w.heap.size w W_0 := by rw [hW]; exact bal (bal (Below.refl _ _) _) _
  have K0 : W_0.heap[w.heap.size]? = some (Obj.cells #[Value.bool b1, Value.slice A1 l1 c1] 25) := by rw [hW]; rw [Below.heap_alloc _ _ _ (by simp <;> omega)]; exact new_at (by simp)
  have K1 : W_0.heap[w.heap.size + 1]? = some (Obj.cells #[Value.bool b2, Value.slice A2 l2 c2] 25) := by rw [hW]; exact new_at (by simp)
  rw [← hW]
  obtain ⟨m1, n1, _, _⟩ := cell_of_two K0
  have f1_0 : AtR W_0 (w.heap.size) 0 39 (zx) := ⟨A1, l1, c1, by rw [← H1.out.1]; exact m1, n1, A1, l1, c1, rfl, H1.out.2.1.below bb_0, H1.out.2.2⟩
  clear m1 n1
  obtain ⟨m2, n2, _, _⟩ := cell_of_two K1
  have f2_0 : AtR W_0 (w.heap.size + 1) 0 39 (zy) := ⟨A2, l2, c2, by rw [← H2.out.1]; exact m2, n2, A2, l2, c2, rfl, H2.out.2.1.below bb_0, H2.out.2.2⟩
  clear m2 n2
  clear hW K0 K1
  refine name_frame (G := fun a => Code.wp _ _ _ a _) ?_
  intro a_0 ha
  have hN_0 : a_0.tmps.size = 40 := by subst ha; kernel_rfl
  have hD_0 : a_0.defers = [] := by subst ha; rfl
  have e2_0 : a_0.eval (.tmp 2) = .pointer (some ⟨w.heap.size, 0, none⟩) := by subst ha; kernel_rfl
  have e3_0 : a_0.eval (.tmp 3) = .pointer (some ⟨w.heap.size + 1, 0, none⟩) := by subst ha; kernel_rfl
  clear ha
  repeat (first | refine wp_seq ?_ | (refine wp_skip ?_; refine then_n ?_))
  refine wp_region_law hN_0 w.heap.size
    [kZ 39 (zx), kZ 39 (zx), kZ 39 (zy), kZ 39 (zy), PK.fresh 2, PK.fresh 2, kPutZ 4 39 (zx), kPutZ 5 39 (zy)]
    [ [], [(0, some 7)], [], [(2, some 9)], [], [], [(4, some 5), (1, some 8)], [(5, some 6), (3, some 10)] ]
    [(0, some 7), (1, some 8), (2, some 9), (3, some 10), (4, some 5), (5, some 6), (6, none), (7, none)] [] [] (by kernel_rfl) (by kernel_rfl) (by kernel_rfl) (by kernel_rfl) (by kernel_rfl) (by kernel_rfl) (by kernel_rfl) bb_0.size ?_ ?_
  ·
    refine pk_cons rfl rfl (st_loadB f1_0 (by simp) e2_0 hN_0 (by kernel_rfl) rfl) ?_
    refine pk_cons rfl rfl (st_call1 hN_0 (by kernel_rfl) (by kernel_rfl) (by kernel_rfl) rfl rfl fun w x v1 hC h1 => tz (r2_norm ((rr h1).zc (by decide)) (by decide))) ?_
    refine pk_cons rfl rfl (st_loadB f2_0 (by simp) e3_0 hN_0 (by kernel_rfl) rfl) ?_
    refine pk_cons rfl rfl (st_call1 hN_0 (by kernel_rfl) (by kernel_rfl) (by kernel_rfl) rfl rfl fun w x v1 hC h1 => tz (r2_norm ((rr h1).zc (by decide)) (by decide))) ?_
    refine pk_cons rfl rfl (st_alloc hN_0 (by kernel_rfl) (Nat.le_refl _) rfl) ?_
    refine pk_cons rfl rfl (st_alloc hN_0 (by kernel_rfl) (Nat.le_refl _) rfl) ?_
    refine pk_cons rfl rfl (st_put hN_0 (by kernel_rfl) (by kernel_rfl) (by kernel_rfl) rfl rfl rfl) ?_
    refine pk_cons rfl rfl (st_put hN_0 (by kernel_rfl) (by kernel_rfl) (by kernel_rfl) rfl rfl rfl) ?_
    exact pk_nil rfl
  intro W_1 x hC hall
  refine then_n ?_
  obtain ⟨a_1, ha⟩ : ∃ a, a = putE x a_0 [(0, some 7), (1, some 8), (2, some 9), (3, some 10), (4, some 5), (5, some 6), (6, none), (7, none)] := ⟨_, rfl⟩
  rw [← ha]
  have hN_1 := size_behind ha hN_0
  have hD_1 := defers_behind ha hD_0
  have bb_1 := bb_0.trans hC.below
  have e2_1 := slot_old ha (by kernel_rfl) e2_0
  have e3_1 := slot_old ha (by kernel_rfl) e3_0
  have f1_1 := hC.at0 f1_0
  have f2_1 := hC.at0 f2_0
  obtain ⟨g5, hx, l5_1⟩ := put_loc (show (kPutZ 4 39 (zx)).sem _ _ _ _ from hall 6 (of_decide_eq_true (by kernel_rfl)))
  have e5_1 := (slot_new (t := 5) (i := 4) ha hN_0 (by kernel_rfl) (by kernel_rfl)).trans hx
  clear hx
  obtain ⟨g6, hx, l6_1⟩ := put_loc (show (kPutZ 5 39 (zy)).sem _ _ _ _ from hall 7 (of_decide_eq_true (by kernel_rfl)))
  have e6_1 := (slot_new (t := 6) (i := 5) ha hN_0 (by kernel_rfl) (by kernel_rfl)).trans hx
  clear hx
  clear hall hC ha bb_0 hD_0 e2_0 e3_0 f1_0 f2_0
  have q5_1 := l5_1.atR
  clear l5_1
  have q6_1 := l6_1.atR
  clear l6_1
  repeat (first | refine wp_seq ?_ | (refine wp_skip ?_; refine then_n ?_))
  refine wp_block ?_
  repeat (first | refine wp_seq ?_ | (refine wp_skip ?_; refine then_n ?_))
  refine wp_region_law hN_1 w.heap.size
    [kIs (.pointer (some ⟨g5, 0, none⟩)), kIs (.bool false), kIs (.bool false), kIs undef, kIs undef, kIs undef, kIs (.bool false), kIs (.bool false)]
    [ [], [(0, some 12)], [(1, some 13)], [], [(3, some 15)], [(4, some 16)], [(2, some 14), (5, some 17)], [(6, some 18)] ]
    [(0, some 12), (1, some 13), (2, some 14), (3, some 15), (4, some 16), (5, some 17), (6, some 18), (7, some 11)] [(2, false)] [3, 4, 5] (by kernel_rfl) (by kernel_rfl) (by kernel_rfl) (by kernel_rfl) (by kernel_rfl) (by kernel_rfl) (by kernel_rfl) bb_1.size ?_ ?_
  ·
    refine pk_cons rfl rfl (st_pure [] [(5, .pointer (some ⟨g5, 0, none⟩))] (.pointer (some ⟨g5, 0, none⟩)) rfl hN_1 (by kernel_rfl) (by kernel_rfl) (by kernel_rfl) (old1 e5_1) (by kernel_rfl) (by kernel_rfl) (by kernel_rfl) (fun _ => by kernel_rfl)) ?_
    refine pk_cons rfl rfl (st_loadS (s := false) q5_1 hx (by simp) hN_1 (by kernel_rfl) (by kernel_rfl) rfl rfl) ?_
    refine pk_cons rfl rfl (st_pure [.bool false] [] (.bool false) rfl hN_1 (by kernel_rfl) (by kernel_rfl) (by kernel_rfl) old0 (by kernel_rfl) (by kernel_rfl) (by kernel_rfl) (fun _ => by kernel_rfl)) ?_
    refine pk_skip rfl ?_
    refine pk_skip rfl ?_
    refine pk_skip rfl ?_
    refine pk_cons rfl rfl (st_pure [.bool false, undef] [] (.bool false) rfl hN_1 (by kernel_rfl) (by kernel_rfl) (by kernel_rfl) old0 (by kernel_rfl) (by kernel_rfl) (by kernel_rfl) (fun _ => by kernel_rfl)) ?_
    refine pk_cons rfl rfl (st_pure [.bool false] [] (.bool false) rfl hN_1 (by kernel_rfl) (by kernel_rfl) (by kernel_rfl) old0 (by kernel_rfl) (by kernel_rfl) (by kernel_rfl) (fun _ => by kernel_rfl)) ?_
    exact pk_nil rfl
  intro W_2 x hC hall
  refine then_n ?_
  obtain ⟨a_2, ha⟩ : ∃ a, a = putE x a_1 [(0, some 12), (1, some 13), (2, some 14), (3, some 15), (4, some 16), (5, some 17), (6, some 18), (7, some 11)] := ⟨_, rfl⟩
  rw [← ha]
  have hN_2 := size_behind ha hN_1
  have hD_2 := defers_behind ha hD_1
  have bb_2 := bb_1.trans hC.below
  have e2_2 := slot_old ha (by kernel_rfl) e2_1
  have e3_2 := slot_old ha (by kernel_rfl) e3_1
  have e5_2 := slot_old ha (by kernel_rfl) e5_1
  have e6_2 := slot_old ha (by kernel_rfl) e6_1
  have f1_2 := hC.at0 f1_1
  have f2_2 := hC.at0 f2_1
  have q5_2 := hC.at0 q5_1
  have q6_2 := hC.at0 q6_1
  have e11_2 := (slot_new (t := 11) (i := 7) ha hN_1 (by kernel_rfl) (by kernel_rfl)).trans (show x 7 = .bool false from hall 7 (of_decide_eq_true (by kernel_rfl)))
  clear hall hC ha bb_1 hD_1 e2_1 e3_1 e5_1 e6_1 f1_1 f2_1 q5_1 q6_1
  repeat (first | refine wp_seq ?_ | (refine wp_skip ?_; refine then_n ?_))
  refine wp_cond_false e11_2 ?_
  repeat (first | refine wp_seq ?_ | (refine wp_skip ?_; refine then_n ?_))
  refine wp_region_law hN_2 w.heap.size
    [kIs (.pointer (some ⟨g5, 0, none⟩)), kIs (.bool false), kIs (.bool true), kIs (.bool true), kIs (.pointer (some ⟨g6, 0, none⟩)), kIs (.bool false), kIs (.bool false), kIs (.bool false)]
    [ [], [(0, some 20)], [(1, some 21)], [(2, some 22)], [], [(4, some 24)], [(3, some 23), (5, some 25)], [(6, some 26)] ]
    [(0, some 20), (1, some 21), (2, some 22), (3, some 23), (4, some 24), (5, some 25), (6, some 26), (7, some 19)] [(3, true)] [] (by kernel_rfl) (by kernel_rfl) (by kernel_rfl) (by kernel_rfl) (by kernel_rfl) (by kernel_rfl) (by kernel_rfl) bb_2.size ?_ ?_
  ·
    refine pk_cons rfl rfl (st_pure [] [(5, .pointer (some ⟨g5, 0, none⟩))] (.pointer (some ⟨g5, 0, none⟩)) rfl hN_2 (by kernel_rfl) (by kernel_rfl) (by kernel_rfl) (old1 e5_2) (by kernel_rfl) (by kernel_rfl) (by kernel_rfl) (fun _ => by kernel_rfl)) ?_
    refine pk_cons rfl rfl (st_loadS (s := false) q5_2 hx (by simp) hN_2 (by kernel_rfl) (by kernel_rfl) rfl rfl) ?_
    refine pk_cons rfl rfl (st_pure [.bool false] [] (.bool true) rfl hN_2 (by kernel_rfl) (by kernel_rfl) (by kernel_rfl) old0 (by kernel_rfl) (by kernel_rfl) (by kernel_rfl) (fun _ => by kernel_rfl)) ?_
    refine pk_cons rfl rfl (st_pure [.bool true] [] (.bool true) rfl hN_2 (by kernel_rfl) (by kernel_rfl) (by kernel_rfl) old0 (by kernel_rfl) (by kernel_rfl) (by kernel_rfl) (fun _ => by kernel_rfl)) ?_
    refine pk_cons rfl rfl (st_pure [] [(6, .pointer (some ⟨g6, 0, none⟩))] (.pointer (some ⟨g6, 0, none⟩)) rfl hN_2 (by kernel_rfl) (by kernel_rfl) (by kernel_rfl) (old1 e6_2) (by kernel_rfl) (by kernel_rfl) (by kernel_rfl) (fun _ => by kernel_rfl)) ?_
    refine pk_cons rfl rfl (st_loadS (s := false) q6_2 hy (by simp) hN_2 (by kernel_rfl) (by kernel_rfl) rfl rfl) ?_
    refine pk_cons rfl rfl (st_pure [.bool true, .bool false] [] (.bool false) rfl hN_2 (by kernel_rfl) (by kernel_rfl) (by kernel_rfl) old0 (by kernel_rfl) (by kernel_rfl) (by kernel_rfl) (fun _ => by kernel_rfl)) ?_
    refine pk_cons rfl rfl (st_pure [.bool false] [] (.bool false) rfl hN_2 (by kernel_rfl) (by kernel_rfl) (by kernel_rfl) old0 (by kernel_rfl) (by kernel_rfl) (by kernel_rfl) (fun _ => by kernel_rfl)) ?_
    exact pk_nil rfl
  intro W_3 x hC hall
  refine then_n ?_
  obtain ⟨a_3, ha⟩ : ∃ a, a = putE x a_2 [(0, some 20), (1, some 21), (2, some 22), (3, some 23), (4, some 24), (5, some 25), (6, some 26), (7, some 19)] := ⟨_, rfl⟩
  rw [← ha]
  have hN_3 := size_behind ha hN_2
  have hD_3 := defers_behind ha hD_2
  have bb_3 := bb_2.trans hC.below
  have e2_3 := slot_old ha (by kernel_rfl) e2_2
  have e3_3 := slot_old ha (by kernel_rfl) e3_2
  have e5_3 := slot_old ha (by kernel_rfl) e5_2
  have e6_3 := slot_old ha (by kernel_rfl) e6_2
  have e11_3 := slot_old ha (by kernel_rfl) e11_2
  have f1_3 := hC.at0 f1_2
  have f2_3 := hC.at0 f2_2
  have q5_3 := hC.at0 q5_2
  have q6_3 := hC.at0 q6_2
  have e19_3 := (slot_new (t := 19) (i := 7) ha hN_2 (by kernel_rfl) (by kernel_rfl)).trans (show x 7 = .bool false from hall 7 (of_decide_eq_true (by kernel_rfl)))
  clear hall hC ha bb_2 hD_2 e2_2 e3_2 e5_2 e6_2 e11_2 f1_2 f2_2 q5_2 q6_2
  repeat (first | refine wp_seq ?_ | (refine wp_skip ?_; refine then_n ?_))
  refine wp_cond_false e19_3 ?_
  repeat (first | refine wp_seq ?_ | (refine wp_skip ?_; refine then_n ?_))
  refine wp_region_law hN_3 w.heap.size
    [kIs (.pointer (some ⟨g5, 0, none⟩)), kIs (.bool false), kIs (.bool false)]
    [ [], [(0, some 28)], [(1, some 29)] ]
    [(0, some 28), (1, some 29), (2, some 27)] [] [] (by kernel_rfl) (by kernel_rfl) (by kernel_rfl) (by kernel_rfl) (by kernel_rfl) (by kernel_rfl) (by kernel_rfl) bb_3.size ?_ ?_
  ·
    refine pk_cons rfl rfl (st_pure [] [(5, .pointer (some ⟨g5, 0, none⟩))] (.pointer (some ⟨g5, 0, none⟩)) rfl hN_3 (by kernel_rfl) (by kernel_rfl) (by kernel_rfl) (old1 e5_3) (by kernel_rfl) (by kernel_rfl) (by kernel_rfl) (fun _ => by kernel_rfl)) ?_
    refine pk_cons rfl rfl (st_loadS (s := false) q5_3 hx (by simp) hN_3 (by kernel_rfl) (by kernel_rfl) rfl rfl) ?_
    refine pk_cons rfl rfl (st_pure [.bool false] [] (.bool false) rfl hN_3 (by kernel_rfl) (by kernel_rfl) (by kernel_rfl) old0 (by kernel_rfl) (by kernel_rfl) (by kernel_rfl) (fun _ => by kernel_rfl)) ?_
    exact pk_nil rfl
  intro W_4 x hC hall
  refine then_n ?_
  obtain ⟨a_4, ha⟩ : ∃ a, a = putE x a_3 [(0, some 28), (1, some 29), (2, some 27)] := ⟨_, rfl⟩
  rw [← ha]
  have hN_4 := size_behind ha hN_3
  have hD_4 := defers_behind ha hD_3
  have bb_4 := bb_3.trans hC.below
  have e2_4 := slot_old ha (by kernel_rfl) e2_3
  have e3_4 := slot_old ha (by kernel_rfl) e3_3
  have e5_4 := slot_old ha (by kernel_rfl) e5_3
  have e6_4 := slot_old ha (by kernel_rfl) e6_3
  have e11_4 := slot_old ha (by kernel_rfl) e11_3
  have e19_4 := slot_old ha (by kernel_rfl) e19_3
  have f1_4 := hC.at0 f1_3
  have f2_4 := hC.at0 f2_3
  have q5_4 := hC.at0 q5_3
  have q6_4 := hC.at0 q6_3
  have e27_4 := (slot_new (t := 27) (i := 2) ha hN_3 (by kernel_rfl) (by kernel_rfl)).trans (show x 2 = .bool false from hall 2 (of_decide_eq_true (by kernel_rfl)))
  clear hall hC ha bb_3 hD_3 e2_3 e3_3 e5_3 e6_3 e11_3 e19_3 f1_3 f2_3 q5_3 q6_3
  repeat (first | refine wp_seq ?_ | (refine wp_skip ?_; refine then_n ?_))
  refine wp_cond_false e27_4 ?_
  repeat (first | refine wp_seq ?_ | (refine wp_skip ?_; refine then_n ?_))
  refine wp_skip ?_
  refine in_block8 ?_
  refine then_n ?_
  repeat (first | refine wp_seq ?_ | (refine wp_skip ?_; refine then_n ?_))
  refine wp_region_law hN_4 w.heap.size
    [kIs (.pointer (some ⟨g5, 1, none⟩)), kRow (zx), kIs (.pointer (some ⟨g6, 1, none⟩)), kRow (zy), kIs (.int .i64 (ordI ((zx).natAbs : Int) ((zy).natAbs : Int))), kIs (.int .i64 (ordI ((zx).natAbs : Int) ((zy).natAbs : Int)))]
    [ [], [(0, some 35)], [], [(2, some 37)], [(1, some 36), (3, some 38)], [(4, some 39)] ]
    [(0, some 35), (1, some 36), (2, some 37), (3, some 38), (4, some 39), (5, some 4)] [] [] (by kernel_rfl) (by kernel_rfl) (by kernel_rfl) (by kernel_rfl) (by kernel_rfl) (by kernel_rfl) (by kernel_rfl) bb_4.size ?_ ?_
  ·
    refine pk_cons rfl rfl (st_pure [] [(5, .pointer (some ⟨g5, 0, none⟩))] (.pointer (some ⟨g5, 1, none⟩)) rfl hN_4 (by kernel_rfl) (by kernel_rfl) (by kernel_rfl) (old1 e5_4) (by kernel_rfl) (by kernel_rfl) (by kernel_rfl) (fun _ => by kernel_rfl)) ?_
    refine pk_cons rfl rfl (st_loadRow q5_4 (by simp) hN_4 (by kernel_rfl) (by kernel_rfl) rfl rfl) ?_
    refine pk_cons rfl rfl (st_pure [] [(6, .pointer (some ⟨g6, 0, none⟩))] (.pointer (some ⟨g6, 1, none⟩)) rfl hN_4 (by kernel_rfl) (by kernel_rfl) (by kernel_rfl) (old1 e6_4) (by kernel_rfl) (by kernel_rfl) (by kernel_rfl) (fun _ => by kernel_rfl)) ?_
    refine pk_cons rfl rfl (st_loadRow q6_4 (by simp) hN_4 (by kernel_rfl) (by kernel_rfl) rfl rfl) ?_
    refine pk_cons rfl rfl (st_call2 hN_4 (by kernel_rfl) (by kernel_rfl) (by kernel_rfl) (by kernel_rfl) (by kernel_rfl) rfl rfl rfl fun w x v1 v2 hC h1 h2 => ti (vr_cmp (N := 39) h1 h2 H1.out.2.2 H2.out.2.2 (by decide))) ?_
    refine pk_cons rfl rfl (st_pure [.int .i64 (ordI ((zx).natAbs : Int) ((zy).natAbs : Int))] [] (.int .i64 (ordI ((zx).natAbs : Int) ((zy).natAbs : Int))) rfl hN_4 (by kernel_rfl) (by kernel_rfl) (by kernel_rfl) old0 (by kernel_rfl) (by kernel_rfl) (by kernel_rfl) (fun _ => by kernel_rfl)) ?_
    exact pk_nil rfl
  intro W x hC hall
  refine then_n ?_
  obtain ⟨a1, ha⟩ : ∃ a, a = putE x a_4 [(0, some 35), (1, some 36), (2, some 37), (3, some 38), (4, some 39), (5, some 4)] := ⟨_, rfl⟩
  rw [← ha]
  have hD1 := defers_behind ha hD_4
  have bb1 := bb_4.trans hC.below
  have e1 := (slot_new (t := 4) (i := 5) ha hN_4 (by kernel_rfl) (by kernel_rfl)).trans (show x 5 = .int .i64 (ordI ((zx).natAbs : Int) ((zy).natAbs : Int)) from hall 5 (of_decide_eq_true (by kernel_rfl)))
  repeat (first | refine wp_seq ?_ | (refine wp_skip ?_; refine then_n ?_))
  refine wp_ret ?_
  repeat (first | refine then_r ?_ | refine block_r ?_)
  exact ret_one (t := 4) rfl hD1 e1 ⟨rfl, bb1⟩
theorem r2_cmp {w : World} {v1 v2 : Value} {x y : Int} (h1 : Zr w v1 39 x) (h2 : Zr w v2 39 y) : Calls Tryz.prog 62 #[v1, v2] w fun e w' => e = .returned (.int .i64 (ordI x y)) ∧ Below w.heap.size w w' := by
  by_cases hx : x < 0 <;> by_cases hy : y < 0
  · have e : ordI ((y).natAbs : Int) ((x).natAbs : Int) = ordI x y := by unfold ordI; split <;> split <;> (try split) <;> (try split) <;> omega
    rw [← e]
    exact r2_cmp_nn (decide_eq_true hx) (decide_eq_true hy) h1 h2
  · rw [ord_lt (show x < y by omega)]
    exact r2_cmp_np (decide_eq_true hx) (decide_eq_false hy) h1 h2
  · rw [ord_gt (show y < x by omega)]
    exact r2_cmp_pn (decide_eq_false hx) (decide_eq_true hy) h1 h2
  · have e : ordI ((x).natAbs : Int) ((y).natAbs : Int) = ordI x y := by unfold ordI; split <;> split <;> (try split) <;> (try split) <;> omega
    rw [← e]
    exact r2_cmp_pp (decide_eq_false hx) (decide_eq_false hy) h1 h2
set_option maxRecDepth 100000 in
set_option maxHeartbeats 4000000 in
theorem ref_zero {w : World}    :
    Calls Tryz.prog 59 #[] w (TellsZ w 1 (0)) := by
  go_enter Tryz.func59, Tryz.ntmps59
  repeat (refine wp_seq ?_)
  refine region_k ?_
  intro K hK
  have HK := Lib.hid hK
  clear hK
  go_wp2
  refine HK.out _ _ ?_
  clear HK
  refine then_n ?_
  obtain ⟨W_0, hW⟩ : ∃ W, W = w.alloc (Obj.cells #[Value.bool false, Value.slice none 0 0] 25) := ⟨_, rfl⟩
  have bb_0 : Below w.heap.size w W_0 := by rw [hW]; exact bal (Below.refl _ _) _
  have K0 : W_0.heap[w.heap.size]? = some (Obj.cells #[Value.bool false, Value.slice none 0 0] 25) := by rw [hW]; exact new_at (by simp)
  rw [← hW]
  have R_0 : Holds_ W_0 (w.heap.size) #[Value.bool false, Value.slice none 0 0] := ⟨⟨_, K0⟩, by simp [noDig]⟩
  clear hW K0
  refine name_frame (G := fun a => Code.wp _ _ _ a _) ?_
  intro a_0 ha
  have hN_0 : a_0.tmps.size = 2 := by subst ha; kernel_rfl
  have hD_0 : a_0.defers = [] := by subst ha; rfl
  have e0_0 : a_0.eval (.tmp 0) = .pointer (some ⟨w.heap.size, 0, none⟩) := by subst ha; kernel_rfl
  clear ha
  repeat (first | refine wp_seq ?_ | (refine wp_skip ?_; refine then_n ?_))
  refine wp_region_res hN_0 w.heap.size (w.heap.size) R_0 (by omega)
    [kZ 1 (0), kResZ (w.heap.size) 1 (0)]
    [ [], [(0, some 1)] ]
    [(0, some 1), (1, none)] [] [] (by kernel_rfl) (by kernel_rfl) (by kernel_rfl) (by kernel_rfl) (by kernel_rfl) (by kernel_rfl) (by kernel_rfl) bb_0.size ?_ ?_
  ·
    refine pk_cons rfl rfl (st_call0 [.int .i64 (0)] hN_0 (by kernel_rfl) (by kernel_rfl) rfl rfl fun w x hC => tz (r2_of (0) (by decide) (by decide) (by decide))) ?_
    refine pk_cons rfl rfl (st_resZ R_0 (by simp) e0_0 hN_0 (by kernel_rfl) (by kernel_rfl) rfl rfl) ?_
    exact pk_nil rfl
  intro W x hC hall
  refine then_n ?_
  obtain ⟨a1, ha⟩ : ∃ a, a = putE x a_0 [(0, some 1), (1, none)] := ⟨_, rfl⟩
  rw [← ha]
  have hD1 := defers_behind ha hD_0
  have bb1 := bb_0.trans hC.below
  obtain ⟨cs, hg, hP⟩ := (show (kResZ (w.heap.size) 1 (0)).sem _ _ _ _ from hall 1 (of_decide_eq_true (by kernel_rfl)))
  have e1 := slot_old (t := 0) ha (by kernel_rfl) e0_0
  repeat (first | refine wp_seq ?_ | (refine wp_skip ?_; refine then_n ?_))
  refine wp_ret ?_
  repeat (refine then_r ?_)
  exact ret_cellZ (t := 0) rfl hD1 e1 hg hP fun v hv => ⟨v, rfl, hv, bb1⟩
set_option maxRecDepth 100000 in
set_option maxHeartbeats 4000000 in
theorem ref_one {w : World}    :
    Calls Tryz.prog 60 #[] w (TellsZ w 1 (1)) := by
  go_enter Tryz.func60, Tryz.ntmps60
  repeat (refine wp_seq ?_)
  refine region_k ?_
  intro K hK
  have HK := Lib.hid hK
  clear hK
  go_wp2
  refine HK.out _ _ ?_
  clear HK
  refine then_n ?_
  obtain ⟨W_0, hW⟩ : ∃ W, W = w.alloc (Obj.cells #[Value.bool false, Value.slice none 0 0] 25) := ⟨_, rfl⟩
  have bb_0 : Below w.heap.size w W_0 := by rw [hW]; exact bal (Below.refl _ _) _
  have K0 : W_0.heap[w.heap.size]? = some (Obj.cells #[Value.bool false, Value.slice none 0 0] 25) := by rw [hW]; exact new_at (by simp)
  rw [← hW]
  have R_0 : Holds_ W_0 (w.heap.size) #[Value.bool false, Value.slice none 0 0] := ⟨⟨_, K0⟩, by simp [noDig]⟩
  clear hW K0
  refine name_frame (G := fun a => Code.wp _ _ _ a _) ?_
  intro a_0 ha
  have hN_0 : a_0.tmps.size = 2 := by subst ha; kernel_rfl
  have hD_0 : a_0.defers = [] := by subst ha; rfl
  have e0_0 : a_0.eval (.tmp 0) = .pointer (some ⟨w.heap.size, 0, none⟩) := by subst ha; kernel_rfl
  clear ha
  repeat (first | refine wp_seq ?_ | (refine wp_skip ?_; refine then_n ?_))
  refine wp_region_res hN_0 w.heap.size (w.heap.size) R_0 (by omega)
    [kZ 1 (1), kResZ (w.heap.size) 1 (1)]
    [ [], [(0, some 1)] ]
    [(0, some 1), (1, none)] [] [] (by kernel_rfl) (by kernel_rfl) (by kernel_rfl) (by kernel_rfl) (by kernel_rfl) (by kernel_rfl) (by kernel_rfl) bb_0.size ?_ ?_
  ·
    refine pk_cons rfl rfl (st_call0 [.int .i64 (1)] hN_0 (by kernel_rfl) (by kernel_rfl) rfl rfl fun w x hC => tz (r2_of (1) (by decide) (by decide) (by decide))) ?_
    refine pk_cons rfl rfl (st_resZ R_0 (by simp) e0_0 hN_0 (by kernel_rfl) (by kernel_rfl) rfl rfl) ?_
    exact pk_nil rfl
  intro W x hC hall
  refine then_n ?_
  obtain ⟨a1, ha⟩ : ∃ a, a = putE x a_0 [(0, some 1), (1, none)] := ⟨_, rfl⟩
  rw [← ha]
  have hD1 := defers_behind ha hD_0
  have bb1 := bb_0.trans hC.below
  obtain ⟨cs, hg, hP⟩ := (show (kResZ (w.heap.size) 1 (1)).sem _ _ _ _ from hall 1 (of_decide_eq_true (by kernel_rfl)))
  have e1 := slot_old (t := 0) ha (by kernel_rfl) e0_0
  repeat (first | refine wp_seq ?_ | (refine wp_skip ?_; refine then_n ?_))
  refine wp_ret ?_
  repeat (refine then_r ?_)
  exact ret_cellZ (t := 0) rfl hD1 e1 hg hP fun v hv => ⟨v, rfl, hv, bb1⟩
set_option maxRecDepth 100000 in
set_option maxHeartbeats 4000000 in
theorem ref_nought {w : World}    :
    Calls Tryz.prog 28 #[] w (TellsP w 1 (0) (1)) := by
  go_enter Tryz.func28, Tryz.ntmps28
  repeat (refine wp_seq ?_)
  refine region_k ?_
  intro K hK
  have HK := Lib.hid hK
  clear hK
  go_wp2
  refine HK.out _ _ ?_
  clear HK
  refine then_n ?_
  obtain ⟨W_0, hW⟩ : ∃ W, W = w.alloc (Obj.cells #[Value.bool false, Value.slice none 0 0, Value.bool false, Value.slice none 0 0] 27) := ⟨_, rfl⟩
  have bb_0 : Below w.heap.size w W_0 := by rw [hW]; exact bal (Below.refl _ _) _
  have K0 : W_0.heap[w.heap.size]? = some (Obj.cells #[Value.bool false, Value.slice none 0 0, Value.bool false, Value.slice none 0 0] 27) := by rw [hW]; exact new_at (by simp)
  rw [← hW]
  have R_0 : Holds_ W_0 (w.heap.size) #[Value.bool false, Value.slice none 0 0, Value.bool false, Value.slice none 0 0] := ⟨⟨_, K0⟩, by simp [noDig]⟩
  clear hW K0
  refine name_frame (G := fun a => Code.wp _ _ _ a _) ?_
  intro a_0 ha
  have hN_0 : a_0.tmps.size = 4 := by subst ha; kernel_rfl
  have hD_0 : a_0.defers = [] := by subst ha; rfl
  have e0_0 : a_0.eval (.tmp 0) = .pointer (some ⟨w.heap.size, 0, none⟩) := by subst ha; kernel_rfl
  clear ha
  repeat (first | refine wp_seq ?_ | (refine wp_skip ?_; refine then_n ?_))
  refine wp_region_res hN_0 w.heap.size (w.heap.size) R_0 (by omega)
    [kZ 1 (0), kZ 1 (1), kP 1 (0) (1), kRes (w.heap.size) 1 (0) (1)]
    [ [], [], [(0, some 1), (1, some 2)], [(2, some 3)] ]
    [(0, some 1), (1, some 2), (2, some 3), (3, none)] [] [] (by kernel_rfl) (by kernel_rfl) (by kernel_rfl) (by kernel_rfl) (by kernel_rfl) (by kernel_rfl) (by kernel_rfl) bb_0.size ?_ ?_
  ·
    refine pk_cons rfl rfl (st_call0 [] hN_0 (by kernel_rfl) (by kernel_rfl) rfl rfl fun w x hC => tz ref_zero) ?_
    refine pk_cons rfl rfl (st_call0 [] hN_0 (by kernel_rfl) (by kernel_rfl) rfl rfl fun w x hC => tz ref_one) ?_
    refine pk_cons rfl rfl (st_buildP (k := 1) hN_0 (by kernel_rfl) (by kernel_rfl) (by kernel_rfl) (by kernel_rfl) (by kernel_rfl) (by kernel_rfl) rfl rfl rfl) ?_
    refine pk_cons rfl rfl (st_resP R_0 rfl (by simp) e0_0 hN_0 (by kernel_rfl) (by kernel_rfl) rfl rfl) ?_
    exact pk_nil rfl
  intro W x hC hall
  refine then_n ?_
  obtain ⟨a1, ha⟩ : ∃ a, a = putE x a_0 [(0, some 1), (1, some 2), (2, some 3), (3, none)] := ⟨_, rfl⟩
  rw [← ha]
  have hD1 := defers_behind ha hD_0
  have bb1 := bb_0.trans hC.below
  obtain ⟨cs, hg, hP⟩ := (show (kRes (w.heap.size) 1 (0) (1)).sem _ _ _ _ from hall 3 (of_decide_eq_true (by kernel_rfl)))
  have e1 := slot_old (t := 0) ha (by kernel_rfl) e0_0
  repeat (first | refine wp_seq ?_ | (refine wp_skip ?_; refine then_n ?_))
  refine wp_ret ?_
  repeat (refine then_r ?_)
  exact ret_cellP (t := 0) rfl hD1 e1 hg hP fun v hv => ⟨v, rfl, hv, bb1⟩
set_option maxRecDepth 100000 in
set_option maxHeartbeats 4000000 in
theorem refRight_yes {w : World} {v1 : Value} {a : Rat} (h1 : Pr w v1 19 (a.num) ((a.den : Int))) :
    Calls Tryz.prog 30 #[v1] w (fun e w' => e = .returned (.bool true) ∧ Below w.heap.size w w') := by
  obtain ⟨A1, l1, c1, A1', l1', c1', rfl, ⟨r1, u1⟩, r1', u1'⟩ := h1
  obtain ⟨b1, hb1⟩ : ∃ s, s = decide (a.num < 0) := ⟨_, rfl⟩
  obtain ⟨b1', hb1'⟩ : ∃ s, s = decide ((a.den : Int) < 0) := ⟨_, rfl⟩
  rw [← hb1, ← hb1']
  have H1 := Lib.hid (show _ ∧ _ ∧ _ ∧ _ ∧ _ ∧ _ from ⟨hb1, hb1', r1, u1, r1', u1'⟩)
  clear hb1 hb1' r1 u1 r1' u1'
  go_enter Tryz.func30, Tryz.ntmps30
  repeat (refine wp_seq ?_)
  refine region_k ?_
  intro K hK
  have HK := Lib.hid hK
  clear hK
  go_wp2
  refine HK.out _ _ ?_
  clear HK
  refine then_n ?_
  obtain ⟨W_0, hW⟩ : ∃ W, W = w.alloc (Obj.cells #[Value.bool b1, Value.slice A1 l1 c1, Value.bool b1', Value.slice A1' l1' c1'] 27) := ⟨_, rfl⟩
  have bb_0 : Below w.heap.size w W_0 := by rw [hW]; exact bal (Below.refl _ _) _
  have K0 : W_0.heap[w.heap.size]? = some (Obj.cells #[Value.bool b1, Value.slice A1 l1 c1, Value.bool b1', Value.slice A1' l1' c1'] 27) := by rw [hW]; exact new_at (by simp)
  rw [← hW]
  obtain ⟨m1, n1, m1', n1', _, _, _, _⟩ := four_cells K0
  have f1_0 : AtR W_0 (w.heap.size) 0 19 (a.num) := ⟨A1, l1, c1, by rw [← H1.out.1]; exact m1, n1, A1, l1, c1, rfl, H1.out.2.2.1.below bb_0, H1.out.2.2.2.1⟩
  have f1'_0 : AtR W_0 (w.heap.size) 2 19 ((a.den : Int)) := ⟨A1', l1', c1', by rw [← H1.out.2.1]; exact m1', n1', A1', l1', c1', rfl, H1.out.2.2.2.2.1.below bb_0, H1.out.2.2.2.2.2⟩
  clear m1 n1 m1' n1'
  clear hW K0
  refine name_frame (G := fun a => Code.wp _ _ _ a _) ?_
  intro a_0 ha
  have hN_0 : a_0.tmps.size = 29 := by subst ha; kernel_rfl
  have hD_0 : a_0.defers = [] := by subst ha; rfl
  have e1_0 : a_0.eval (.tmp 1) = .pointer (some ⟨w.heap.size, 0, none⟩) := by subst ha; kernel_rfl
  clear ha
  repeat (first | refine wp_seq ?_ | (refine wp_skip ?_; refine then_n ?_))
  refine wp_region_law hN_0 w.heap.size
    [kIs (.pointer (some ⟨w.heap.size, 0, none⟩)), kZ 19 (a.num), kIs (.bool true), kIs (.bool true), kIs (.pointer (some ⟨w.heap.size, 2, none⟩)), kZ 19 ((a.den : Int)), kIs (.bool true), kIs (.bool true), kIs (.bool true), kIs (.pointer (some ⟨w.heap.size, 2, none⟩)), kZ 19 ((a.den : Int)), kZ 1 (0), kIs (.int .i64 (1)), kIs (.bool true), kIs (.bool true), kIs (.bool true), kIs (.pointer (some ⟨w.heap.size, 0, none⟩)), kZ 19 (a.num), kIs (.pointer (some ⟨w.heap.size, 2, none⟩)), kZ 19 ((a.den : Int)), kZRs [(19, a.num), (19, (a.den : Int))], kZ 19 (((zgcd [a.num, (a.den : Int)] : Nat) : Int)), kZ 1 (1), kIs (.int .i64 (0)), kIs (.bool true), kIs (.bool true), kIs (.bool true)]
    [ [], [(0, some 3)], [(1, some 4)], [(2, some 5)], [], [(4, some 7)], [(5, some 8)], [(3, some 6), (6, some 9)], [(7, some 10)], [], [(9, some 12)], [], [(10, some 13), (11, some 14)], [(12, some 15)], [(8, some 11), (13, some 16)], [(14, some 17)], [], [(16, some 19)], [], [(18, some 21)], [(17, some 20), (19, some 22)], [(20, some 23)], [], [(21, some 24), (22, some 25)], [(23, some 26)], [(15, some 18), (24, some 27)], [(25, some 28)] ]
    [(0, some 3), (1, some 4), (2, some 5), (3, some 6), (4, some 7), (5, some 8), (6, some 9), (7, some 10), (8, some 11), (9, some 12), (10, some 13), (11, some 14), (12, some 15), (13, some 16), (14, some 17), (15, some 18), (16, some 19), (17, some 20), (18, some 21), (19, some 22), (20, some 23), (21, some 24), (22, some 25), (23, some 26), (24, some 27), (25, some 28), (26, some 2)] [(3, true), (8, true), (15, true)] [] (by kernel_rfl) (by kernel_rfl) (by kernel_rfl) (by kernel_rfl) (by kernel_rfl) (by kernel_rfl) (by kernel_rfl) bb_0.size ?_ ?_
  ·
    refine pk_cons rfl rfl (st_pure [] [(1, .pointer (some ⟨w.heap.size, 0, none⟩))] (.pointer (some ⟨w.heap.size, 0, none⟩)) rfl hN_0 (by kernel_rfl) (by kernel_rfl) (by kernel_rfl) (old1 e1_0) (by kernel_rfl) (by kernel_rfl) (by kernel_rfl) (fun _ => by kernel_rfl)) ?_
    refine pk_cons rfl rfl (st_loadA f1_0 (by simp) hN_0 (by kernel_rfl) (by kernel_rfl) rfl rfl) ?_
    refine pk_cons rfl rfl (st_call1 hN_0 (by kernel_rfl) (by kernel_rfl) (by kernel_rfl) rfl rfl fun w x v1 hC h1 => ti (r2_right (rr h1))) ?_
    refine pk_cons rfl rfl (st_pure [.bool true] [] (.bool true) rfl hN_0 (by kernel_rfl) (by kernel_rfl) (by kernel_rfl) old0 (by kernel_rfl) (by kernel_rfl) (by kernel_rfl) (fun _ => by kernel_rfl)) ?_
    refine pk_cons rfl rfl (st_pure [] [(1, .pointer (some ⟨w.heap.size, 0, none⟩))] (.pointer (some ⟨w.heap.size, 2, none⟩)) rfl hN_0 (by kernel_rfl) (by kernel_rfl) (by kernel_rfl) (old1 e1_0) (by kernel_rfl) (by kernel_rfl) (by kernel_rfl) (fun _ => by kernel_rfl)) ?_
    refine pk_cons rfl rfl (st_loadA f1'_0 (by simp) hN_0 (by kernel_rfl) (by kernel_rfl) rfl rfl) ?_
    refine pk_cons rfl rfl (st_call1 hN_0 (by kernel_rfl) (by kernel_rfl) (by kernel_rfl) rfl rfl fun w x v1 hC h1 => ti (r2_right (rr h1))) ?_
    refine pk_cons rfl rfl (st_pure [.bool true, .bool true] [] (.bool true) rfl hN_0 (by kernel_rfl) (by kernel_rfl) (by kernel_rfl) old0 (by kernel_rfl) (by kernel_rfl) (by kernel_rfl) (fun _ => by kernel_rfl)) ?_
    refine pk_cons rfl rfl (st_pure [.bool true] [] (.bool true) rfl hN_0 (by kernel_rfl) (by kernel_rfl) (by kernel_rfl) old0 (by kernel_rfl) (by kernel_rfl) (by kernel_rfl) (fun _ => by kernel_rfl)) ?_
    refine pk_cons rfl rfl (st_pure [] [(1, .pointer (some ⟨w.heap.size, 0, none⟩))] (.pointer (some ⟨w.heap.size, 2, none⟩)) rfl hN_0 (by kernel_rfl) (by kernel_rfl) (by kernel_rfl) (old1 e1_0) (by kernel_rfl) (by kernel_rfl) (by kernel_rfl) (fun _ => by kernel_rfl)) ?_
    refine pk_cons rfl rfl (st_loadA f1'_0 (by simp) hN_0 (by kernel_rfl) (by kernel_rfl) rfl rfl) ?_
    refine pk_cons rfl rfl (st_call0 [] hN_0 (by kernel_rfl) (by kernel_rfl) rfl rfl fun w x hC => tz ref_zero) ?_
    refine pk_cons rfl rfl (st_call2 hN_0 (by kernel_rfl) (by kernel_rfl) (by kernel_rfl) (by kernel_rfl) (by kernel_rfl) rfl rfl rfl fun w x v1 v2 hC h1 h2 => ti (cmp_is (ord_gt (den_pos a)) (r2_cmp ((rr h1).mono (by decide)) ((rr h2).mono (by decide))))) ?_
    refine pk_cons rfl rfl (st_pure [.int .i64 (1)] [] (.bool true) rfl hN_0 (by kernel_rfl) (by kernel_rfl) (by kernel_rfl) old0 (by kernel_rfl) (by kernel_rfl) (by kernel_rfl) (fun _ => by kernel_rfl)) ?_
    refine pk_cons rfl rfl (st_pure [.bool true, .bool true] [] (.bool true) rfl hN_0 (by kernel_rfl) (by kernel_rfl) (by kernel_rfl) old0 (by kernel_rfl) (by kernel_rfl) (by kernel_rfl) (fun _ => by kernel_rfl)) ?_
    refine pk_cons rfl rfl (st_pure [.bool true] [] (.bool true) rfl hN_0 (by kernel_rfl) (by kernel_rfl) (by kernel_rfl) old0 (by kernel_rfl) (by kernel_rfl) (by kernel_rfl) (fun _ => by kernel_rfl)) ?_
    refine pk_cons rfl rfl (st_pure [] [(1, .pointer (some ⟨w.heap.size, 0, none⟩))] (.pointer (some ⟨w.heap.size, 0, none⟩)) rfl hN_0 (by kernel_rfl) (by kernel_rfl) (by kernel_rfl) (old1 e1_0) (by kernel_rfl) (by kernel_rfl) (by kernel_rfl) (fun _ => by kernel_rfl)) ?_
    refine pk_cons rfl rfl (st_loadA f1_0 (by simp) hN_0 (by kernel_rfl) (by kernel_rfl) rfl rfl) ?_
    refine pk_cons rfl rfl (st_pure [] [(1, .pointer (some ⟨w.heap.size, 0, none⟩))] (.pointer (some ⟨w.heap.size, 2, none⟩)) rfl hN_0 (by kernel_rfl) (by kernel_rfl) (by kernel_rfl) (old1 e1_0) (by kernel_rfl) (by kernel_rfl) (by kernel_rfl) (fun _ => by kernel_rfl)) ?_
    refine pk_cons rfl rfl (st_loadA f1'_0 (by simp) hN_0 (by kernel_rfl) (by kernel_rfl) rfl rfl) ?_
    refine pk_cons rfl rfl (st_listR2 hN_0 (by kernel_rfl) (by kernel_rfl) (by kernel_rfl) (by kernel_rfl) (Nat.le_refl _) rfl rfl rfl) ?_
    refine pk_cons rfl rfl (st_call1 hN_0 (by kernel_rfl) (by kernel_rfl) (by kernel_rfl) rfl rfl fun w x v1 hC h1 => tz (r2_gcd 19 h1 (by kernel_rfl) (by decide) (by simp))) ?_
    refine pk_cons rfl rfl (st_call0 [] hN_0 (by kernel_rfl) (by kernel_rfl) rfl rfl fun w x hC => tz ref_one) ?_
    refine pk_cons rfl rfl (st_call2 hN_0 (by kernel_rfl) (by kernel_rfl) (by kernel_rfl) (by kernel_rfl) (by kernel_rfl) rfl rfl rfl fun w x v1 v2 hC h1 h2 => ti (cmp_is (ord_eq (gcd_one a)) (r2_cmp ((rr h1).mono (by decide)) ((rr h2).mono (by decide))))) ?_
    refine pk_cons rfl rfl (st_pure [.int .i64 (0)] [] (.bool true) rfl hN_0 (by kernel_rfl) (by kernel_rfl) (by kernel_rfl) old0 (by kernel_rfl) (by kernel_rfl) (by kernel_rfl) (fun _ => by kernel_rfl)) ?_
    refine pk_cons rfl rfl (st_pure [.bool true, .bool true] [] (.bool true) rfl hN_0 (by kernel_rfl) (by kernel_rfl) (by kernel_rfl) old0 (by kernel_rfl) (by kernel_rfl) (by kernel_rfl) (fun _ => by kernel_rfl)) ?_
    refine pk_cons rfl rfl (st_pure [.bool true] [] (.bool true) rfl hN_0 (by kernel_rfl) (by kernel_rfl) (by kernel_rfl) old0 (by kernel_rfl) (by kernel_rfl) (by kernel_rfl) (fun _ => by kernel_rfl)) ?_
    exact pk_nil rfl
  intro W x hC hall
  refine then_n ?_
  obtain ⟨a1, ha⟩ : ∃ a, a = putE x a_0 [(0, some 3), (1, some 4), (2, some 5), (3, some 6), (4, some 7), (5, some 8), (6, some 9), (7, some 10), (8, some 11), (9, some 12), (10, some 13), (11, some 14), (12, some 15), (13, some 16), (14, some 17), (15, some 18), (16, some 19), (17, some 20), (18, some 21), (19, some 22), (20, some 23), (21, some 24), (22, some 25), (23, some 26), (24, some 27), (25, some 28), (26, some 2)] := ⟨_, rfl⟩
  rw [← ha]
  have hD1 := defers_behind ha hD_0
  have bb1 := bb_0.trans hC.below
  have e1 := (slot_new (t := 2) (i := 26) ha hN_0 (by kernel_rfl) (by kernel_rfl)).trans (show x 26 = .bool true from hall 26 (of_decide_eq_true (by kernel_rfl)))
  repeat (first | refine wp_seq ?_ | (refine wp_skip ?_; refine then_n ?_))
  refine wp_ret ?_
  repeat (refine then_r ?_)
  exact ret_one (t := 2) rfl hD1 e1 ⟨rfl, bb1⟩
set_option maxRecDepth 100000 in
set_option maxHeartbeats 4000000 in
theorem refRight_none {w : World} {v1 : Value} {zx zy : Int} (hz : zy = 0) (h1 : Pr w v1 19 (zx) (zy)) :
    Calls Tryz.prog 30 #[v1] w (fun e w' => e = .returned (.bool false) ∧ Below w.heap.size w w') := by
  obtain ⟨A1, l1, c1, A1', l1', c1', rfl, ⟨r1, u1⟩, r1', u1'⟩ := h1
  obtain ⟨b1, hb1⟩ : ∃ s, s = decide (zx < 0) := ⟨_, rfl⟩
  obtain ⟨b1', hb1'⟩ : ∃ s, s = decide (zy < 0) := ⟨_, rfl⟩
  rw [← hb1, ← hb1']
  have H1 := Lib.hid (show _ ∧ _ ∧ _ ∧ _ ∧ _ ∧ _ from ⟨hb1, hb1', r1, u1, r1', u1'⟩)
  clear hb1 hb1' r1 u1 r1' u1'
  go_enter Tryz.func30, Tryz.ntmps30
  repeat (refine wp_seq ?_)
  refine region_k ?_
  intro K hK
  have HK := Lib.hid hK
  clear hK
  go_wp2
  refine HK.out _ _ ?_
  clear HK
  refine then_n ?_
  obtain ⟨W_0, hW⟩ : ∃ W, W = w.alloc (Obj.cells #[Value.bool b1, Value.slice A1 l1 c1, Value.bool b1', Value.slice A1' l1' c1'] 27) := ⟨_, rfl⟩
  have bb_0 : Below w.heap.size w W_0 := by rw [hW]; exact bal (Below.refl _ _) _
  have K0 : W_0.heap[w.heap.size]? = some (Obj.cells #[Value.bool b1, Value.slice A1 l1 c1, Value.bool b1', Value.slice A1' l1' c1'] 27) := by rw [hW]; exact new_at (by simp)
  rw [← hW]
  obtain ⟨m1, n1, m1', n1', _, _, _, _⟩ := four_cells K0
  have f1_0 : AtR W_0 (w.heap.size) 0 19 (zx) := ⟨A1, l1, c1, by rw [← H1.out.1]; exact m1, n1, A1, l1, c1, rfl, H1.out.2.2.1.below bb_0, H1.out.2.2.2.1⟩
  have f1'_0 : AtR W_0 (w.heap.size) 2 19 (zy) := ⟨A1', l1', c1', by rw [← H1.out.2.1]; exact m1', n1', A1', l1', c1', rfl, H1.out.2.2.2.2.1.below bb_0, H1.out.2.2.2.2.2⟩
  clear m1 n1 m1' n1'
  clear hW K0
  refine name_frame (G := fun a => Code.wp _ _ _ a _) ?_
  intro a_0 ha
  have hN_0 : a_0.tmps.size = 29 := by subst ha; kernel_rfl
  have hD_0 : a_0.defers = [] := by subst ha; rfl
  have e1_0 : a_0.eval (.tmp 1) = .pointer (some ⟨w.heap.size, 0, none⟩) := by subst ha; kernel_rfl
  clear ha
  repeat (first | refine wp_seq ?_ | (refine wp_skip ?_; refine then_n ?_))
  refine wp_region_law hN_0 w.heap.size
    [kIs (.pointer (some ⟨w.heap.size, 0, none⟩)), kZ 19 (zx), kIs (.bool true), kIs (.bool true), kIs (.pointer (some ⟨w.heap.size, 2, none⟩)), kZ 19 (zy), kIs (.bool true), kIs (.bool true), kIs (.bool true), kIs (.pointer (some ⟨w.heap.size, 2, none⟩)), kZ 19 (zy), kZ 1 (0), kIs (.int .i64 (0)), kIs (.bool false), kIs (.bool false), kIs (.bool false), kIs undef, kIs undef, kIs undef, kIs undef, kIs undef, kIs undef, kIs undef, kIs undef, kIs undef, kIs (.bool false), kIs (.bool false)]
    [ [], [(0, some 3)], [(1, some 4)], [(2, some 5)], [], [(4, some 7)], [(5, some 8)], [(3, some 6), (6, some 9)], [(7, some 10)], [], [(9, some 12)], [], [(10, some 13), (11, some 14)], [(12, some 15)], [(8, some 11), (13, some 16)], [(14, some 17)], [], [(16, some 19)], [], [(18, some 21)], [(17, some 20), (19, some 22)], [(20, some 23)], [], [(21, some 24), (22, some 25)], [(23, some 26)], [(15, some 18), (24, some 27)], [(25, some 28)] ]
    [(0, some 3), (1, some 4), (2, some 5), (3, some 6), (4, some 7), (5, some 8), (6, some 9), (7, some 10), (8, some 11), (9, some 12), (10, some 13), (11, some 14), (12, some 15), (13, some 16), (14, some 17), (15, some 18), (16, some 19), (17, some 20), (18, some 21), (19, some 22), (20, some 23), (21, some 24), (22, some 25), (23, some 26), (24, some 27), (25, some 28), (26, some 2)] [(3, true), (8, true), (15, false)] [16, 17, 18, 19, 20, 21, 22, 23, 24] (by kernel_rfl) (by kernel_rfl) (by kernel_rfl) (by kernel_rfl) (by kernel_rfl) (by kernel_rfl) (by kernel_rfl) bb_0.size ?_ ?_
  ·
    refine pk_cons rfl rfl (st_pure [] [(1, .pointer (some ⟨w.heap.size, 0, none⟩))] (.pointer (some ⟨w.heap.size, 0, none⟩)) rfl hN_0 (by kernel_rfl) (by kernel_rfl) (by kernel_rfl) (old1 e1_0) (by kernel_rfl) (by kernel_rfl) (by kernel_rfl) (fun _ => by kernel_rfl)) ?_
    refine pk_cons rfl rfl (st_loadA f1_0 (by simp) hN_0 (by kernel_rfl) (by kernel_rfl) rfl rfl) ?_
    refine pk_cons rfl rfl (st_call1 hN_0 (by kernel_rfl) (by kernel_rfl) (by kernel_rfl) rfl rfl fun w x v1 hC h1 => ti (r2_right (rr h1))) ?_
    refine pk_cons rfl rfl (st_pure [.bool true] [] (.bool true) rfl hN_0 (by kernel_rfl) (by kernel_rfl) (by kernel_rfl) old0 (by kernel_rfl) (by kernel_rfl) (by kernel_rfl) (fun _ => by kernel_rfl)) ?_
    refine pk_cons rfl rfl (st_pure [] [(1, .pointer (some ⟨w.heap.size, 0, none⟩))] (.pointer (some ⟨w.heap.size, 2, none⟩)) rfl hN_0 (by kernel_rfl) (by kernel_rfl) (by kernel_rfl) (old1 e1_0) (by kernel_rfl) (by kernel_rfl) (by kernel_rfl) (fun _ => by kernel_rfl)) ?_
    refine pk_cons rfl rfl (st_loadA f1'_0 (by simp) hN_0 (by kernel_rfl) (by kernel_rfl) rfl rfl) ?_
    refine pk_cons rfl rfl (st_call1 hN_0 (by kernel_rfl) (by kernel_rfl) (by kernel_rfl) rfl rfl fun w x v1 hC h1 => ti (r2_right (rr h1))) ?_
    refine pk_cons rfl rfl (st_pure [.bool true, .bool true] [] (.bool true) rfl hN_0 (by kernel_rfl) (by kernel_rfl) (by kernel_rfl) old0 (by kernel_rfl) (by kernel_rfl) (by kernel_rfl) (fun _ => by kernel_rfl)) ?_
    refine pk_cons rfl rfl (st_pure [.bool true] [] (.bool true) rfl hN_0 (by kernel_rfl) (by kernel_rfl) (by kernel_rfl) old0 (by kernel_rfl) (by kernel_rfl) (by kernel_rfl) (fun _ => by kernel_rfl)) ?_
    refine pk_cons rfl rfl (st_pure [] [(1, .pointer (some ⟨w.heap.size, 0, none⟩))] (.pointer (some ⟨w.heap.size, 2, none⟩)) rfl hN_0 (by kernel_rfl) (by kernel_rfl) (by kernel_rfl) (old1 e1_0) (by kernel_rfl) (by kernel_rfl) (by kernel_rfl) (fun _ => by kernel_rfl)) ?_
    refine pk_cons rfl rfl (st_loadA f1'_0 (by simp) hN_0 (by kernel_rfl) (by kernel_rfl) rfl rfl) ?_
    refine pk_cons rfl rfl (st_call0 [] hN_0 (by kernel_rfl) (by kernel_rfl) rfl rfl fun w x hC => tz ref_zero) ?_
    refine pk_cons rfl rfl (st_call2 hN_0 (by kernel_rfl) (by kernel_rfl) (by kernel_rfl) (by kernel_rfl) (by kernel_rfl) rfl rfl rfl fun w x v1 v2 hC h1 h2 => ti (cmp_is (ord_eq hz) (r2_cmp ((rr h1).mono (by decide)) ((rr h2).mono (by decide))))) ?_
    refine pk_cons rfl rfl (st_pure [.int .i64 (0)] [] (.bool false) rfl hN_0 (by kernel_rfl) (by kernel_rfl) (by kernel_rfl) old0 (by kernel_rfl) (by kernel_rfl) (by kernel_rfl) (fun _ => by kernel_rfl)) ?_
    refine pk_cons rfl rfl (st_pure [.bool true, .bool false] [] (.bool false) rfl hN_0 (by kernel_rfl) (by kernel_rfl) (by kernel_rfl) old0 (by kernel_rfl) (by kernel_rfl) (by kernel_rfl) (fun _ => by kernel_rfl)) ?_
    refine pk_cons rfl rfl (st_pure [.bool false] [] (.bool false) rfl hN_0 (by kernel_rfl) (by kernel_rfl) (by kernel_rfl) old0 (by kernel_rfl) (by kernel_rfl) (by kernel_rfl) (fun _ => by kernel_rfl)) ?_
    refine pk_skip rfl ?_
    refine pk_skip rfl ?_
    refine pk_skip rfl ?_
    refine pk_skip rfl ?_
    refine pk_skip rfl ?_
    refine pk_skip rfl ?_
    refine pk_skip rfl ?_
    refine pk_skip rfl ?_
    refine pk_skip rfl ?_
    refine pk_cons rfl rfl (st_pure [.bool false, undef] [] (.bool false) rfl hN_0 (by kernel_rfl) (by kernel_rfl) (by kernel_rfl) old0 (by kernel_rfl) (by kernel_rfl) (by kernel_rfl) (fun _ => by kernel_rfl)) ?_
    refine pk_cons rfl rfl (st_pure [.bool false] [] (.bool false) rfl hN_0 (by kernel_rfl) (by kernel_rfl) (by kernel_rfl) old0 (by kernel_rfl) (by kernel_rfl) (by kernel_rfl) (fun _ => by kernel_rfl)) ?_
    exact pk_nil rfl
  intro W x hC hall
  refine then_n ?_
  obtain ⟨a1, ha⟩ : ∃ a, a = putE x a_0 [(0, some 3), (1, some 4), (2, some 5), (3, some 6), (4, some 7), (5, some 8), (6, some 9), (7, some 10), (8, some 11), (9, some 12), (10, some 13), (11, some 14), (12, some 15), (13, some 16), (14, some 17), (15, some 18), (16, some 19), (17, some 20), (18, some 21), (19, some 22), (20, some 23), (21, some 24), (22, some 25), (23, some 26), (24, some 27), (25, some 28), (26, some 2)] := ⟨_, rfl⟩
  rw [← ha]
  have hD1 := defers_behind ha hD_0
  have bb1 := bb_0.trans hC.below
  have e1 := (slot_new (t := 2) (i := 26) ha hN_0 (by kernel_rfl) (by kernel_rfl)).trans (show x 26 = .bool false from hall 26 (of_decide_eq_true (by kernel_rfl)))
  repeat (first | refine wp_seq ?_ | (refine wp_skip ?_; refine then_n ?_))
  refine wp_ret ?_
  repeat (refine then_r ?_)
  exact ret_one (t := 2) rfl hD1 e1 ⟨rfl, bb1⟩
set_option maxRecDepth 100000 in
set_option maxHeartbeats 4000000 in
theorem refRight_neg {w : World} {v1 : Value} {zx zy : Int} (hz : zy < 0) (h1 : Pr w v1 19 (zx) (zy)) :
    Calls Tryz.prog 30 #[v1] w (fun e w' => e = .returned (.bool false) ∧ Below w.heap.size w w') := by
  obtain ⟨A1, l1, c1, A1', l1', c1', rfl, ⟨r1, u1⟩, r1', u1'⟩ := h1
  obtain ⟨b1, hb1⟩ : ∃ s, s = decide (zx < 0) := ⟨_, rfl⟩
  obtain ⟨b1', hb1'⟩ : ∃ s, s = decide (zy < 0) := ⟨_, rfl⟩
  rw [← hb1, ← hb1']
  have H1 := Lib.hid (show _ ∧ _ ∧ _ ∧ _ ∧ _ ∧ _ from ⟨hb1, hb1', r1, u1, r1', u1'⟩)
  clear hb1 hb1' r1 u1 r1' u1'
  go_enter Tryz.func30, Tryz.ntmps30
  repeat (refine wp_seq ?_)
  refine region_k ?_
  intro K hK
  have HK := Lib.hid hK
  clear hK
  go_wp2
  refine HK.out _ _ ?_
  clear HK
  refine then_n ?_
  obtain ⟨W_0, hW⟩ : ∃ W, W = w.alloc (Obj.cells #[Value.bool b1, Value.slice A1 l1 c1, Value.bool b1', Value.slice A1' l1' c1'] 27) := ⟨_, rfl⟩
  have bb_0 : Below w.heap.size w W_0 := by rw [hW]; exact bal (Below.refl _ _) _
  have K0 : W_0.heap[w.heap.size]? = some (Obj.cells #[Value.bool b1, Value.slice A1 l1 c1, Value.bool b1', Value.slice A1' l1' c1'] 27) := by rw [hW]; exact new_at (by simp)
  rw [← hW]
  obtain ⟨m1, n1, m1', n1', _, _, _, _⟩ := four_cells K0
  have f1_0 : AtR W_0 (w.heap.size) 0 19 (zx) := ⟨A1, l1, c1, by rw [← H1.out.1]; exact m1, n1, A1, l1, c1, rfl, H1.out.2.2.1.below bb_0, H1.out.2.2.2.1⟩
  have f1'_0 : AtR W_0 (w.heap.size) 2 19 (zy) := ⟨A1', l1', c1', by rw [← H1.out.2.1]; exact m1', n1', A1', l1', c1', rfl, H1.out.2.2.2.2.1.below bb_0, H1.out.2.2.2.2.2⟩
  clear m1 n1 m1' n1'
  clear hW K0
  refine name_frame (G := fun a => Code.wp _ _ _ a _) ?_
  intro a_0 ha
  have hN_0 : a_0.tmps.size = 29 := by subst ha; kernel_rfl
  have hD_0 : a_0.defers = [] := by subst ha; rfl
  have e1_0 : a_0.eval (.tmp 1) = .pointer (some ⟨w.heap.size, 0, none⟩) := by subst ha; kernel_rfl
  clear ha
  repeat (first | refine wp_seq ?_ | (refine wp_skip ?_; refine then_n ?_))
  refine wp_region_law hN_0 w.heap.size
    [kIs (.pointer (some ⟨w.heap.size, 0, none⟩)), kZ 19 (zx), kIs (.bool true), kIs (.bool true), kIs (.pointer (some ⟨w.heap.size, 2, none⟩)), kZ 19 (zy), kIs (.bool true), kIs (.bool true), kIs (.bool true), kIs (.pointer (some ⟨w.heap.size, 2, none⟩)), kZ 19 (zy), kZ 1 (0), kIs (.int .i64 (-1)), kIs (.bool false), kIs (.bool false), kIs (.bool false), kIs undef, kIs undef, kIs undef, kIs undef, kIs undef, kIs undef, kIs undef, kIs undef, kIs undef, kIs (.bool false), kIs (.bool false)]
    [ [], [(0, some 3)], [(1, some 4)], [(2, some 5)], [], [(4, some 7)], [(5, some 8)], [(3, some 6), (6, some 9)], [(7, some 10)], [], [(9, some 12)], [], [(10, some 13), (11, some 14)], [(12, some 15)], [(8, some 11), (13, some 16)], [(14, some 17)], [], [(16, some 19)], [], [(18, some 21)], [(17, some 20), (19, some 22)], [(20, some 23)], [], [(21, some 24), (22, some 25)], [(23, some 26)], [(15, some 18), (24, some 27)], [(25, some 28)] ]
    [(0, some 3), (1, some 4), (2, some 5), (3, some 6), (4, some 7), (5, some 8), (6, some 9), (7, some 10), (8, some 11), (9, some 12), (10, some 13), (11, some 14), (12, some 15), (13, some 16), (14, some 17), (15, some 18), (16, some 19), (17, some 20), (18, some 21), (19, some 22), (20, some 23), (21, some 24), (22, some 25), (23, some 26), (24, some 27), (25, some 28), (26, some 2)] [(3, true), (8, true), (15, false)] [16, 17, 18, 19, 20, 21, 22, 23, 24] (by kernel_rfl) (by kernel_rfl) (by kernel_rfl) (by kernel_rfl) (by kernel_rfl) (by kernel_rfl) (by kernel_rfl) bb_0.size ?_ ?_
  ·
    refine pk_cons rfl rfl (st_pure [] [(1, .pointer (some ⟨w.heap.size, 0, none⟩))] (.pointer (some ⟨w.heap.size, 0, none⟩)) rfl hN_0 (by kernel_rfl) (by kernel_rfl) (by kernel_rfl) (old1 e1_0) (by kernel_rfl) (by kernel_rfl) (by kernel_rfl) (fun _ => by kernel_rfl)) ?_
    refine pk_cons rfl rfl (st_loadA f1_0 (by simp) hN_0 (by kernel_rfl) (by kernel_rfl) rfl rfl) ?_
    refine pk_cons rfl rfl (st_call1 hN_0 (by kernel_rfl) (by kernel_rfl) (by kernel_rfl) rfl rfl fun w x v1 hC h1 => ti (r2_right (rr h1))) ?_
    refine pk_cons rfl rfl (st_pure [.bool true] [] (.bool true) rfl hN_0 (by kernel_rfl) (by kernel_rfl) (by kernel_rfl) old0 (by kernel_rfl) (by kernel_rfl) (by kernel_rfl) (fun _ => by kernel_rfl)) ?_
    refine pk_cons rfl rfl (st_pure [] [(1, .pointer (some ⟨w.heap.size, 0, none⟩))] (.pointer (some ⟨w.heap.size, 2, none⟩)) rfl hN_0 (by kernel_rfl) (by kernel_rfl) (by kernel_rfl) (old1 e1_0) (by kernel_rfl) (by kernel_rfl) (by kernel_rfl) (fun _ => by kernel_rfl)) ?_
    refine pk_cons rfl rfl (st_loadA f1'_0 (by simp) hN_0 (by kernel_rfl) (by kernel_rfl) rfl rfl) ?_
    refine pk_cons rfl rfl (st_call1 hN_0 (by kernel_rfl) (by kernel_rfl) (by kernel_rfl) rfl rfl fun w x v1 hC h1 => ti (r2_right (rr h1))) ?_
    refine pk_cons rfl rfl (st_pure [.bool true, .bool true] [] (.bool true) rfl hN_0 (by kernel_rfl) (by kernel_rfl) (by kernel_rfl) old0 (by kernel_rfl) (by kernel_rfl) (by kernel_rfl) (fun _ => by kernel_rfl)) ?_
    refine pk_cons rfl rfl (st_pure [.bool true] [] (.bool true) rfl hN_0 (by kernel_rfl) (by kernel_rfl) (by kernel_rfl) old0 (by kernel_rfl) (by kernel_rfl) (by kernel_rfl) (fun _ => by kernel_rfl)) ?_
    refine pk_cons rfl rfl (st_pure [] [(1, .pointer (some ⟨w.heap.size, 0, none⟩))] (.pointer (some ⟨w.heap.size, 2, none⟩)) rfl hN_0 (by kernel_rfl) (by kernel_rfl) (by kernel_rfl) (old1 e1_0) (by kernel_rfl) (by kernel_rfl) (by kernel_rfl) (fun _ => by kernel_rfl)) ?_
    refine pk_cons rfl rfl (st_loadA f1'_0 (by simp) hN_0 (by kernel_rfl) (by kernel_rfl) rfl rfl) ?_
    refine pk_cons rfl rfl (st_call0 [] hN_0 (by kernel_rfl) (by kernel_rfl) rfl rfl fun w x hC => tz ref_zero) ?_
    refine pk_cons rfl rfl (st_call2 hN_0 (by kernel_rfl) (by kernel_rfl) (by kernel_rfl) (by kernel_rfl) (by kernel_rfl) rfl rfl rfl fun w x v1 v2 hC h1 h2 => ti (cmp_is (ord_lt hz) (r2_cmp ((rr h1).mono (by decide)) ((rr h2).mono (by decide))))) ?_
    refine pk_cons rfl rfl (st_pure [.int .i64 (-1)] [] (.bool false) rfl hN_0 (by kernel_rfl) (by kernel_rfl) (by kernel_rfl) old0 (by kernel_rfl) (by kernel_rfl) (by kernel_rfl) (fun _ => by kernel_rfl)) ?_
    refine pk_cons rfl rfl (st_pure [.bool true, .bool false] [] (.bool false) rfl hN_0 (by kernel_rfl) (by kernel_rfl) (by kernel_rfl) old0 (by kernel_rfl) (by kernel_rfl) (by kernel_rfl) (fun _ => by kernel_rfl)) ?_
    refine pk_cons rfl rfl (st_pure [.bool false] [] (.bool false) rfl hN_0 (by kernel_rfl) (by kernel_rfl) (by kernel_rfl) old0 (by kernel_rfl) (by kernel_rfl) (by kernel_rfl) (fun _ => by kernel_rfl)) ?_
    refine pk_skip rfl ?_
    refine pk_skip rfl ?_
    refine pk_skip rfl ?_
    refine pk_skip rfl ?_
    refine pk_skip rfl ?_
    refine pk_skip rfl ?_
    refine pk_skip rfl ?_
    refine pk_skip rfl ?_
    refine pk_skip rfl ?_
    refine pk_cons rfl rfl (st_pure [.bool false, undef] [] (.bool false) rfl hN_0 (by kernel_rfl) (by kernel_rfl) (by kernel_rfl) old0 (by kernel_rfl) (by kernel_rfl) (by kernel_rfl) (fun _ => by kernel_rfl)) ?_
    refine pk_cons rfl rfl (st_pure [.bool false] [] (.bool false) rfl hN_0 (by kernel_rfl) (by kernel_rfl) (by kernel_rfl) old0 (by kernel_rfl) (by kernel_rfl) (by kernel_rfl) (fun _ => by kernel_rfl)) ?_
    exact pk_nil rfl
  intro W x hC hall
  refine then_n ?_
  obtain ⟨a1, ha⟩ : ∃ a, a = putE x a_0 [(0, some 3), (1, some 4), (2, some 5), (3, some 6), (4, some 7), (5, some 8), (6, some 9), (7, some 10), (8, some 11), (9, some 12), (10, some 13), (11, some 14), (12, some 15), (13, some 16), (14, some 17), (15, some 18), (16, some 19), (17, some 20), (18, some 21), (19, some 22), (20, some 23), (21, some 24), (22, some 25), (23, some 26), (24, some 27), (25, some 28), (26, some 2)] := ⟨_, rfl⟩
  rw [← ha]
  have hD1 := defers_behind ha hD_0
  have bb1 := bb_0.trans hC.below
  have e1 := (slot_new (t := 2) (i := 26) ha hN_0 (by kernel_rfl) (by kernel_rfl)).trans (show x 26 = .bool false from hall 26 (of_decide_eq_true (by kernel_rfl)))
  repeat (first | refine wp_seq ?_ | (refine wp_skip ?_; refine then_n ?_))
  refine wp_ret ?_
  repeat (refine then_r ?_)
  exact ret_one (t := 2) rfl hD1 e1 ⟨rfl, bb1⟩
set_option maxRecDepth 100000 in
set_option maxHeartbeats 4000000 in
theorem refRight_gcd {w : World} {v1 : Value} {zx zy : Int} (hz : 0 < zy) (hg : 1 < ((zgcd [(zx), (zy)] : Nat) : Int)) (h1 : Pr w v1 19 (zx) (zy)) :
    Calls Tryz.prog 30 #[v1] w (fun e w' => e = .returned (.bool false) ∧ Below w.heap.size w w') := by
  obtain ⟨A1, l1, c1, A1', l1', c1', rfl, ⟨r1, u1⟩, r1', u1'⟩ := h1
  obtain ⟨b1, hb1⟩ : ∃ s, s = decide (zx < 0) := ⟨_, rfl⟩
  obtain ⟨b1', hb1'⟩ : ∃ s, s = decide (zy < 0) := ⟨_, rfl⟩
  rw [← hb1, ← hb1']
  have H1 := Lib.hid (show _ ∧ _ ∧ _ ∧ _ ∧ _ ∧ _ from ⟨hb1, hb1', r1, u1, r1', u1'⟩)
  clear hb1 hb1' r1 u1 r1' u1'
  go_enter Tryz.func30, Tryz.ntmps30
  repeat (refine wp_seq ?_)
  refine region_k ?_
  intro K hK
  have HK := Lib.hid hK
  clear hK
  go_wp2
  refine HK.out _ _ ?_
  clear HK
  refine then_n ?_
  obtain ⟨W_0, hW⟩ : ∃ W, W = w.alloc (Obj.cells #[Value.bool b1, Value.slice A1 l1 c1, Value.bool b1', Value.slice A1' l1' c1'] 27) := ⟨_, rfl⟩
  have bb_0 : Below w.heap.size w W_0 := by rw [hW]; exact bal (Below.refl _ _) _
  have K0 : W_0.heap[w.heap.size]? = some (Obj.cells #[Value.bool b1, Value.slice A1 l1 c1, Value.bool b1', Value.slice A1' l1' c1'] 27) := by rw [hW]; exact new_at (by simp)
  rw [← hW]
  obtain ⟨m1, n1, m1', n1', _, _, _, _⟩ := four_cells K0
  have f1_0 : AtR W_0 (w.heap.size) 0 19 (zx) := ⟨A1, l1, c1, by rw [← H1.out.1]; exact m1, n1, A1, l1, c1, rfl, H1.out.2.2.1.below bb_0, H1.out.2.2.2.1⟩
  have f1'_0 : AtR W_0 (w.heap.size) 2 19 (zy) := ⟨A1', l1', c1', by rw [← H1.out.2.1]; exact m1', n1', A1', l1', c1', rfl, H1.out.2.2.2.2.1.below bb_0, H1.out.2.2.2.2.2⟩
  clear m1 n1 m1' n1'
  clear hW K0
  refine name_frame (G := fun a => Code.wp _ _ _ a _) ?_
  intro a_0 ha
  have hN_0 : a_0.tmps.size = 29 := by subst ha; kernel_rfl
  have hD_0 : a_0.defers = [] := by subst ha; rfl
  have e1_0 : a_0.eval (.tmp 1) = .pointer (some ⟨w.heap.size, 0, none⟩) := by subst ha; kernel_rfl
  clear ha
  repeat (first | refine wp_seq ?_ | (refine wp_skip ?_; refine then_n ?_))
  refine wp_region_law hN_0 w.heap.size
    [kIs (.pointer (some ⟨w.heap.size, 0, none⟩)), kZ 19 (zx), kIs (.bool true), kIs (.bool true), kIs (.pointer (some ⟨w.heap.size, 2, none⟩)), kZ 19 (zy), kIs (.bool true), kIs (.bool true), kIs (.bool true), kIs (.pointer (some ⟨w.heap.size, 2, none⟩)), kZ 19 (zy), kZ 1 (0), kIs (.int .i64 (1)), kIs (.bool true), kIs (.bool true), kIs (.bool true), kIs (.pointer (some ⟨w.heap.size, 0, none⟩)), kZ 19 (zx), kIs (.pointer (some ⟨w.heap.size, 2, none⟩)), kZ 19 (zy), kZRs [(19, zx), (19, zy)], kZ 19 (((zgcd [zx, zy] : Nat) : Int)), kZ 1 (1), kIs (.int .i64 (1)), kIs (.bool false), kIs (.bool false), kIs (.bool false)]
    [ [], [(0, some 3)], [(1, some 4)], [(2, some 5)], [], [(4, some 7)], [(5, some 8)], [(3, some 6), (6, some 9)], [(7, some 10)], [], [(9, some 12)], [], [(10, some 13), (11, some 14)], [(12, some 15)], [(8, some 11), (13, some 16)], [(14, some 17)], [], [(16, some 19)], [], [(18, some 21)], [(17, some 20), (19, some 22)], [(20, some 23)], [], [(21, some 24), (22, some 25)], [(23, some 26)], [(15, some 18), (24, some 27)], [(25, some 28)] ]
    [(0, some 3), (1, some 4), (2, some 5), (3, some 6), (4, some 7), (5, some 8), (6, some 9), (7, some 10), (8, some 11), (9, some 12), (10, some 13), (11, some 14), (12, some 15), (13, some 16), (14, some 17), (15, some 18), (16, some 19), (17, some 20), (18, some 21), (19, some 22), (20, some 23), (21, some 24), (22, some 25), (23, some 26), (24, some 27), (25, some 28), (26, some 2)] [(3, true), (8, true), (15, true)] [] (by kernel_rfl) (by kernel_rfl) (by kernel_rfl) (by kernel_rfl) (by kernel_rfl) (by kernel_rfl) (by kernel_rfl) bb_0.size ?_ ?_
  ·
    refine pk_cons rfl rfl (st_pure [] [(1, .pointer (some ⟨w.heap.size, 0, none⟩))] (.pointer (some ⟨w.heap.size, 0, none⟩)) rfl hN_0 (by kernel_rfl) (by kernel_rfl) (by kernel_rfl) (old1 e1_0) (by kernel_rfl) (by kernel_rfl) (by kernel_rfl) (fun _ => by kernel_rfl)) ?_
    refine pk_cons rfl rfl (st_loadA f1_0 (by simp) hN_0 (by kernel_rfl) (by kernel_rfl) rfl rfl) ?_
    refine pk_cons rfl rfl (st_call1 hN_0 (by kernel_rfl) (by kernel_rfl) (by kernel_rfl) rfl rfl fun w x v1 hC h1 => ti (r2_right (rr h1))) ?_
    refine pk_cons rfl rfl (st_pure [.bool true] [] (.bool true) rfl hN_0 (by kernel_rfl) (by kernel_rfl) (by kernel_rfl) old0 (by kernel_rfl) (by kernel_rfl) (by kernel_rfl) (fun _ => by kernel_rfl)) ?_
    refine pk_cons rfl rfl (st_pure [] [(1, .pointer (some ⟨w.heap.size, 0, none⟩))] (.pointer (some ⟨w.heap.size, 2, none⟩)) rfl hN_0 (by kernel_rfl) (by kernel_rfl) (by kernel_rfl) (old1 e1_0) (by kernel_rfl) (by kernel_rfl) (by kernel_rfl) (fun _ => by kernel_rfl)) ?_
    refine pk_cons rfl rfl (st_loadA f1'_0 (by simp) hN_0 (by kernel_rfl) (by kernel_rfl) rfl rfl) ?_
    refine pk_cons rfl rfl (st_call1 hN_0 (by kernel_rfl) (by kernel_rfl) (by kernel_rfl) rfl rfl fun w x v1 hC h1 => ti (r2_right (rr h1))) ?_
    refine pk_cons rfl rfl (st_pure [.bool true, .bool true] [] (.bool true) rfl hN_0 (by kernel_rfl) (by kernel_rfl) (by kernel_rfl) old0 (by kernel_rfl) (by kernel_rfl) (by kernel_rfl) (fun _ => by kernel_rfl)) ?_
    refine pk_cons rfl rfl (st_pure [.bool true] [] (.bool true) rfl hN_0 (by kernel_rfl) (by kernel_rfl) (by kernel_rfl) old0 (by kernel_rfl) (by kernel_rfl) (by kernel_rfl) (fun _ => by kernel_rfl)) ?_
    refine pk_cons rfl rfl (st_pure [] [(1, .pointer (some ⟨w.heap.size, 0, none⟩))] (.pointer (some ⟨w.heap.size, 2, none⟩)) rfl hN_0 (by kernel_rfl) (by kernel_rfl) (by kernel_rfl) (old1 e1_0) (by kernel_rfl) (by kernel_rfl) (by kernel_rfl) (fun _ => by kernel_rfl)) ?_
    refine pk_cons rfl rfl (st_loadA f1'_0 (by simp) hN_0 (by kernel_rfl) (by kernel_rfl) rfl rfl) ?_
    refine pk_cons rfl rfl (st_call0 [] hN_0 (by kernel_rfl) (by kernel_rfl) rfl rfl fun w x hC => tz ref_zero) ?_
    refine pk_cons rfl rfl (st_call2 hN_0 (by kernel_rfl) (by kernel_rfl) (by kernel_rfl) (by kernel_rfl) (by kernel_rfl) rfl rfl rfl fun w x v1 v2 hC h1 h2 => ti (cmp_is (ord_gt hz) (r2_cmp ((rr h1).mono (by decide)) ((rr h2).mono (by decide))))) ?_
    refine pk_cons rfl rfl (st_pure [.int .i64 (1)] [] (.bool true) rfl hN_0 (by kernel_rfl) (by kernel_rfl) (by kernel_rfl) old0 (by kernel_rfl) (by kernel_rfl) (by kernel_rfl) (fun _ => by kernel_rfl)) ?_
    refine pk_cons rfl rfl (st_pure [.bool true, .bool true] [] (.bool true) rfl hN_0 (by kernel_rfl) (by kernel_rfl) (by kernel_rfl) old0 (by kernel_rfl) (by kernel_rfl) (by kernel_rfl) (fun _ => by kernel_rfl)) ?_
    refine pk_cons rfl rfl (st_pure [.bool true] [] (.bool true) rfl hN_0 (by kernel_rfl) (by kernel_rfl) (by kernel_rfl) old0 (by kernel_rfl) (by kernel_rfl) (by kernel_rfl) (fun _ => by kernel_rfl)) ?_
    refine pk_cons rfl rfl (st_pure [] [(1, .pointer (some ⟨w.heap.size, 0, none⟩))] (.pointer (some ⟨w.heap.size, 0, none⟩)) rfl hN_0 (by kernel_rfl) (by kernel_rfl) (by kernel_rfl) (old1 e1_0) (by kernel_rfl) (by kernel_rfl) (by kernel_rfl) (fun _ => by kernel_rfl)) ?_
    refine pk_cons rfl rfl (st_loadA f1_0 (by simp) hN_0 (by kernel_rfl) (by kernel_rfl) rfl rfl) ?_
    refine pk_cons rfl rfl (st_pure [] [(1, .pointer (some ⟨w.heap.size, 0, none⟩))] (.pointer (some ⟨w.heap.size, 2, none⟩)) rfl hN_0 (by kernel_rfl) (by kernel_rfl) (by kernel_rfl) (old1 e1_0) (by kernel_rfl) (by kernel_rfl) (by kernel_rfl) (fun _ => by kernel_rfl)) ?_
    refine pk_cons rfl rfl (st_loadA f1'_0 (by simp) hN_0 (by kernel_rfl) (by kernel_rfl) rfl rfl) ?_
    refine pk_cons rfl rfl (st_listR2 hN_0 (by kernel_rfl) (by kernel_rfl) (by kernel_rfl) (by kernel_rfl) (Nat.le_refl _) rfl rfl rfl) ?_
    refine pk_cons rfl rfl (st_call1 hN_0 (by kernel_rfl) (by kernel_rfl) (by kernel_rfl) rfl rfl fun w x v1 hC h1 => tz (r2_gcd 19 h1 (by kernel_rfl) (by decide) (by simp))) ?_
    refine pk_cons rfl rfl (st_call0 [] hN_0 (by kernel_rfl) (by kernel_rfl) rfl rfl fun w x hC => tz ref_one) ?_
    refine pk_cons rfl rfl (st_call2 hN_0 (by kernel_rfl) (by kernel_rfl) (by kernel_rfl) (by kernel_rfl) (by kernel_rfl) rfl rfl rfl fun w x v1 v2 hC h1 h2 => ti (cmp_is (ord_gt hg) (r2_cmp ((rr h1).mono (by decide)) ((rr h2).mono (by decide))))) ?_
    refine pk_cons rfl rfl (st_pure [.int .i64 (1)] [] (.bool false) rfl hN_0 (by kernel_rfl) (by kernel_rfl) (by kernel_rfl) old0 (by kernel_rfl) (by kernel_rfl) (by kernel_rfl) (fun _ => by kernel_rfl)) ?_
    refine pk_cons rfl rfl (st_pure [.bool true, .bool false] [] (.bool false) rfl hN_0 (by kernel_rfl) (by kernel_rfl) (by kernel_rfl) old0 (by kernel_rfl) (by kernel_rfl) (by kernel_rfl) (fun _ => by kernel_rfl)) ?_
    refine pk_cons rfl rfl (st_pure [.bool false] [] (.bool false) rfl hN_0 (by kernel_rfl) (by kernel_rfl) (by kernel_rfl) old0 (by kernel_rfl) (by kernel_rfl) (by kernel_rfl) (fun _ => by kernel_rfl)) ?_
    exact pk_nil rfl
  intro W x hC hall
  refine then_n ?_
  obtain ⟨a1, ha⟩ : ∃ a, a = putE x a_0 [(0, some 3), (1, some 4), (2, some 5), (3, some 6), (4, some 7), (5, some 8), (6, some 9), (7, some 10), (8, some 11), (9, some 12), (10, some 13), (11, some 14), (12, some 15), (13, some 16), (14, some 17), (15, some 18), (16, some 19), (17, some 20), (18, some 21), (19, some 22), (20, some 23), (21, some 24), (22, some 25), (23, some 26), (24, some 27), (25, some 28), (26, some 2)] := ⟨_, rfl⟩
  rw [← ha]
  have hD1 := defers_behind ha hD_0
  have bb1 := bb_0.trans hC.below
  have e1 := (slot_new (t := 2) (i := 26) ha hN_0 (by kernel_rfl) (by kernel_rfl)).trans (show x 26 = .bool false from hall 26 (of_decide_eq_true (by kernel_rfl)))
  repeat (first | refine wp_seq ?_ | (refine wp_skip ?_; refine then_n ?_))
  refine wp_ret ?_
  repeat (refine then_r ?_)
  exact ret_one (t := 2) rfl hD1 e1 ⟨rfl, bb1⟩
theorem refRight_no {w : World} {v1 : Value} {zx zy : Int} (hno : ¬ (0 < zy ∧ ((zgcd [(zx), (zy)] : Nat) : Int) = 1)) (h1 : Pr w v1 19 (zx) (zy)) : Calls Tryz.prog 30 #[v1] w (fun e w' => e = .returned (.bool false) ∧ Below w.heap.size w w') := by
  rcases Int.lt_trichotomy zy 0 with h | h | h
  · exact refRight_neg h h1
  · exact refRight_none h h1
  · refine refRight_gcd h ?_ h1
    have := gcd_pos_of h (x := zx)
    have hn : ((zgcd [(zx), (zy)] : Nat) : Int) ≠ 1 := fun e => hno ⟨h, e⟩
    omega
set_option maxRecDepth 100000 in
set_option maxHeartbeats 4000000 in
theorem refTake_yes {w : World} {v1 : Value} {a : Rat} (h1 : Pr w v1 19 (a.num) ((a.den : Int))) :
    Calls Tryz.prog 64 #[v1] w (TellsP w 19 (a.num) ((a.den : Int))) := by
  obtain ⟨A1, l1, c1, A1', l1', c1', rfl, ⟨r1, u1⟩, r1', u1'⟩ := h1
  obtain ⟨b1, hb1⟩ : ∃ s, s = decide (a.num < 0) := ⟨_, rfl⟩
  obtain ⟨b1', hb1'⟩ : ∃ s, s = decide ((a.den : Int) < 0) := ⟨_, rfl⟩
  rw [← hb1, ← hb1']
  have H1 := Lib.hid (show _ ∧ _ ∧ _ ∧ _ ∧ _ ∧ _ from ⟨hb1, hb1', r1, u1, r1', u1'⟩)
  clear hb1 hb1' r1 u1 r1' u1'
  go_enter Tryz.func64, Tryz.ntmps64
  repeat (refine wp_seq ?_)
  refine region_k ?_
  intro K hK
  have HK := Lib.hid hK
  clear hK
  go_wp2
  refine HK.out _ _ ?_
  clear HK
  refine then_n ?_
  obtain ⟨W_0, hW⟩ : ∃ W, W = (w.alloc (Obj.cells #[Value.bool b1, Value.slice A1 l1 c1, Value.bool b1', Value.slice A1' l1' c1'] 27)).alloc (Obj.cells #[Value.bool false, Value.slice none 0 0, Value.bool false, Value.slice none 0 0] 27) := ⟨_, rfl⟩
  have bb_0 : Below w.heap.size w W_0 := by rw [hW]; exact bal (bal (Below.refl _ _) _) _
  have K0 : W_0.heap[w.heap.size]? = some (Obj.cells #[Value.bool b1, Value.slice A1 l1 c1, Value.bool b1', Value.slice A1' l1' c1'] 27) := by rw [hW]; rw [Below.heap_alloc _ _ _ (by simp <;> omega)]; exact new_at (by simp)
  have K1 : W_0.heap[w.heap.size + 1]? = some (Obj.cells #[Value.bool false, Value.slice none 0 0, Value.bool false, Value.slice none 0 0] 27) := by rw [hW]; exact new_at (by simp)
  rw [← hW]
  obtain ⟨m1, n1, m1', n1', _, _, _, _⟩ := four_cells K0
  have f1_0 : AtR W_0 (w.heap.size) 0 19 (a.num) := ⟨A1, l1, c1, by rw [← H1.out.1]; exact m1, n1, A1, l1, c1, rfl, H1.out.2.2.1.below bb_0, H1.out.2.2.2.1⟩
  have f1'_0 : AtR W_0 (w.heap.size) 2 19 ((a.den : Int)) := ⟨A1', l1', c1', by rw [← H1.out.2.1]; exact m1', n1', A1', l1', c1', rfl, H1.out.2.2.2.2.1.below bb_0, H1.out.2.2.2.2.2⟩
  clear m1 n1 m1' n1'
  have R_0 : Holds_ W_0 (w.heap.size + 1) #[Value.bool false, Value.slice none 0 0, Value.bool false, Value.slice none 0 0] := ⟨⟨_, K1⟩, by simp [noDig]⟩
  clear hW K0 K1
  refine name_frame (G := fun a => Code.wp _ _ _ a _) ?_
  intro a_0 ha
  have hN_0 : a_0.tmps.size = 7 := by subst ha; kernel_rfl
  have hD_0 : a_0.defers = [] := by subst ha; rfl
  have e1_0 : a_0.eval (.tmp 1) = .pointer (some ⟨w.heap.size, 0, none⟩) := by subst ha; kernel_rfl
  have e2_0 : a_0.eval (.tmp 2) = .pointer (some ⟨w.heap.size + 1, 0, none⟩) := by subst ha; kernel_rfl
  clear ha
  repeat (first | refine wp_seq ?_ | (refine wp_skip ?_; refine then_n ?_))
  refine wp_region_law hN_0 w.heap.size
    [kP 19 (a.num) ((a.den : Int)), kIs (.bool true)]
    [ [], [(0, some 3)] ]
    [(0, some 3), (1, some 4)] [] [] (by kernel_rfl) (by kernel_rfl) (by kernel_rfl) (by kernel_rfl) (by kernel_rfl) (by kernel_rfl) (by kernel_rfl) bb_0.size ?_ ?_
  ·
    refine pk_cons rfl rfl (st_load4P f1_0 f1'_0 (by simp) e1_0 hN_0 (by kernel_rfl) rfl) ?_
    refine pk_cons rfl rfl (st_call1 hN_0 (by kernel_rfl) (by kernel_rfl) (by kernel_rfl) rfl rfl fun w x v1 hC h1 => ti (refRight_yes (pm (by decide) h1))) ?_
    exact pk_nil rfl
  intro W_1 x hC hall
  refine then_n ?_
  obtain ⟨a_1, ha⟩ : ∃ a, a = putE x a_0 [(0, some 3), (1, some 4)] := ⟨_, rfl⟩
  rw [← ha]
  have hN_1 := size_behind ha hN_0
  have hD_1 := defers_behind ha hD_0
  have bb_1 := bb_0.trans hC.below
  have e1_1 := slot_old ha (by kernel_rfl) e1_0
  have e2_1 := slot_old ha (by kernel_rfl) e2_0
  have f1_1 := hC.at0 f1_0
  have f1'_1 := hC.at0 f1'_0
  have R_1 := hC.holds R_0
  have e4_1 := (slot_new (t := 4) (i := 1) ha hN_0 (by kernel_rfl) (by kernel_rfl)).trans (show x 1 = .bool true from hall 1 (of_decide_eq_true (by kernel_rfl)))
  clear hall hC ha bb_0 hD_0 e1_0 e2_0 f1_0 f1'_0 R_0
  repeat (first | refine wp_seq ?_ | (refine wp_skip ?_; refine then_n ?_))
  refine wp_cond_true e4_1 ?_
  repeat (first | refine wp_seq ?_ | (refine wp_skip ?_; refine then_n ?_))
  refine wp_region_res hN_1 w.heap.size (w.heap.size + 1) R_1 (by omega)
    [kP 19 (a.num) ((a.den : Int)), kRes (w.heap.size + 1) 19 (a.num) ((a.den : Int))]
    [ [], [(0, some 5)] ]
    [(0, some 5), (1, none)] [] [] (by kernel_rfl) (by kernel_rfl) (by kernel_rfl) (by kernel_rfl) (by kernel_rfl) (by kernel_rfl) (by kernel_rfl) bb_1.size ?_ ?_
  ·
    refine pk_cons rfl rfl (st_load4P f1_1 f1'_1 (by simp only [List.mem_singleton]; omega) e1_1 hN_1 (by kernel_rfl) rfl) ?_
    refine pk_cons rfl rfl (st_resP R_1 rfl (by simp) e2_1 hN_1 (by kernel_rfl) (by kernel_rfl) rfl rfl) ?_
    exact pk_nil rfl
  intro W x hC hall
  refine then_n ?_
  obtain ⟨a1, ha⟩ : ∃ a, a = putE x a_1 [(0, some 5), (1, none)] := ⟨_, rfl⟩
  rw [← ha]
  have hD1 := defers_behind ha hD_1
  have bb1 := bb_1.trans hC.below
  obtain ⟨cs, hg, hP⟩ := (show (kRes (w.heap.size + 1) 19 (a.num) ((a.den : Int))).sem _ _ _ _ from hall 1 (of_decide_eq_true (by kernel_rfl)))
  have e1 := slot_old (t := 2) ha (by kernel_rfl) e2_1
  repeat (first | refine wp_seq ?_ | (refine wp_skip ?_; refine then_n ?_))
  refine wp_ret ?_
  repeat (refine then_r ?_)
  exact ret_cellP (t := 2) rfl hD1 e1 hg hP fun v hv => ⟨v, rfl, hv, bb1⟩
set_option maxRecDepth 100000 in
set_option maxHeartbeats 4000000 in
theorem refWhole {w : World} {v1 : Value} {z : Int} (h1 : Zr w v1 19 (z)) :
    Calls Tryz.prog 29 #[v1] w (TellsP w 19 (z) (1)) := by
  obtain ⟨A1, l1, c1, rfl, r1, u1⟩ := h1
  obtain ⟨b1, hb1⟩ : ∃ s, s = decide (z < 0) := ⟨_, rfl⟩
  rw [← hb1]
  have H1 := Lib.hid (show _ ∧ _ ∧ _ from ⟨hb1, r1, u1⟩)
  clear hb1 r1 u1
  go_enter Tryz.func29, Tryz.ntmps29
  repeat (refine wp_seq ?_)
  refine region_k ?_
  intro K hK
  have HK := Lib.hid hK
  clear hK
  go_wp2
  refine HK.out _ _ ?_
  clear HK
  refine then_n ?_
  obtain ⟨W_0, hW⟩ : ∃ W, W = (w.alloc (Obj.cells #[Value.bool b1, Value.slice A1 l1 c1] 25)).alloc (Obj.cells #[Value.bool false, Value.slice none 0 0, Value.bool false, Value.slice none 0 0] 27) := ⟨_, rfl⟩
  have bb_0 : Below w.heap.size w W_0 := by rw [hW]; exact bal (bal (Below.refl _ _) _) _
  have K0 : W_0.heap[w.heap.size]? = some (Obj.cells #[Value.bool b1, Value.slice A1 l1 c1] 25) := by rw [hW]; rw [Below.heap_alloc _ _ _ (by simp <;> omega)]; exact new_at (by simp)
  have K1 : W_0.heap[w.heap.size + 1]? = some (Obj.cells #[Value.bool false, Value.slice none 0 0, Value.bool false, Value.slice none 0 0] 27) := by rw [hW]; exact new_at (by simp)
  rw [← hW]
  obtain ⟨m1, n1, _, _⟩ := cell_of_two K0
  have f1_0 : AtR W_0 (w.heap.size) 0 19 (z) := ⟨A1, l1, c1, by rw [← H1.out.1]; exact m1, n1, A1, l1, c1, rfl, H1.out.2.1.below bb_0, H1.out.2.2⟩
  clear m1 n1
  have R_0 : Holds_ W_0 (w.heap.size + 1) #[Value.bool false, Value.slice none 0 0, Value.bool false, Value.slice none 0 0] := ⟨⟨_, K1⟩, by simp [noDig]⟩
  clear hW K0 K1
  refine name_frame (G := fun a => Code.wp _ _ _ a _) ?_
  intro a_0 ha
  have hN_0 : a_0.tmps.size = 10 := by subst ha; kernel_rfl
  have hD_0 : a_0.defers = [] := by subst ha; rfl
  have e1_0 : a_0.eval (.tmp 1) = .pointer (some ⟨w.heap.size, 0, none⟩) := by subst ha; kernel_rfl
  have e2_0 : a_0.eval (.tmp 2) = .pointer (some ⟨w.heap.size + 1, 0, none⟩) := by subst ha; kernel_rfl
  clear ha
  repeat (first | refine wp_seq ?_ | (refine wp_skip ?_; refine then_n ?_))
  refine wp_region_law hN_0 w.heap.size
    [kZ 19 (z), kIs (.bool true), kIs (.bool false)]
    [ [], [(0, some 3)], [(1, some 4)] ]
    [(0, some 3), (1, some 4), (2, some 5)] [] [] (by kernel_rfl) (by kernel_rfl) (by kernel_rfl) (by kernel_rfl) (by kernel_rfl) (by kernel_rfl) (by kernel_rfl) bb_0.size ?_ ?_
  ·
    refine pk_cons rfl rfl (st_loadB f1_0 (by simp) e1_0 hN_0 (by kernel_rfl) rfl) ?_
    refine pk_cons rfl rfl (st_call1 hN_0 (by kernel_rfl) (by kernel_rfl) (by kernel_rfl) rfl rfl fun w x v1 hC h1 => ti (r2_right (rr h1))) ?_
    refine pk_cons rfl rfl (st_pure [.bool true] [] (.bool false) rfl hN_0 (by kernel_rfl) (by kernel_rfl) (by kernel_rfl) old0 (by kernel_rfl) (by kernel_rfl) (by kernel_rfl) (fun _ => by kernel_rfl)) ?_
    exact pk_nil rfl
  intro W_1 x hC hall
  refine then_n ?_
  obtain ⟨a_1, ha⟩ : ∃ a, a = putE x a_0 [(0, some 3), (1, some 4), (2, some 5)] := ⟨_, rfl⟩
  rw [← ha]
  have hN_1 := size_behind ha hN_0
  have hD_1 := defers_behind ha hD_0
  have bb_1 := bb_0.trans hC.below
  have e1_1 := slot_old ha (by kernel_rfl) e1_0
  have e2_1 := slot_old ha (by kernel_rfl) e2_0
  have f1_1 := hC.at0 f1_0
  have R_1 := hC.holds R_0
  have e5_1 := (slot_new (t := 5) (i := 2) ha hN_0 (by kernel_rfl) (by kernel_rfl)).trans (show x 2 = .bool false from hall 2 (of_decide_eq_true (by kernel_rfl)))
  clear hall hC ha bb_0 hD_0 e1_0 e2_0 f1_0 R_0
  repeat (first | refine wp_seq ?_ | (refine wp_skip ?_; refine then_n ?_))
  refine wp_cond_false e5_1 ?_
  repeat (first | refine wp_seq ?_ | (refine wp_skip ?_; refine then_n ?_))
  refine wp_region_res hN_1 w.heap.size (w.heap.size + 1) R_1 (by omega)
    [kZ 19 (z), kZ 1 (1), kP 19 (z) (1), kRes (w.heap.size + 1) 19 (z) (1)]
    [ [], [], [(0, some 7), (1, some 8)], [(2, some 9)] ]
    [(0, some 7), (1, some 8), (2, some 9), (3, none)] [] [] (by kernel_rfl) (by kernel_rfl) (by kernel_rfl) (by kernel_rfl) (by kernel_rfl) (by kernel_rfl) (by kernel_rfl) bb_1.size ?_ ?_
  ·
    refine pk_cons rfl rfl (st_loadB f1_1 (by simp only [List.mem_singleton]; omega) e1_1 hN_1 (by kernel_rfl) rfl) ?_
    refine pk_cons rfl rfl (st_call0 [] hN_1 (by kernel_rfl) (by kernel_rfl) rfl rfl fun w x hC => tz ref_one) ?_
    refine pk_cons rfl rfl (st_buildP (k := 19) hN_1 (by kernel_rfl) (by kernel_rfl) (by kernel_rfl) (by kernel_rfl) (by kernel_rfl) (by kernel_rfl) rfl rfl rfl) ?_
    refine pk_cons rfl rfl (st_resP R_1 rfl (by simp) e2_1 hN_1 (by kernel_rfl) (by kernel_rfl) rfl rfl) ?_
    exact pk_nil rfl
  intro W x hC hall
  refine then_n ?_
  obtain ⟨a1, ha⟩ : ∃ a, a = putE x a_1 [(0, some 7), (1, some 8), (2, some 9), (3, none)] := ⟨_, rfl⟩
  rw [← ha]
  have hD1 := defers_behind ha hD_1
  have bb1 := bb_1.trans hC.below
  obtain ⟨cs, hg, hP⟩ := (show (kRes (w.heap.size + 1) 19 (z) (1)).sem _ _ _ _ from hall 3 (of_decide_eq_true (by kernel_rfl)))
  have e1 := slot_old (t := 2) ha (by kernel_rfl) e2_1
  repeat (first | refine wp_seq ?_ | (refine wp_skip ?_; refine then_n ?_))
  refine wp_ret ?_
  repeat (refine then_r ?_)
  exact ret_cellP (t := 2) rfl hD1 e1 hg hP fun v hv => ⟨v, rfl, hv, bb1⟩
set_option maxRecDepth 100000 in
set_option maxHeartbeats 4000000 in
theorem refText_w {w : World} {v1 : Value} {a : Rat} (hz : a.den = 1) (h1 : Pr w v1 19 (a.num) ((a.den : Int))) : Calls Tryz.prog 31 #[v1] w (fun e w' => e = .returned (.string (ztext (a.num))) ∧ Below w.heap.size w w') := by
  obtain ⟨A1, l1, c1, A1', l1', c1', rfl, ⟨r1, u1⟩, r1', u1'⟩ := h1
  obtain ⟨b1, hb1⟩ : ∃ s, s = decide (a.num < 0) := ⟨_, rfl⟩
  obtain ⟨b1', hb1'⟩ : ∃ s, s = decide ((a.den : Int) < 0) := ⟨_, rfl⟩
  rw [← hb1, ← hb1']
  have H1 := Lib.hid (show _ ∧ _ ∧ _ ∧ _ ∧ _ ∧ _ from ⟨hb1, hb1', r1, u1, r1', u1'⟩)
  clear hb1 hb1' r1 u1 r1' u1'
  go_enter Tryz.func31, Tryz.ntmps31
  repeat (refine wp_seq ?_)
  refine region_k ?_
  intro K hK
  have HK := Lib.hid hK
  clear hK
  go_wp2
  refine HK.out _ _ ?_
  clear HK
  refine then_n ?_
  obtain ⟨W_0, hW⟩ : ∃ W, W = w.alloc (Obj.cells #[Value.bool b1, Value.slice A1 l1 c1, Value.bool b1', Value.slice A1' l1' c1'] 27) := ⟨_, rfl⟩
  have bb_0 : Below w.heap.size w W_0 := by rw [hW]; exact bal (Below.refl _ _) _
  have K0 : W_0.heap[w.heap.size]? = some (Obj.cells #[Value.bool b1, Value.slice A1 l1 c1, Value.bool b1', Value.slice A1' l1' c1'] 27) := by rw [hW]; exact new_at (by simp)
  rw [← hW]
  obtain ⟨m1, n1, m1', n1', _, _, _, _⟩ := four_cells K0
  have f1_0 : AtR W_0 (w.heap.size) 0 19 (a.num) := ⟨A1, l1, c1, by rw [← H1.out.1]; exact m1, n1, A1, l1, c1, rfl, H1.out.2.2.1.below bb_0, H1.out.2.2.2.1⟩
  have f1'_0 : AtR W_0 (w.heap.size) 2 19 ((a.den : Int)) := ⟨A1', l1', c1', by rw [← H1.out.2.1]; exact m1', n1', A1', l1', c1', rfl, H1.out.2.2.2.2.1.below bb_0, H1.out.2.2.2.2.2⟩
  have S_0 : Holds_ W_0 (w.heap.size) #[Value.bool b1, Value.slice A1 l1 c1, Value.bool b1', Value.slice A1' l1' c1'] := ⟨⟨_, K0⟩, by simp [noDig]⟩
  clear hW K0 m1 n1 m1' n1'
  refine name_frame (G := fun a => Code.wp _ _ _ a _) ?_
  intro a_0 ha
  have hN_0 : a_0.tmps.size = 21 := by subst ha; kernel_rfl
  have hD_0 : a_0.defers = [] := by subst ha; rfl
  have e1_0 : a_0.eval (.tmp 1) = .pointer (some ⟨w.heap.size, 0, none⟩) := by subst ha; kernel_rfl
  clear ha
  repeat (first | refine wp_seq ?_ | (refine wp_skip ?_; refine then_n ?_))
  refine wp_region_keep hN_0 w.heap.size (w.heap.size) S_0 (by omega) 2 [0]
    [kP 19 (a.num) ((a.den : Int)), kP 19 (a.num) ((a.den : Int)), kRes (w.heap.size) 19 (a.num) ((a.den : Int))]
    [ [], [(0, some 4)], [(1, some 5)] ]
    [(0, some 4), (1, some 5), (2, none)] [] [] (by kernel_rfl) (by kernel_rfl) (by kernel_rfl) (by kernel_rfl) (by kernel_rfl) (by kernel_rfl) (by kernel_rfl) rfl (by kernel_rfl) bb_0.size ?_ ?_
  ·
    refine pkl_keep rfl rfl rfl ?_ ?_
    · exact st_loadKP f1_0 f1'_0 e1_0 hN_0 (by kernel_rfl) rfl
    refine pkl_cons rfl rfl (st_call1 hN_0 (by kernel_rfl) (by kernel_rfl) (by kernel_rfl) rfl rfl fun w x v1 hC h1 => tp (refTake_yes (pm (by decide) h1))) ?_
    refine pkl_cons rfl rfl (st_resP S_0 rfl (by simp) e1_0 hN_0 (by kernel_rfl) (by kernel_rfl) rfl rfl) ?_
    exact pkl_nil rfl
  intro W_1 x hC hall
  obtain ⟨a_1, ha⟩ : ∃ a, a = putE x a_0 [(0, some 4), (1, some 5), (2, none)] := ⟨_, rfl⟩
  rw [← ha]
  have hN_1 := size_behind ha hN_0
  have hD_1 := defers_behind ha hD_0
  have bb_1 := bb_0.trans hC.below
  have e1_1 := slot_old ha (by kernel_rfl) e1_0
  have hres := show (kRes (w.heap.size) 19 (a.num) ((a.den : Int))).sem _ _ _ _ from hall 2 (of_decide_eq_true (by kernel_rfl))
  obtain ⟨f1_1, f1'_1⟩ := res_atP hres
  obtain ⟨_, _, _, _, S_1⟩ := res_four hres
  clear hall hC ha hres
  refine then_n ?_
  repeat (first | refine wp_seq ?_ | (refine wp_skip ?_; refine then_n ?_))
  refine wp_region_law hN_1 w.heap.size
    [kIs (.pointer (some ⟨w.heap.size, 0, none⟩)), kZ 19 (a.num), kIs (.string (ztext (a.num))), kIs (.string (ztext (a.num)))]
    [ [], [(0, some 6)], [(1, some 7)], [(2, some 8)] ]
    [(0, some 6), (1, some 7), (2, some 8), (3, some 3)] [] [] (by kernel_rfl) (by kernel_rfl) (by kernel_rfl) (by kernel_rfl) (by kernel_rfl) (by kernel_rfl) (by kernel_rfl) bb_1.size ?_ ?_
  ·
    refine pk_cons rfl rfl (st_pure [] [(1, .pointer (some ⟨w.heap.size, 0, none⟩))] (.pointer (some ⟨w.heap.size, 0, none⟩)) rfl hN_1 (by kernel_rfl) (by kernel_rfl) (by kernel_rfl) (old1 e1_1) (by kernel_rfl) (by kernel_rfl) (by kernel_rfl) (fun _ => by kernel_rfl)) ?_
    refine pk_cons rfl rfl (st_loadA f1_1 (by simp) hN_1 (by kernel_rfl) (by kernel_rfl) rfl rfl) ?_
    refine pk_cons rfl rfl (st_call1 hN_1 (by kernel_rfl) (by kernel_rfl) (by kernel_rfl) rfl rfl fun w x v1 hC h1 => ti (r2_text ((rr h1).zc (by decide)) (by decide))) ?_
    refine pk_cons rfl rfl (st_pure [.string (ztext (a.num))] [] (.string (ztext (a.num))) rfl hN_1 (by kernel_rfl) (by kernel_rfl) (by kernel_rfl) old0 (by kernel_rfl) (by kernel_rfl) (by kernel_rfl) (fun _ => by kernel_rfl)) ?_
    exact pk_nil rfl
  intro W_2 x hC hall
  refine then_n ?_
  obtain ⟨a_2, ha⟩ : ∃ a, a = putE x a_1 [(0, some 6), (1, some 7), (2, some 8), (3, some 3)] := ⟨_, rfl⟩
  rw [← ha]
  have hN_2 := size_behind ha hN_1
  have hD_2 := defers_behind ha hD_1
  have bb_2 := bb_1.trans hC.below
  have e1_2 := slot_old ha (by kernel_rfl) e1_1
  have f1_2 := hC.at0 f1_1
  have f1'_2 := hC.at0 f1'_1
  have S_2 := hC.holds S_1
  have e3_2 := (slot_new (t := 3) (i := 3) ha hN_1 (by kernel_rfl) (by kernel_rfl)).trans (show x 3 = .string (ztext (a.num)) from hall 3 (of_decide_eq_true (by kernel_rfl)))
  clear hall hC ha bb_1 hD_1 e1_1 f1_1 f1'_1 S_1
  repeat (first | refine wp_seq ?_ | (refine wp_skip ?_; refine then_n ?_))
  refine wp_region_law hN_2 w.heap.size
    [kIs (.pointer (some ⟨w.heap.size, 2, none⟩)), kZ 19 ((a.den : Int)), kZ 1 (1), kIs (.int .i64 (0)), kIs (.bool true)]
    [ [], [(0, some 9)], [], [(1, some 10), (2, some 11)], [(3, some 12)] ]
    [(0, some 9), (1, some 10), (2, some 11), (3, some 12), (4, some 13)] [] [] (by kernel_rfl) (by kernel_rfl) (by kernel_rfl) (by kernel_rfl) (by kernel_rfl) (by kernel_rfl) (by kernel_rfl) bb_2.size ?_ ?_
  ·
    refine pk_cons rfl rfl (st_pure [] [(1, .pointer (some ⟨w.heap.size, 0, none⟩))] (.pointer (some ⟨w.heap.size, 2, none⟩)) rfl hN_2 (by kernel_rfl) (by kernel_rfl) (by kernel_rfl) (old1 e1_2) (by kernel_rfl) (by kernel_rfl) (by kernel_rfl) (fun _ => by kernel_rfl)) ?_
    refine pk_cons rfl rfl (st_loadA f1'_2 (by simp) hN_2 (by kernel_rfl) (by kernel_rfl) rfl rfl) ?_
    refine pk_cons rfl rfl (st_call0 [] hN_2 (by kernel_rfl) (by kernel_rfl) rfl rfl fun w x hC => tz ref_one) ?_
    refine pk_cons rfl rfl (st_call2 hN_2 (by kernel_rfl) (by kernel_rfl) (by kernel_rfl) (by kernel_rfl) (by kernel_rfl) rfl rfl rfl fun w x v1 v2 hC h1 h2 => ti (cmp_is (ord_eq (by rw [hz]; rfl)) (r2_cmp ((rr h1).mono (by decide)) ((rr h2).mono (by decide))))) ?_
    refine pk_cons rfl rfl (st_pure [.int .i64 (0)] [] (.bool true) rfl hN_2 (by kernel_rfl) (by kernel_rfl) (by kernel_rfl) old0 (by kernel_rfl) (by kernel_rfl) (by kernel_rfl) (fun _ => by kernel_rfl)) ?_
    exact pk_nil rfl
  intro W_3 x hC hall
  refine then_n ?_
  obtain ⟨a_3, ha⟩ : ∃ a, a = putE x a_2 [(0, some 9), (1, some 10), (2, some 11), (3, some 12), (4, some 13)] := ⟨_, rfl⟩
  rw [← ha]
  have hN_3 := size_behind ha hN_2
  have hD_3 := defers_behind ha hD_2
  have bb_3 := bb_2.trans hC.below
  have e1_3 := slot_old ha (by kernel_rfl) e1_2
  have e3_3 := slot_old ha (by kernel_rfl) e3_2
  have f1_3 := hC.at0 f1_2
  have f1'_3 := hC.at0 f1'_2
  have S_3 := hC.holds S_2
  have e13_3 := (slot_new (t := 13) (i := 4) ha hN_2 (by kernel_rfl) (by kernel_rfl)).trans (show x 4 = .bool true from hall 4 (of_decide_eq_true (by kernel_rfl)))
  clear hall hC ha bb_2 hD_2 e1_2 e3_2 f1_2 f1'_2 S_2
  refine wp_cond_true e13_3 ?_
  repeat (first | refine wp_seq ?_ | (refine wp_skip ?_; refine then_n ?_))
  refine wp_region_law hN_3 w.heap.size
    [kIs (.string (ztext (a.num))), kIs (.string (ztext (a.num)))]
    [ [], [(0, some 14)] ]
    [(0, some 14), (1, some 2)] [] [] (by kernel_rfl) (by kernel_rfl) (by kernel_rfl) (by kernel_rfl) (by kernel_rfl) (by kernel_rfl) (by kernel_rfl) bb_3.size ?_ ?_
  ·
    refine pk_cons rfl rfl (st_pure [] [(3, .string (ztext (a.num)))] (.string (ztext (a.num))) rfl hN_3 (by kernel_rfl) (by kernel_rfl) (by kernel_rfl) (old1 e3_3) (by kernel_rfl) (by kernel_rfl) (by kernel_rfl) (fun _ => by kernel_rfl)) ?_
    refine pk_cons rfl rfl (st_pure [.string (ztext (a.num))] [] (.string (ztext (a.num))) rfl hN_3 (by kernel_rfl) (by kernel_rfl) (by kernel_rfl) old0 (by kernel_rfl) (by kernel_rfl) (by kernel_rfl) (fun _ => by kernel_rfl)) ?_
    exact pk_nil rfl
  intro W x hC hall
  refine then_n ?_
  obtain ⟨a1, ha⟩ : ∃ a, a = putE x a_3 [(0, some 14), (1, some 2)] := ⟨_, rfl⟩
  rw [← ha]
  have hD1 := defers_behind ha hD_3
  have bb1 := bb_3.trans hC.below
  have e1 := (slot_new (t := 2) (i := 1) ha hN_3 (by kernel_rfl) (by kernel_rfl)).trans (show x 1 = .string (ztext (a.num)) from hall 1 (of_decide_eq_true (by kernel_rfl)))
  repeat (first | refine wp_seq ?_ | (refine wp_skip ?_; refine then_n ?_))
  refine wp_ret ?_
  repeat (refine then_r ?_)
  exact ret_one (t := 2) rfl hD1 e1 ⟨rfl, bb1⟩
set_option maxRecDepth 100000 in
set_option maxHeartbeats 4000000 in
theorem refText_b {w : World} {v1 : Value} {a : Rat} (hz : a.den ≠ 1) (h1 : Pr w v1 19 (a.num) ((a.den : Int))) : Calls Tryz.prog 31 #[v1] w (fun e w' => e = .returned (.string (((ztext (a.num)) ++ ({ data := #[47] })) ++ (ztext ((a.den : Int))))) ∧ Below w.heap.size w w') := by
  obtain ⟨A1, l1, c1, A1', l1', c1', rfl, ⟨r1, u1⟩, r1', u1'⟩ := h1
  obtain ⟨b1, hb1⟩ : ∃ s, s = decide (a.num < 0) := ⟨_, rfl⟩
  obtain ⟨b1', hb1'⟩ : ∃ s, s = decide ((a.den : Int) < 0) := ⟨_, rfl⟩
  rw [← hb1, ← hb1']
  have H1 := Lib.hid (show _ ∧ _ ∧ _ ∧ _ ∧ _ ∧ _ from ⟨hb1, hb1', r1, u1, r1', u1'⟩)
  clear hb1 hb1' r1 u1 r1' u1'
  go_enter Tryz.func31, Tryz.ntmps31
  repeat (refine wp_seq ?_)
  refine region_k ?_
  intro K hK
  have HK := Lib.hid hK
  clear hK
  go_wp2
  refine HK.out _ _ ?_
  clear HK
  refine then_n ?_
  obtain ⟨W_0, hW⟩ : ∃ W, W = w.alloc (Obj.cells #[Value.bool b1, Value.slice A1 l1 c1, Value.bool b1', Value.slice A1' l1' c1'] 27) := ⟨_, rfl⟩
  have bb_0 : Below w.heap.size w W_0 := by rw [hW]; exact bal (Below.refl _ _) _
  have K0 : W_0.heap[w.heap.size]? = some (Obj.cells #[Value.bool b1, Value.slice A1 l1 c1, Value.bool b1', Value.slice A1' l1' c1'] 27) := by rw [hW]; exact new_at (by simp)
  rw [← hW]
  obtain ⟨m1, n1, m1', n1', _, _, _, _⟩ := four_cells K0
  have f1_0 : AtR W_0 (w.heap.size) 0 19 (a.num) := ⟨A1, l1, c1, by rw [← H1.out.1]; exact m1, n1, A1, l1, c1, rfl, H1.out.2.2.1.below bb_0, H1.out.2.2.2.1⟩
  have f1'_0 : AtR W_0 (w.heap.size) 2 19 ((a.den : Int)) := ⟨A1', l1', c1', by rw [← H1.out.2.1]; exact m1', n1', A1', l1', c1', rfl, H1.out.2.2.2.2.1.below bb_0, H1.out.2.2.2.2.2⟩
  have S_0 : Holds_ W_0 (w.heap.size) #[Value.bool b1, Value.slice A1 l1 c1, Value.bool b1', Value.slice A1' l1' c1'] := ⟨⟨_, K0⟩, by simp [noDig]⟩
  clear hW K0 m1 n1 m1' n1'
  refine name_frame (G := fun a => Code.wp _ _ _ a _) ?_
  intro a_0 ha
  have hN_0 : a_0.tmps.size = 21 := by subst ha; kernel_rfl
  have hD_0 : a_0.defers = [] := by subst ha; rfl
  have e1_0 : a_0.eval (.tmp 1) = .pointer (some ⟨w.heap.size, 0, none⟩) := by subst ha; kernel_rfl
  clear ha
  repeat (first | refine wp_seq ?_ | (refine wp_skip ?_; refine then_n ?_))
  refine wp_region_keep hN_0 w.heap.size (w.heap.size) S_0 (by omega) 2 [0]
    [kP 19 (a.num) ((a.den : Int)), kP 19 (a.num) ((a.den : Int)), kRes (w.heap.size) 19 (a.num) ((a.den : Int))]
    [ [], [(0, some 4)], [(1, some 5)] ]
    [(0, some 4), (1, some 5), (2, none)] [] [] (by kernel_rfl) (by kernel_rfl) (by kernel_rfl) (by kernel_rfl) (by kernel_rfl) (by kernel_rfl) (by kernel_rfl) rfl (by kernel_rfl) bb_0.size ?_ ?_
  ·
    refine pkl_keep rfl rfl rfl ?_ ?_
    · exact st_loadKP f1_0 f1'_0 e1_0 hN_0 (by kernel_rfl) rfl
    refine pkl_cons rfl rfl (st_call1 hN_0 (by kernel_rfl) (by kernel_rfl) (by kernel_rfl) rfl rfl fun w x v1 hC h1 => tp (refTake_yes (pm (by decide) h1))) ?_
    refine pkl_cons rfl rfl (st_resP S_0 rfl (by simp) e1_0 hN_0 (by kernel_rfl) (by kernel_rfl) rfl rfl) ?_
    exact pkl_nil rfl
  intro W_1 x hC hall
  obtain ⟨a_1, ha⟩ : ∃ a, a = putE x a_0 [(0, some 4), (1, some 5), (2, none)] := ⟨_, rfl⟩
  rw [← ha]
  have hN_1 := size_behind ha hN_0
  have hD_1 := defers_behind ha hD_0
  have bb_1 := bb_0.trans hC.below
  have e1_1 := slot_old ha (by kernel_rfl) e1_0
  have hres := show (kRes (w.heap.size) 19 (a.num) ((a.den : Int))).sem _ _ _ _ from hall 2 (of_decide_eq_true (by kernel_rfl))
  obtain ⟨f1_1, f1'_1⟩ := res_atP hres
  obtain ⟨_, _, _, _, S_1⟩ := res_four hres
  clear hall hC ha hres
  refine then_n ?_
  repeat (first | refine wp_seq ?_ | (refine wp_skip ?_; refine then_n ?_))
  refine wp_region_law hN_1 w.heap.size
    [kIs (.pointer (some ⟨w.heap.size, 0, none⟩)), kZ 19 (a.num), kIs (.string (ztext (a.num))), kIs (.string (ztext (a.num)))]
    [ [], [(0, some 6)], [(1, some 7)], [(2, some 8)] ]
    [(0, some 6), (1, some 7), (2, some 8), (3, some 3)] [] [] (by kernel_rfl) (by kernel_rfl) (by kernel_rfl) (by kernel_rfl) (by kernel_rfl) (by kernel_rfl) (by kernel_rfl) bb_1.size ?_ ?_
  ·
    refine pk_cons rfl rfl (st_pure [] [(1, .pointer (some ⟨w.heap.size, 0, none⟩))] (.pointer (some ⟨w.heap.size, 0, none⟩)) rfl hN_1 (by kernel_rfl) (by kernel_rfl) (by kernel_rfl) (old1 e1_1) (by kernel_rfl) (by kernel_rfl) (by kernel_rfl) (fun _ => by kernel_rfl)) ?_
    refine pk_cons rfl rfl (st_loadA f1_1 (by simp) hN_1 (by kernel_rfl) (by kernel_rfl) rfl rfl) ?_
    refine pk_cons rfl rfl (st_call1 hN_1 (by kernel_rfl) (by kernel_rfl) (by kernel_rfl) rfl rfl fun w x v1 hC h1 => ti (r2_text ((rr h1).zc (by decide)) (by decide))) ?_
    refine pk_cons rfl rfl (st_pure [.string (ztext (a.num))] [] (.string (ztext (a.num))) rfl hN_1 (by kernel_rfl) (by kernel_rfl) (by kernel_rfl) old0 (by kernel_rfl) (by kernel_rfl) (by kernel_rfl) (fun _ => by kernel_rfl)) ?_
    exact pk_nil rfl
  intro W_2 x hC hall
  refine then_n ?_
  obtain ⟨a_2, ha⟩ : ∃ a, a = putE x a_1 [(0, some 6), (1, some 7), (2, some 8), (3, some 3)] := ⟨_, rfl⟩
  rw [← ha]
  have hN_2 := size_behind ha hN_1
  have hD_2 := defers_behind ha hD_1
  have bb_2 := bb_1.trans hC.below
  have e1_2 := slot_old ha (by kernel_rfl) e1_1
  have f1_2 := hC.at0 f1_1
  have f1'_2 := hC.at0 f1'_1
  have S_2 := hC.holds S_1
  have e3_2 := (slot_new (t := 3) (i := 3) ha hN_1 (by kernel_rfl) (by kernel_rfl)).trans (show x 3 = .string (ztext (a.num)) from hall 3 (of_decide_eq_true (by kernel_rfl)))
  clear hall hC ha bb_1 hD_1 e1_1 f1_1 f1'_1 S_1
  repeat (first | refine wp_seq ?_ | (refine wp_skip ?_; refine then_n ?_))
  refine wp_region_law hN_2 w.heap.size
    [kIs (.pointer (some ⟨w.heap.size, 2, none⟩)), kZ 19 ((a.den : Int)), kZ 1 (1), kIs (.int .i64 (1)), kIs (.bool false)]
    [ [], [(0, some 9)], [], [(1, some 10), (2, some 11)], [(3, some 12)] ]
    [(0, some 9), (1, some 10), (2, some 11), (3, some 12), (4, some 13)] [] [] (by kernel_rfl) (by kernel_rfl) (by kernel_rfl) (by kernel_rfl) (by kernel_rfl) (by kernel_rfl) (by kernel_rfl) bb_2.size ?_ ?_
  ·
    refine pk_cons rfl rfl (st_pure [] [(1, .pointer (some ⟨w.heap.size, 0, none⟩))] (.pointer (some ⟨w.heap.size, 2, none⟩)) rfl hN_2 (by kernel_rfl) (by kernel_rfl) (by kernel_rfl) (old1 e1_2) (by kernel_rfl) (by kernel_rfl) (by kernel_rfl) (fun _ => by kernel_rfl)) ?_
    refine pk_cons rfl rfl (st_loadA f1'_2 (by simp) hN_2 (by kernel_rfl) (by kernel_rfl) rfl rfl) ?_
    refine pk_cons rfl rfl (st_call0 [] hN_2 (by kernel_rfl) (by kernel_rfl) rfl rfl fun w x hC => tz ref_one) ?_
    refine pk_cons rfl rfl (st_call2 hN_2 (by kernel_rfl) (by kernel_rfl) (by kernel_rfl) (by kernel_rfl) (by kernel_rfl) rfl rfl rfl fun w x v1 v2 hC h1 h2 => ti (cmp_is (ord_gt (den_one hz)) (r2_cmp ((rr h1).mono (by decide)) ((rr h2).mono (by decide))))) ?_
    refine pk_cons rfl rfl (st_pure [.int .i64 (1)] [] (.bool false) rfl hN_2 (by kernel_rfl) (by kernel_rfl) (by kernel_rfl) old0 (by kernel_rfl) (by kernel_rfl) (by kernel_rfl) (fun _ => by kernel_rfl)) ?_
    exact pk_nil rfl
  intro W_3 x hC hall
  refine then_n ?_
  obtain ⟨a_3, ha⟩ : ∃ a, a = putE x a_2 [(0, some 9), (1, some 10), (2, some 11), (3, some 12), (4, some 13)] := ⟨_, rfl⟩
  rw [← ha]
  have hN_3 := size_behind ha hN_2
  have hD_3 := defers_behind ha hD_2
  have bb_3 := bb_2.trans hC.below
  have e1_3 := slot_old ha (by kernel_rfl) e1_2
  have e3_3 := slot_old ha (by kernel_rfl) e3_2
  have f1_3 := hC.at0 f1_2
  have f1'_3 := hC.at0 f1'_2
  have S_3 := hC.holds S_2
  have e13_3 := (slot_new (t := 13) (i := 4) ha hN_2 (by kernel_rfl) (by kernel_rfl)).trans (show x 4 = .bool false from hall 4 (of_decide_eq_true (by kernel_rfl)))
  clear hall hC ha bb_2 hD_2 e1_2 e3_2 f1_2 f1'_2 S_2
  refine wp_cond_false e13_3 ?_
  repeat (first | refine wp_seq ?_ | (refine wp_skip ?_; refine then_n ?_))
  refine wp_region_law hN_3 w.heap.size
    [kIs (.string (ztext (a.num))), kIs (.string ((ztext (a.num)) ++ ({ data := #[47] }))), kIs (.pointer (some ⟨w.heap.size, 2, none⟩)), kZ 19 ((a.den : Int)), kIs (.string (ztext ((a.den : Int)))), kIs (.string (((ztext (a.num)) ++ ({ data := #[47] })) ++ (ztext ((a.den : Int))))), kIs (.string (((ztext (a.num)) ++ ({ data := #[47] })) ++ (ztext ((a.den : Int)))))]
    [ [], [(0, some 15)], [], [(2, some 17)], [(3, some 18)], [(1, some 16), (4, some 19)], [(5, some 20)] ]
    [(0, some 15), (1, some 16), (2, some 17), (3, some 18), (4, some 19), (5, some 20), (6, some 2)] [] [] (by kernel_rfl) (by kernel_rfl) (by kernel_rfl) (by kernel_rfl) (by kernel_rfl) (by kernel_rfl) (by kernel_rfl) bb_3.size ?_ ?_
  ·
    refine pk_cons rfl rfl (st_pure [] [(3, .string (ztext (a.num)))] (.string (ztext (a.num))) rfl hN_3 (by kernel_rfl) (by kernel_rfl) (by kernel_rfl) (old1 e3_3) (by kernel_rfl) (by kernel_rfl) (by kernel_rfl) (fun _ => by kernel_rfl)) ?_
    refine pk_cons rfl rfl (st_pure [.string (ztext (a.num))] [] (.string ((ztext (a.num)) ++ ({ data := #[47] }))) rfl hN_3 (by kernel_rfl) (by kernel_rfl) (by kernel_rfl) old0 (by kernel_rfl) (by kernel_rfl) (by kernel_rfl) (fun _ => ex_adds (by kernel_rfl) (by kernel_rfl) (f1_3.add1 (by decide) (by decide)))) ?_
    refine pk_cons rfl rfl (st_pure [] [(1, .pointer (some ⟨w.heap.size, 0, none⟩))] (.pointer (some ⟨w.heap.size, 2, none⟩)) rfl hN_3 (by kernel_rfl) (by kernel_rfl) (by kernel_rfl) (old1 e1_3) (by kernel_rfl) (by kernel_rfl) (by kernel_rfl) (fun _ => by kernel_rfl)) ?_
    refine pk_cons rfl rfl (st_loadA f1'_3 (by simp) hN_3 (by kernel_rfl) (by kernel_rfl) rfl rfl) ?_
    refine pk_cons rfl rfl (st_call1 hN_3 (by kernel_rfl) (by kernel_rfl) (by kernel_rfl) rfl rfl fun w x v1 hC h1 => ti (r2_text ((rr h1).zc (by decide)) (by decide))) ?_
    refine pk_cons rfl rfl (st_pure [.string ((ztext (a.num)) ++ ({ data := #[47] })), .string (ztext ((a.den : Int)))] [] (.string (((ztext (a.num)) ++ ({ data := #[47] })) ++ (ztext ((a.den : Int))))) rfl hN_3 (by kernel_rfl) (by kernel_rfl) (by kernel_rfl) old0 (by kernel_rfl) (by kernel_rfl) (by kernel_rfl) (fun _ => ex_adds (by kernel_rfl) (by kernel_rfl) (f1_3.add2 f1'_3 (by decide) (by decide)))) ?_
    refine pk_cons rfl rfl (st_pure [.string (((ztext (a.num)) ++ ({ data := #[47] })) ++ (ztext ((a.den : Int))))] [] (.string (((ztext (a.num)) ++ ({ data := #[47] })) ++ (ztext ((a.den : Int))))) rfl hN_3 (by kernel_rfl) (by kernel_rfl) (by kernel_rfl) old0 (by kernel_rfl) (by kernel_rfl) (by kernel_rfl) (fun _ => by kernel_rfl)) ?_
    exact pk_nil rfl
  intro W x hC hall
  refine then_n ?_
  obtain ⟨a1, ha⟩ : ∃ a, a = putE x a_3 [(0, some 15), (1, some 16), (2, some 17), (3, some 18), (4, some 19), (5, some 20), (6, some 2)] := ⟨_, rfl⟩
  rw [← ha]
  have hD1 := defers_behind ha hD_3
  have bb1 := bb_3.trans hC.below
  have e1 := (slot_new (t := 2) (i := 6) ha hN_3 (by kernel_rfl) (by kernel_rfl)).trans (show x 6 = .string (((ztext (a.num)) ++ ({ data := #[47] })) ++ (ztext ((a.den : Int)))) from hall 6 (of_decide_eq_true (by kernel_rfl)))
  repeat (first | refine wp_seq ?_ | (refine wp_skip ?_; refine then_n ?_))
  refine wp_ret ?_
  repeat (refine then_r ?_)
  exact ret_one (t := 2) rfl hD1 e1 ⟨rfl, bb1⟩
theorem refText_yes {w : World} {v1 : Value} {a : Rat} (h1 : Pr w v1 19 a.num (a.den : Int)) : Calls Tryz.prog 31 #[v1] w (fun e w' => e = .returned (.string (textQ a)) ∧ Below w.heap.size w w') := by
  by_cases h : a.den = 1
  · rw [textQ_one h]; exact refText_w h h1
  · rw [textQ_more h]; exact refText_b h h1
end Go.Proofs.YthgclmkhmcfflaaGreatDoor
namespace Go.Proofs.YthgclmkhmcfflaaGreatDoor
open Go.RowKit
end Go.Proofs.YthgclmkhmcfflaaGreatDoor
namespace Go.Proofs.YthgclmkhmcfflaaGreatDoor
open Go.RowKit
set_option maxRecDepth 100000 in
set_option maxHeartbeats 3200000 in
theorem ref2Parse_core {s t : ByteArray} {neg ok sb : Bool} {v N : Nat} (hs : s.size ≤ 4000)
    (hcase : (s.size = 0 ∧ neg = false ∧ t = s) ∨ (∃ h : 0 < s.size, ((s[0].toNat : Int) == 45) = neg ∧ t = if neg then s.extract 1 s.size else s))
    (hof : ∀ W, Calls Tryz.prog 56 #[.string t] W (RetSB W v ok)) (hv : v < 1000000000 ^ N) (hN : N ≤ 445) (hsb : sb = sgn v neg) (w : World) :
    Calls Tryz.prog 27 #[.string s] w (RetIntB w (if ok && (sb == neg) then v else 0) (ok && (sb == neg) && neg) (ok && (sb == neg))) := by
  have HO := Lib.hid hof
  have hzero : ∀ W : World, Calls Tryz.prog 57 #[.int .i64 0] W (RetInt W 0 false) := fun W => ref2Of_any (w := W) 0 0 (by decide) (by decide) rfl
  have HZ := Lib.hid hzero
  have hdig : ∀ (W : World) (A : Option Addr) (k c : Nat), Rr W (.slice A k c) v → (k : Int) = 0 ∧ v = 0 ∨ ((k : Int) == 0) = false ∧ v ≠ 0 := fun W A k c h => by
    have := (rr_len h).1
    by_cases hv0 : v = 0
    · exact .inl ⟨by have := this.2 hv0; omega, hv0⟩
    · exact .inr ⟨beq_eq_false_iff_ne.2 fun h1 => hv0 (this.1 (by omega)), hv0⟩
  have HD := Lib.hid hdig
  have hmake : ∀ (W : World) (A : Option Addr) (k c : Nat), Rr W (.slice A k c) v → Calls Tryz.prog 58 #[.bool neg, .slice A k c] W (RetInt W v sb) := fun W A k c h => by
    obtain ⟨xs, rfl, hr, hx, rfl, hl⟩ := rr_row h hv
    rw [hsb]
    exact ref2of_any neg hr (fun d hd => Nat.lt_trans (hx.1 d hd) (by decide)) (by omega) hv (by omega)
  have HM := Lib.hid hmake
  clear hof hzero hmake hdig hv hN
  have HSB := Lib.hid hsb
  clear hsb
  obtain ⟨W0, hW0⟩ : ∃ W0, W0 = w.alloc (Obj.cells #[Value.bool false, Value.slice none 0 0] 25) := ⟨_, rfl⟩
  have bW0 : Below w.heap.size w W0 := by rw [hW0]; exact bal (Below.refl _ _) _
  have K0 : Hid (W0.heap[w.heap.size]? = some (Obj.cells #[Value.bool false, Value.slice none 0 0] 25)) := by show _ = _; rw [hW0]; exact heap_alloc_new _ _
  have hs0 : w.heap.size < W0.heap.size := lt_block K0.out
  have HW0 := Lib.hid hW0
  have hfin : ∀ (w3 : World) (A3 : Option Addr) (k3 c3 n : Nat), Below W0.heap.size W0 w3 → Rr w3 (.slice A3 k3 c3) n → (∀ b' : Bool, ((w3.setCell ⟨w.heap.size, 0, none⟩ (.bool b')).setCell ⟨w.heap.size, 1, none⟩ (.slice A3 k3 c3)).cell? ⟨w.heap.size, 0, none⟩ = some (.bool b') ∧ ((w3.setCell ⟨w.heap.size, 0, none⟩ (.bool b')).setCell ⟨w.heap.size, 1, none⟩ (.slice A3 k3 c3)).cell? ⟨w.heap.size, 1, none⟩ = some (.slice A3 k3 c3) ∧ Rr ((w3.setCell ⟨w.heap.size, 0, none⟩ (.bool b')).setCell ⟨w.heap.size, 1, none⟩ (.slice A3 k3 c3)) (.slice A3 k3 c3) n) ∧ (w3.cell? ⟨w.heap.size, 0, none⟩ = some (.bool false) ∧ w3.cell? ⟨w.heap.size, 1, none⟩ = some (.slice none 0 0) ∧ w3.frozen? ⟨w.heap.size, 0, none⟩ = false ∧ w3.frozen? ⟨w.heap.size, 1, none⟩ = false) := fun w3 A3 k3 c3 n hb hr => by
    have k3' := (hb.block w.heap.size hs0).trans K0.out
    exact ⟨fun b' => two_stored k3' (fun d h => by cases h) (fun d h => by cases h) hr, cell_of_two k3'⟩
  have HFIN := Lib.hid hfin
  clear hW0 hfin
  have HC := Lib.hid hcase
  clear hcase
  obtain ⟨r, hr⟩ : ∃ r, r = if ok && (sb == neg) then v else 0 := ⟨_, rfl⟩
  obtain ⟨b', hb'⟩ : ∃ b', b' = (ok && (sb == neg) && neg) := ⟨_, rfl⟩
  obtain ⟨o', ho'⟩ : ∃ o', o' = (ok && (sb == neg)) := ⟨_, rfl⟩
  rw [← hr, ← hb', ← ho']
  have HR := Lib.hid hr
  have HB := Lib.hid hb'
  have HK := Lib.hid ho'
  clear hr hb' ho'
  go_enter Tryz.func27, Tryz.ntmps27
  go_wp2_with fail
  all_goals rw [← HW0.out]
  · rename_i q1 q2 _ _ _ _
    have hnt : neg = true ∧ t = s.extract 1 s.size := by
      rcases HC.out with ⟨h0, _⟩ | ⟨_, hq, ht⟩
      · omega
      · have e : neg = true := hq ▸ q2
        subst e
        exact ⟨rfl, ht⟩
    obtain ⟨rfl, rfl⟩ := hnt
    clear HC
    refine (HO.out _).mono ?_
    rintro e w2 ⟨A1, k1, c1, rfl, h1, hb⟩
    have hdd := HD.out _ _ _ _ h1
    have HDD := Lib.hid hdd
    have hmm := HM.out _ _ _ _ h1
    have HMM := Lib.hid hmm
    clear hdd hmm
    cases ok
    · have er : r = 0 ∧ b' = false ∧ o' = false := by rw [HR.out, HB.out, HK.out]; simp
      obtain ⟨rfl, rfl, rfl⟩ := er
      go_wp2_with fail
      refine (HZ.out _).mono ?_
      rintro e w3 ⟨A3, k3, c3, rfl, h3, _, hb3⟩
      obtain ⟨hst, m1, m2, m3, m4⟩ := HFIN.out w3 A3 k3 c3 _ (bstep hb hb3) h3
      obtain ⟨n1, n2, n3⟩ := hst false
      have hbw := bstep bW0 (bstep hb hb3)
      clear hst hb hb3
      go_wp2
      refine bodyPost_ret (v := .tuple #[.agg #[.bool false, .slice A3 k3 c3], .bool false]) (by simp [results, Tryz.results27, go_sem, n1, n2]) rfl ?_
      exact ⟨A3, k3, c3, rfl, n3, fun _ => rfl, (hbw.setCell (Nat.le_refl _) _).setCell (Nat.le_refl _) _⟩
    · rcases HDD.out with ⟨hk, hv⟩ | ⟨hk, hv⟩
      · have es : sb = false := by rw [HSB.out, hv]; rfl
        subst es
        have er : r = 0 ∧ b' = false ∧ o' = false := by rw [HR.out, HB.out, HK.out]; simp
        obtain ⟨rfl, rfl, rfl⟩ := er
        go_wp2_with fail
        refine (HZ.out _).mono ?_
        rintro e w3 ⟨A3, k3, c3, rfl, h3, _, hb3⟩
        obtain ⟨hst, m1, m2, m3, m4⟩ := HFIN.out w3 A3 k3 c3 _ (bstep hb hb3) h3
        obtain ⟨n1, n2, n3⟩ := hst false
        have hbw := bstep bW0 (bstep hb hb3)
        clear hst hb hb3
        go_wp2
        refine bodyPost_ret (v := .tuple #[.agg #[.bool false, .slice A3 k3 c3], .bool false]) (by simp [results, Tryz.results27, go_sem, n1, n2]) rfl ?_
        exact ⟨A3, k3, c3, rfl, n3, fun _ => rfl, (hbw.setCell (Nat.le_refl _) _).setCell (Nat.le_refl _) _⟩
      · have es : sb = true := by rw [HSB.out]; simp [sgn, hv]
        subst es
        have er : r = v ∧ b' = true ∧ o' = true := by rw [HR.out, HB.out, HK.out]; simp
        obtain ⟨rfl, rfl, rfl⟩ := er
        go_wp2_with fail
        refine (HMM.out).mono ?_
        rintro e w3 ⟨A3, k3, c3, rfl, h3, z3, hb3⟩
        obtain ⟨hst, m1, m2, m3, m4⟩ := HFIN.out w3 A3 k3 c3 _ (bstep hb hb3) h3
        obtain ⟨n1, n2, n3⟩ := hst true
        have hbw := bstep bW0 (bstep hb hb3)
        clear hst hb hb3
        go_wp2
        refine bodyPost_ret (v := .tuple #[.agg #[.bool true, .slice A3 k3 c3], .bool true]) (by simp [results, Tryz.results27, go_sem, n1, n2]) rfl ?_
        exact ⟨A3, k3, c3, rfl, n3, z3, (hbw.setCell (Nat.le_refl _) _).setCell (Nat.le_refl _) _⟩
  · rename_i q1 q2 _ _ _ _
    have hnt : neg = false ∧ t = s := by
      rcases HC.out with ⟨h0, _⟩ | ⟨_, hq, ht⟩
      · omega
      · have e : neg = false := hq ▸ q2
        subst e
        exact ⟨rfl, ht⟩
    obtain ⟨rfl, rfl⟩ := hnt
    clear HC
    refine (HO.out _).mono ?_
    rintro e w2 ⟨A1, k1, c1, rfl, h1, hb⟩
    have hdd := HD.out _ _ _ _ h1
    have HDD := Lib.hid hdd
    have hmm := HM.out _ _ _ _ h1
    have HMM := Lib.hid hmm
    clear hdd hmm
    cases ok
    · have er : r = 0 ∧ b' = false ∧ o' = false := by rw [HR.out, HB.out, HK.out]; simp
      obtain ⟨rfl, rfl, rfl⟩ := er
      go_wp2_with fail
      refine (HZ.out _).mono ?_
      rintro e w3 ⟨A3, k3, c3, rfl, h3, _, hb3⟩
      obtain ⟨hst, m1, m2, m3, m4⟩ := HFIN.out w3 A3 k3 c3 _ (bstep hb hb3) h3
      obtain ⟨n1, n2, n3⟩ := hst false
      have hbw := bstep bW0 (bstep hb hb3)
      clear hst hb hb3
      go_wp2
      refine bodyPost_ret (v := .tuple #[.agg #[.bool false, .slice A3 k3 c3], .bool false]) (by simp [results, Tryz.results27, go_sem, n1, n2]) rfl ?_
      exact ⟨A3, k3, c3, rfl, n3, fun _ => rfl, (hbw.setCell (Nat.le_refl _) _).setCell (Nat.le_refl _) _⟩
    · have es : sb = false := by rw [HSB.out]; rfl
      subst es
      have er : r = v ∧ b' = false ∧ o' = true := by rw [HR.out, HB.out, HK.out]; simp
      obtain ⟨rfl, rfl, rfl⟩ := er
      go_wp2_with fail
      refine (HMM.out).mono ?_
      rintro e w3 ⟨A3, k3, c3, rfl, h3, _, hb3⟩
      obtain ⟨hst, m1, m2, m3, m4⟩ := HFIN.out w3 A3 k3 c3 _ (bstep hb hb3) h3
      obtain ⟨n1, n2, n3⟩ := hst false
      have hbw := bstep bW0 (bstep hb hb3)
      clear hst hb hb3
      go_wp2
      refine bodyPost_ret (v := .tuple #[.agg #[.bool false, .slice A3 k3 c3], .bool true]) (by simp [results, Tryz.results27, go_sem, n1, n2]) rfl ?_
      exact ⟨A3, k3, c3, rfl, n3, fun _ => rfl, (hbw.setCell (Nat.le_refl _) _).setCell (Nat.le_refl _) _⟩
  · rename_i q1 _ _ _ _
    have hnt : neg = false ∧ t = s := by
      rcases HC.out with ⟨_, h1, h2⟩ | ⟨h0, _⟩
      · exact ⟨h1, h2⟩
      · exact absurd h0 q1
    obtain ⟨rfl, rfl⟩ := hnt
    clear HC
    refine (HO.out _).mono ?_
    rintro e w2 ⟨A1, k1, c1, rfl, h1, hb⟩
    have hdd := HD.out _ _ _ _ h1
    have HDD := Lib.hid hdd
    have hmm := HM.out _ _ _ _ h1
    have HMM := Lib.hid hmm
    clear hdd hmm
    cases ok
    · have er : r = 0 ∧ b' = false ∧ o' = false := by rw [HR.out, HB.out, HK.out]; simp
      obtain ⟨rfl, rfl, rfl⟩ := er
      go_wp2_with fail
      refine (HZ.out _).mono ?_
      rintro e w3 ⟨A3, k3, c3, rfl, h3, _, hb3⟩
      obtain ⟨hst, m1, m2, m3, m4⟩ := HFIN.out w3 A3 k3 c3 _ (bstep hb hb3) h3
      obtain ⟨n1, n2, n3⟩ := hst false
      have hbw := bstep bW0 (bstep hb hb3)
      clear hst hb hb3
      go_wp2
      refine bodyPost_ret (v := .tuple #[.agg #[.bool false, .slice A3 k3 c3], .bool false]) (by simp [results, Tryz.results27, go_sem, n1, n2]) rfl ?_
      exact ⟨A3, k3, c3, rfl, n3, fun _ => rfl, (hbw.setCell (Nat.le_refl _) _).setCell (Nat.le_refl _) _⟩
    · have es : sb = false := by rw [HSB.out]; rfl
      subst es
      have er : r = v ∧ b' = false ∧ o' = true := by rw [HR.out, HB.out, HK.out]; simp
      obtain ⟨rfl, rfl, rfl⟩ := er
      go_wp2_with fail
      refine (HMM.out).mono ?_
      rintro e w3 ⟨A3, k3, c3, rfl, h3, _, hb3⟩
      obtain ⟨hst, m1, m2, m3, m4⟩ := HFIN.out w3 A3 k3 c3 _ (bstep hb hb3) h3
      obtain ⟨n1, n2, n3⟩ := hst false
      have hbw := bstep bW0 (bstep hb hb3)
      clear hst hb hb3
      go_wp2
      refine bodyPost_ret (v := .tuple #[.agg #[.bool false, .slice A3 k3 c3], .bool true]) (by simp [results, Tryz.results27, go_sem, n1, n2]) rfl ?_
      exact ⟨A3, k3, c3, rfl, n3, fun _ => rfl, (hbw.setCell (Nat.le_refl _) _).setCell (Nat.le_refl _) _⟩
end Go.Proofs.YthgclmkhmcfflaaGreatDoor
namespace Go.Proofs.YthgclmkhmcfflaaGreatDoor
open Go.RowKit
/-- The sign of a text, and the text behind it. -/
theorem cut_of (s : ByteArray) : ∃ (neg : Bool) (t : ByteArray), t.size ≤ s.size ∧ ((s.size = 0 ∧ neg = false ∧ t = s) ∨ (∃ h : 0 < s.size, ((s[0].toNat : Int) == 45) = neg ∧ t = if neg then s.extract 1 s.size else s)) ∧
    (⟨(Lib.trimPrefix s.data.toList [45]).toArray⟩ : ByteArray) = t ∧ Lib.hasPrefix s.data.toList [45] = neg := by
  refine ⟨Lib.hasPrefix s.data.toList [45], ⟨(Lib.trimPrefix s.data.toList [45]).toArray⟩, ?_, ?_, rfl, rfl⟩
  · have := Lib.trimPrefix_le s.data.toList [45]
    rw [Lib.size_eq, Lib.size_eq]
    exact this
  · obtain ⟨⟨l⟩⟩ := s
    match l with
    | [] => exact .inl ⟨rfl, rfl, rfl⟩
    | x :: r =>
      have hx : ((x.toNat : Int) == 45) = (x == 45) := by
        rw [Bool.eq_iff_iff, beq_iff_eq, beq_iff_eq, ← UInt8.toNat_inj]
        exact ⟨fun h => by have h1 : x.toNat = 45 := by omega
                           exact h1, fun h => by have h1 : x.toNat = 45 := h
                                                 omega⟩
      have hf : Lib.hasPrefix (x :: r) [45] = (x == 45) := by
        show ((45 == x) && List.isPrefixOf [] r) = _
        rw [List.isPrefixOf_nil_left, Bool.and_true, Bool.beq_comm]
      refine .inr ⟨by show 0 < (x :: r).length; exact Nat.succ_pos _, hx.trans hf.symm, ?_⟩
      show (⟨(if Lib.hasPrefix (x :: r) [45] then r else x :: r).toArray⟩ : ByteArray) = if Lib.hasPrefix (x :: r) [45] then _ else _
      rw [hf]
      split
      · rw [Lib.extract_eq]
        show _ = (⟨(r.take (r.length + 1 - 1)).toArray⟩ : ByteArray)
        rw [Nat.add_sub_cancel, List.take_length]
      · rfl
end Go.Proofs.YthgclmkhmcfflaaGreatDoor

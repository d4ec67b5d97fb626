/- The law NumRing, walked: of any three numbers the call returns true. Premises: the table of powers of ten reads as it is laid; lengths as they can come. -/
import Derived.Test.YthjgfkmnelefpaaGreatDoorNumMore
namespace Go.Proofs.YthjgfkmnelefpaaGreatDoor
open Go.RowKit

theorem in_block {id : Nat} {Q : Exit → Act → World → Prop} {a : Act} {w : World} (h : Q .normal a w) : Exit.inBlock id Q .normal a w := h
theorem then_x {next : Act → World → Prop} {id : Nat} {Q : Exit → Act → World → Prop} {a : Act} {w : World} (h : Q (.exit id) a w) : Exit.then next Q (.exit id) a w := h
theorem out_block {id : Nat} {Q : Exit → Act → World → Prop} {a : Act} {w : World} (h : Q .normal a w) : Exit.inBlock id Q (.exit id) a w := by
  show (if id = id then Q .normal a w else _)
  rw [if_pos rfl]; exact h
theorem bound_at {l : List (Nat × Int)} (h : ∀ q ∈ l, q.2.natAbs < 1000000000 ^ q.1) {k : Nat} {z : Int} (j : Nat) (hj : l[j]? = some (k, z)) : z.natAbs < 1000000000 ^ k := h _ (List.mem_of_getElem? hj)
theorem parse_at {l : List (Nat × Int)} (H : Hid (∀ q ∈ l, q.2.natAbs < 1000000000 ^ q.1)) {k : Nat} {z : Int} (j : Nat) (hj : l[j]? = some (k, z)) {S0 : Nat} {x : Nat → Value} {w : World} {v : Value} (h : (kIs (.string (ztext z))).sem S0 x v w) (hk : k ≤ 4000) : Calls Tryz.prog 19 #[v] w (Told (kZB k z true) S0 x w) :=
  parse_told k h (bound_at H.out j hj) hk
theorem wpOps_val {P : Program} {ops : Array Oper} {Q : Exit → Act → World → Prop} {i : Nat} {rest : List Nat} {o : Oper} {a : Act} {w : World} {v : Value} (ho : ops[i]? = some o) (hg : o.guard = none) (h : (execOp a.eval o).run P w = .ok (.value v) w) (hk : wpOps P ops Q rest (a.put o.dst v) w) : wpOps P ops Q (i :: rest) a w := by
  rw [wpOps_cons]
  unfold wpOp
  rw [ho]
  have hw : Region.wanted o (yielded ops a.tmps) = true := by simp [Region.wanted, hg]
  show if Region.wanted o _ = true then _ else _
  rw [if_pos hw]
  left
  unfold Oper.wp
  rw [h]
  exact hk
/-- A region that counts on. -/
theorem wp_incr {P : Program} {id : Nat} {Q : Exit → Act → World → Prop} {a : Act} {w : World} {A B I N : Nat} {n m : Int} {E E2 T1 T2 T3 : TypeId} {p1 p2 p3 : String} {f1 f2 f3 : Array Edge} (hN : a.tmps.size = N) (hA : decide (A < N) = true) (hB : decide (B < N) = true) (hI : a.eval (.tmp I) = .int .i64 n) (hadd : ∀ w, (binOp .add E (.int .i64 n) (.int .i64 1)).run P w = .ok (.int .i64 m) w)
    (hend : ∀ x : Nat → Value, x 2 = .int .i64 m → Q .normal (putE x a [(0, some A), (1, some B), (2, some I)]) w) :
    (Code.region id #[{ dst := some A, op := .move (.tmp I), type := T1, pos := p1, after := f1, guard := none }, { dst := some B, op := .binOp .add E (.tmp A) (.const (.int .i64 1)) E2, type := T2, pos := p2, after := f2, guard := none }, { dst := some I, op := .assign (.tmp B), type := T3, pos := p3, after := f3, guard := none }] false).wp P Q a w := by
  refine wp_region ?_
  have e : List.range (#[({ dst := some A, op := .move (.tmp I), type := T1, pos := p1, after := f1, guard := none } : Oper), { dst := some B, op := .binOp .add E (.tmp A) (.const (.int .i64 1)) E2, type := T2, pos := p2, after := f2, guard := none }, { dst := some I, op := .assign (.tmp B), type := T3, pos := p3, after := f3, guard := none }]).size = [0, 1, 2] := rfl
  rw [e]
  refine wpOps_val (v := .int .i64 n) rfl rfl ?_ ?_
  · show (pure (Next.value (a.eval (.tmp I))) : Sem Next).run P w = _
    rw [hI]; rfl
  refine wpOps_val (v := .int .i64 m) rfl rfl ?_ ?_
  · have e1 : (a.put (some A) (.int .i64 n)).eval (.tmp A) = .int .i64 n := put_eval _ _ _ (by rw [hN]; exact of_decide_eq_true hA)
    show (((do eqGuard .add E (.tmp A) (.const (.int .i64 1)) ((a.put (some A) (.int .i64 n)).eval (.tmp A)) (.int .i64 1); binOp .add E ((a.put (some A) (.int .i64 n)).eval (.tmp A)) (.int .i64 1)) : Sem Value) >>= fun v => pure (Next.value v)).run P w = _
    rw [e1]
    have e2 : ((do eqGuard .add E (.tmp A) (.const (.int .i64 1)) (.int .i64 n) (.int .i64 1); binOp .add E (.int .i64 n) (.int .i64 1)) : Sem Value).run P w = .ok (.int .i64 m) w := by
      rw [run_then (v := ()) (w' := w) rfl]; exact hadd w
    rw [run_then e2]; rfl
  refine wpOps_val (v := .int .i64 m) rfl rfl ?_ ?_
  · have e1 : ((a.put (some A) (.int .i64 n)).put (some B) (.int .i64 m)).eval (.tmp B) = .int .i64 m := put_eval _ _ _ (by rw [put_size, hN]; exact of_decide_eq_true hB)
    show (pure (Next.value (((a.put (some A) (.int .i64 n)).put (some B) (.int .i64 m)).eval (.tmp B))) : Sem Next).run P w = _
    rw [e1]; rfl
  exact hend (fun i => if i = 0 then .int .i64 n else .int .i64 m) rfl

set_option maxRecDepth 100000 in
set_option maxHeartbeats 16000000 in
theorem lawNumRing_great {w : World} {A1 A2 A3 : Option Addr} {k1 c1 k2 c2 k3 c3 : Nat} {b1 b2 b3 : Bool} (hfew : 1000 < k1 + k2 + k3) (hk : k1 ≤ 35184372087808 ∧ k2 ≤ 35184372087808 ∧ k3 ≤ 35184372087808) (htab : Tab w) (hw : 3 ≤ w.heap.size) :
    Calls Tryz.prog 4 #[.agg #[.bool b1, .slice A1 k1 c1], .agg #[.bool b2, .slice A2 k2 c2], .agg #[.bool b3, .slice A3 k3 c3]] w fun e w' => e = .returned (.bool true) ∧ Below w.heap.size w w' := by
  have haw := fun (W : World) (hW : Below w.heap.size w W) => awake2_any W (htab.below hW hw) (Nat.le_trans hw hW.size)
  have HA := Lib.hid haw
  have HLE := Lib.hid (three_le hk.1 hk.2.1 hk.2.2)
  have hsum : decide (1000 < [k1, k2, k3].sum) = true := by rw [three_sum]; exact decide_eq_true hfew
  have HSUM := Lib.hid hsum
  have HT := Lib.hid (show Tab w ∧ 3 ≤ w.heap.size from ⟨htab, hw⟩)
  clear haw hk hfew hsum htab hw
  go_enter Tryz.func4, Tryz.ntmps4
  repeat (refine wp_seq ?_)
  refine region_k ?_
  intro K hK
  have HK := Lib.hid hK
  clear hK
  go_wp2
  refine HK.out _ _ ?_
  clear HK
  refine then_n ?_
  obtain ⟨W_0, hW⟩ : ∃ W, W = ((w.alloc (Obj.cells #[Value.bool b1, Value.slice A1 k1 c1] 29)).alloc (Obj.cells #[Value.bool b2, Value.slice A2 k2 c2] 29)).alloc (Obj.cells #[Value.bool b3, Value.slice A3 k3 c3] 29) := ⟨_, rfl⟩
  obtain ⟨bb_0, _, K0, K1, K2⟩ := three_newW hW
  rw [← hW]
  clear hW
  refine name_frame (G := fun a => Code.wp _ _ _ a _) ?_
  intro a_0 ha
  have hN_0 : a_0.tmps.size = 199 := by subst ha; kernel_rfl
  have hD_0 : a_0.defers = [] := by subst ha; rfl
  have e3_0 : a_0.eval (.tmp 3) = .pointer (some ⟨w.heap.size, 0, none⟩) := by subst ha; kernel_rfl
  have H3_0 : Holds_ W_0 (w.heap.size) #[.bool b1, .slice A1 k1 c1] := ⟨⟨_, K0⟩, by simp [noDig]⟩
  have e4_0 : a_0.eval (.tmp 4) = .pointer (some ⟨w.heap.size + 1, 0, none⟩) := by subst ha; kernel_rfl
  have H4_0 : Holds_ W_0 (w.heap.size + 1) #[.bool b2, .slice A2 k2 c2] := ⟨⟨_, K1⟩, by simp [noDig]⟩
  have e5_0 : a_0.eval (.tmp 5) = .pointer (some ⟨w.heap.size + 1 + 1, 0, none⟩) := by subst ha; kernel_rfl
  have H5_0 : Holds_ W_0 (w.heap.size + 1 + 1) #[.bool b3, .slice A3 k3 c3] := ⟨⟨_, K2⟩, by simp [noDig]⟩
  clear ha K0 K1 K2
  repeat (first | refine wp_seq ?_ | (refine wp_skip ?_; refine then_n ?_))
  refine wp_region_law hN_0 w.heap.size
    [kIs (.bool true), kIs (.bool false)]
    [ [], [(0, some 13)] ]
    [(0, some 13), (1, some 14)] [] [] (by kernel_rfl) (by kernel_rfl) (by kernel_rfl) (by kernel_rfl) (by kernel_rfl) (by kernel_rfl) (by kernel_rfl) bb_0.size ?_ ?_
  ·
    refine pk_cons rfl rfl ?_ ?_
    · exact st_call0 [] hN_0 (by kernel_rfl) (by kernel_rfl) rfl rfl fun w x hC => ti (HA.out _ (bb_0.trans hC.below))
    refine pk_cons rfl rfl ?_ ?_
    · exact st_pure [.bool true] [] (.bool false) rfl hN_0 (by kernel_rfl) (by kernel_rfl) (by kernel_rfl) old0 (by kernel_rfl) (by kernel_rfl) (by kernel_rfl) (fun _ => by kernel_rfl)
    exact pk_nil rfl
  intro W_1 x hC hall
  refine then_n ?_
  obtain ⟨a_1, ha⟩ : ∃ a, a = putE x a_0 [(0, some 13), (1, some 14)] := ⟨_, rfl⟩
  rw [← ha]
  have hN_1 := size_behind ha hN_0
  have hD_1 := defers_behind ha hD_0
  have bb_1 := bb_0.trans hC.below
  have e3_1 := slot_old ha (by kernel_rfl) e3_0
  have e4_1 := slot_old ha (by kernel_rfl) e4_0
  have e5_1 := slot_old ha (by kernel_rfl) e5_0
  have H3_1 := hC.holds H3_0
  have H4_1 := hC.holds H4_0
  have H5_1 := hC.holds H5_0
  have e14_1 := (slot_new (t := 14) (i := 1) ha hN_0 (by kernel_rfl) (by kernel_rfl)).trans (show x 1 = .bool false from hall 1 (of_decide_eq_true (by kernel_rfl)))
  clear hall hC ha bb_0 hD_0 e3_0 e4_0 e5_0 H3_0 H4_0 H5_0
  refine wp_cond_false e14_1 ?_
  repeat (first | refine wp_seq ?_ | (refine wp_skip ?_; refine then_n ?_))
  refine wp_region_law hN_1 w.heap.size
    [kIs (.agg #[.bool b1, .slice A1 k1 c1]), kIs (.agg #[.bool b2, .slice A2 k2 c2]), kIs (.agg #[.bool b3, .slice A3 k3 c3]), kLens [k1, k2, k3], kIs (.bool true)]
    [ [], [], [], [(0, some 15), (1, some 16), (2, some 17)], [(3, some 18)] ]
    [(0, some 15), (1, some 16), (2, some 17), (3, some 18), (4, some 19)] [] [] (by kernel_rfl) (by kernel_rfl) (by kernel_rfl) (by kernel_rfl) (by kernel_rfl) (by kernel_rfl) (by kernel_rfl) bb_1.size ?_ ?_
  ·
    refine pk_cons rfl rfl ?_ ?_
    · exact st_loadV H3_1 e3_1 hN_1 (by kernel_rfl) rfl
    refine pk_cons rfl rfl ?_ ?_
    · exact st_loadV H4_1 e4_1 hN_1 (by kernel_rfl) rfl
    refine pk_cons rfl rfl ?_ ?_
    · exact st_loadV H5_1 e5_1 hN_1 (by kernel_rfl) rfl
    refine pk_cons rfl rfl ?_ ?_
    · exact st_lens3 hN_1 (by kernel_rfl) (by kernel_rfl) (by kernel_rfl) (by kernel_rfl) (by kernel_rfl) (by kernel_rfl) (by kernel_rfl) (Nat.le_refl _) rfl rfl rfl rfl
    refine pk_cons rfl rfl ?_ ?_
    · exact st_call1 hN_1 (by kernel_rfl) (by kernel_rfl) (by kernel_rfl) rfl rfl fun w x v1 hC h1 => ti (great_told true h1 HLE.out (by simp) HSUM.out)
    exact pk_nil rfl
  intro W_2 x hC hall
  refine then_n ?_
  obtain ⟨a_2, ha⟩ : ∃ a, a = putE x a_1 [(0, some 15), (1, some 16), (2, some 17), (3, some 18), (4, some 19)] := ⟨_, rfl⟩
  rw [← ha]
  have hN_2 := size_behind ha hN_1
  have hD_2 := defers_behind ha hD_1
  have bb_2 := bb_1.trans hC.below
  have e3_2 := slot_old ha (by kernel_rfl) e3_1
  have e4_2 := slot_old ha (by kernel_rfl) e4_1
  have e5_2 := slot_old ha (by kernel_rfl) e5_1
  have e14_2 := slot_old ha (by kernel_rfl) e14_1
  have H3_2 := hC.holds H3_1
  have H4_2 := hC.holds H4_1
  have H5_2 := hC.holds H5_1
  have e19_2 := (slot_new (t := 19) (i := 4) ha hN_1 (by kernel_rfl) (by kernel_rfl)).trans (show x 4 = .bool true from hall 4 (of_decide_eq_true (by kernel_rfl)))
  clear hall hC ha bb_1 hD_1 e3_1 e4_1 e5_1 e14_1 H3_1 H4_1 H5_1
  clear H3_2 H4_2 H5_2
  refine wp_cond_true e19_2 ?_
  repeat (first | refine wp_seq ?_ | (refine wp_skip ?_; refine then_n ?_))
  refine wp_region_law hN_2 w.heap.size
    [kIs (.bool true)]
    [ [] ]
    [(0, some 6)] [] [] (by kernel_rfl) (by kernel_rfl) (by kernel_rfl) (by kernel_rfl) (by kernel_rfl) (by kernel_rfl) (by kernel_rfl) bb_2.size ?_ ?_
  ·
    refine pk_cons rfl rfl ?_ ?_
    · exact st_pure [] [] (.bool true) rfl hN_2 (by kernel_rfl) (by kernel_rfl) (by kernel_rfl) old0 (by kernel_rfl) (by kernel_rfl) (by kernel_rfl) (fun _ => by kernel_rfl)
    exact pk_nil rfl
  intro W_3 x hC hall
  refine then_n ?_
  obtain ⟨a_3, ha⟩ : ∃ a, a = putE x a_2 [(0, some 6)] := ⟨_, rfl⟩
  rw [← ha]
  have hN_3 := size_behind ha hN_2
  have hD_3 := defers_behind ha hD_2
  have bb_3 := bb_2.trans hC.below
  have e3_3 := slot_old ha (by kernel_rfl) e3_2
  have e4_3 := slot_old ha (by kernel_rfl) e4_2
  have e5_3 := slot_old ha (by kernel_rfl) e5_2
  have e14_3 := slot_old ha (by kernel_rfl) e14_2
  have e19_3 := slot_old ha (by kernel_rfl) e19_2
  have e6_3 := (slot_new (t := 6) (i := 0) ha hN_2 (by kernel_rfl) (by kernel_rfl)).trans (show x 0 = .bool true from hall 0 (of_decide_eq_true (by kernel_rfl)))
  clear hall hC ha bb_2 hD_2 e3_2 e4_2 e5_2 e14_2 e19_2
  repeat (first | refine wp_seq ?_ | (refine wp_skip ?_; refine then_n ?_))
  refine wp_ret ?_
  repeat (refine then_r ?_)
  exact ret_one (t := 6) rfl hD_3 e6_3 ⟨rfl, bb_3⟩

set_option maxRecDepth 100000 in
set_option maxHeartbeats 16000000 in
theorem lawNumRing_few {w : World} {A1 A2 A3 : Option Addr} {k1 c1 k2 c2 k3 c3 : Nat} {b1 b2 b3 : Bool} {za zb zc : Int} (h1 : Zd w (.agg #[.bool b1, .slice A1 k1 c1]) 1001 za) (h2 : Zd w (.agg #[.bool b2, .slice A2 k2 c2]) 1001 zb) (h3 : Zd w (.agg #[.bool b3, .slice A3 k3 c3]) 1001 zc) (hfew : ¬ 1000 < k1 + k2 + k3) (hk : k1 ≤ 35184372087808 ∧ k2 ≤ 35184372087808 ∧ k3 ≤ 35184372087808) (htab : Tab w) (hw : 3 ≤ w.heap.size) :
    Calls Tryz.prog 4 #[.agg #[.bool b1, .slice A1 k1 c1], .agg #[.bool b2, .slice A2 k2 c2], .agg #[.bool b3, .slice A3 k3 c3]] w fun e w' => e = .returned (.bool true) ∧ Below w.heap.size w w' := by
  have haw := fun (W : World) (hW : Below w.heap.size w W) => awake2_any W (htab.below hW hw) (Nat.le_trans hw hW.size)
  have HA := Lib.hid haw
  have HLE := Lib.hid (three_le hk.1 hk.2.1 hk.2.2)
  have hsum : decide (1000 < [k1, k2, k3].sum) = false := by rw [three_sum]; exact decide_eq_false hfew
  have HSUM := Lib.hid hsum
  have HT := Lib.hid (show Tab w ∧ 3 ≤ w.heap.size from ⟨htab, hw⟩)
  clear haw hk hfew hsum htab hw
  go_enter Tryz.func4, Tryz.ntmps4
  repeat (refine wp_seq ?_)
  refine region_k ?_
  intro K hK
  have HK := Lib.hid hK
  clear hK
  go_wp2
  refine HK.out _ _ ?_
  clear HK
  refine then_n ?_
  obtain ⟨W_0, hW⟩ : ∃ W, W = ((w.alloc (Obj.cells #[Value.bool b1, Value.slice A1 k1 c1] 29)).alloc (Obj.cells #[Value.bool b2, Value.slice A2 k2 c2] 29)).alloc (Obj.cells #[Value.bool b3, Value.slice A3 k3 c3] 29) := ⟨_, rfl⟩
  obtain ⟨bb_0, _, K0, K1, K2⟩ := three_newW hW
  rw [← hW]
  clear hW
  refine name_frame (G := fun a => Code.wp _ _ _ a _) ?_
  intro a_0 ha
  have hN_0 : a_0.tmps.size = 199 := by subst ha; kernel_rfl
  have hD_0 : a_0.defers = [] := by subst ha; rfl
  have e3_0 : a_0.eval (.tmp 3) = .pointer (some ⟨w.heap.size, 0, none⟩) := by subst ha; kernel_rfl
  have H3_0 : Holds_ W_0 (w.heap.size) #[.bool b1, .slice A1 k1 c1] := ⟨⟨_, K0⟩, by simp [noDig]⟩
  have l3_0 : LocZ W_0 (w.heap.size) 1001 za := ⟨_, _, _, _, H3_0, h1.below (bb_0.trans (Below.refl _ _))⟩
  have e4_0 : a_0.eval (.tmp 4) = .pointer (some ⟨w.heap.size + 1, 0, none⟩) := by subst ha; kernel_rfl
  have H4_0 : Holds_ W_0 (w.heap.size + 1) #[.bool b2, .slice A2 k2 c2] := ⟨⟨_, K1⟩, by simp [noDig]⟩
  have l4_0 : LocZ W_0 (w.heap.size + 1) 1001 zb := ⟨_, _, _, _, H4_0, h2.below (bb_0.trans (Below.refl _ _))⟩
  have e5_0 : a_0.eval (.tmp 5) = .pointer (some ⟨w.heap.size + 1 + 1, 0, none⟩) := by subst ha; kernel_rfl
  have H5_0 : Holds_ W_0 (w.heap.size + 1 + 1) #[.bool b3, .slice A3 k3 c3] := ⟨⟨_, K2⟩, by simp [noDig]⟩
  have l5_0 : LocZ W_0 (w.heap.size + 1 + 1) 1001 zc := ⟨_, _, _, _, H5_0, h3.below (bb_0.trans (Below.refl _ _))⟩
  clear ha K0 K1 K2 h1 h2 h3
  repeat (first | refine wp_seq ?_ | (refine wp_skip ?_; refine then_n ?_))
  refine wp_region_law hN_0 w.heap.size
    [kIs (.bool true), kIs (.bool false)]
    [ [], [(0, some 13)] ]
    [(0, some 13), (1, some 14)] [] [] (by kernel_rfl) (by kernel_rfl) (by kernel_rfl) (by kernel_rfl) (by kernel_rfl) (by kernel_rfl) (by kernel_rfl) bb_0.size ?_ ?_
  ·
    refine pk_cons rfl rfl ?_ ?_
    · exact st_call0 [] hN_0 (by kernel_rfl) (by kernel_rfl) rfl rfl fun w x hC => ti (HA.out _ (bb_0.trans hC.below))
    refine pk_cons rfl rfl ?_ ?_
    · exact st_pure [.bool true] [] (.bool false) rfl hN_0 (by kernel_rfl) (by kernel_rfl) (by kernel_rfl) old0 (by kernel_rfl) (by kernel_rfl) (by kernel_rfl) (fun _ => by kernel_rfl)
    exact pk_nil rfl
  intro W_1 x hC hall
  refine then_n ?_
  obtain ⟨a_1, ha⟩ : ∃ a, a = putE x a_0 [(0, some 13), (1, some 14)] := ⟨_, rfl⟩
  rw [← ha]
  have hN_1 := size_behind ha hN_0
  have hD_1 := defers_behind ha hD_0
  have bb_1 := bb_0.trans hC.below
  have e3_1 := slot_old ha (by kernel_rfl) e3_0
  have l3_1 := hC.locZ l3_0
  have e4_1 := slot_old ha (by kernel_rfl) e4_0
  have l4_1 := hC.locZ l4_0
  have e5_1 := slot_old ha (by kernel_rfl) e5_0
  have l5_1 := hC.locZ l5_0
  have H3_1 := hC.holds H3_0
  have H4_1 := hC.holds H4_0
  have H5_1 := hC.holds H5_0
  have e14_1 := (slot_new (t := 14) (i := 1) ha hN_0 (by kernel_rfl) (by kernel_rfl)).trans (show x 1 = .bool false from hall 1 (of_decide_eq_true (by kernel_rfl)))
  clear hall hC ha bb_0 hD_0 e3_0 l3_0 e4_0 l4_0 e5_0 l5_0 H3_0 H4_0 H5_0
  refine wp_cond_false e14_1 ?_
  repeat (first | refine wp_seq ?_ | (refine wp_skip ?_; refine then_n ?_))
  refine wp_region_law hN_1 w.heap.size
    [kIs (.agg #[.bool b1, .slice A1 k1 c1]), kIs (.agg #[.bool b2, .slice A2 k2 c2]), kIs (.agg #[.bool b3, .slice A3 k3 c3]), kLens [k1, k2, k3], kIs (.bool false)]
    [ [], [], [], [(0, some 15), (1, some 16), (2, some 17)], [(3, some 18)] ]
    [(0, some 15), (1, some 16), (2, some 17), (3, some 18), (4, some 19)] [] [] (by kernel_rfl) (by kernel_rfl) (by kernel_rfl) (by kernel_rfl) (by kernel_rfl) (by kernel_rfl) (by kernel_rfl) bb_1.size ?_ ?_
  ·
    refine pk_cons rfl rfl ?_ ?_
    · exact st_loadV H3_1 e3_1 hN_1 (by kernel_rfl) rfl
    refine pk_cons rfl rfl ?_ ?_
    · exact st_loadV H4_1 e4_1 hN_1 (by kernel_rfl) rfl
    refine pk_cons rfl rfl ?_ ?_
    · exact st_loadV H5_1 e5_1 hN_1 (by kernel_rfl) rfl
    refine pk_cons rfl rfl ?_ ?_
    · exact st_lens3 hN_1 (by kernel_rfl) (by kernel_rfl) (by kernel_rfl) (by kernel_rfl) (by kernel_rfl) (by kernel_rfl) (by kernel_rfl) (Nat.le_refl _) rfl rfl rfl rfl
    refine pk_cons rfl rfl ?_ ?_
    · exact st_call1 hN_1 (by kernel_rfl) (by kernel_rfl) (by kernel_rfl) rfl rfl fun w x v1 hC h1 => ti (great_told false h1 HLE.out (by simp) HSUM.out)
    exact pk_nil rfl
  intro W_2 x hC hall
  refine then_n ?_
  obtain ⟨a_2, ha⟩ : ∃ a, a = putE x a_1 [(0, some 15), (1, some 16), (2, some 17), (3, some 18), (4, some 19)] := ⟨_, rfl⟩
  rw [← ha]
  have hN_2 := size_behind ha hN_1
  have hD_2 := defers_behind ha hD_1
  have bb_2 := bb_1.trans hC.below
  have e3_2 := slot_old ha (by kernel_rfl) e3_1
  have l3_2 := hC.locZ l3_1
  have e4_2 := slot_old ha (by kernel_rfl) e4_1
  have l4_2 := hC.locZ l4_1
  have e5_2 := slot_old ha (by kernel_rfl) e5_1
  have l5_2 := hC.locZ l5_1
  have e14_2 := slot_old ha (by kernel_rfl) e14_1
  have H3_2 := hC.holds H3_1
  have H4_2 := hC.holds H4_1
  have H5_2 := hC.holds H5_1
  have e19_2 := (slot_new (t := 19) (i := 4) ha hN_1 (by kernel_rfl) (by kernel_rfl)).trans (show x 4 = .bool false from hall 4 (of_decide_eq_true (by kernel_rfl)))
  clear hall hC ha bb_1 hD_1 e3_1 l3_1 e4_1 l4_1 e5_1 l5_1 e14_1 H3_1 H4_1 H5_1
  clear H3_2 H4_2 H5_2
  refine wp_cond_false e19_2 ?_
  repeat (first | refine wp_seq ?_ | (refine wp_skip ?_; refine then_n ?_))
  refine wp_region_law hN_2 w.heap.size
    [kZd 1001 (za), kZd 1001 (zb), kZd 1001 (zc), kZs [(1001, (za)), (1001, (zb)), (1001, (zc))], kZ 1002 ((za) + (zb) + (zc)), kZd 1001 (za), kZd 1001 (zb), kZd 1001 (zc), kZs [(1001, (za)), (1001, (zb)), (1001, (zc))], kZ 3003 ((za) * (zb) * (zc)), PK.fresh 2, PK.fresh 2, kPutZ 10 1002 ((za) + (zb) + (zc)), kPutZ 11 3003 ((za) * (zb) * (zc))]
    [ [], [], [], [(0, some 20), (1, some 21), (2, some 22)], [(3, some 23)], [], [], [], [(5, some 25), (6, some 26), (7, some 27)], [(8, some 28)], [], [], [(10, some 7), (4, some 24)], [(11, some 8), (9, some 29)] ]
    [(0, some 20), (1, some 21), (2, some 22), (3, some 23), (4, some 24), (5, some 25), (6, some 26), (7, some 27), (8, some 28), (9, some 29), (10, some 7), (11, some 8), (12, none), (13, none)] [] [] (by kernel_rfl) (by kernel_rfl) (by kernel_rfl) (by kernel_rfl) (by kernel_rfl) (by kernel_rfl) (by kernel_rfl) bb_2.size ?_ ?_
  ·
    refine pk_cons rfl rfl ?_ ?_
    · exact st_loadZ l3_2 e3_2 hN_2 (by kernel_rfl) rfl
    refine pk_cons rfl rfl ?_ ?_
    · exact st_loadZ l4_2 e4_2 hN_2 (by kernel_rfl) rfl
    refine pk_cons rfl rfl ?_ ?_
    · exact st_loadZ l5_2 e5_2 hN_2 (by kernel_rfl) rfl
    refine pk_cons rfl rfl ?_ ?_
    · exact st_list3 hN_2 (by kernel_rfl) (by kernel_rfl) (by kernel_rfl) (by kernel_rfl) (by kernel_rfl) (by kernel_rfl) (by kernel_rfl) (Nat.le_refl _) asD asD asD rfl
    refine pk_cons rfl rfl ?_ ?_
    · exact st_call1 hN_2 (by kernel_rfl) (by kernel_rfl) (by kernel_rfl) rfl rfl fun w x v1 hC h1 => tz (l_add3 1002 (lz h1) (by decide) (by decide) (by decide) (by decide))
    refine pk_cons rfl rfl ?_ ?_
    · exact st_loadZ l3_2 e3_2 hN_2 (by kernel_rfl) rfl
    refine pk_cons rfl rfl ?_ ?_
    · exact st_loadZ l4_2 e4_2 hN_2 (by kernel_rfl) rfl
    refine pk_cons rfl rfl ?_ ?_
    · exact st_loadZ l5_2 e5_2 hN_2 (by kernel_rfl) rfl
    refine pk_cons rfl rfl ?_ ?_
    · exact st_list3 hN_2 (by kernel_rfl) (by kernel_rfl) (by kernel_rfl) (by kernel_rfl) (by kernel_rfl) (by kernel_rfl) (by kernel_rfl) (Nat.le_refl _) asD asD asD rfl
    refine pk_cons rfl rfl ?_ ?_
    · exact st_call1 hN_2 (by kernel_rfl) (by kernel_rfl) (by kernel_rfl) rfl rfl fun w x v1 hC h1 => tz (l_mul3 3003 (lz h1) (by decide) (by decide) (by decide))
    refine pk_cons rfl rfl ?_ ?_
    · exact st_alloc hN_2 (by kernel_rfl) (Nat.le_refl _) rfl
    refine pk_cons rfl rfl ?_ ?_
    · exact st_alloc hN_2 (by kernel_rfl) (Nat.le_refl _) rfl
    refine pk_cons rfl rfl ?_ ?_
    · exact st_put hN_2 (by kernel_rfl) (by kernel_rfl) (by kernel_rfl) rfl rfl rfl
    refine pk_cons rfl rfl ?_ ?_
    · exact st_put hN_2 (by kernel_rfl) (by kernel_rfl) (by kernel_rfl) rfl rfl rfl
    exact pk_nil rfl
  intro W_3 x hC hall
  refine then_n ?_
  obtain ⟨a_3, ha⟩ : ∃ a, a = putE x a_2 [(0, some 20), (1, some 21), (2, some 22), (3, some 23), (4, some 24), (5, some 25), (6, some 26), (7, some 27), (8, some 28), (9, some 29), (10, some 7), (11, some 8), (12, none), (13, none)] := ⟨_, rfl⟩
  rw [← ha]
  have hN_3 := size_behind ha hN_2
  have hD_3 := defers_behind ha hD_2
  have bb_3 := bb_2.trans hC.below
  have e3_3 := slot_old ha (by kernel_rfl) e3_2
  have l3_3 := hC.locZ l3_2
  have e4_3 := slot_old ha (by kernel_rfl) e4_2
  have l4_3 := hC.locZ l4_2
  have e5_3 := slot_old ha (by kernel_rfl) e5_2
  have l5_3 := hC.locZ l5_2
  have e14_3 := slot_old ha (by kernel_rfl) e14_2
  have e19_3 := slot_old ha (by kernel_rfl) e19_2
  obtain ⟨g7, hx, l7_3⟩ := put_loc (show (kPutZ 10 1002 ((za) + (zb) + (zc))).sem _ _ _ _ from hall 12 (of_decide_eq_true (by kernel_rfl)))
  have e7_3 := (slot_new (t := 7) (i := 10) ha hN_2 (by kernel_rfl) (by kernel_rfl)).trans hx
  clear hx
  obtain ⟨g8, hx, l8_3⟩ := put_loc (show (kPutZ 11 3003 ((za) * (zb) * (zc))).sem _ _ _ _ from hall 13 (of_decide_eq_true (by kernel_rfl)))
  have e8_3 := (slot_new (t := 8) (i := 11) ha hN_2 (by kernel_rfl) (by kernel_rfl)).trans hx
  clear hx
  clear hall hC ha bb_2 hD_2 e3_2 l3_2 e4_2 l4_2 e5_2 l5_2 e14_2 e19_2
  repeat (first | refine wp_seq ?_ | (refine wp_skip ?_; refine then_n ?_))
  refine wp_region_law hN_3 w.heap.size
    [kZ 1002 ((za) + (zb) + (zc)), kZ 3003 ((za) * (zb) * (zc)), kZd 1001 (za), kZ 1001 (-(za)), kZd 1001 (za), kZd 1001 (zb), kZ 1002 (za - (zb)), kZd 1001 (za), kZd 1001 (zb), kZd 1001 (zc), kZs [(1001, (za)), (1001, (zb)), (1001, (zc))], kZ 1001 (((zgcd [(za), (zb), (zc)] : Nat) : Int)), kZ 1 (1), kZ 1 (0), kZRs [(1002, (za) + (zb) + (zc)), (3003, (za) * (zb) * (zc)), (1001, -(za)), (1002, za - (zb)), (1001, ((zgcd [(za), (zb), (zc)] : Nat) : Int)), (1, 1), (1, 0)], PK.same 14]
    [ [], [], [], [(2, some 32)], [], [], [(4, some 34), (5, some 35)], [], [], [], [(7, some 37), (8, some 38), (9, some 39)], [(10, some 40)], [], [], [(0, some 30), (1, some 31), (3, some 33), (6, some 36), (11, some 41), (12, some 42), (13, some 43)], [(14, some 44)] ]
    [(0, some 30), (1, some 31), (2, some 32), (3, some 33), (4, some 34), (5, some 35), (6, some 36), (7, some 37), (8, some 38), (9, some 39), (10, some 40), (11, some 41), (12, some 42), (13, some 43), (14, some 44), (15, some 9)] [] [] (by kernel_rfl) (by kernel_rfl) (by kernel_rfl) (by kernel_rfl) (by kernel_rfl) (by kernel_rfl) (by kernel_rfl) bb_3.size ?_ ?_
  ·
    refine pk_cons rfl rfl ?_ ?_
    · exact st_loadR l7_3 e7_3 hN_3 (by kernel_rfl) rfl
    refine pk_cons rfl rfl ?_ ?_
    · exact st_loadR l8_3 e8_3 hN_3 (by kernel_rfl) rfl
    refine pk_cons rfl rfl ?_ ?_
    · exact st_loadZ l3_3 e3_3 hN_3 (by kernel_rfl) rfl
    refine pk_cons rfl rfl ?_ ?_
    · exact st_call1 hN_3 (by kernel_rfl) (by kernel_rfl) (by kernel_rfl) rfl rfl fun w x v1 hC h1 => tz (z_neg (dz h1) (by decide))
    refine pk_cons rfl rfl ?_ ?_
    · exact st_loadZ l3_3 e3_3 hN_3 (by kernel_rfl) rfl
    refine pk_cons rfl rfl ?_ ?_
    · exact st_loadZ l4_3 e4_3 hN_3 (by kernel_rfl) rfl
    refine pk_cons rfl rfl ?_ ?_
    · exact st_call2 hN_3 (by kernel_rfl) (by kernel_rfl) (by kernel_rfl) (by kernel_rfl) (by kernel_rfl) rfl rfl rfl fun w x v1 v2 hC h1 h2 => tz (z_sub 1002 (dz h1) (dz h2) (by decide) (by decide) (by decide))
    refine pk_cons rfl rfl ?_ ?_
    · exact st_loadZ l3_3 e3_3 hN_3 (by kernel_rfl) rfl
    refine pk_cons rfl rfl ?_ ?_
    · exact st_loadZ l4_3 e4_3 hN_3 (by kernel_rfl) rfl
    refine pk_cons rfl rfl ?_ ?_
    · exact st_loadZ l5_3 e5_3 hN_3 (by kernel_rfl) rfl
    refine pk_cons rfl rfl ?_ ?_
    · exact st_list3 hN_3 (by kernel_rfl) (by kernel_rfl) (by kernel_rfl) (by kernel_rfl) (by kernel_rfl) (by kernel_rfl) (by kernel_rfl) (Nat.le_refl _) asD asD asD rfl
    refine pk_cons rfl rfl ?_ ?_
    · exact st_call1 hN_3 (by kernel_rfl) (by kernel_rfl) (by kernel_rfl) rfl rfl fun w x v1 hC h1 => tz (l_gcd 1001 (lz h1) (by kernel_rfl) (by decide) (by simp))
    refine pk_cons rfl rfl ?_ ?_
    · exact st_call0 [Value.slice none 0 0] hN_3 (by kernel_rfl) (by kernel_rfl) rfl rfl fun w x hC => tz z_mul0
    refine pk_cons rfl rfl ?_ ?_
    · exact st_call0 [Value.slice none 0 0] hN_3 (by kernel_rfl) (by kernel_rfl) rfl rfl fun w x hC => tz z_add0
    refine pk_cons rfl rfl ?_ ?_
    · exact st_list7 hN_3 (by kernel_rfl) (by kernel_rfl) rfl (Nat.le_refl _) rfl rfl rfl rfl rfl rfl rfl rfl
    refine pk_cons rfl rfl ?_ ?_
    · exact st_same hN_3 (by kernel_rfl) (by kernel_rfl) rfl
    exact pk_nil rfl
  intro W_4 x hC hall
  refine then_n ?_
  obtain ⟨a_4, ha⟩ : ∃ a, a = putE x a_3 [(0, some 30), (1, some 31), (2, some 32), (3, some 33), (4, some 34), (5, some 35), (6, some 36), (7, some 37), (8, some 38), (9, some 39), (10, some 40), (11, some 41), (12, some 42), (13, some 43), (14, some 44), (15, some 9)] := ⟨_, rfl⟩
  rw [← ha]
  have hN_4 := size_behind ha hN_3
  have hD_4 := defers_behind ha hD_3
  have bb_4 := bb_3.trans hC.below
  have e3_4 := slot_old ha (by kernel_rfl) e3_3
  have l3_4 := hC.locZ l3_3
  have e4_4 := slot_old ha (by kernel_rfl) e4_3
  have l4_4 := hC.locZ l4_3
  have e5_4 := slot_old ha (by kernel_rfl) e5_3
  have l5_4 := hC.locZ l5_3
  have e14_4 := slot_old ha (by kernel_rfl) e14_3
  have e19_4 := slot_old ha (by kernel_rfl) e19_3
  have e7_4 := slot_old ha (by kernel_rfl) e7_3
  have l7_4 := hC.locR l7_3
  have e8_4 := slot_old ha (by kernel_rfl) e8_3
  have l8_4 := hC.locR l8_3
  obtain ⟨gl, hx, _, _, LL_4⟩ := (show (kZRs [(1002, (za) + (zb) + (zc)), (3003, (za) * (zb) * (zc)), (1001, -(za)), (1002, za - (zb)), (1001, ((zgcd [(za), (zb), (zc)] : Nat) : Int)), (1, 1), (1, 0)]).sem _ _ _ _ from hall 14 (of_decide_eq_true (by kernel_rfl)))
  have e9_4 := (slot_new (t := 9) (i := 15) ha hN_3 (by kernel_rfl) (by kernel_rfl)).trans ((show x 15 = x 14 from hall 15 (of_decide_eq_true (by kernel_rfl))).trans hx)
  clear hx
  clear hall hC ha bb_3 hD_3 e3_3 l3_3 e4_3 l4_3 e5_3 l5_3 e14_3 e19_3 e7_3 l7_3 e8_3 l8_3
  repeat (first | refine wp_seq ?_ | (refine wp_skip ?_; refine then_n ?_))
  refine wp_region_law hN_4 w.heap.size
    [kIs (.int .i64 (0))]
    [ [] ]
    [(0, some 10)] [] [] (by kernel_rfl) (by kernel_rfl) (by kernel_rfl) (by kernel_rfl) (by kernel_rfl) (by kernel_rfl) (by kernel_rfl) bb_4.size ?_ ?_
  ·
    refine pk_cons rfl rfl ?_ ?_
    · exact st_pure [] [] (.int .i64 (0)) rfl hN_4 (by kernel_rfl) (by kernel_rfl) (by kernel_rfl) old0 (by kernel_rfl) (by kernel_rfl) (by kernel_rfl) (fun _ => by kernel_rfl)
    exact pk_nil rfl
  intro W_5 x hC hall
  refine then_n ?_
  obtain ⟨a_5, ha⟩ : ∃ a, a = putE x a_4 [(0, some 10)] := ⟨_, rfl⟩
  rw [← ha]
  have hN_5 := size_behind ha hN_4
  have hD_5 := defers_behind ha hD_4
  have bb_5 := bb_4.trans hC.below
  have e3_5 := slot_old ha (by kernel_rfl) e3_4
  have l3_5 := hC.locZ l3_4
  have e4_5 := slot_old ha (by kernel_rfl) e4_4
  have l4_5 := hC.locZ l4_4
  have e5_5 := slot_old ha (by kernel_rfl) e5_4
  have l5_5 := hC.locZ l5_4
  have e14_5 := slot_old ha (by kernel_rfl) e14_4
  have e19_5 := slot_old ha (by kernel_rfl) e19_4
  have e7_5 := slot_old ha (by kernel_rfl) e7_4
  have l7_5 := hC.locR l7_4
  have e8_5 := slot_old ha (by kernel_rfl) e8_4
  have l8_5 := hC.locR l8_4
  have e9_5 := slot_old ha (by kernel_rfl) e9_4
  have LL_5 := hC.zrs LL_4
  have e10_5 := (slot_new (t := 10) (i := 0) ha hN_4 (by kernel_rfl) (by kernel_rfl)).trans (show x 0 = .int .i64 (0) from hall 0 (of_decide_eq_true (by kernel_rfl)))
  clear hall hC ha bb_4 hD_4 e3_4 l3_4 e4_4 l4_4 e5_4 l5_4 e14_4 e19_4 e7_4 l7_4 e8_4 l8_4 e9_4 LL_4
  repeat (first | refine wp_seq ?_ | (refine wp_skip ?_; refine then_n ?_))
  have hzb : ∀ q ∈ [(1002, ((za) + (zb) + (zc) : Int)), (3003, ((za) * (zb) * (zc) : Int)), (1001, (-(za) : Int)), (1002, (za - (zb) : Int)), (1001, (((zgcd [(za), (zb), (zc)] : Nat) : Int) : Int)), (1, (1 : Int)), (1, (0 : Int))], q.2.natAbs < 1000000000 ^ q.1 := fun q hq => by
    obtain ⟨j, hj⟩ := List.getElem?_of_mem hq
    obtain ⟨_, _, _, _, _, hr⟩ := LL_5 j q hj
    exact hr.lt
  have HZB := Lib.hid hzb
  clear hzb
  refine wp_block ?_
  refine wp_loop (fun a W => a.tmps.size = 199 ∧ a.defers = [] ∧ a.eval (.tmp 3) = .pointer (some ⟨w.heap.size, 0, none⟩) ∧ a.eval (.tmp 4) = .pointer (some ⟨w.heap.size + 1, 0, none⟩) ∧ a.eval (.tmp 5) = .pointer (some ⟨w.heap.size + 1 + 1, 0, none⟩) ∧ a.eval (.tmp 7) = .pointer (some ⟨g7, 0, none⟩) ∧ a.eval (.tmp 8) = .pointer (some ⟨g8, 0, none⟩) ∧ a.eval (.tmp 9) = .slice (some ⟨gl, 0, none⟩) 7 7 ∧ (∃ i : Nat, i ≤ 7 ∧ a.eval (.tmp 10) = .int .i64 (i : Int)) ∧ Below w.heap.size w W ∧ LocZ W (w.heap.size) 1001 za ∧ LocZ W (w.heap.size + 1) 1001 zb ∧ LocZ W (w.heap.size + 1 + 1) 1001 zc ∧ LocR W g7 1002 ((za) + (zb) + (zc)) ∧ LocR W g8 3003 ((za) * (zb) * (zc)) ∧ ZRs W gl [(1002, (za) + (zb) + (zc)), (3003, (za) * (zb) * (zc)), (1001, -(za)), (1002, za - (zb)), (1001, ((zgcd [(za), (zb), (zc)] : Nat) : Int)), (1, 1), (1, 0)]) (fun a _ => 7 - (intOf (a.eval (.tmp 10))).toNat) ?_ ?_
  · exact ⟨hN_5, hD_5, e3_5, e4_5, e5_5, e7_5, e8_5, e9_5, ⟨0, by decide, e10_5⟩, bb_5, l3_5, l4_5, l5_5, l7_5, l8_5, LL_5⟩
  clear hN_5 hD_5 bb_5 LL_5 e10_5 e3_5 e4_5 e5_5 e7_5 e8_5 e9_5 l3_5 l4_5 l5_5 l7_5 l8_5
  rintro a_5 W_5 ⟨hN_5, hD_5, e3_5, e4_5, e5_5, e7_5, e8_5, e9_5, ⟨i, hi, e10_5⟩, bb_5, l3_5, l4_5, l5_5, l7_5, l8_5, LL_5⟩
  rcases (by omega : i = 0 ∨ i = 1 ∨ i = 2 ∨ i = 3 ∨ i = 4 ∨ i = 5 ∨ i = 6 ∨ i = 7) with rfl | rfl | rfl | rfl | rfl | rfl | rfl | rfl
  ·
    have hm : intOf (a_5.eval (.tmp 10)) = 0 := by rw [e10_5]; rfl
    rw [hm]
    clear hi hm
    repeat (first | refine wp_seq ?_ | (refine wp_skip ?_; refine then_n ?_))
    refine wp_region_law hN_5 w.heap.size
      [kIs (.int .i64 (0)), kIs (.slice (some ⟨gl, 0, none⟩) 7 7), kIs (.int .i64 (7)), kIs (.bool true)]
      [ [], [], [(1, some 46)], [(0, some 45), (2, some 47)] ]
      [(0, some 45), (1, some 46), (2, some 47), (3, some 48)] [] [] (by kernel_rfl) (by kernel_rfl) (by kernel_rfl) (by kernel_rfl) (by kernel_rfl) (by kernel_rfl) (by kernel_rfl) bb_5.size ?_ ?_
    ·
      refine pk_cons rfl rfl ?_ ?_
      · exact st_pure [] [(10, .int .i64 (0))] (.int .i64 (0)) rfl hN_5 (by kernel_rfl) (by kernel_rfl) (by kernel_rfl) (old1 e10_5) (by kernel_rfl) (by kernel_rfl) (by kernel_rfl) (fun _ => by kernel_rfl)
      refine pk_cons rfl rfl ?_ ?_
      · exact st_pure [] [(9, .slice (some ⟨gl, 0, none⟩) 7 7)] (.slice (some ⟨gl, 0, none⟩) 7 7) rfl hN_5 (by kernel_rfl) (by kernel_rfl) (by kernel_rfl) (old1 e9_5) (by kernel_rfl) (by kernel_rfl) (by kernel_rfl) (fun _ => by kernel_rfl)
      refine pk_cons rfl rfl ?_ ?_
      · exact st_pure [.slice (some ⟨gl, 0, none⟩) 7 7] [] (.int .i64 (7)) rfl hN_5 (by kernel_rfl) (by kernel_rfl) (by kernel_rfl) old0 (by kernel_rfl) (by kernel_rfl) (by kernel_rfl) (fun _ => by kernel_rfl)
      refine pk_cons rfl rfl ?_ ?_
      · exact st_pure [.int .i64 (0), .int .i64 (7)] [] (.bool true) rfl hN_5 (by kernel_rfl) (by kernel_rfl) (by kernel_rfl) old0 (by kernel_rfl) (by kernel_rfl) (by kernel_rfl) (fun _ => by kernel_rfl)
      exact pk_nil rfl
    intro W_6 x hC hall
    refine then_n ?_
    obtain ⟨a_6, ha⟩ : ∃ a, a = putE x a_5 [(0, some 45), (1, some 46), (2, some 47), (3, some 48)] := ⟨_, rfl⟩
    rw [← ha]
    have hN_6 := size_behind ha hN_5
    have hD_6 := defers_behind ha hD_5
    have bb_6 := bb_5.trans hC.below
    have e3_6 := slot_old ha (by kernel_rfl) e3_5
    have l3_6 := hC.locZ l3_5
    have e4_6 := slot_old ha (by kernel_rfl) e4_5
    have l4_6 := hC.locZ l4_5
    have e5_6 := slot_old ha (by kernel_rfl) e5_5
    have l5_6 := hC.locZ l5_5
    have e7_6 := slot_old ha (by kernel_rfl) e7_5
    have l7_6 := hC.locR l7_5
    have e8_6 := slot_old ha (by kernel_rfl) e8_5
    have l8_6 := hC.locR l8_5
    have e9_6 := slot_old ha (by kernel_rfl) e9_5
    have e10_6 := slot_old ha (by kernel_rfl) e10_5
    have LL_6 := hC.zrs LL_5
    have e48_6 := (slot_new (t := 48) (i := 3) ha hN_5 (by kernel_rfl) (by kernel_rfl)).trans (show x 3 = .bool true from hall 3 (of_decide_eq_true (by kernel_rfl)))
    clear hall hC ha bb_5 hD_5 e3_5 l3_5 e4_5 l4_5 e5_5 l5_5 e7_5 l7_5 e8_5 l8_5 e9_5 e10_5 LL_5
    refine wp_cond_true e48_6 ?_
    repeat (first | refine wp_seq ?_ | (refine wp_skip ?_; refine then_n ?_))
    refine wp_block ?_
    repeat (first | refine wp_seq ?_ | (refine wp_skip ?_; refine then_n ?_))
    refine wp_region_law hN_6 w.heap.size
      [kIs (.slice (some ⟨gl, 0, none⟩) 7 7), kIs (.int .i64 (0)), kIs (.pointer (some ⟨gl, 0, none⟩)), kZ 1002 ((za) + (zb) + (zc)), kIs (.string (ztext ((za) + (zb) + (zc)))), kZB 1002 ((za) + (zb) + (zc)) true, kZB 1002 ((za) + (zb) + (zc)) true, kZ 1002 ((za) + (zb) + (zc)), kIs (.bool true), PK.fresh 2, kPutZ 9 1002 ((za) + (zb) + (zc)), kIs (.bool true)]
      [ [], [], [(0, some 52), (1, some 53)], [(2, some 54)], [(3, some 55)], [(4, some 56)], [(5, some 57)], [(6, some 51)], [(6, some 51)], [], [(9, some 11), (7, some 58)], [(8, some 59)] ]
      [(0, some 52), (1, some 53), (2, some 54), (3, some 55), (4, some 56), (5, some 57), (6, some 51), (7, some 58), (8, some 59), (9, some 11), (10, none), (11, some 12)] [] [] (by kernel_rfl) (by kernel_rfl) (by kernel_rfl) (by kernel_rfl) (by kernel_rfl) (by kernel_rfl) (by kernel_rfl) bb_6.size ?_ ?_
    ·
      refine pk_cons rfl rfl ?_ ?_
      · exact st_pure [] [(9, .slice (some ⟨gl, 0, none⟩) 7 7)] (.slice (some ⟨gl, 0, none⟩) 7 7) rfl hN_6 (by kernel_rfl) (by kernel_rfl) (by kernel_rfl) (old1 e9_6) (by kernel_rfl) (by kernel_rfl) (by kernel_rfl) (fun _ => by kernel_rfl)
      refine pk_cons rfl rfl ?_ ?_
      · exact st_pure [] [(10, .int .i64 (0))] (.int .i64 (0)) rfl hN_6 (by kernel_rfl) (by kernel_rfl) (by kernel_rfl) (old1 e10_6) (by kernel_rfl) (by kernel_rfl) (by kernel_rfl) (fun _ => by kernel_rfl)
      refine pk_cons rfl rfl ?_ ?_
      · exact st_pure [.slice (some ⟨gl, 0, none⟩) 7 7, .int .i64 (0)] [] (.pointer (some ⟨gl, 0, none⟩)) rfl hN_6 (by kernel_rfl) (by kernel_rfl) (by kernel_rfl) old0 (by kernel_rfl) (by kernel_rfl) (by kernel_rfl) (fun _ => by kernel_rfl)
      refine pk_cons rfl rfl ?_ ?_
      · exact st_loadI LL_6 (n := 0) rfl rfl hN_6 (by kernel_rfl) (by kernel_rfl) rfl rfl
      refine pk_cons rfl rfl ?_ ?_
      · exact st_call1 hN_6 (by kernel_rfl) (by kernel_rfl) (by kernel_rfl) rfl rfl fun w x v1 hC h1 => ti (z_text (rz h1) (by decide) (HT.out.1.below (bb_6.trans hC.below) HT.out.2) (Nat.le_trans HT.out.2 (bb_6.trans hC.below).size))
      refine pk_cons rfl rfl ?_ ?_
      · exact st_call1 hN_6 (by kernel_rfl) (by kernel_rfl) (by kernel_rfl) rfl rfl fun w x v1 hC h1 => parse_at (k := 1002) (z := (za) + (zb) + (zc)) HZB 0 rfl h1 (by decide)
      refine pk_cons rfl rfl ?_ ?_
      · exact st_move hN_6 (by kernel_rfl) (by kernel_rfl) rfl rfl
      refine pk_cons rfl rfl ?_ ?_
      · exact st_ext hN_6 (by kernel_rfl) (by kernel_rfl) rfl rfl ext_z
      refine pk_cons rfl rfl ?_ ?_
      · exact st_ext hN_6 (by kernel_rfl) (by kernel_rfl) rfl rfl ext_ok
      refine pk_cons rfl rfl ?_ ?_
      · exact st_alloc hN_6 (by kernel_rfl) (Nat.le_refl _) rfl
      refine pk_cons rfl rfl ?_ ?_
      · exact st_put hN_6 (by kernel_rfl) (by kernel_rfl) (by kernel_rfl) rfl rfl rfl
      refine pk_cons rfl rfl ?_ ?_
      · exact st_pure [.bool true] [] (.bool true) rfl hN_6 (by kernel_rfl) (by kernel_rfl) (by kernel_rfl) old0 (by kernel_rfl) (by kernel_rfl) (by kernel_rfl) (fun _ => by kernel_rfl)
      exact pk_nil rfl
    intro W_7 x hC hall
    refine then_n ?_
    obtain ⟨a_7, ha⟩ : ∃ a, a = putE x a_6 [(0, some 52), (1, some 53), (2, some 54), (3, some 55), (4, some 56), (5, some 57), (6, some 51), (7, some 58), (8, some 59), (9, some 11), (10, none), (11, some 12)] := ⟨_, rfl⟩
    rw [← ha]
    have hN_7 := size_behind ha hN_6
    have hD_7 := defers_behind ha hD_6
    have bb_7 := bb_6.trans hC.below
    have e3_7 := slot_old ha (by kernel_rfl) e3_6
    have l3_7 := hC.locZ l3_6
    have e4_7 := slot_old ha (by kernel_rfl) e4_6
    have l4_7 := hC.locZ l4_6
    have e5_7 := slot_old ha (by kernel_rfl) e5_6
    have l5_7 := hC.locZ l5_6
    have e7_7 := slot_old ha (by kernel_rfl) e7_6
    have l7_7 := hC.locR l7_6
    have e8_7 := slot_old ha (by kernel_rfl) e8_6
    have l8_7 := hC.locR l8_6
    have e9_7 := slot_old ha (by kernel_rfl) e9_6
    have e10_7 := slot_old ha (by kernel_rfl) e10_6
    have e48_7 := slot_old ha (by kernel_rfl) e48_6
    have LL_7 := hC.zrs LL_6
    obtain ⟨g11, hx, l11_7⟩ := put_loc (show (kPutZ 9 1002 ((za) + (zb) + (zc))).sem _ _ _ _ from hall 10 (of_decide_eq_true (by kernel_rfl)))
    have e11_7 := (slot_new (t := 11) (i := 9) ha hN_6 (by kernel_rfl) (by kernel_rfl)).trans hx
    clear hx
    have e12_7 := (slot_new (t := 12) (i := 11) ha hN_6 (by kernel_rfl) (by kernel_rfl)).trans (show x 11 = .bool true from hall 11 (of_decide_eq_true (by kernel_rfl)))
    clear hall hC ha bb_6 hD_6 e3_6 l3_6 e4_6 l4_6 e5_6 l5_6 e7_6 l7_6 e8_6 l8_6 e9_6 e10_6 e48_6 LL_6
    repeat (first | refine wp_seq ?_ | (refine wp_skip ?_; refine then_n ?_))
    refine wp_region_law hN_7 w.heap.size
      [kIs (.slice (some ⟨gl, 0, none⟩) 7 7), kIs (.int .i64 (0)), kIs (.pointer (some ⟨gl, 0, none⟩)), kZ 1002 ((za) + (zb) + (zc)), kIs (.bool true), kIs (.bool false), kIs (.bool false), kIs (.bool true), kIs (.bool false), kIs (.bool false), kIs (.bool false), kZ 1002 ((za) + (zb) + (zc)), kIs (.slice (some ⟨gl, 0, none⟩) 7 7), kIs (.int .i64 (0)), kIs (.pointer (some ⟨gl, 0, none⟩)), kZ 1002 ((za) + (zb) + (zc)), kIs (.bool true), kIs (.bool false), kIs (.bool false)]
      [ [], [], [(0, some 60), (1, some 61)], [(2, some 62)], [(3, some 63)], [(4, some 64)], [(5, some 65)], [], [(7, some 67)], [(6, some 66), (8, some 68)], [(9, some 69)], [], [], [], [(12, some 72), (13, some 73)], [(14, some 74)], [(11, some 71), (15, some 75)], [(16, some 76)], [(10, some 70), (17, some 77)] ]
      [(0, some 60), (1, some 61), (2, some 62), (3, some 63), (4, some 64), (5, some 65), (6, some 66), (7, some 67), (8, some 68), (9, some 69), (10, some 70), (11, some 71), (12, some 72), (13, some 73), (14, some 74), (15, some 75), (16, some 76), (17, some 77), (18, some 78)] [(6, false), (10, false)] [] (by kernel_rfl) (by kernel_rfl) (by kernel_rfl) (by kernel_rfl) (by kernel_rfl) (by kernel_rfl) (by kernel_rfl) bb_7.size ?_ ?_
    ·
      refine pk_cons rfl rfl ?_ ?_
      · exact st_pure [] [(9, .slice (some ⟨gl, 0, none⟩) 7 7)] (.slice (some ⟨gl, 0, none⟩) 7 7) rfl hN_7 (by kernel_rfl) (by kernel_rfl) (by kernel_rfl) (old1 e9_7) (by kernel_rfl) (by kernel_rfl) (by kernel_rfl) (fun _ => by kernel_rfl)
      refine pk_cons rfl rfl ?_ ?_
      · exact st_pure [] [(10, .int .i64 (0))] (.int .i64 (0)) rfl hN_7 (by kernel_rfl) (by kernel_rfl) (by kernel_rfl) (old1 e10_7) (by kernel_rfl) (by kernel_rfl) (by kernel_rfl) (fun _ => by kernel_rfl)
      refine pk_cons rfl rfl ?_ ?_
      · exact st_pure [.slice (some ⟨gl, 0, none⟩) 7 7, .int .i64 (0)] [] (.pointer (some ⟨gl, 0, none⟩)) rfl hN_7 (by kernel_rfl) (by kernel_rfl) (by kernel_rfl) old0 (by kernel_rfl) (by kernel_rfl) (by kernel_rfl) (fun _ => by kernel_rfl)
      refine pk_cons rfl rfl ?_ ?_
      · exact st_loadI LL_7 (n := 0) rfl rfl hN_7 (by kernel_rfl) (by kernel_rfl) rfl rfl
      refine pk_cons rfl rfl ?_ ?_
      · exact st_call1 hN_7 (by kernel_rfl) (by kernel_rfl) (by kernel_rfl) rfl rfl fun w x v1 hC h1 => ti (z_right (rr h1))
      refine pk_cons rfl rfl ?_ ?_
      · exact st_pure [.bool true] [] (.bool false) rfl hN_7 (by kernel_rfl) (by kernel_rfl) (by kernel_rfl) old0 (by kernel_rfl) (by kernel_rfl) (by kernel_rfl) (fun _ => by kernel_rfl)
      refine pk_cons rfl rfl ?_ ?_
      · exact st_pure [.bool false] [] (.bool false) rfl hN_7 (by kernel_rfl) (by kernel_rfl) (by kernel_rfl) old0 (by kernel_rfl) (by kernel_rfl) (by kernel_rfl) (fun _ => by kernel_rfl)
      refine pk_cons rfl rfl ?_ ?_
      · exact st_pure [] [(12, .bool true)] (.bool true) rfl hN_7 (by kernel_rfl) (by kernel_rfl) (by kernel_rfl) (old1 e12_7) (by kernel_rfl) (by kernel_rfl) (by kernel_rfl) (fun _ => by kernel_rfl)
      refine pk_cons rfl rfl ?_ ?_
      · exact st_pure [.bool true] [] (.bool false) rfl hN_7 (by kernel_rfl) (by kernel_rfl) (by kernel_rfl) old0 (by kernel_rfl) (by kernel_rfl) (by kernel_rfl) (fun _ => by kernel_rfl)
      refine pk_cons rfl rfl ?_ ?_
      · exact st_pure [.bool false, .bool false] [] (.bool false) rfl hN_7 (by kernel_rfl) (by kernel_rfl) (by kernel_rfl) old0 (by kernel_rfl) (by kernel_rfl) (by kernel_rfl) (fun _ => by kernel_rfl)
      refine pk_cons rfl rfl ?_ ?_
      · exact st_pure [.bool false] [] (.bool false) rfl hN_7 (by kernel_rfl) (by kernel_rfl) (by kernel_rfl) old0 (by kernel_rfl) (by kernel_rfl) (by kernel_rfl) (fun _ => by kernel_rfl)
      refine pk_cons rfl rfl ?_ ?_
      · exact st_loadR l11_7 e11_7 hN_7 (by kernel_rfl) rfl
      refine pk_cons rfl rfl ?_ ?_
      · exact st_pure [] [(9, .slice (some ⟨gl, 0, none⟩) 7 7)] (.slice (some ⟨gl, 0, none⟩) 7 7) rfl hN_7 (by kernel_rfl) (by kernel_rfl) (by kernel_rfl) (old1 e9_7) (by kernel_rfl) (by kernel_rfl) (by kernel_rfl) (fun _ => by kernel_rfl)
      refine pk_cons rfl rfl ?_ ?_
      · exact st_pure [] [(10, .int .i64 (0))] (.int .i64 (0)) rfl hN_7 (by kernel_rfl) (by kernel_rfl) (by kernel_rfl) (old1 e10_7) (by kernel_rfl) (by kernel_rfl) (by kernel_rfl) (fun _ => by kernel_rfl)
      refine pk_cons rfl rfl ?_ ?_
      · exact st_pure [.slice (some ⟨gl, 0, none⟩) 7 7, .int .i64 (0)] [] (.pointer (some ⟨gl, 0, none⟩)) rfl hN_7 (by kernel_rfl) (by kernel_rfl) (by kernel_rfl) old0 (by kernel_rfl) (by kernel_rfl) (by kernel_rfl) (fun _ => by kernel_rfl)
      refine pk_cons rfl rfl ?_ ?_
      · exact st_loadI LL_7 (n := 0) rfl rfl hN_7 (by kernel_rfl) (by kernel_rfl) rfl rfl
      refine pk_cons rfl rfl ?_ ?_
      · exact st_call2 hN_7 (by kernel_rfl) (by kernel_rfl) (by kernel_rfl) (by kernel_rfl) (by kernel_rfl) rfl rfl rfl fun w x v1 v2 hC h1 h2 => ti (z_same (rr h1) (rr h2) (rfl))
      refine pk_cons rfl rfl ?_ ?_
      · exact st_pure [.bool true] [] (.bool false) rfl hN_7 (by kernel_rfl) (by kernel_rfl) (by kernel_rfl) old0 (by kernel_rfl) (by kernel_rfl) (by kernel_rfl) (fun _ => by kernel_rfl)
      refine pk_cons rfl rfl ?_ ?_
      · exact st_pure [.bool false, .bool false] [] (.bool false) rfl hN_7 (by kernel_rfl) (by kernel_rfl) (by kernel_rfl) old0 (by kernel_rfl) (by kernel_rfl) (by kernel_rfl) (fun _ => by kernel_rfl)
      exact pk_nil rfl
    intro W_8 x hC hall
    refine then_n ?_
    obtain ⟨a_8, ha⟩ : ∃ a, a = putE x a_7 [(0, some 60), (1, some 61), (2, some 62), (3, some 63), (4, some 64), (5, some 65), (6, some 66), (7, some 67), (8, some 68), (9, some 69), (10, some 70), (11, some 71), (12, some 72), (13, some 73), (14, some 74), (15, some 75), (16, some 76), (17, some 77), (18, some 78)] := ⟨_, rfl⟩
    rw [← ha]
    have hN_8 := size_behind ha hN_7
    have hD_8 := defers_behind ha hD_7
    have bb_8 := bb_7.trans hC.below
    have e3_8 := slot_old ha (by kernel_rfl) e3_7
    have l3_8 := hC.locZ l3_7
    have e4_8 := slot_old ha (by kernel_rfl) e4_7
    have l4_8 := hC.locZ l4_7
    have e5_8 := slot_old ha (by kernel_rfl) e5_7
    have l5_8 := hC.locZ l5_7
    have e7_8 := slot_old ha (by kernel_rfl) e7_7
    have l7_8 := hC.locR l7_7
    have e8_8 := slot_old ha (by kernel_rfl) e8_7
    have l8_8 := hC.locR l8_7
    have e9_8 := slot_old ha (by kernel_rfl) e9_7
    have e10_8 := slot_old ha (by kernel_rfl) e10_7
    have e48_8 := slot_old ha (by kernel_rfl) e48_7
    have e11_8 := slot_old ha (by kernel_rfl) e11_7
    have l11_8 := hC.locR l11_7
    have e12_8 := slot_old ha (by kernel_rfl) e12_7
    have LL_8 := hC.zrs LL_7
    have e78_8 := (slot_new (t := 78) (i := 18) ha hN_7 (by kernel_rfl) (by kernel_rfl)).trans (show x 18 = .bool false from hall 18 (of_decide_eq_true (by kernel_rfl)))
    clear hall hC ha bb_7 hD_7 e3_7 l3_7 e4_7 l4_7 e5_7 l5_7 e7_7 l7_7 e8_7 l8_7 e9_7 e10_7 e48_7 e11_7 l11_7 e12_7 LL_7
    refine wp_cond_false e78_8 ?_
    repeat (first | refine wp_seq ?_ | (refine wp_skip ?_; refine then_n ?_))
    refine wp_skip ?_
    refine in_block ?_
    refine then_n ?_
    refine wp_incr (n := 0) (m := 1) hN_8 (by kernel_rfl) (by kernel_rfl) e10_8 (fun _ => by kernel_rfl) ?_
    intro x hx
    refine then_n ?_
    obtain ⟨a_9, ha⟩ : ∃ a, a = putE x a_8 [(0, some 49), (1, some 50), (2, some 10)] := ⟨_, rfl⟩
    rw [← ha]
    have hN_9 := size_behind ha hN_8
    have hD_9 := defers_behind ha hD_8
    have bb_9 := bb_8
    have e3_9 := slot_old ha (by kernel_rfl) e3_8
    have l3_9 := l3_8
    have e4_9 := slot_old ha (by kernel_rfl) e4_8
    have l4_9 := l4_8
    have e5_9 := slot_old ha (by kernel_rfl) e5_8
    have l5_9 := l5_8
    have e7_9 := slot_old ha (by kernel_rfl) e7_8
    have l7_9 := l7_8
    have e8_9 := slot_old ha (by kernel_rfl) e8_8
    have l8_9 := l8_8
    have e9_9 := slot_old ha (by kernel_rfl) e9_8
    have e48_9 := slot_old ha (by kernel_rfl) e48_8
    have e11_9 := slot_old ha (by kernel_rfl) e11_8
    have l11_9 := l11_8
    have e12_9 := slot_old ha (by kernel_rfl) e12_8
    have e78_9 := slot_old ha (by kernel_rfl) e78_8
    have LL_9 := LL_8
    have e10_9 := (slot_new (t := 10) (i := 2) ha hN_8 (by kernel_rfl) (by kernel_rfl)).trans hx
    clear ha hx
    refine ⟨⟨hN_9, hD_9, e3_9, e4_9, e5_9, e7_9, e8_9, e9_9, ⟨1, by decide, e10_9⟩, bb_9, l3_9, l4_9, l5_9, l7_9, l8_9, LL_9⟩, ?_⟩
    rw [e10_9]; decide
  ·
    have hm : intOf (a_5.eval (.tmp 10)) = 1 := by rw [e10_5]; rfl
    rw [hm]
    clear hi hm
    repeat (first | refine wp_seq ?_ | (refine wp_skip ?_; refine then_n ?_))
    refine wp_region_law hN_5 w.heap.size
      [kIs (.int .i64 (1)), kIs (.slice (some ⟨gl, 0, none⟩) 7 7), kIs (.int .i64 (7)), kIs (.bool true)]
      [ [], [], [(1, some 46)], [(0, some 45), (2, some 47)] ]
      [(0, some 45), (1, some 46), (2, some 47), (3, some 48)] [] [] (by kernel_rfl) (by kernel_rfl) (by kernel_rfl) (by kernel_rfl) (by kernel_rfl) (by kernel_rfl) (by kernel_rfl) bb_5.size ?_ ?_
    ·
      refine pk_cons rfl rfl ?_ ?_
      · exact st_pure [] [(10, .int .i64 (1))] (.int .i64 (1)) rfl hN_5 (by kernel_rfl) (by kernel_rfl) (by kernel_rfl) (old1 e10_5) (by kernel_rfl) (by kernel_rfl) (by kernel_rfl) (fun _ => by kernel_rfl)
      refine pk_cons rfl rfl ?_ ?_
      · exact st_pure [] [(9, .slice (some ⟨gl, 0, none⟩) 7 7)] (.slice (some ⟨gl, 0, none⟩) 7 7) rfl hN_5 (by kernel_rfl) (by kernel_rfl) (by kernel_rfl) (old1 e9_5) (by kernel_rfl) (by kernel_rfl) (by kernel_rfl) (fun _ => by kernel_rfl)
      refine pk_cons rfl rfl ?_ ?_
      · exact st_pure [.slice (some ⟨gl, 0, none⟩) 7 7] [] (.int .i64 (7)) rfl hN_5 (by kernel_rfl) (by kernel_rfl) (by kernel_rfl) old0 (by kernel_rfl) (by kernel_rfl) (by kernel_rfl) (fun _ => by kernel_rfl)
      refine pk_cons rfl rfl ?_ ?_
      · exact st_pure [.int .i64 (1), .int .i64 (7)] [] (.bool true) rfl hN_5 (by kernel_rfl) (by kernel_rfl) (by kernel_rfl) old0 (by kernel_rfl) (by kernel_rfl) (by kernel_rfl) (fun _ => by kernel_rfl)
      exact pk_nil rfl
    intro W_6 x hC hall
    refine then_n ?_
    obtain ⟨a_6, ha⟩ : ∃ a, a = putE x a_5 [(0, some 45), (1, some 46), (2, some 47), (3, some 48)] := ⟨_, rfl⟩
    rw [← ha]
    have hN_6 := size_behind ha hN_5
    have hD_6 := defers_behind ha hD_5
    have bb_6 := bb_5.trans hC.below
    have e3_6 := slot_old ha (by kernel_rfl) e3_5
    have l3_6 := hC.locZ l3_5
    have e4_6 := slot_old ha (by kernel_rfl) e4_5
    have l4_6 := hC.locZ l4_5
    have e5_6 := slot_old ha (by kernel_rfl) e5_5
    have l5_6 := hC.locZ l5_5
    have e7_6 := slot_old ha (by kernel_rfl) e7_5
    have l7_6 := hC.locR l7_5
    have e8_6 := slot_old ha (by kernel_rfl) e8_5
    have l8_6 := hC.locR l8_5
    have e9_6 := slot_old ha (by kernel_rfl) e9_5
    have e10_6 := slot_old ha (by kernel_rfl) e10_5
    have LL_6 := hC.zrs LL_5
    have e48_6 := (slot_new (t := 48) (i := 3) ha hN_5 (by kernel_rfl) (by kernel_rfl)).trans (show x 3 = .bool true from hall 3 (of_decide_eq_true (by kernel_rfl)))
    clear hall hC ha bb_5 hD_5 e3_5 l3_5 e4_5 l4_5 e5_5 l5_5 e7_5 l7_5 e8_5 l8_5 e9_5 e10_5 LL_5
    refine wp_cond_true e48_6 ?_
    repeat (first | refine wp_seq ?_ | (refine wp_skip ?_; refine then_n ?_))
    refine wp_block ?_
    repeat (first | refine wp_seq ?_ | (refine wp_skip ?_; refine then_n ?_))
    refine wp_region_law hN_6 w.heap.size
      [kIs (.slice (some ⟨gl, 0, none⟩) 7 7), kIs (.int .i64 (1)), kIs (.pointer (some ⟨gl, 2, none⟩)), kZ 3003 ((za) * (zb) * (zc)), kIs (.string (ztext ((za) * (zb) * (zc)))), kZB 3003 ((za) * (zb) * (zc)) true, kZB 3003 ((za) * (zb) * (zc)) true, kZ 3003 ((za) * (zb) * (zc)), kIs (.bool true), PK.fresh 2, kPutZ 9 3003 ((za) * (zb) * (zc)), kIs (.bool true)]
      [ [], [], [(0, some 52), (1, some 53)], [(2, some 54)], [(3, some 55)], [(4, some 56)], [(5, some 57)], [(6, some 51)], [(6, some 51)], [], [(9, some 11), (7, some 58)], [(8, some 59)] ]
      [(0, some 52), (1, some 53), (2, some 54), (3, some 55), (4, some 56), (5, some 57), (6, some 51), (7, some 58), (8, some 59), (9, some 11), (10, none), (11, some 12)] [] [] (by kernel_rfl) (by kernel_rfl) (by kernel_rfl) (by kernel_rfl) (by kernel_rfl) (by kernel_rfl) (by kernel_rfl) bb_6.size ?_ ?_
    ·
      refine pk_cons rfl rfl ?_ ?_
      · exact st_pure [] [(9, .slice (some ⟨gl, 0, none⟩) 7 7)] (.slice (some ⟨gl, 0, none⟩) 7 7) rfl hN_6 (by kernel_rfl) (by kernel_rfl) (by kernel_rfl) (old1 e9_6) (by kernel_rfl) (by kernel_rfl) (by kernel_rfl) (fun _ => by kernel_rfl)
      refine pk_cons rfl rfl ?_ ?_
      · exact st_pure [] [(10, .int .i64 (1))] (.int .i64 (1)) rfl hN_6 (by kernel_rfl) (by kernel_rfl) (by kernel_rfl) (old1 e10_6) (by kernel_rfl) (by kernel_rfl) (by kernel_rfl) (fun _ => by kernel_rfl)
      refine pk_cons rfl rfl ?_ ?_
      · exact st_pure [.slice (some ⟨gl, 0, none⟩) 7 7, .int .i64 (1)] [] (.pointer (some ⟨gl, 2, none⟩)) rfl hN_6 (by kernel_rfl) (by kernel_rfl) (by kernel_rfl) old0 (by kernel_rfl) (by kernel_rfl) (by kernel_rfl) (fun _ => by kernel_rfl)
      refine pk_cons rfl rfl ?_ ?_
      · exact st_loadI LL_6 (n := 1) rfl rfl hN_6 (by kernel_rfl) (by kernel_rfl) rfl rfl
      refine pk_cons rfl rfl ?_ ?_
      · exact st_call1 hN_6 (by kernel_rfl) (by kernel_rfl) (by kernel_rfl) rfl rfl fun w x v1 hC h1 => ti (z_text (rz h1) (by decide) (HT.out.1.below (bb_6.trans hC.below) HT.out.2) (Nat.le_trans HT.out.2 (bb_6.trans hC.below).size))
      refine pk_cons rfl rfl ?_ ?_
      · exact st_call1 hN_6 (by kernel_rfl) (by kernel_rfl) (by kernel_rfl) rfl rfl fun w x v1 hC h1 => parse_at (k := 3003) (z := (za) * (zb) * (zc)) HZB 1 rfl h1 (by decide)
      refine pk_cons rfl rfl ?_ ?_
      · exact st_move hN_6 (by kernel_rfl) (by kernel_rfl) rfl rfl
      refine pk_cons rfl rfl ?_ ?_
      · exact st_ext hN_6 (by kernel_rfl) (by kernel_rfl) rfl rfl ext_z
      refine pk_cons rfl rfl ?_ ?_
      · exact st_ext hN_6 (by kernel_rfl) (by kernel_rfl) rfl rfl ext_ok
      refine pk_cons rfl rfl ?_ ?_
      · exact st_alloc hN_6 (by kernel_rfl) (Nat.le_refl _) rfl
      refine pk_cons rfl rfl ?_ ?_
      · exact st_put hN_6 (by kernel_rfl) (by kernel_rfl) (by kernel_rfl) rfl rfl rfl
      refine pk_cons rfl rfl ?_ ?_
      · exact st_pure [.bool true] [] (.bool true) rfl hN_6 (by kernel_rfl) (by kernel_rfl) (by kernel_rfl) old0 (by kernel_rfl) (by kernel_rfl) (by kernel_rfl) (fun _ => by kernel_rfl)
      exact pk_nil rfl
    intro W_7 x hC hall
    refine then_n ?_
    obtain ⟨a_7, ha⟩ : ∃ a, a = putE x a_6 [(0, some 52), (1, some 53), (2, some 54), (3, some 55), (4, some 56), (5, some 57), (6, some 51), (7, some 58), (8, some 59), (9, some 11), (10, none), (11, some 12)] := ⟨_, rfl⟩
    rw [← ha]
    have hN_7 := size_behind ha hN_6
    have hD_7 := defers_behind ha hD_6
    have bb_7 := bb_6.trans hC.below
    have e3_7 := slot_old ha (by kernel_rfl) e3_6
    have l3_7 := hC.locZ l3_6
    have e4_7 := slot_old ha (by kernel_rfl) e4_6
    have l4_7 := hC.locZ l4_6
    have e5_7 := slot_old ha (by kernel_rfl) e5_6
    have l5_7 := hC.locZ l5_6
    have e7_7 := slot_old ha (by kernel_rfl) e7_6
    have l7_7 := hC.locR l7_6
    have e8_7 := slot_old ha (by kernel_rfl) e8_6
    have l8_7 := hC.locR l8_6
    have e9_7 := slot_old ha (by kernel_rfl) e9_6
    have e10_7 := slot_old ha (by kernel_rfl) e10_6
    have e48_7 := slot_old ha (by kernel_rfl) e48_6
    have LL_7 := hC.zrs LL_6
    obtain ⟨g11, hx, l11_7⟩ := put_loc (show (kPutZ 9 3003 ((za) * (zb) * (zc))).sem _ _ _ _ from hall 10 (of_decide_eq_true (by kernel_rfl)))
    have e11_7 := (slot_new (t := 11) (i := 9) ha hN_6 (by kernel_rfl) (by kernel_rfl)).trans hx
    clear hx
    have e12_7 := (slot_new (t := 12) (i := 11) ha hN_6 (by kernel_rfl) (by kernel_rfl)).trans (show x 11 = .bool true from hall 11 (of_decide_eq_true (by kernel_rfl)))
    clear hall hC ha bb_6 hD_6 e3_6 l3_6 e4_6 l4_6 e5_6 l5_6 e7_6 l7_6 e8_6 l8_6 e9_6 e10_6 e48_6 LL_6
    repeat (first | refine wp_seq ?_ | (refine wp_skip ?_; refine then_n ?_))
    refine wp_region_law hN_7 w.heap.size
      [kIs (.slice (some ⟨gl, 0, none⟩) 7 7), kIs (.int .i64 (1)), kIs (.pointer (some ⟨gl, 2, none⟩)), kZ 3003 ((za) * (zb) * (zc)), kIs (.bool true), kIs (.bool false), kIs (.bool false), kIs (.bool true), kIs (.bool false), kIs (.bool false), kIs (.bool false), kZ 3003 ((za) * (zb) * (zc)), kIs (.slice (some ⟨gl, 0, none⟩) 7 7), kIs (.int .i64 (1)), kIs (.pointer (some ⟨gl, 2, none⟩)), kZ 3003 ((za) * (zb) * (zc)), kIs (.bool true), kIs (.bool false), kIs (.bool false)]
      [ [], [], [(0, some 60), (1, some 61)], [(2, some 62)], [(3, some 63)], [(4, some 64)], [(5, some 65)], [], [(7, some 67)], [(6, some 66), (8, some 68)], [(9, some 69)], [], [], [], [(12, some 72), (13, some 73)], [(14, some 74)], [(11, some 71), (15, some 75)], [(16, some 76)], [(10, some 70), (17, some 77)] ]
      [(0, some 60), (1, some 61), (2, some 62), (3, some 63), (4, some 64), (5, some 65), (6, some 66), (7, some 67), (8, some 68), (9, some 69), (10, some 70), (11, some 71), (12, some 72), (13, some 73), (14, some 74), (15, some 75), (16, some 76), (17, some 77), (18, some 78)] [(6, false), (10, false)] [] (by kernel_rfl) (by kernel_rfl) (by kernel_rfl) (by kernel_rfl) (by kernel_rfl) (by kernel_rfl) (by kernel_rfl) bb_7.size ?_ ?_
    ·
      refine pk_cons rfl rfl ?_ ?_
      · exact st_pure [] [(9, .slice (some ⟨gl, 0, none⟩) 7 7)] (.slice (some ⟨gl, 0, none⟩) 7 7) rfl hN_7 (by kernel_rfl) (by kernel_rfl) (by kernel_rfl) (old1 e9_7) (by kernel_rfl) (by kernel_rfl) (by kernel_rfl) (fun _ => by kernel_rfl)
      refine pk_cons rfl rfl ?_ ?_
      · exact st_pure [] [(10, .int .i64 (1))] (.int .i64 (1)) rfl hN_7 (by kernel_rfl) (by kernel_rfl) (by kernel_rfl) (old1 e10_7) (by kernel_rfl) (by kernel_rfl) (by kernel_rfl) (fun _ => by kernel_rfl)
      refine pk_cons rfl rfl ?_ ?_
      · exact st_pure [.slice (some ⟨gl, 0, none⟩) 7 7, .int .i64 (1)] [] (.pointer (some ⟨gl, 2, none⟩)) rfl hN_7 (by kernel_rfl) (by kernel_rfl) (by kernel_rfl) old0 (by kernel_rfl) (by kernel_rfl) (by kernel_rfl) (fun _ => by kernel_rfl)
      refine pk_cons rfl rfl ?_ ?_
      · exact st_loadI LL_7 (n := 1) rfl rfl hN_7 (by kernel_rfl) (by kernel_rfl) rfl rfl
      refine pk_cons rfl rfl ?_ ?_
      · exact st_call1 hN_7 (by kernel_rfl) (by kernel_rfl) (by kernel_rfl) rfl rfl fun w x v1 hC h1 => ti (z_right (rr h1))
      refine pk_cons rfl rfl ?_ ?_
      · exact st_pure [.bool true] [] (.bool false) rfl hN_7 (by kernel_rfl) (by kernel_rfl) (by kernel_rfl) old0 (by kernel_rfl) (by kernel_rfl) (by kernel_rfl) (fun _ => by kernel_rfl)
      refine pk_cons rfl rfl ?_ ?_
      · exact st_pure [.bool false] [] (.bool false) rfl hN_7 (by kernel_rfl) (by kernel_rfl) (by kernel_rfl) old0 (by kernel_rfl) (by kernel_rfl) (by kernel_rfl) (fun _ => by kernel_rfl)
      refine pk_cons rfl rfl ?_ ?_
      · exact st_pure [] [(12, .bool true)] (.bool true) rfl hN_7 (by kernel_rfl) (by kernel_rfl) (by kernel_rfl) (old1 e12_7) (by kernel_rfl) (by kernel_rfl) (by kernel_rfl) (fun _ => by kernel_rfl)
      refine pk_cons rfl rfl ?_ ?_
      · exact st_pure [.bool true] [] (.bool false) rfl hN_7 (by kernel_rfl) (by kernel_rfl) (by kernel_rfl) old0 (by kernel_rfl) (by kernel_rfl) (by kernel_rfl) (fun _ => by kernel_rfl)
      refine pk_cons rfl rfl ?_ ?_
      · exact st_pure [.bool false, .bool false] [] (.bool false) rfl hN_7 (by kernel_rfl) (by kernel_rfl) (by kernel_rfl) old0 (by kernel_rfl) (by kernel_rfl) (by kernel_rfl) (fun _ => by kernel_rfl)
      refine pk_cons rfl rfl ?_ ?_
      · exact st_pure [.bool false] [] (.bool false) rfl hN_7 (by kernel_rfl) (by kernel_rfl) (by kernel_rfl) old0 (by kernel_rfl) (by kernel_rfl) (by kernel_rfl) (fun _ => by kernel_rfl)
      refine pk_cons rfl rfl ?_ ?_
      · exact st_loadR l11_7 e11_7 hN_7 (by kernel_rfl) rfl
      refine pk_cons rfl rfl ?_ ?_
      · exact st_pure [] [(9, .slice (some ⟨gl, 0, none⟩) 7 7)] (.slice (some ⟨gl, 0, none⟩) 7 7) rfl hN_7 (by kernel_rfl) (by kernel_rfl) (by kernel_rfl) (old1 e9_7) (by kernel_rfl) (by kernel_rfl) (by kernel_rfl) (fun _ => by kernel_rfl)
      refine pk_cons rfl rfl ?_ ?_
      · exact st_pure [] [(10, .int .i64 (1))] (.int .i64 (1)) rfl hN_7 (by kernel_rfl) (by kernel_rfl) (by kernel_rfl) (old1 e10_7) (by kernel_rfl) (by kernel_rfl) (by kernel_rfl) (fun _ => by kernel_rfl)
      refine pk_cons rfl rfl ?_ ?_
      · exact st_pure [.slice (some ⟨gl, 0, none⟩) 7 7, .int .i64 (1)] [] (.pointer (some ⟨gl, 2, none⟩)) rfl hN_7 (by kernel_rfl) (by kernel_rfl) (by kernel_rfl) old0 (by kernel_rfl) (by kernel_rfl) (by kernel_rfl) (fun _ => by kernel_rfl)
      refine pk_cons rfl rfl ?_ ?_
      · exact st_loadI LL_7 (n := 1) rfl rfl hN_7 (by kernel_rfl) (by kernel_rfl) rfl rfl
      refine pk_cons rfl rfl ?_ ?_
      · exact st_call2 hN_7 (by kernel_rfl) (by kernel_rfl) (by kernel_rfl) (by kernel_rfl) (by kernel_rfl) rfl rfl rfl fun w x v1 v2 hC h1 h2 => ti (z_same (rr h1) (rr h2) (rfl))
      refine pk_cons rfl rfl ?_ ?_
      · exact st_pure [.bool true] [] (.bool false) rfl hN_7 (by kernel_rfl) (by kernel_rfl) (by kernel_rfl) old0 (by kernel_rfl) (by kernel_rfl) (by kernel_rfl) (fun _ => by kernel_rfl)
      refine pk_cons rfl rfl ?_ ?_
      · exact st_pure [.bool false, .bool false] [] (.bool false) rfl hN_7 (by kernel_rfl) (by kernel_rfl) (by kernel_rfl) old0 (by kernel_rfl) (by kernel_rfl) (by kernel_rfl) (fun _ => by kernel_rfl)
      exact pk_nil rfl
    intro W_8 x hC hall
    refine then_n ?_
    obtain ⟨a_8, ha⟩ : ∃ a, a = putE x a_7 [(0, some 60), (1, some 61), (2, some 62), (3, some 63), (4, some 64), (5, some 65), (6, some 66), (7, some 67), (8, some 68), (9, some 69), (10, some 70), (11, some 71), (12, some 72), (13, some 73), (14, some 74), (15, some 75), (16, some 76), (17, some 77), (18, some 78)] := ⟨_, rfl⟩
    rw [← ha]
    have hN_8 := size_behind ha hN_7
    have hD_8 := defers_behind ha hD_7
    have bb_8 := bb_7.trans hC.below
    have e3_8 := slot_old ha (by kernel_rfl) e3_7
    have l3_8 := hC.locZ l3_7
    have e4_8 := slot_old ha (by kernel_rfl) e4_7
    have l4_8 := hC.locZ l4_7
    have e5_8 := slot_old ha (by kernel_rfl) e5_7
    have l5_8 := hC.locZ l5_7
    have e7_8 := slot_old ha (by kernel_rfl) e7_7
    have l7_8 := hC.locR l7_7
    have e8_8 := slot_old ha (by kernel_rfl) e8_7
    have l8_8 := hC.locR l8_7
    have e9_8 := slot_old ha (by kernel_rfl) e9_7
    have e10_8 := slot_old ha (by kernel_rfl) e10_7
    have e48_8 := slot_old ha (by kernel_rfl) e48_7
    have e11_8 := slot_old ha (by kernel_rfl) e11_7
    have l11_8 := hC.locR l11_7
    have e12_8 := slot_old ha (by kernel_rfl) e12_7
    have LL_8 := hC.zrs LL_7
    have e78_8 := (slot_new (t := 78) (i := 18) ha hN_7 (by kernel_rfl) (by kernel_rfl)).trans (show x 18 = .bool false from hall 18 (of_decide_eq_true (by kernel_rfl)))
    clear hall hC ha bb_7 hD_7 e3_7 l3_7 e4_7 l4_7 e5_7 l5_7 e7_7 l7_7 e8_7 l8_7 e9_7 e10_7 e48_7 e11_7 l11_7 e12_7 LL_7
    refine wp_cond_false e78_8 ?_
    repeat (first | refine wp_seq ?_ | (refine wp_skip ?_; refine then_n ?_))
    refine wp_skip ?_
    refine in_block ?_
    refine then_n ?_
    refine wp_incr (n := 1) (m := 2) hN_8 (by kernel_rfl) (by kernel_rfl) e10_8 (fun _ => by kernel_rfl) ?_
    intro x hx
    refine then_n ?_
    obtain ⟨a_9, ha⟩ : ∃ a, a = putE x a_8 [(0, some 49), (1, some 50), (2, some 10)] := ⟨_, rfl⟩
    rw [← ha]
    have hN_9 := size_behind ha hN_8
    have hD_9 := defers_behind ha hD_8
    have bb_9 := bb_8
    have e3_9 := slot_old ha (by kernel_rfl) e3_8
    have l3_9 := l3_8
    have e4_9 := slot_old ha (by kernel_rfl) e4_8
    have l4_9 := l4_8
    have e5_9 := slot_old ha (by kernel_rfl) e5_8
    have l5_9 := l5_8
    have e7_9 := slot_old ha (by kernel_rfl) e7_8
    have l7_9 := l7_8
    have e8_9 := slot_old ha (by kernel_rfl) e8_8
    have l8_9 := l8_8
    have e9_9 := slot_old ha (by kernel_rfl) e9_8
    have e48_9 := slot_old ha (by kernel_rfl) e48_8
    have e11_9 := slot_old ha (by kernel_rfl) e11_8
    have l11_9 := l11_8
    have e12_9 := slot_old ha (by kernel_rfl) e12_8
    have e78_9 := slot_old ha (by kernel_rfl) e78_8
    have LL_9 := LL_8
    have e10_9 := (slot_new (t := 10) (i := 2) ha hN_8 (by kernel_rfl) (by kernel_rfl)).trans hx
    clear ha hx
    refine ⟨⟨hN_9, hD_9, e3_9, e4_9, e5_9, e7_9, e8_9, e9_9, ⟨2, by decide, e10_9⟩, bb_9, l3_9, l4_9, l5_9, l7_9, l8_9, LL_9⟩, ?_⟩
    rw [e10_9]; decide
  ·
    have hm : intOf (a_5.eval (.tmp 10)) = 2 := by rw [e10_5]; rfl
    rw [hm]
    clear hi hm
    repeat (first | refine wp_seq ?_ | (refine wp_skip ?_; refine then_n ?_))
    refine wp_region_law hN_5 w.heap.size
      [kIs (.int .i64 (2)), kIs (.slice (some ⟨gl, 0, none⟩) 7 7), kIs (.int .i64 (7)), kIs (.bool true)]
      [ [], [], [(1, some 46)], [(0, some 45), (2, some 47)] ]
      [(0, some 45), (1, some 46), (2, some 47), (3, some 48)] [] [] (by kernel_rfl) (by kernel_rfl) (by kernel_rfl) (by kernel_rfl) (by kernel_rfl) (by kernel_rfl) (by kernel_rfl) bb_5.size ?_ ?_
    ·
      refine pk_cons rfl rfl ?_ ?_
      · exact st_pure [] [(10, .int .i64 (2))] (.int .i64 (2)) rfl hN_5 (by kernel_rfl) (by kernel_rfl) (by kernel_rfl) (old1 e10_5) (by kernel_rfl) (by kernel_rfl) (by kernel_rfl) (fun _ => by kernel_rfl)
      refine pk_cons rfl rfl ?_ ?_
      · exact st_pure [] [(9, .slice (some ⟨gl, 0, none⟩) 7 7)] (.slice (some ⟨gl, 0, none⟩) 7 7) rfl hN_5 (by kernel_rfl) (by kernel_rfl) (by kernel_rfl) (old1 e9_5) (by kernel_rfl) (by kernel_rfl) (by kernel_rfl) (fun _ => by kernel_rfl)
      refine pk_cons rfl rfl ?_ ?_
      · exact st_pure [.slice (some ⟨gl, 0, none⟩) 7 7] [] (.int .i64 (7)) rfl hN_5 (by kernel_rfl) (by kernel_rfl) (by kernel_rfl) old0 (by kernel_rfl) (by kernel_rfl) (by kernel_rfl) (fun _ => by kernel_rfl)
      refine pk_cons rfl rfl ?_ ?_
      · exact st_pure [.int .i64 (2), .int .i64 (7)] [] (.bool true) rfl hN_5 (by kernel_rfl) (by kernel_rfl) (by kernel_rfl) old0 (by kernel_rfl) (by kernel_rfl) (by kernel_rfl) (fun _ => by kernel_rfl)
      exact pk_nil rfl
    intro W_6 x hC hall
    refine then_n ?_
    obtain ⟨a_6, ha⟩ : ∃ a, a = putE x a_5 [(0, some 45), (1, some 46), (2, some 47), (3, some 48)] := ⟨_, rfl⟩
    rw [← ha]
    have hN_6 := size_behind ha hN_5
    have hD_6 := defers_behind ha hD_5
    have bb_6 := bb_5.trans hC.below
    have e3_6 := slot_old ha (by kernel_rfl) e3_5
    have l3_6 := hC.locZ l3_5
    have e4_6 := slot_old ha (by kernel_rfl) e4_5
    have l4_6 := hC.locZ l4_5
    have e5_6 := slot_old ha (by kernel_rfl) e5_5
    have l5_6 := hC.locZ l5_5
    have e7_6 := slot_old ha (by kernel_rfl) e7_5
    have l7_6 := hC.locR l7_5
    have e8_6 := slot_old ha (by kernel_rfl) e8_5
    have l8_6 := hC.locR l8_5
    have e9_6 := slot_old ha (by kernel_rfl) e9_5
    have e10_6 := slot_old ha (by kernel_rfl) e10_5
    have LL_6 := hC.zrs LL_5
    have e48_6 := (slot_new (t := 48) (i := 3) ha hN_5 (by kernel_rfl) (by kernel_rfl)).trans (show x 3 = .bool true from hall 3 (of_decide_eq_true (by kernel_rfl)))
    clear hall hC ha bb_5 hD_5 e3_5 l3_5 e4_5 l4_5 e5_5 l5_5 e7_5 l7_5 e8_5 l8_5 e9_5 e10_5 LL_5
    refine wp_cond_true e48_6 ?_
    repeat (first | refine wp_seq ?_ | (refine wp_skip ?_; refine then_n ?_))
    refine wp_block ?_
    repeat (first | refine wp_seq ?_ | (refine wp_skip ?_; refine then_n ?_))
    refine wp_region_law hN_6 w.heap.size
      [kIs (.slice (some ⟨gl, 0, none⟩) 7 7), kIs (.int .i64 (2)), kIs (.pointer (some ⟨gl, 4, none⟩)), kZ 1001 (-(za)), kIs (.string (ztext (-(za)))), kZB 1001 (-(za)) true, kZB 1001 (-(za)) true, kZ 1001 (-(za)), kIs (.bool true), PK.fresh 2, kPutZ 9 1001 (-(za)), kIs (.bool true)]
      [ [], [], [(0, some 52), (1, some 53)], [(2, some 54)], [(3, some 55)], [(4, some 56)], [(5, some 57)], [(6, some 51)], [(6, some 51)], [], [(9, some 11), (7, some 58)], [(8, some 59)] ]
      [(0, some 52), (1, some 53), (2, some 54), (3, some 55), (4, some 56), (5, some 57), (6, some 51), (7, some 58), (8, some 59), (9, some 11), (10, none), (11, some 12)] [] [] (by kernel_rfl) (by kernel_rfl) (by kernel_rfl) (by kernel_rfl) (by kernel_rfl) (by kernel_rfl) (by kernel_rfl) bb_6.size ?_ ?_
    ·
      refine pk_cons rfl rfl ?_ ?_
      · exact st_pure [] [(9, .slice (some ⟨gl, 0, none⟩) 7 7)] (.slice (some ⟨gl, 0, none⟩) 7 7) rfl hN_6 (by kernel_rfl) (by kernel_rfl) (by kernel_rfl) (old1 e9_6) (by kernel_rfl) (by kernel_rfl) (by kernel_rfl) (fun _ => by kernel_rfl)
      refine pk_cons rfl rfl ?_ ?_
      · exact st_pure [] [(10, .int .i64 (2))] (.int .i64 (2)) rfl hN_6 (by kernel_rfl) (by kernel_rfl) (by kernel_rfl) (old1 e10_6) (by kernel_rfl) (by kernel_rfl) (by kernel_rfl) (fun _ => by kernel_rfl)
      refine pk_cons rfl rfl ?_ ?_
      · exact st_pure [.slice (some ⟨gl, 0, none⟩) 7 7, .int .i64 (2)] [] (.pointer (some ⟨gl, 4, none⟩)) rfl hN_6 (by kernel_rfl) (by kernel_rfl) (by kernel_rfl) old0 (by kernel_rfl) (by kernel_rfl) (by kernel_rfl) (fun _ => by kernel_rfl)
      refine pk_cons rfl rfl ?_ ?_
      · exact st_loadI LL_6 (n := 2) rfl rfl hN_6 (by kernel_rfl) (by kernel_rfl) rfl rfl
      refine pk_cons rfl rfl ?_ ?_
      · exact st_call1 hN_6 (by kernel_rfl) (by kernel_rfl) (by kernel_rfl) rfl rfl fun w x v1 hC h1 => ti (z_text (rz h1) (by decide) (HT.out.1.below (bb_6.trans hC.below) HT.out.2) (Nat.le_trans HT.out.2 (bb_6.trans hC.below).size))
      refine pk_cons rfl rfl ?_ ?_
      · exact st_call1 hN_6 (by kernel_rfl) (by kernel_rfl) (by kernel_rfl) rfl rfl fun w x v1 hC h1 => parse_at (k := 1001) (z := -(za)) HZB 2 rfl h1 (by decide)
      refine pk_cons rfl rfl ?_ ?_
      · exact st_move hN_6 (by kernel_rfl) (by kernel_rfl) rfl rfl
      refine pk_cons rfl rfl ?_ ?_
      · exact st_ext hN_6 (by kernel_rfl) (by kernel_rfl) rfl rfl ext_z
      refine pk_cons rfl rfl ?_ ?_
      · exact st_ext hN_6 (by kernel_rfl) (by kernel_rfl) rfl rfl ext_ok
      refine pk_cons rfl rfl ?_ ?_
      · exact st_alloc hN_6 (by kernel_rfl) (Nat.le_refl _) rfl
      refine pk_cons rfl rfl ?_ ?_
      · exact st_put hN_6 (by kernel_rfl) (by kernel_rfl) (by kernel_rfl) rfl rfl rfl
      refine pk_cons rfl rfl ?_ ?_
      · exact st_pure [.bool true] [] (.bool true) rfl hN_6 (by kernel_rfl) (by kernel_rfl) (by kernel_rfl) old0 (by kernel_rfl) (by kernel_rfl) (by kernel_rfl) (fun _ => by kernel_rfl)
      exact pk_nil rfl
    intro W_7 x hC hall
    refine then_n ?_
    obtain ⟨a_7, ha⟩ : ∃ a, a = putE x a_6 [(0, some 52), (1, some 53), (2, some 54), (3, some 55), (4, some 56), (5, some 57), (6, some 51), (7, some 58), (8, some 59), (9, some 11), (10, none), (11, some 12)] := ⟨_, rfl⟩
    rw [← ha]
    have hN_7 := size_behind ha hN_6
    have hD_7 := defers_behind ha hD_6
    have bb_7 := bb_6.trans hC.below
    have e3_7 := slot_old ha (by kernel_rfl) e3_6
    have l3_7 := hC.locZ l3_6
    have e4_7 := slot_old ha (by kernel_rfl) e4_6
    have l4_7 := hC.locZ l4_6
    have e5_7 := slot_old ha (by kernel_rfl) e5_6
    have l5_7 := hC.locZ l5_6
    have e7_7 := slot_old ha (by kernel_rfl) e7_6
    have l7_7 := hC.locR l7_6
    have e8_7 := slot_old ha (by kernel_rfl) e8_6
    have l8_7 := hC.locR l8_6
    have e9_7 := slot_old ha (by kernel_rfl) e9_6
    have e10_7 := slot_old ha (by kernel_rfl) e10_6
    have e48_7 := slot_old ha (by kernel_rfl) e48_6
    have LL_7 := hC.zrs LL_6
    obtain ⟨g11, hx, l11_7⟩ := put_loc (show (kPutZ 9 1001 (-(za))).sem _ _ _ _ from hall 10 (of_decide_eq_true (by kernel_rfl)))
    have e11_7 := (slot_new (t := 11) (i := 9) ha hN_6 (by kernel_rfl) (by kernel_rfl)).trans hx
    clear hx
    have e12_7 := (slot_new (t := 12) (i := 11) ha hN_6 (by kernel_rfl) (by kernel_rfl)).trans (show x 11 = .bool true from hall 11 (of_decide_eq_true (by kernel_rfl)))
    clear hall hC ha bb_6 hD_6 e3_6 l3_6 e4_6 l4_6 e5_6 l5_6 e7_6 l7_6 e8_6 l8_6 e9_6 e10_6 e48_6 LL_6
    repeat (first | refine wp_seq ?_ | (refine wp_skip ?_; refine then_n ?_))
    refine wp_region_law hN_7 w.heap.size
      [kIs (.slice (some ⟨gl, 0, none⟩) 7 7), kIs (.int .i64 (2)), kIs (.pointer (some ⟨gl, 4, none⟩)), kZ 1001 (-(za)), kIs (.bool true), kIs (.bool false), kIs (.bool false), kIs (.bool true), kIs (.bool false), kIs (.bool false), kIs (.bool false), kZ 1001 (-(za)), kIs (.slice (some ⟨gl, 0, none⟩) 7 7), kIs (.int .i64 (2)), kIs (.pointer (some ⟨gl, 4, none⟩)), kZ 1001 (-(za)), kIs (.bool true), kIs (.bool false), kIs (.bool false)]
      [ [], [], [(0, some 60), (1, some 61)], [(2, some 62)], [(3, some 63)], [(4, some 64)], [(5, some 65)], [], [(7, some 67)], [(6, some 66), (8, some 68)], [(9, some 69)], [], [], [], [(12, some 72), (13, some 73)], [(14, some 74)], [(11, some 71), (15, some 75)], [(16, some 76)], [(10, some 70), (17, some 77)] ]
      [(0, some 60), (1, some 61), (2, some 62), (3, some 63), (4, some 64), (5, some 65), (6, some 66), (7, some 67), (8, some 68), (9, some 69), (10, some 70), (11, some 71), (12, some 72), (13, some 73), (14, some 74), (15, some 75), (16, some 76), (17, some 77), (18, some 78)] [(6, false), (10, false)] [] (by kernel_rfl) (by kernel_rfl) (by kernel_rfl) (by kernel_rfl) (by kernel_rfl) (by kernel_rfl) (by kernel_rfl) bb_7.size ?_ ?_
    ·
      refine pk_cons rfl rfl ?_ ?_
      · exact st_pure [] [(9, .slice (some ⟨gl, 0, none⟩) 7 7)] (.slice (some ⟨gl, 0, none⟩) 7 7) rfl hN_7 (by kernel_rfl) (by kernel_rfl) (by kernel_rfl) (old1 e9_7) (by kernel_rfl) (by kernel_rfl) (by kernel_rfl) (fun _ => by kernel_rfl)
      refine pk_cons rfl rfl ?_ ?_
      · exact st_pure [] [(10, .int .i64 (2))] (.int .i64 (2)) rfl hN_7 (by kernel_rfl) (by kernel_rfl) (by kernel_rfl) (old1 e10_7) (by kernel_rfl) (by kernel_rfl) (by kernel_rfl) (fun _ => by kernel_rfl)
      refine pk_cons rfl rfl ?_ ?_
      · exact st_pure [.slice (some ⟨gl, 0, none⟩) 7 7, .int .i64 (2)] [] (.pointer (some ⟨gl, 4, none⟩)) rfl hN_7 (by kernel_rfl) (by kernel_rfl) (by kernel_rfl) old0 (by kernel_rfl) (by kernel_rfl) (by kernel_rfl) (fun _ => by kernel_rfl)
      refine pk_cons rfl rfl ?_ ?_
      · exact st_loadI LL_7 (n := 2) rfl rfl hN_7 (by kernel_rfl) (by kernel_rfl) rfl rfl
      refine pk_cons rfl rfl ?_ ?_
      · exact st_call1 hN_7 (by kernel_rfl) (by kernel_rfl) (by kernel_rfl) rfl rfl fun w x v1 hC h1 => ti (z_right (rr h1))
      refine pk_cons rfl rfl ?_ ?_
      · exact st_pure [.bool true] [] (.bool false) rfl hN_7 (by kernel_rfl) (by kernel_rfl) (by kernel_rfl) old0 (by kernel_rfl) (by kernel_rfl) (by kernel_rfl) (fun _ => by kernel_rfl)
      refine pk_cons rfl rfl ?_ ?_
      · exact st_pure [.bool false] [] (.bool false) rfl hN_7 (by kernel_rfl) (by kernel_rfl) (by kernel_rfl) old0 (by kernel_rfl) (by kernel_rfl) (by kernel_rfl) (fun _ => by kernel_rfl)
      refine pk_cons rfl rfl ?_ ?_
      · exact st_pure [] [(12, .bool true)] (.bool true) rfl hN_7 (by kernel_rfl) (by kernel_rfl) (by kernel_rfl) (old1 e12_7) (by kernel_rfl) (by kernel_rfl) (by kernel_rfl) (fun _ => by kernel_rfl)
      refine pk_cons rfl rfl ?_ ?_
      · exact st_pure [.bool true] [] (.bool false) rfl hN_7 (by kernel_rfl) (by kernel_rfl) (by kernel_rfl) old0 (by kernel_rfl) (by kernel_rfl) (by kernel_rfl) (fun _ => by kernel_rfl)
      refine pk_cons rfl rfl ?_ ?_
      · exact st_pure [.bool false, .bool false] [] (.bool false) rfl hN_7 (by kernel_rfl) (by kernel_rfl) (by kernel_rfl) old0 (by kernel_rfl) (by kernel_rfl) (by kernel_rfl) (fun _ => by kernel_rfl)
      refine pk_cons rfl rfl ?_ ?_
      · exact st_pure [.bool false] [] (.bool false) rfl hN_7 (by kernel_rfl) (by kernel_rfl) (by kernel_rfl) old0 (by kernel_rfl) (by kernel_rfl) (by kernel_rfl) (fun _ => by kernel_rfl)
      refine pk_cons rfl rfl ?_ ?_
      · exact st_loadR l11_7 e11_7 hN_7 (by kernel_rfl) rfl
      refine pk_cons rfl rfl ?_ ?_
      · exact st_pure [] [(9, .slice (some ⟨gl, 0, none⟩) 7 7)] (.slice (some ⟨gl, 0, none⟩) 7 7) rfl hN_7 (by kernel_rfl) (by kernel_rfl) (by kernel_rfl) (old1 e9_7) (by kernel_rfl) (by kernel_rfl) (by kernel_rfl) (fun _ => by kernel_rfl)
      refine pk_cons rfl rfl ?_ ?_
      · exact st_pure [] [(10, .int .i64 (2))] (.int .i64 (2)) rfl hN_7 (by kernel_rfl) (by kernel_rfl) (by kernel_rfl) (old1 e10_7) (by kernel_rfl) (by kernel_rfl) (by kernel_rfl) (fun _ => by kernel_rfl)
      refine pk_cons rfl rfl ?_ ?_
      · exact st_pure [.slice (some ⟨gl, 0, none⟩) 7 7, .int .i64 (2)] [] (.pointer (some ⟨gl, 4, none⟩)) rfl hN_7 (by kernel_rfl) (by kernel_rfl) (by kernel_rfl) old0 (by kernel_rfl) (by kernel_rfl) (by kernel_rfl) (fun _ => by kernel_rfl)
      refine pk_cons rfl rfl ?_ ?_
      · exact st_loadI LL_7 (n := 2) rfl rfl hN_7 (by kernel_rfl) (by kernel_rfl) rfl rfl
      refine pk_cons rfl rfl ?_ ?_
      · exact st_call2 hN_7 (by kernel_rfl) (by kernel_rfl) (by kernel_rfl) (by kernel_rfl) (by kernel_rfl) rfl rfl rfl fun w x v1 v2 hC h1 h2 => ti (z_same (rr h1) (rr h2) (rfl))
      refine pk_cons rfl rfl ?_ ?_
      · exact st_pure [.bool true] [] (.bool false) rfl hN_7 (by kernel_rfl) (by kernel_rfl) (by kernel_rfl) old0 (by kernel_rfl) (by kernel_rfl) (by kernel_rfl) (fun _ => by kernel_rfl)
      refine pk_cons rfl rfl ?_ ?_
      · exact st_pure [.bool false, .bool false] [] (.bool false) rfl hN_7 (by kernel_rfl) (by kernel_rfl) (by kernel_rfl) old0 (by kernel_rfl) (by kernel_rfl) (by kernel_rfl) (fun _ => by kernel_rfl)
      exact pk_nil rfl
    intro W_8 x hC hall
    refine then_n ?_
    obtain ⟨a_8, ha⟩ : ∃ a, a = putE x a_7 [(0, some 60), (1, some 61), (2, some 62), (3, some 63), (4, some 64), (5, some 65), (6, some 66), (7, some 67), (8, some 68), (9, some 69), (10, some 70), (11, some 71), (12, some 72), (13, some 73), (14, some 74), (15, some 75), (16, some 76), (17, some 77), (18, some 78)] := ⟨_, rfl⟩
    rw [← ha]
    have hN_8 := size_behind ha hN_7
    have hD_8 := defers_behind ha hD_7
    have bb_8 := bb_7.trans hC.below
    have e3_8 := slot_old ha (by kernel_rfl) e3_7
    have l3_8 := hC.locZ l3_7
    have e4_8 := slot_old ha (by kernel_rfl) e4_7
    have l4_8 := hC.locZ l4_7
    have e5_8 := slot_old ha (by kernel_rfl) e5_7
    have l5_8 := hC.locZ l5_7
    have e7_8 := slot_old ha (by kernel_rfl) e7_7
    have l7_8 := hC.locR l7_7
    have e8_8 := slot_old ha (by kernel_rfl) e8_7
    have l8_8 := hC.locR l8_7
    have e9_8 := slot_old ha (by kernel_rfl) e9_7
    have e10_8 := slot_old ha (by kernel_rfl) e10_7
    have e48_8 := slot_old ha (by kernel_rfl) e48_7
    have e11_8 := slot_old ha (by kernel_rfl) e11_7
    have l11_8 := hC.locR l11_7
    have e12_8 := slot_old ha (by kernel_rfl) e12_7
    have LL_8 := hC.zrs LL_7
    have e78_8 := (slot_new (t := 78) (i := 18) ha hN_7 (by kernel_rfl) (by kernel_rfl)).trans (show x 18 = .bool false from hall 18 (of_decide_eq_true (by kernel_rfl)))
    clear hall hC ha bb_7 hD_7 e3_7 l3_7 e4_7 l4_7 e5_7 l5_7 e7_7 l7_7 e8_7 l8_7 e9_7 e10_7 e48_7 e11_7 l11_7 e12_7 LL_7
    refine wp_cond_false e78_8 ?_
    repeat (first | refine wp_seq ?_ | (refine wp_skip ?_; refine then_n ?_))
    refine wp_skip ?_
    refine in_block ?_
    refine then_n ?_
    refine wp_incr (n := 2) (m := 3) hN_8 (by kernel_rfl) (by kernel_rfl) e10_8 (fun _ => by kernel_rfl) ?_
    intro x hx
    refine then_n ?_
    obtain ⟨a_9, ha⟩ : ∃ a, a = putE x a_8 [(0, some 49), (1, some 50), (2, some 10)] := ⟨_, rfl⟩
    rw [← ha]
    have hN_9 := size_behind ha hN_8
    have hD_9 := defers_behind ha hD_8
    have bb_9 := bb_8
    have e3_9 := slot_old ha (by kernel_rfl) e3_8
    have l3_9 := l3_8
    have e4_9 := slot_old ha (by kernel_rfl) e4_8
    have l4_9 := l4_8
    have e5_9 := slot_old ha (by kernel_rfl) e5_8
    have l5_9 := l5_8
    have e7_9 := slot_old ha (by kernel_rfl) e7_8
    have l7_9 := l7_8
    have e8_9 := slot_old ha (by kernel_rfl) e8_8
    have l8_9 := l8_8
    have e9_9 := slot_old ha (by kernel_rfl) e9_8
    have e48_9 := slot_old ha (by kernel_rfl) e48_8
    have e11_9 := slot_old ha (by kernel_rfl) e11_8
    have l11_9 := l11_8
    have e12_9 := slot_old ha (by kernel_rfl) e12_8
    have e78_9 := slot_old ha (by kernel_rfl) e78_8
    have LL_9 := LL_8
    have e10_9 := (slot_new (t := 10) (i := 2) ha hN_8 (by kernel_rfl) (by kernel_rfl)).trans hx
    clear ha hx
    refine ⟨⟨hN_9, hD_9, e3_9, e4_9, e5_9, e7_9, e8_9, e9_9, ⟨3, by decide, e10_9⟩, bb_9, l3_9, l4_9, l5_9, l7_9, l8_9, LL_9⟩, ?_⟩
    rw [e10_9]; decide
  ·
    have hm : intOf (a_5.eval (.tmp 10)) = 3 := by rw [e10_5]; rfl
    rw [hm]
    clear hi hm
    repeat (first | refine wp_seq ?_ | (refine wp_skip ?_; refine then_n ?_))
    refine wp_region_law hN_5 w.heap.size
      [kIs (.int .i64 (3)), kIs (.slice (some ⟨gl, 0, none⟩) 7 7), kIs (.int .i64 (7)), kIs (.bool true)]
      [ [], [], [(1, some 46)], [(0, some 45), (2, some 47)] ]
      [(0, some 45), (1, some 46), (2, some 47), (3, some 48)] [] [] (by kernel_rfl) (by kernel_rfl) (by kernel_rfl) (by kernel_rfl) (by kernel_rfl) (by kernel_rfl) (by kernel_rfl) bb_5.size ?_ ?_
    ·
      refine pk_cons rfl rfl ?_ ?_
      · exact st_pure [] [(10, .int .i64 (3))] (.int .i64 (3)) rfl hN_5 (by kernel_rfl) (by kernel_rfl) (by kernel_rfl) (old1 e10_5) (by kernel_rfl) (by kernel_rfl) (by kernel_rfl) (fun _ => by kernel_rfl)
      refine pk_cons rfl rfl ?_ ?_
      · exact st_pure [] [(9, .slice (some ⟨gl, 0, none⟩) 7 7)] (.slice (some ⟨gl, 0, none⟩) 7 7) rfl hN_5 (by kernel_rfl) (by kernel_rfl) (by kernel_rfl) (old1 e9_5) (by kernel_rfl) (by kernel_rfl) (by kernel_rfl) (fun _ => by kernel_rfl)
      refine pk_cons rfl rfl ?_ ?_
      · exact st_pure [.slice (some ⟨gl, 0, none⟩) 7 7] [] (.int .i64 (7)) rfl hN_5 (by kernel_rfl) (by kernel_rfl) (by kernel_rfl) old0 (by kernel_rfl) (by kernel_rfl) (by kernel_rfl) (fun _ => by kernel_rfl)
      refine pk_cons rfl rfl ?_ ?_
      · exact st_pure [.int .i64 (3), .int .i64 (7)] [] (.bool true) rfl hN_5 (by kernel_rfl) (by kernel_rfl) (by kernel_rfl) old0 (by kernel_rfl) (by kernel_rfl) (by kernel_rfl) (fun _ => by kernel_rfl)
      exact pk_nil rfl
    intro W_6 x hC hall
    refine then_n ?_
    obtain ⟨a_6, ha⟩ : ∃ a, a = putE x a_5 [(0, some 45), (1, some 46), (2, some 47), (3, some 48)] := ⟨_, rfl⟩
    rw [← ha]
    have hN_6 := size_behind ha hN_5
    have hD_6 := defers_behind ha hD_5
    have bb_6 := bb_5.trans hC.below
    have e3_6 := slot_old ha (by kernel_rfl) e3_5
    have l3_6 := hC.locZ l3_5
    have e4_6 := slot_old ha (by kernel_rfl) e4_5
    have l4_6 := hC.locZ l4_5
    have e5_6 := slot_old ha (by kernel_rfl) e5_5
    have l5_6 := hC.locZ l5_5
    have e7_6 := slot_old ha (by kernel_rfl) e7_5
    have l7_6 := hC.locR l7_5
    have e8_6 := slot_old ha (by kernel_rfl) e8_5
    have l8_6 := hC.locR l8_5
    have e9_6 := slot_old ha (by kernel_rfl) e9_5
    have e10_6 := slot_old ha (by kernel_rfl) e10_5
    have LL_6 := hC.zrs LL_5
    have e48_6 := (slot_new (t := 48) (i := 3) ha hN_5 (by kernel_rfl) (by kernel_rfl)).trans (show x 3 = .bool true from hall 3 (of_decide_eq_true (by kernel_rfl)))
    clear hall hC ha bb_5 hD_5 e3_5 l3_5 e4_5 l4_5 e5_5 l5_5 e7_5 l7_5 e8_5 l8_5 e9_5 e10_5 LL_5
    refine wp_cond_true e48_6 ?_
    repeat (first | refine wp_seq ?_ | (refine wp_skip ?_; refine then_n ?_))
    refine wp_block ?_
    repeat (first | refine wp_seq ?_ | (refine wp_skip ?_; refine then_n ?_))
    refine wp_region_law hN_6 w.heap.size
      [kIs (.slice (some ⟨gl, 0, none⟩) 7 7), kIs (.int .i64 (3)), kIs (.pointer (some ⟨gl, 6, none⟩)), kZ 1002 (za - (zb)), kIs (.string (ztext (za - (zb)))), kZB 1002 (za - (zb)) true, kZB 1002 (za - (zb)) true, kZ 1002 (za - (zb)), kIs (.bool true), PK.fresh 2, kPutZ 9 1002 (za - (zb)), kIs (.bool true)]
      [ [], [], [(0, some 52), (1, some 53)], [(2, some 54)], [(3, some 55)], [(4, some 56)], [(5, some 57)], [(6, some 51)], [(6, some 51)], [], [(9, some 11), (7, some 58)], [(8, some 59)] ]
      [(0, some 52), (1, some 53), (2, some 54), (3, some 55), (4, some 56), (5, some 57), (6, some 51), (7, some 58), (8, some 59), (9, some 11), (10, none), (11, some 12)] [] [] (by kernel_rfl) (by kernel_rfl) (by kernel_rfl) (by kernel_rfl) (by kernel_rfl) (by kernel_rfl) (by kernel_rfl) bb_6.size ?_ ?_
    ·
      refine pk_cons rfl rfl ?_ ?_
      · exact st_pure [] [(9, .slice (some ⟨gl, 0, none⟩) 7 7)] (.slice (some ⟨gl, 0, none⟩) 7 7) rfl hN_6 (by kernel_rfl) (by kernel_rfl) (by kernel_rfl) (old1 e9_6) (by kernel_rfl) (by kernel_rfl) (by kernel_rfl) (fun _ => by kernel_rfl)
      refine pk_cons rfl rfl ?_ ?_
      · exact st_pure [] [(10, .int .i64 (3))] (.int .i64 (3)) rfl hN_6 (by kernel_rfl) (by kernel_rfl) (by kernel_rfl) (old1 e10_6) (by kernel_rfl) (by kernel_rfl) (by kernel_rfl) (fun _ => by kernel_rfl)
      refine pk_cons rfl rfl ?_ ?_
      · exact st_pure [.slice (some ⟨gl, 0, none⟩) 7 7, .int .i64 (3)] [] (.pointer (some ⟨gl, 6, none⟩)) rfl hN_6 (by kernel_rfl) (by kernel_rfl) (by kernel_rfl) old0 (by kernel_rfl) (by kernel_rfl) (by kernel_rfl) (fun _ => by kernel_rfl)
      refine pk_cons rfl rfl ?_ ?_
      · exact st_loadI LL_6 (n := 3) rfl rfl hN_6 (by kernel_rfl) (by kernel_rfl) rfl rfl
      refine pk_cons rfl rfl ?_ ?_
      · exact st_call1 hN_6 (by kernel_rfl) (by kernel_rfl) (by kernel_rfl) rfl rfl fun w x v1 hC h1 => ti (z_text (rz h1) (by decide) (HT.out.1.below (bb_6.trans hC.below) HT.out.2) (Nat.le_trans HT.out.2 (bb_6.trans hC.below).size))
      refine pk_cons rfl rfl ?_ ?_
      · exact st_call1 hN_6 (by kernel_rfl) (by kernel_rfl) (by kernel_rfl) rfl rfl fun w x v1 hC h1 => parse_at (k := 1002) (z := za - (zb)) HZB 3 rfl h1 (by decide)
      refine pk_cons rfl rfl ?_ ?_
      · exact st_move hN_6 (by kernel_rfl) (by kernel_rfl) rfl rfl
      refine pk_cons rfl rfl ?_ ?_
      · exact st_ext hN_6 (by kernel_rfl) (by kernel_rfl) rfl rfl ext_z
      refine pk_cons rfl rfl ?_ ?_
      · exact st_ext hN_6 (by kernel_rfl) (by kernel_rfl) rfl rfl ext_ok
      refine pk_cons rfl rfl ?_ ?_
      · exact st_alloc hN_6 (by kernel_rfl) (Nat.le_refl _) rfl
      refine pk_cons rfl rfl ?_ ?_
      · exact st_put hN_6 (by kernel_rfl) (by kernel_rfl) (by kernel_rfl) rfl rfl rfl
      refine pk_cons rfl rfl ?_ ?_
      · exact st_pure [.bool true] [] (.bool true) rfl hN_6 (by kernel_rfl) (by kernel_rfl) (by kernel_rfl) old0 (by kernel_rfl) (by kernel_rfl) (by kernel_rfl) (fun _ => by kernel_rfl)
      exact pk_nil rfl
    intro W_7 x hC hall
    refine then_n ?_
    obtain ⟨a_7, ha⟩ : ∃ a, a = putE x a_6 [(0, some 52), (1, some 53), (2, some 54), (3, some 55), (4, some 56), (5, some 57), (6, some 51), (7, some 58), (8, some 59), (9, some 11), (10, none), (11, some 12)] := ⟨_, rfl⟩
    rw [← ha]
    have hN_7 := size_behind ha hN_6
    have hD_7 := defers_behind ha hD_6
    have bb_7 := bb_6.trans hC.below
    have e3_7 := slot_old ha (by kernel_rfl) e3_6
    have l3_7 := hC.locZ l3_6
    have e4_7 := slot_old ha (by kernel_rfl) e4_6
    have l4_7 := hC.locZ l4_6
    have e5_7 := slot_old ha (by kernel_rfl) e5_6
    have l5_7 := hC.locZ l5_6
    have e7_7 := slot_old ha (by kernel_rfl) e7_6
    have l7_7 := hC.locR l7_6
    have e8_7 := slot_old ha (by kernel_rfl) e8_6
    have l8_7 := hC.locR l8_6
    have e9_7 := slot_old ha (by kernel_rfl) e9_6
    have e10_7 := slot_old ha (by kernel_rfl) e10_6
    have e48_7 := slot_old ha (by kernel_rfl) e48_6
    have LL_7 := hC.zrs LL_6
    obtain ⟨g11, hx, l11_7⟩ := put_loc (show (kPutZ 9 1002 (za - (zb))).sem _ _ _ _ from hall 10 (of_decide_eq_true (by kernel_rfl)))
    have e11_7 := (slot_new (t := 11) (i := 9) ha hN_6 (by kernel_rfl) (by kernel_rfl)).trans hx
    clear hx
    have e12_7 := (slot_new (t := 12) (i := 11) ha hN_6 (by kernel_rfl) (by kernel_rfl)).trans (show x 11 = .bool true from hall 11 (of_decide_eq_true (by kernel_rfl)))
    clear hall hC ha bb_6 hD_6 e3_6 l3_6 e4_6 l4_6 e5_6 l5_6 e7_6 l7_6 e8_6 l8_6 e9_6 e10_6 e48_6 LL_6
    repeat (first | refine wp_seq ?_ | (refine wp_skip ?_; refine then_n ?_))
    refine wp_region_law hN_7 w.heap.size
      [kIs (.slice (some ⟨gl, 0, none⟩) 7 7), kIs (.int .i64 (3)), kIs (.pointer (some ⟨gl, 6, none⟩)), kZ 1002 (za - (zb)), kIs (.bool true), kIs (.bool false), kIs (.bool false), kIs (.bool true), kIs (.bool false), kIs (.bool false), kIs (.bool false), kZ 1002 (za - (zb)), kIs (.slice (some ⟨gl, 0, none⟩) 7 7), kIs (.int .i64 (3)), kIs (.pointer (some ⟨gl, 6, none⟩)), kZ 1002 (za - (zb)), kIs (.bool true), kIs (.bool false), kIs (.bool false)]
      [ [], [], [(0, some 60), (1, some 61)], [(2, some 62)], [(3, some 63)], [(4, some 64)], [(5, some 65)], [], [(7, some 67)], [(6, some 66), (8, some 68)], [(9, some 69)], [], [], [], [(12, some 72), (13, some 73)], [(14, some 74)], [(11, some 71), (15, some 75)], [(16, some 76)], [(10, some 70), (17, some 77)] ]
      [(0, some 60), (1, some 61), (2, some 62), (3, some 63), (4, some 64), (5, some 65), (6, some 66), (7, some 67), (8, some 68), (9, some 69), (10, some 70), (11, some 71), (12, some 72), (13, some 73), (14, some 74), (15, some 75), (16, some 76), (17, some 77), (18, some 78)] [(6, false), (10, false)] [] (by kernel_rfl) (by kernel_rfl) (by kernel_rfl) (by kernel_rfl) (by kernel_rfl) (by kernel_rfl) (by kernel_rfl) bb_7.size ?_ ?_
    ·
      refine pk_cons rfl rfl ?_ ?_
      · exact st_pure [] [(9, .slice (some ⟨gl, 0, none⟩) 7 7)] (.slice (some ⟨gl, 0, none⟩) 7 7) rfl hN_7 (by kernel_rfl) (by kernel_rfl) (by kernel_rfl) (old1 e9_7) (by kernel_rfl) (by kernel_rfl) (by kernel_rfl) (fun _ => by kernel_rfl)
      refine pk_cons rfl rfl ?_ ?_
      · exact st_pure [] [(10, .int .i64 (3))] (.int .i64 (3)) rfl hN_7 (by kernel_rfl) (by kernel_rfl) (by kernel_rfl) (old1 e10_7) (by kernel_rfl) (by kernel_rfl) (by kernel_rfl) (fun _ => by kernel_rfl)
      refine pk_cons rfl rfl ?_ ?_
      · exact st_pure [.slice (some ⟨gl, 0, none⟩) 7 7, .int .i64 (3)] [] (.pointer (some ⟨gl, 6, none⟩)) rfl hN_7 (by kernel_rfl) (by kernel_rfl) (by kernel_rfl) old0 (by kernel_rfl) (by kernel_rfl) (by kernel_rfl) (fun _ => by kernel_rfl)
      refine pk_cons rfl rfl ?_ ?_
      · exact st_loadI LL_7 (n := 3) rfl rfl hN_7 (by kernel_rfl) (by kernel_rfl) rfl rfl
      refine pk_cons rfl rfl ?_ ?_
      · exact st_call1 hN_7 (by kernel_rfl) (by kernel_rfl) (by kernel_rfl) rfl rfl fun w x v1 hC h1 => ti (z_right (rr h1))
      refine pk_cons rfl rfl ?_ ?_
      · exact st_pure [.bool true] [] (.bool false) rfl hN_7 (by kernel_rfl) (by kernel_rfl) (by kernel_rfl) old0 (by kernel_rfl) (by kernel_rfl) (by kernel_rfl) (fun _ => by kernel_rfl)
      refine pk_cons rfl rfl ?_ ?_
      · exact st_pure [.bool false] [] (.bool false) rfl hN_7 (by kernel_rfl) (by kernel_rfl) (by kernel_rfl) old0 (by kernel_rfl) (by kernel_rfl) (by kernel_rfl) (fun _ => by kernel_rfl)
      refine pk_cons rfl rfl ?_ ?_
      · exact st_pure [] [(12, .bool true)] (.bool true) rfl hN_7 (by kernel_rfl) (by kernel_rfl) (by kernel_rfl) (old1 e12_7) (by kernel_rfl) (by kernel_rfl) (by kernel_rfl) (fun _ => by kernel_rfl)
      refine pk_cons rfl rfl ?_ ?_
      · exact st_pure [.bool true] [] (.bool false) rfl hN_7 (by kernel_rfl) (by kernel_rfl) (by kernel_rfl) old0 (by kernel_rfl) (by kernel_rfl) (by kernel_rfl) (fun _ => by kernel_rfl)
      refine pk_cons rfl rfl ?_ ?_
      · exact st_pure [.bool false, .bool false] [] (.bool false) rfl hN_7 (by kernel_rfl) (by kernel_rfl) (by kernel_rfl) old0 (by kernel_rfl) (by kernel_rfl) (by kernel_rfl) (fun _ => by kernel_rfl)
      refine pk_cons rfl rfl ?_ ?_
      · exact st_pure [.bool false] [] (.bool false) rfl hN_7 (by kernel_rfl) (by kernel_rfl) (by kernel_rfl) old0 (by kernel_rfl) (by kernel_rfl) (by kernel_rfl) (fun _ => by kernel_rfl)
      refine pk_cons rfl rfl ?_ ?_
      · exact st_loadR l11_7 e11_7 hN_7 (by kernel_rfl) rfl
      refine pk_cons rfl rfl ?_ ?_
      · exact st_pure [] [(9, .slice (some ⟨gl, 0, none⟩) 7 7)] (.slice (some ⟨gl, 0, none⟩) 7 7) rfl hN_7 (by kernel_rfl) (by kernel_rfl) (by kernel_rfl) (old1 e9_7) (by kernel_rfl) (by kernel_rfl) (by kernel_rfl) (fun _ => by kernel_rfl)
      refine pk_cons rfl rfl ?_ ?_
      · exact st_pure [] [(10, .int .i64 (3))] (.int .i64 (3)) rfl hN_7 (by kernel_rfl) (by kernel_rfl) (by kernel_rfl) (old1 e10_7) (by kernel_rfl) (by kernel_rfl) (by kernel_rfl) (fun _ => by kernel_rfl)
      refine pk_cons rfl rfl ?_ ?_
      · exact st_pure [.slice (some ⟨gl, 0, none⟩) 7 7, .int .i64 (3)] [] (.pointer (some ⟨gl, 6, none⟩)) rfl hN_7 (by kernel_rfl) (by kernel_rfl) (by kernel_rfl) old0 (by kernel_rfl) (by kernel_rfl) (by kernel_rfl) (fun _ => by kernel_rfl)
      refine pk_cons rfl rfl ?_ ?_
      · exact st_loadI LL_7 (n := 3) rfl rfl hN_7 (by kernel_rfl) (by kernel_rfl) rfl rfl
      refine pk_cons rfl rfl ?_ ?_
      · exact st_call2 hN_7 (by kernel_rfl) (by kernel_rfl) (by kernel_rfl) (by kernel_rfl) (by kernel_rfl) rfl rfl rfl fun w x v1 v2 hC h1 h2 => ti (z_same (rr h1) (rr h2) (rfl))
      refine pk_cons rfl rfl ?_ ?_
      · exact st_pure [.bool true] [] (.bool false) rfl hN_7 (by kernel_rfl) (by kernel_rfl) (by kernel_rfl) old0 (by kernel_rfl) (by kernel_rfl) (by kernel_rfl) (fun _ => by kernel_rfl)
      refine pk_cons rfl rfl ?_ ?_
      · exact st_pure [.bool false, .bool false] [] (.bool false) rfl hN_7 (by kernel_rfl) (by kernel_rfl) (by kernel_rfl) old0 (by kernel_rfl) (by kernel_rfl) (by kernel_rfl) (fun _ => by kernel_rfl)
      exact pk_nil rfl
    intro W_8 x hC hall
    refine then_n ?_
    obtain ⟨a_8, ha⟩ : ∃ a, a = putE x a_7 [(0, some 60), (1, some 61), (2, some 62), (3, some 63), (4, some 64), (5, some 65), (6, some 66), (7, some 67), (8, some 68), (9, some 69), (10, some 70), (11, some 71), (12, some 72), (13, some 73), (14, some 74), (15, some 75), (16, some 76), (17, some 77), (18, some 78)] := ⟨_, rfl⟩
    rw [← ha]
    have hN_8 := size_behind ha hN_7
    have hD_8 := defers_behind ha hD_7
    have bb_8 := bb_7.trans hC.below
    have e3_8 := slot_old ha (by kernel_rfl) e3_7
    have l3_8 := hC.locZ l3_7
    have e4_8 := slot_old ha (by kernel_rfl) e4_7
    have l4_8 := hC.locZ l4_7
    have e5_8 := slot_old ha (by kernel_rfl) e5_7
    have l5_8 := hC.locZ l5_7
    have e7_8 := slot_old ha (by kernel_rfl) e7_7
    have l7_8 := hC.locR l7_7
    have e8_8 := slot_old ha (by kernel_rfl) e8_7
    have l8_8 := hC.locR l8_7
    have e9_8 := slot_old ha (by kernel_rfl) e9_7
    have e10_8 := slot_old ha (by kernel_rfl) e10_7
    have e48_8 := slot_old ha (by kernel_rfl) e48_7
    have e11_8 := slot_old ha (by kernel_rfl) e11_7
    have l11_8 := hC.locR l11_7
    have e12_8 := slot_old ha (by kernel_rfl) e12_7
    have LL_8 := hC.zrs LL_7
    have e78_8 := (slot_new (t := 78) (i := 18) ha hN_7 (by kernel_rfl) (by kernel_rfl)).trans (show x 18 = .bool false from hall 18 (of_decide_eq_true (by kernel_rfl)))
    clear hall hC ha bb_7 hD_7 e3_7 l3_7 e4_7 l4_7 e5_7 l5_7 e7_7 l7_7 e8_7 l8_7 e9_7 e10_7 e48_7 e11_7 l11_7 e12_7 LL_7
    refine wp_cond_false e78_8 ?_
    repeat (first | refine wp_seq ?_ | (refine wp_skip ?_; refine then_n ?_))
    refine wp_skip ?_
    refine in_block ?_
    refine then_n ?_
    refine wp_incr (n := 3) (m := 4) hN_8 (by kernel_rfl) (by kernel_rfl) e10_8 (fun _ => by kernel_rfl) ?_
    intro x hx
    refine then_n ?_
    obtain ⟨a_9, ha⟩ : ∃ a, a = putE x a_8 [(0, some 49), (1, some 50), (2, some 10)] := ⟨_, rfl⟩
    rw [← ha]
    have hN_9 := size_behind ha hN_8
    have hD_9 := defers_behind ha hD_8
    have bb_9 := bb_8
    have e3_9 := slot_old ha (by kernel_rfl) e3_8
    have l3_9 := l3_8
    have e4_9 := slot_old ha (by kernel_rfl) e4_8
    have l4_9 := l4_8
    have e5_9 := slot_old ha (by kernel_rfl) e5_8
    have l5_9 := l5_8
    have e7_9 := slot_old ha (by kernel_rfl) e7_8
    have l7_9 := l7_8
    have e8_9 := slot_old ha (by kernel_rfl) e8_8
    have l8_9 := l8_8
    have e9_9 := slot_old ha (by kernel_rfl) e9_8
    have e48_9 := slot_old ha (by kernel_rfl) e48_8
    have e11_9 := slot_old ha (by kernel_rfl) e11_8
    have l11_9 := l11_8
    have e12_9 := slot_old ha (by kernel_rfl) e12_8
    have e78_9 := slot_old ha (by kernel_rfl) e78_8
    have LL_9 := LL_8
    have e10_9 := (slot_new (t := 10) (i := 2) ha hN_8 (by kernel_rfl) (by kernel_rfl)).trans hx
    clear ha hx
    refine ⟨⟨hN_9, hD_9, e3_9, e4_9, e5_9, e7_9, e8_9, e9_9, ⟨4, by decide, e10_9⟩, bb_9, l3_9, l4_9, l5_9, l7_9, l8_9, LL_9⟩, ?_⟩
    rw [e10_9]; decide
  ·
    have hm : intOf (a_5.eval (.tmp 10)) = 4 := by rw [e10_5]; rfl
    rw [hm]
    clear hi hm
    repeat (first | refine wp_seq ?_ | (refine wp_skip ?_; refine then_n ?_))
    refine wp_region_law hN_5 w.heap.size
      [kIs (.int .i64 (4)), kIs (.slice (some ⟨gl, 0, none⟩) 7 7), kIs (.int .i64 (7)), kIs (.bool true)]
      [ [], [], [(1, some 46)], [(0, some 45), (2, some 47)] ]
      [(0, some 45), (1, some 46), (2, some 47), (3, some 48)] [] [] (by kernel_rfl) (by kernel_rfl) (by kernel_rfl) (by kernel_rfl) (by kernel_rfl) (by kernel_rfl) (by kernel_rfl) bb_5.size ?_ ?_
    ·
      refine pk_cons rfl rfl ?_ ?_
      · exact st_pure [] [(10, .int .i64 (4))] (.int .i64 (4)) rfl hN_5 (by kernel_rfl) (by kernel_rfl) (by kernel_rfl) (old1 e10_5) (by kernel_rfl) (by kernel_rfl) (by kernel_rfl) (fun _ => by kernel_rfl)
      refine pk_cons rfl rfl ?_ ?_
      · exact st_pure [] [(9, .slice (some ⟨gl, 0, none⟩) 7 7)] (.slice (some ⟨gl, 0, none⟩) 7 7) rfl hN_5 (by kernel_rfl) (by kernel_rfl) (by kernel_rfl) (old1 e9_5) (by kernel_rfl) (by kernel_rfl) (by kernel_rfl) (fun _ => by kernel_rfl)
      refine pk_cons rfl rfl ?_ ?_
      · exact st_pure [.slice (some ⟨gl, 0, none⟩) 7 7] [] (.int .i64 (7)) rfl hN_5 (by kernel_rfl) (by kernel_rfl) (by kernel_rfl) old0 (by kernel_rfl) (by kernel_rfl) (by kernel_rfl) (fun _ => by kernel_rfl)
      refine pk_cons rfl rfl ?_ ?_
      · exact st_pure [.int .i64 (4), .int .i64 (7)] [] (.bool true) rfl hN_5 (by kernel_rfl) (by kernel_rfl) (by kernel_rfl) old0 (by kernel_rfl) (by kernel_rfl) (by kernel_rfl) (fun _ => by kernel_rfl)
      exact pk_nil rfl
    intro W_6 x hC hall
    refine then_n ?_
    obtain ⟨a_6, ha⟩ : ∃ a, a = putE x a_5 [(0, some 45), (1, some 46), (2, some 47), (3, some 48)] := ⟨_, rfl⟩
    rw [← ha]
    have hN_6 := size_behind ha hN_5
    have hD_6 := defers_behind ha hD_5
    have bb_6 := bb_5.trans hC.below
    have e3_6 := slot_old ha (by kernel_rfl) e3_5
    have l3_6 := hC.locZ l3_5
    have e4_6 := slot_old ha (by kernel_rfl) e4_5
    have l4_6 := hC.locZ l4_5
    have e5_6 := slot_old ha (by kernel_rfl) e5_5
    have l5_6 := hC.locZ l5_5
    have e7_6 := slot_old ha (by kernel_rfl) e7_5
    have l7_6 := hC.locR l7_5
    have e8_6 := slot_old ha (by kernel_rfl) e8_5
    have l8_6 := hC.locR l8_5
    have e9_6 := slot_old ha (by kernel_rfl) e9_5
    have e10_6 := slot_old ha (by kernel_rfl) e10_5
    have LL_6 := hC.zrs LL_5
    have e48_6 := (slot_new (t := 48) (i := 3) ha hN_5 (by kernel_rfl) (by kernel_rfl)).trans (show x 3 = .bool true from hall 3 (of_decide_eq_true (by kernel_rfl)))
    clear hall hC ha bb_5 hD_5 e3_5 l3_5 e4_5 l4_5 e5_5 l5_5 e7_5 l7_5 e8_5 l8_5 e9_5 e10_5 LL_5
    refine wp_cond_true e48_6 ?_
    repeat (first | refine wp_seq ?_ | (refine wp_skip ?_; refine then_n ?_))
    refine wp_block ?_
    repeat (first | refine wp_seq ?_ | (refine wp_skip ?_; refine then_n ?_))
    refine wp_region_law hN_6 w.heap.size
      [kIs (.slice (some ⟨gl, 0, none⟩) 7 7), kIs (.int .i64 (4)), kIs (.pointer (some ⟨gl, 8, none⟩)), kZ 1001 (((zgcd [(za), (zb), (zc)] : Nat) : Int)), kIs (.string (ztext (((zgcd [(za), (zb), (zc)] : Nat) : Int)))), kZB 1001 (((zgcd [(za), (zb), (zc)] : Nat) : Int)) true, kZB 1001 (((zgcd [(za), (zb), (zc)] : Nat) : Int)) true, kZ 1001 (((zgcd [(za), (zb), (zc)] : Nat) : Int)), kIs (.bool true), PK.fresh 2, kPutZ 9 1001 (((zgcd [(za), (zb), (zc)] : Nat) : Int)), kIs (.bool true)]
      [ [], [], [(0, some 52), (1, some 53)], [(2, some 54)], [(3, some 55)], [(4, some 56)], [(5, some 57)], [(6, some 51)], [(6, some 51)], [], [(9, some 11), (7, some 58)], [(8, some 59)] ]
      [(0, some 52), (1, some 53), (2, some 54), (3, some 55), (4, some 56), (5, some 57), (6, some 51), (7, some 58), (8, some 59), (9, some 11), (10, none), (11, some 12)] [] [] (by kernel_rfl) (by kernel_rfl) (by kernel_rfl) (by kernel_rfl) (by kernel_rfl) (by kernel_rfl) (by kernel_rfl) bb_6.size ?_ ?_
    ·
      refine pk_cons rfl rfl ?_ ?_
      · exact st_pure [] [(9, .slice (some ⟨gl, 0, none⟩) 7 7)] (.slice (some ⟨gl, 0, none⟩) 7 7) rfl hN_6 (by kernel_rfl) (by kernel_rfl) (by kernel_rfl) (old1 e9_6) (by kernel_rfl) (by kernel_rfl) (by kernel_rfl) (fun _ => by kernel_rfl)
      refine pk_cons rfl rfl ?_ ?_
      · exact st_pure [] [(10, .int .i64 (4))] (.int .i64 (4)) rfl hN_6 (by kernel_rfl) (by kernel_rfl) (by kernel_rfl) (old1 e10_6) (by kernel_rfl) (by kernel_rfl) (by kernel_rfl) (fun _ => by kernel_rfl)
      refine pk_cons rfl rfl ?_ ?_
      · exact st_pure [.slice (some ⟨gl, 0, none⟩) 7 7, .int .i64 (4)] [] (.pointer (some ⟨gl, 8, none⟩)) rfl hN_6 (by kernel_rfl) (by kernel_rfl) (by kernel_rfl) old0 (by kernel_rfl) (by kernel_rfl) (by kernel_rfl) (fun _ => by kernel_rfl)
      refine pk_cons rfl rfl ?_ ?_
      · exact st_loadI LL_6 (n := 4) rfl rfl hN_6 (by kernel_rfl) (by kernel_rfl) rfl rfl
      refine pk_cons rfl rfl ?_ ?_
      · exact st_call1 hN_6 (by kernel_rfl) (by kernel_rfl) (by kernel_rfl) rfl rfl fun w x v1 hC h1 => ti (z_text (rz h1) (by decide) (HT.out.1.below (bb_6.trans hC.below) HT.out.2) (Nat.le_trans HT.out.2 (bb_6.trans hC.below).size))
      refine pk_cons rfl rfl ?_ ?_
      · exact st_call1 hN_6 (by kernel_rfl) (by kernel_rfl) (by kernel_rfl) rfl rfl fun w x v1 hC h1 => parse_at (k := 1001) (z := ((zgcd [(za), (zb), (zc)] : Nat) : Int)) HZB 4 rfl h1 (by decide)
      refine pk_cons rfl rfl ?_ ?_
      · exact st_move hN_6 (by kernel_rfl) (by kernel_rfl) rfl rfl
      refine pk_cons rfl rfl ?_ ?_
      · exact st_ext hN_6 (by kernel_rfl) (by kernel_rfl) rfl rfl ext_z
      refine pk_cons rfl rfl ?_ ?_
      · exact st_ext hN_6 (by kernel_rfl) (by kernel_rfl) rfl rfl ext_ok
      refine pk_cons rfl rfl ?_ ?_
      · exact st_alloc hN_6 (by kernel_rfl) (Nat.le_refl _) rfl
      refine pk_cons rfl rfl ?_ ?_
      · exact st_put hN_6 (by kernel_rfl) (by kernel_rfl) (by kernel_rfl) rfl rfl rfl
      refine pk_cons rfl rfl ?_ ?_
      · exact st_pure [.bool true] [] (.bool true) rfl hN_6 (by kernel_rfl) (by kernel_rfl) (by kernel_rfl) old0 (by kernel_rfl) (by kernel_rfl) (by kernel_rfl) (fun _ => by kernel_rfl)
      exact pk_nil rfl
    intro W_7 x hC hall
    refine then_n ?_
    obtain ⟨a_7, ha⟩ : ∃ a, a = putE x a_6 [(0, some 52), (1, some 53), (2, some 54), (3, some 55), (4, some 56), (5, some 57), (6, some 51), (7, some 58), (8, some 59), (9, some 11), (10, none), (11, some 12)] := ⟨_, rfl⟩
    rw [← ha]
    have hN_7 := size_behind ha hN_6
    have hD_7 := defers_behind ha hD_6
    have bb_7 := bb_6.trans hC.below
    have e3_7 := slot_old ha (by kernel_rfl) e3_6
    have l3_7 := hC.locZ l3_6
    have e4_7 := slot_old ha (by kernel_rfl) e4_6
    have l4_7 := hC.locZ l4_6
    have e5_7 := slot_old ha (by kernel_rfl) e5_6
    have l5_7 := hC.locZ l5_6
    have e7_7 := slot_old ha (by kernel_rfl) e7_6
    have l7_7 := hC.locR l7_6
    have e8_7 := slot_old ha (by kernel_rfl) e8_6
    have l8_7 := hC.locR l8_6
    have e9_7 := slot_old ha (by kernel_rfl) e9_6
    have e10_7 := slot_old ha (by kernel_rfl) e10_6
    have e48_7 := slot_old ha (by kernel_rfl) e48_6
    have LL_7 := hC.zrs LL_6
    obtain ⟨g11, hx, l11_7⟩ := put_loc (show (kPutZ 9 1001 (((zgcd [(za), (zb), (zc)] : Nat) : Int))).sem _ _ _ _ from hall 10 (of_decide_eq_true (by kernel_rfl)))
    have e11_7 := (slot_new (t := 11) (i := 9) ha hN_6 (by kernel_rfl) (by kernel_rfl)).trans hx
    clear hx
    have e12_7 := (slot_new (t := 12) (i := 11) ha hN_6 (by kernel_rfl) (by kernel_rfl)).trans (show x 11 = .bool true from hall 11 (of_decide_eq_true (by kernel_rfl)))
    clear hall hC ha bb_6 hD_6 e3_6 l3_6 e4_6 l4_6 e5_6 l5_6 e7_6 l7_6 e8_6 l8_6 e9_6 e10_6 e48_6 LL_6
    repeat (first | refine wp_seq ?_ | (refine wp_skip ?_; refine then_n ?_))
    refine wp_region_law hN_7 w.heap.size
      [kIs (.slice (some ⟨gl, 0, none⟩) 7 7), kIs (.int .i64 (4)), kIs (.pointer (some ⟨gl, 8, none⟩)), kZ 1001 (((zgcd [(za), (zb), (zc)] : Nat) : Int)), kIs (.bool true), kIs (.bool false), kIs (.bool false), kIs (.bool true), kIs (.bool false), kIs (.bool false), kIs (.bool false), kZ 1001 (((zgcd [(za), (zb), (zc)] : Nat) : Int)), kIs (.slice (some ⟨gl, 0, none⟩) 7 7), kIs (.int .i64 (4)), kIs (.pointer (some ⟨gl, 8, none⟩)), kZ 1001 (((zgcd [(za), (zb), (zc)] : Nat) : Int)), kIs (.bool true), kIs (.bool false), kIs (.bool false)]
      [ [], [], [(0, some 60), (1, some 61)], [(2, some 62)], [(3, some 63)], [(4, some 64)], [(5, some 65)], [], [(7, some 67)], [(6, some 66), (8, some 68)], [(9, some 69)], [], [], [], [(12, some 72), (13, some 73)], [(14, some 74)], [(11, some 71), (15, some 75)], [(16, some 76)], [(10, some 70), (17, some 77)] ]
      [(0, some 60), (1, some 61), (2, some 62), (3, some 63), (4, some 64), (5, some 65), (6, some 66), (7, some 67), (8, some 68), (9, some 69), (10, some 70), (11, some 71), (12, some 72), (13, some 73), (14, some 74), (15, some 75), (16, some 76), (17, some 77), (18, some 78)] [(6, false), (10, false)] [] (by kernel_rfl) (by kernel_rfl) (by kernel_rfl) (by kernel_rfl) (by kernel_rfl) (by kernel_rfl) (by kernel_rfl) bb_7.size ?_ ?_
    ·
      refine pk_cons rfl rfl ?_ ?_
      · exact st_pure [] [(9, .slice (some ⟨gl, 0, none⟩) 7 7)] (.slice (some ⟨gl, 0, none⟩) 7 7) rfl hN_7 (by kernel_rfl) (by kernel_rfl) (by kernel_rfl) (old1 e9_7) (by kernel_rfl) (by kernel_rfl) (by kernel_rfl) (fun _ => by kernel_rfl)
      refine pk_cons rfl rfl ?_ ?_
      · exact st_pure [] [(10, .int .i64 (4))] (.int .i64 (4)) rfl hN_7 (by kernel_rfl) (by kernel_rfl) (by kernel_rfl) (old1 e10_7) (by kernel_rfl) (by kernel_rfl) (by kernel_rfl) (fun _ => by kernel_rfl)
      refine pk_cons rfl rfl ?_ ?_
      · exact st_pure [.slice (some ⟨gl, 0, none⟩) 7 7, .int .i64 (4)] [] (.pointer (some ⟨gl, 8, none⟩)) rfl hN_7 (by kernel_rfl) (by kernel_rfl) (by kernel_rfl) old0 (by kernel_rfl) (by kernel_rfl) (by kernel_rfl) (fun _ => by kernel_rfl)
      refine pk_cons rfl rfl ?_ ?_
      · exact st_loadI LL_7 (n := 4) rfl rfl hN_7 (by kernel_rfl) (by kernel_rfl) rfl rfl
      refine pk_cons rfl rfl ?_ ?_
      · exact st_call1 hN_7 (by kernel_rfl) (by kernel_rfl) (by kernel_rfl) rfl rfl fun w x v1 hC h1 => ti (z_right (rr h1))
      refine pk_cons rfl rfl ?_ ?_
      · exact st_pure [.bool true] [] (.bool false) rfl hN_7 (by kernel_rfl) (by kernel_rfl) (by kernel_rfl) old0 (by kernel_rfl) (by kernel_rfl) (by kernel_rfl) (fun _ => by kernel_rfl)
      refine pk_cons rfl rfl ?_ ?_
      · exact st_pure [.bool false] [] (.bool false) rfl hN_7 (by kernel_rfl) (by kernel_rfl) (by kernel_rfl) old0 (by kernel_rfl) (by kernel_rfl) (by kernel_rfl) (fun _ => by kernel_rfl)
      refine pk_cons rfl rfl ?_ ?_
      · exact st_pure [] [(12, .bool true)] (.bool true) rfl hN_7 (by kernel_rfl) (by kernel_rfl) (by kernel_rfl) (old1 e12_7) (by kernel_rfl) (by kernel_rfl) (by kernel_rfl) (fun _ => by kernel_rfl)
      refine pk_cons rfl rfl ?_ ?_
      · exact st_pure [.bool true] [] (.bool false) rfl hN_7 (by kernel_rfl) (by kernel_rfl) (by kernel_rfl) old0 (by kernel_rfl) (by kernel_rfl) (by kernel_rfl) (fun _ => by kernel_rfl)
      refine pk_cons rfl rfl ?_ ?_
      · exact st_pure [.bool false, .bool false] [] (.bool false) rfl hN_7 (by kernel_rfl) (by kernel_rfl) (by kernel_rfl) old0 (by kernel_rfl) (by kernel_rfl) (by kernel_rfl) (fun _ => by kernel_rfl)
      refine pk_cons rfl rfl ?_ ?_
      · exact st_pure [.bool false] [] (.bool false) rfl hN_7 (by kernel_rfl) (by kernel_rfl) (by kernel_rfl) old0 (by kernel_rfl) (by kernel_rfl) (by kernel_rfl) (fun _ => by kernel_rfl)
      refine pk_cons rfl rfl ?_ ?_
      · exact st_loadR l11_7 e11_7 hN_7 (by kernel_rfl) rfl
      refine pk_cons rfl rfl ?_ ?_
      · exact st_pure [] [(9, .slice (some ⟨gl, 0, none⟩) 7 7)] (.slice (some ⟨gl, 0, none⟩) 7 7) rfl hN_7 (by kernel_rfl) (by kernel_rfl) (by kernel_rfl) (old1 e9_7) (by kernel_rfl) (by kernel_rfl) (by kernel_rfl) (fun _ => by kernel_rfl)
      refine pk_cons rfl rfl ?_ ?_
      · exact st_pure [] [(10, .int .i64 (4))] (.int .i64 (4)) rfl hN_7 (by kernel_rfl) (by kernel_rfl) (by kernel_rfl) (old1 e10_7) (by kernel_rfl) (by kernel_rfl) (by kernel_rfl) (fun _ => by kernel_rfl)
      refine pk_cons rfl rfl ?_ ?_
      · exact st_pure [.slice (some ⟨gl, 0, none⟩) 7 7, .int .i64 (4)] [] (.pointer (some ⟨gl, 8, none⟩)) rfl hN_7 (by kernel_rfl) (by kernel_rfl) (by kernel_rfl) old0 (by kernel_rfl) (by kernel_rfl) (by kernel_rfl) (fun _ => by kernel_rfl)
      refine pk_cons rfl rfl ?_ ?_
      · exact st_loadI LL_7 (n := 4) rfl rfl hN_7 (by kernel_rfl) (by kernel_rfl) rfl rfl
      refine pk_cons rfl rfl ?_ ?_
      · exact st_call2 hN_7 (by kernel_rfl) (by kernel_rfl) (by kernel_rfl) (by kernel_rfl) (by kernel_rfl) rfl rfl rfl fun w x v1 v2 hC h1 h2 => ti (z_same (rr h1) (rr h2) (rfl))
      refine pk_cons rfl rfl ?_ ?_
      · exact st_pure [.bool true] [] (.bool false) rfl hN_7 (by kernel_rfl) (by kernel_rfl) (by kernel_rfl) old0 (by kernel_rfl) (by kernel_rfl) (by kernel_rfl) (fun _ => by kernel_rfl)
      refine pk_cons rfl rfl ?_ ?_
      · exact st_pure [.bool false, .bool false] [] (.bool false) rfl hN_7 (by kernel_rfl) (by kernel_rfl) (by kernel_rfl) old0 (by kernel_rfl) (by kernel_rfl) (by kernel_rfl) (fun _ => by kernel_rfl)
      exact pk_nil rfl
    intro W_8 x hC hall
    refine then_n ?_
    obtain ⟨a_8, ha⟩ : ∃ a, a = putE x a_7 [(0, some 60), (1, some 61), (2, some 62), (3, some 63), (4, some 64), (5, some 65), (6, some 66), (7, some 67), (8, some 68), (9, some 69), (10, some 70), (11, some 71), (12, some 72), (13, some 73), (14, some 74), (15, some 75), (16, some 76), (17, some 77), (18, some 78)] := ⟨_, rfl⟩
    rw [← ha]
    have hN_8 := size_behind ha hN_7
    have hD_8 := defers_behind ha hD_7
    have bb_8 := bb_7.trans hC.below
    have e3_8 := slot_old ha (by kernel_rfl) e3_7
    have l3_8 := hC.locZ l3_7
    have e4_8 := slot_old ha (by kernel_rfl) e4_7
    have l4_8 := hC.locZ l4_7
    have e5_8 := slot_old ha (by kernel_rfl) e5_7
    have l5_8 := hC.locZ l5_7
    have e7_8 := slot_old ha (by kernel_rfl) e7_7
    have l7_8 := hC.locR l7_7
    have e8_8 := slot_old ha (by kernel_rfl) e8_7
    have l8_8 := hC.locR l8_7
    have e9_8 := slot_old ha (by kernel_rfl) e9_7
    have e10_8 := slot_old ha (by kernel_rfl) e10_7
    have e48_8 := slot_old ha (by kernel_rfl) e48_7
    have e11_8 := slot_old ha (by kernel_rfl) e11_7
    have l11_8 := hC.locR l11_7
    have e12_8 := slot_old ha (by kernel_rfl) e12_7
    have LL_8 := hC.zrs LL_7
    have e78_8 := (slot_new (t := 78) (i := 18) ha hN_7 (by kernel_rfl) (by kernel_rfl)).trans (show x 18 = .bool false from hall 18 (of_decide_eq_true (by kernel_rfl)))
    clear hall hC ha bb_7 hD_7 e3_7 l3_7 e4_7 l4_7 e5_7 l5_7 e7_7 l7_7 e8_7 l8_7 e9_7 e10_7 e48_7 e11_7 l11_7 e12_7 LL_7
    refine wp_cond_false e78_8 ?_
    repeat (first | refine wp_seq ?_ | (refine wp_skip ?_; refine then_n ?_))
    refine wp_skip ?_
    refine in_block ?_
    refine then_n ?_
    refine wp_incr (n := 4) (m := 5) hN_8 (by kernel_rfl) (by kernel_rfl) e10_8 (fun _ => by kernel_rfl) ?_
    intro x hx
    refine then_n ?_
    obtain ⟨a_9, ha⟩ : ∃ a, a = putE x a_8 [(0, some 49), (1, some 50), (2, some 10)] := ⟨_, rfl⟩
    rw [← ha]
    have hN_9 := size_behind ha hN_8
    have hD_9 := defers_behind ha hD_8
    have bb_9 := bb_8
    have e3_9 := slot_old ha (by kernel_rfl) e3_8
    have l3_9 := l3_8
    have e4_9 := slot_old ha (by kernel_rfl) e4_8
    have l4_9 := l4_8
    have e5_9 := slot_old ha (by kernel_rfl) e5_8
    have l5_9 := l5_8
    have e7_9 := slot_old ha (by kernel_rfl) e7_8
    have l7_9 := l7_8
    have e8_9 := slot_old ha (by kernel_rfl) e8_8
    have l8_9 := l8_8
    have e9_9 := slot_old ha (by kernel_rfl) e9_8
    have e48_9 := slot_old ha (by kernel_rfl) e48_8
    have e11_9 := slot_old ha (by kernel_rfl) e11_8
    have l11_9 := l11_8
    have e12_9 := slot_old ha (by kernel_rfl) e12_8
    have e78_9 := slot_old ha (by kernel_rfl) e78_8
    have LL_9 := LL_8
    have e10_9 := (slot_new (t := 10) (i := 2) ha hN_8 (by kernel_rfl) (by kernel_rfl)).trans hx
    clear ha hx
    refine ⟨⟨hN_9, hD_9, e3_9, e4_9, e5_9, e7_9, e8_9, e9_9, ⟨5, by decide, e10_9⟩, bb_9, l3_9, l4_9, l5_9, l7_9, l8_9, LL_9⟩, ?_⟩
    rw [e10_9]; decide
  ·
    have hm : intOf (a_5.eval (.tmp 10)) = 5 := by rw [e10_5]; rfl
    rw [hm]
    clear hi hm
    repeat (first | refine wp_seq ?_ | (refine wp_skip ?_; refine then_n ?_))
    refine wp_region_law hN_5 w.heap.size
      [kIs (.int .i64 (5)), kIs (.slice (some ⟨gl, 0, none⟩) 7 7), kIs (.int .i64 (7)), kIs (.bool true)]
      [ [], [], [(1, some 46)], [(0, some 45), (2, some 47)] ]
      [(0, some 45), (1, some 46), (2, some 47), (3, some 48)] [] [] (by kernel_rfl) (by kernel_rfl) (by kernel_rfl) (by kernel_rfl) (by kernel_rfl) (by kernel_rfl) (by kernel_rfl) bb_5.size ?_ ?_
    ·
      refine pk_cons rfl rfl ?_ ?_
      · exact st_pure [] [(10, .int .i64 (5))] (.int .i64 (5)) rfl hN_5 (by kernel_rfl) (by kernel_rfl) (by kernel_rfl) (old1 e10_5) (by kernel_rfl) (by kernel_rfl) (by kernel_rfl) (fun _ => by kernel_rfl)
      refine pk_cons rfl rfl ?_ ?_
      · exact st_pure [] [(9, .slice (some ⟨gl, 0, none⟩) 7 7)] (.slice (some ⟨gl, 0, none⟩) 7 7) rfl hN_5 (by kernel_rfl) (by kernel_rfl) (by kernel_rfl) (old1 e9_5) (by kernel_rfl) (by kernel_rfl) (by kernel_rfl) (fun _ => by kernel_rfl)
      refine pk_cons rfl rfl ?_ ?_
      · exact st_pure [.slice (some ⟨gl, 0, none⟩) 7 7] [] (.int .i64 (7)) rfl hN_5 (by kernel_rfl) (by kernel_rfl) (by kernel_rfl) old0 (by kernel_rfl) (by kernel_rfl) (by kernel_rfl) (fun _ => by kernel_rfl)
      refine pk_cons rfl rfl ?_ ?_
      · exact st_pure [.int .i64 (5), .int .i64 (7)] [] (.bool true) rfl hN_5 (by kernel_rfl) (by kernel_rfl) (by kernel_rfl) old0 (by kernel_rfl) (by kernel_rfl) (by kernel_rfl) (fun _ => by kernel_rfl)
      exact pk_nil rfl
    intro W_6 x hC hall
    refine then_n ?_
    obtain ⟨a_6, ha⟩ : ∃ a, a = putE x a_5 [(0, some 45), (1, some 46), (2, some 47), (3, some 48)] := ⟨_, rfl⟩
    rw [← ha]
    have hN_6 := size_behind ha hN_5
    have hD_6 := defers_behind ha hD_5
    have bb_6 := bb_5.trans hC.below
    have e3_6 := slot_old ha (by kernel_rfl) e3_5
    have l3_6 := hC.locZ l3_5
    have e4_6 := slot_old ha (by kernel_rfl) e4_5
    have l4_6 := hC.locZ l4_5
    have e5_6 := slot_old ha (by kernel_rfl) e5_5
    have l5_6 := hC.locZ l5_5
    have e7_6 := slot_old ha (by kernel_rfl) e7_5
    have l7_6 := hC.locR l7_5
    have e8_6 := slot_old ha (by kernel_rfl) e8_5
    have l8_6 := hC.locR l8_5
    have e9_6 := slot_old ha (by kernel_rfl) e9_5
    have e10_6 := slot_old ha (by kernel_rfl) e10_5
    have LL_6 := hC.zrs LL_5
    have e48_6 := (slot_new (t := 48) (i := 3) ha hN_5 (by kernel_rfl) (by kernel_rfl)).trans (show x 3 = .bool true from hall 3 (of_decide_eq_true (by kernel_rfl)))
    clear hall hC ha bb_5 hD_5 e3_5 l3_5 e4_5 l4_5 e5_5 l5_5 e7_5 l7_5 e8_5 l8_5 e9_5 e10_5 LL_5
    refine wp_cond_true e48_6 ?_
    repeat (first | refine wp_seq ?_ | (refine wp_skip ?_; refine then_n ?_))
    refine wp_block ?_
    repeat (first | refine wp_seq ?_ | (refine wp_skip ?_; refine then_n ?_))
    refine wp_region_law hN_6 w.heap.size
      [kIs (.slice (some ⟨gl, 0, none⟩) 7 7), kIs (.int .i64 (5)), kIs (.pointer (some ⟨gl, 10, none⟩)), kZ 1 (1), kIs (.string (ztext (1))), kZB 1 (1) true, kZB 1 (1) true, kZ 1 (1), kIs (.bool true), PK.fresh 2, kPutZ 9 1 (1), kIs (.bool true)]
      [ [], [], [(0, some 52), (1, some 53)], [(2, some 54)], [(3, some 55)], [(4, some 56)], [(5, some 57)], [(6, some 51)], [(6, some 51)], [], [(9, some 11), (7, some 58)], [(8, some 59)] ]
      [(0, some 52), (1, some 53), (2, some 54), (3, some 55), (4, some 56), (5, some 57), (6, some 51), (7, some 58), (8, some 59), (9, some 11), (10, none), (11, some 12)] [] [] (by kernel_rfl) (by kernel_rfl) (by kernel_rfl) (by kernel_rfl) (by kernel_rfl) (by kernel_rfl) (by kernel_rfl) bb_6.size ?_ ?_
    ·
      refine pk_cons rfl rfl ?_ ?_
      · exact st_pure [] [(9, .slice (some ⟨gl, 0, none⟩) 7 7)] (.slice (some ⟨gl, 0, none⟩) 7 7) rfl hN_6 (by kernel_rfl) (by kernel_rfl) (by kernel_rfl) (old1 e9_6) (by kernel_rfl) (by kernel_rfl) (by kernel_rfl) (fun _ => by kernel_rfl)
      refine pk_cons rfl rfl ?_ ?_
      · exact st_pure [] [(10, .int .i64 (5))] (.int .i64 (5)) rfl hN_6 (by kernel_rfl) (by kernel_rfl) (by kernel_rfl) (old1 e10_6) (by kernel_rfl) (by kernel_rfl) (by kernel_rfl) (fun _ => by kernel_rfl)
      refine pk_cons rfl rfl ?_ ?_
      · exact st_pure [.slice (some ⟨gl, 0, none⟩) 7 7, .int .i64 (5)] [] (.pointer (some ⟨gl, 10, none⟩)) rfl hN_6 (by kernel_rfl) (by kernel_rfl) (by kernel_rfl) old0 (by kernel_rfl) (by kernel_rfl) (by kernel_rfl) (fun _ => by kernel_rfl)
      refine pk_cons rfl rfl ?_ ?_
      · exact st_loadI LL_6 (n := 5) rfl rfl hN_6 (by kernel_rfl) (by kernel_rfl) rfl rfl
      refine pk_cons rfl rfl ?_ ?_
      · exact st_call1 hN_6 (by kernel_rfl) (by kernel_rfl) (by kernel_rfl) rfl rfl fun w x v1 hC h1 => ti (z_text (rz h1) (by decide) (HT.out.1.below (bb_6.trans hC.below) HT.out.2) (Nat.le_trans HT.out.2 (bb_6.trans hC.below).size))
      refine pk_cons rfl rfl ?_ ?_
      · exact st_call1 hN_6 (by kernel_rfl) (by kernel_rfl) (by kernel_rfl) rfl rfl fun w x v1 hC h1 => parse_at (k := 1) (z := 1) HZB 5 rfl h1 (by decide)
      refine pk_cons rfl rfl ?_ ?_
      · exact st_move hN_6 (by kernel_rfl) (by kernel_rfl) rfl rfl
      refine pk_cons rfl rfl ?_ ?_
      · exact st_ext hN_6 (by kernel_rfl) (by kernel_rfl) rfl rfl ext_z
      refine pk_cons rfl rfl ?_ ?_
      · exact st_ext hN_6 (by kernel_rfl) (by kernel_rfl) rfl rfl ext_ok
      refine pk_cons rfl rfl ?_ ?_
      · exact st_alloc hN_6 (by kernel_rfl) (Nat.le_refl _) rfl
      refine pk_cons rfl rfl ?_ ?_
      · exact st_put hN_6 (by kernel_rfl) (by kernel_rfl) (by kernel_rfl) rfl rfl rfl
      refine pk_cons rfl rfl ?_ ?_
      · exact st_pure [.bool true] [] (.bool true) rfl hN_6 (by kernel_rfl) (by kernel_rfl) (by kernel_rfl) old0 (by kernel_rfl) (by kernel_rfl) (by kernel_rfl) (fun _ => by kernel_rfl)
      exact pk_nil rfl
    intro W_7 x hC hall
    refine then_n ?_
    obtain ⟨a_7, ha⟩ : ∃ a, a = putE x a_6 [(0, some 52), (1, some 53), (2, some 54), (3, some 55), (4, some 56), (5, some 57), (6, some 51), (7, some 58), (8, some 59), (9, some 11), (10, none), (11, some 12)] := ⟨_, rfl⟩
    rw [← ha]
    have hN_7 := size_behind ha hN_6
    have hD_7 := defers_behind ha hD_6
    have bb_7 := bb_6.trans hC.below
    have e3_7 := slot_old ha (by kernel_rfl) e3_6
    have l3_7 := hC.locZ l3_6
    have e4_7 := slot_old ha (by kernel_rfl) e4_6
    have l4_7 := hC.locZ l4_6
    have e5_7 := slot_old ha (by kernel_rfl) e5_6
    have l5_7 := hC.locZ l5_6
    have e7_7 := slot_old ha (by kernel_rfl) e7_6
    have l7_7 := hC.locR l7_6
    have e8_7 := slot_old ha (by kernel_rfl) e8_6
    have l8_7 := hC.locR l8_6
    have e9_7 := slot_old ha (by kernel_rfl) e9_6
    have e10_7 := slot_old ha (by kernel_rfl) e10_6
    have e48_7 := slot_old ha (by kernel_rfl) e48_6
    have LL_7 := hC.zrs LL_6
    obtain ⟨g11, hx, l11_7⟩ := put_loc (show (kPutZ 9 1 (1)).sem _ _ _ _ from hall 10 (of_decide_eq_true (by kernel_rfl)))
    have e11_7 := (slot_new (t := 11) (i := 9) ha hN_6 (by kernel_rfl) (by kernel_rfl)).trans hx
    clear hx
    have e12_7 := (slot_new (t := 12) (i := 11) ha hN_6 (by kernel_rfl) (by kernel_rfl)).trans (show x 11 = .bool true from hall 11 (of_decide_eq_true (by kernel_rfl)))
    clear hall hC ha bb_6 hD_6 e3_6 l3_6 e4_6 l4_6 e5_6 l5_6 e7_6 l7_6 e8_6 l8_6 e9_6 e10_6 e48_6 LL_6
    repeat (first | refine wp_seq ?_ | (refine wp_skip ?_; refine then_n ?_))
    refine wp_region_law hN_7 w.heap.size
      [kIs (.slice (some ⟨gl, 0, none⟩) 7 7), kIs (.int .i64 (5)), kIs (.pointer (some ⟨gl, 10, none⟩)), kZ 1 (1), kIs (.bool true), kIs (.bool false), kIs (.bool false), kIs (.bool true), kIs (.bool false), kIs (.bool false), kIs (.bool false), kZ 1 (1), kIs (.slice (some ⟨gl, 0, none⟩) 7 7), kIs (.int .i64 (5)), kIs (.pointer (some ⟨gl, 10, none⟩)), kZ 1 (1), kIs (.bool true), kIs (.bool false), kIs (.bool false)]
      [ [], [], [(0, some 60), (1, some 61)], [(2, some 62)], [(3, some 63)], [(4, some 64)], [(5, some 65)], [], [(7, some 67)], [(6, some 66), (8, some 68)], [(9, some 69)], [], [], [], [(12, some 72), (13, some 73)], [(14, some 74)], [(11, some 71), (15, some 75)], [(16, some 76)], [(10, some 70), (17, some 77)] ]
      [(0, some 60), (1, some 61), (2, some 62), (3, some 63), (4, some 64), (5, some 65), (6, some 66), (7, some 67), (8, some 68), (9, some 69), (10, some 70), (11, some 71), (12, some 72), (13, some 73), (14, some 74), (15, some 75), (16, some 76), (17, some 77), (18, some 78)] [(6, false), (10, false)] [] (by kernel_rfl) (by kernel_rfl) (by kernel_rfl) (by kernel_rfl) (by kernel_rfl) (by kernel_rfl) (by kernel_rfl) bb_7.size ?_ ?_
    ·
      refine pk_cons rfl rfl ?_ ?_
      · exact st_pure [] [(9, .slice (some ⟨gl, 0, none⟩) 7 7)] (.slice (some ⟨gl, 0, none⟩) 7 7) rfl hN_7 (by kernel_rfl) (by kernel_rfl) (by kernel_rfl) (old1 e9_7) (by kernel_rfl) (by kernel_rfl) (by kernel_rfl) (fun _ => by kernel_rfl)
      refine pk_cons rfl rfl ?_ ?_
      · exact st_pure [] [(10, .int .i64 (5))] (.int .i64 (5)) rfl hN_7 (by kernel_rfl) (by kernel_rfl) (by kernel_rfl) (old1 e10_7) (by kernel_rfl) (by kernel_rfl) (by kernel_rfl) (fun _ => by kernel_rfl)
      refine pk_cons rfl rfl ?_ ?_
      · exact st_pure [.slice (some ⟨gl, 0, none⟩) 7 7, .int .i64 (5)] [] (.pointer (some ⟨gl, 10, none⟩)) rfl hN_7 (by kernel_rfl) (by kernel_rfl) (by kernel_rfl) old0 (by kernel_rfl) (by kernel_rfl) (by kernel_rfl) (fun _ => by kernel_rfl)
      refine pk_cons rfl rfl ?_ ?_
      · exact st_loadI LL_7 (n := 5) rfl rfl hN_7 (by kernel_rfl) (by kernel_rfl) rfl rfl
      refine pk_cons rfl rfl ?_ ?_
      · exact st_call1 hN_7 (by kernel_rfl) (by kernel_rfl) (by kernel_rfl) rfl rfl fun w x v1 hC h1 => ti (z_right (rr h1))
      refine pk_cons rfl rfl ?_ ?_
      · exact st_pure [.bool true] [] (.bool false) rfl hN_7 (by kernel_rfl) (by kernel_rfl) (by kernel_rfl) old0 (by kernel_rfl) (by kernel_rfl) (by kernel_rfl) (fun _ => by kernel_rfl)
      refine pk_cons rfl rfl ?_ ?_
      · exact st_pure [.bool false] [] (.bool false) rfl hN_7 (by kernel_rfl) (by kernel_rfl) (by kernel_rfl) old0 (by kernel_rfl) (by kernel_rfl) (by kernel_rfl) (fun _ => by kernel_rfl)
      refine pk_cons rfl rfl ?_ ?_
      · exact st_pure [] [(12, .bool true)] (.bool true) rfl hN_7 (by kernel_rfl) (by kernel_rfl) (by kernel_rfl) (old1 e12_7) (by kernel_rfl) (by kernel_rfl) (by kernel_rfl) (fun _ => by kernel_rfl)
      refine pk_cons rfl rfl ?_ ?_
      · exact st_pure [.bool true] [] (.bool false) rfl hN_7 (by kernel_rfl) (by kernel_rfl) (by kernel_rfl) old0 (by kernel_rfl) (by kernel_rfl) (by kernel_rfl) (fun _ => by kernel_rfl)
      refine pk_cons rfl rfl ?_ ?_
      · exact st_pure [.bool false, .bool false] [] (.bool false) rfl hN_7 (by kernel_rfl) (by kernel_rfl) (by kernel_rfl) old0 (by kernel_rfl) (by kernel_rfl) (by kernel_rfl) (fun _ => by kernel_rfl)
      refine pk_cons rfl rfl ?_ ?_
      · exact st_pure [.bool false] [] (.bool false) rfl hN_7 (by kernel_rfl) (by kernel_rfl) (by kernel_rfl) old0 (by kernel_rfl) (by kernel_rfl) (by kernel_rfl) (fun _ => by kernel_rfl)
      refine pk_cons rfl rfl ?_ ?_
      · exact st_loadR l11_7 e11_7 hN_7 (by kernel_rfl) rfl
      refine pk_cons rfl rfl ?_ ?_
      · exact st_pure [] [(9, .slice (some ⟨gl, 0, none⟩) 7 7)] (.slice (some ⟨gl, 0, none⟩) 7 7) rfl hN_7 (by kernel_rfl) (by kernel_rfl) (by kernel_rfl) (old1 e9_7) (by kernel_rfl) (by kernel_rfl) (by kernel_rfl) (fun _ => by kernel_rfl)
      refine pk_cons rfl rfl ?_ ?_
      · exact st_pure [] [(10, .int .i64 (5))] (.int .i64 (5)) rfl hN_7 (by kernel_rfl) (by kernel_rfl) (by kernel_rfl) (old1 e10_7) (by kernel_rfl) (by kernel_rfl) (by kernel_rfl) (fun _ => by kernel_rfl)
      refine pk_cons rfl rfl ?_ ?_
      · exact st_pure [.slice (some ⟨gl, 0, none⟩) 7 7, .int .i64 (5)] [] (.pointer (some ⟨gl, 10, none⟩)) rfl hN_7 (by kernel_rfl) (by kernel_rfl) (by kernel_rfl) old0 (by kernel_rfl) (by kernel_rfl) (by kernel_rfl) (fun _ => by kernel_rfl)
      refine pk_cons rfl rfl ?_ ?_
      · exact st_loadI LL_7 (n := 5) rfl rfl hN_7 (by kernel_rfl) (by kernel_rfl) rfl rfl
      refine pk_cons rfl rfl ?_ ?_
      · exact st_call2 hN_7 (by kernel_rfl) (by kernel_rfl) (by kernel_rfl) (by kernel_rfl) (by kernel_rfl) rfl rfl rfl fun w x v1 v2 hC h1 h2 => ti (z_same (rr h1) (rr h2) (rfl))
      refine pk_cons rfl rfl ?_ ?_
      · exact st_pure [.bool true] [] (.bool false) rfl hN_7 (by kernel_rfl) (by kernel_rfl) (by kernel_rfl) old0 (by kernel_rfl) (by kernel_rfl) (by kernel_rfl) (fun _ => by kernel_rfl)
      refine pk_cons rfl rfl ?_ ?_
      · exact st_pure [.bool false, .bool false] [] (.bool false) rfl hN_7 (by kernel_rfl) (by kernel_rfl) (by kernel_rfl) old0 (by kernel_rfl) (by kernel_rfl) (by kernel_rfl) (fun _ => by kernel_rfl)
      exact pk_nil rfl
    intro W_8 x hC hall
    refine then_n ?_
    obtain ⟨a_8, ha⟩ : ∃ a, a = putE x a_7 [(0, some 60), (1, some 61), (2, some 62), (3, some 63), (4, some 64), (5, some 65), (6, some 66), (7, some 67), (8, some 68), (9, some 69), (10, some 70), (11, some 71), (12, some 72), (13, some 73), (14, some 74), (15, some 75), (16, some 76), (17, some 77), (18, some 78)] := ⟨_, rfl⟩
    rw [← ha]
    have hN_8 := size_behind ha hN_7
    have hD_8 := defers_behind ha hD_7
    have bb_8 := bb_7.trans hC.below
    have e3_8 := slot_old ha (by kernel_rfl) e3_7
    have l3_8 := hC.locZ l3_7
    have e4_8 := slot_old ha (by kernel_rfl) e4_7
    have l4_8 := hC.locZ l4_7
    have e5_8 := slot_old ha (by kernel_rfl) e5_7
    have l5_8 := hC.locZ l5_7
    have e7_8 := slot_old ha (by kernel_rfl) e7_7
    have l7_8 := hC.locR l7_7
    have e8_8 := slot_old ha (by kernel_rfl) e8_7
    have l8_8 := hC.locR l8_7
    have e9_8 := slot_old ha (by kernel_rfl) e9_7
    have e10_8 := slot_old ha (by kernel_rfl) e10_7
    have e48_8 := slot_old ha (by kernel_rfl) e48_7
    have e11_8 := slot_old ha (by kernel_rfl) e11_7
    have l11_8 := hC.locR l11_7
    have e12_8 := slot_old ha (by kernel_rfl) e12_7
    have LL_8 := hC.zrs LL_7
    have e78_8 := (slot_new (t := 78) (i := 18) ha hN_7 (by kernel_rfl) (by kernel_rfl)).trans (show x 18 = .bool false from hall 18 (of_decide_eq_true (by kernel_rfl)))
    clear hall hC ha bb_7 hD_7 e3_7 l3_7 e4_7 l4_7 e5_7 l5_7 e7_7 l7_7 e8_7 l8_7 e9_7 e10_7 e48_7 e11_7 l11_7 e12_7 LL_7
    refine wp_cond_false e78_8 ?_
    repeat (first | refine wp_seq ?_ | (refine wp_skip ?_; refine then_n ?_))
    refine wp_skip ?_
    refine in_block ?_
    refine then_n ?_
    refine wp_incr (n := 5) (m := 6) hN_8 (by kernel_rfl) (by kernel_rfl) e10_8 (fun _ => by kernel_rfl) ?_
    intro x hx
    refine then_n ?_
    obtain ⟨a_9, ha⟩ : ∃ a, a = putE x a_8 [(0, some 49), (1, some 50), (2, some 10)] := ⟨_, rfl⟩
    rw [← ha]
    have hN_9 := size_behind ha hN_8
    have hD_9 := defers_behind ha hD_8
    have bb_9 := bb_8
    have e3_9 := slot_old ha (by kernel_rfl) e3_8
    have l3_9 := l3_8
    have e4_9 := slot_old ha (by kernel_rfl) e4_8
    have l4_9 := l4_8
    have e5_9 := slot_old ha (by kernel_rfl) e5_8
    have l5_9 := l5_8
    have e7_9 := slot_old ha (by kernel_rfl) e7_8
    have l7_9 := l7_8
    have e8_9 := slot_old ha (by kernel_rfl) e8_8
    have l8_9 := l8_8
    have e9_9 := slot_old ha (by kernel_rfl) e9_8
    have e48_9 := slot_old ha (by kernel_rfl) e48_8
    have e11_9 := slot_old ha (by kernel_rfl) e11_8
    have l11_9 := l11_8
    have e12_9 := slot_old ha (by kernel_rfl) e12_8
    have e78_9 := slot_old ha (by kernel_rfl) e78_8
    have LL_9 := LL_8
    have e10_9 := (slot_new (t := 10) (i := 2) ha hN_8 (by kernel_rfl) (by kernel_rfl)).trans hx
    clear ha hx
    refine ⟨⟨hN_9, hD_9, e3_9, e4_9, e5_9, e7_9, e8_9, e9_9, ⟨6, by decide, e10_9⟩, bb_9, l3_9, l4_9, l5_9, l7_9, l8_9, LL_9⟩, ?_⟩
    rw [e10_9]; decide
  ·
    have hm : intOf (a_5.eval (.tmp 10)) = 6 := by rw [e10_5]; rfl
    rw [hm]
    clear hi hm
    repeat (first | refine wp_seq ?_ | (refine wp_skip ?_; refine then_n ?_))
    refine wp_region_law hN_5 w.heap.size
      [kIs (.int .i64 (6)), kIs (.slice (some ⟨gl, 0, none⟩) 7 7), kIs (.int .i64 (7)), kIs (.bool true)]
      [ [], [], [(1, some 46)], [(0, some 45), (2, some 47)] ]
      [(0, some 45), (1, some 46), (2, some 47), (3, some 48)] [] [] (by kernel_rfl) (by kernel_rfl) (by kernel_rfl) (by kernel_rfl) (by kernel_rfl) (by kernel_rfl) (by kernel_rfl) bb_5.size ?_ ?_
    ·
      refine pk_cons rfl rfl ?_ ?_
      · exact st_pure [] [(10, .int .i64 (6))] (.int .i64 (6)) rfl hN_5 (by kernel_rfl) (by kernel_rfl) (by kernel_rfl) (old1 e10_5) (by kernel_rfl) (by kernel_rfl) (by kernel_rfl) (fun _ => by kernel_rfl)
      refine pk_cons rfl rfl ?_ ?_
      · exact st_pure [] [(9, .slice (some ⟨gl, 0, none⟩) 7 7)] (.slice (some ⟨gl, 0, none⟩) 7 7) rfl hN_5 (by kernel_rfl) (by kernel_rfl) (by kernel_rfl) (old1 e9_5) (by kernel_rfl) (by kernel_rfl) (by kernel_rfl) (fun _ => by kernel_rfl)
      refine pk_cons rfl rfl ?_ ?_
      · exact st_pure [.slice (some ⟨gl, 0, none⟩) 7 7] [] (.int .i64 (7)) rfl hN_5 (by kernel_rfl) (by kernel_rfl) (by kernel_rfl) old0 (by kernel_rfl) (by kernel_rfl) (by kernel_rfl) (fun _ => by kernel_rfl)
      refine pk_cons rfl rfl ?_ ?_
      · exact st_pure [.int .i64 (6), .int .i64 (7)] [] (.bool true) rfl hN_5 (by kernel_rfl) (by kernel_rfl) (by kernel_rfl) old0 (by kernel_rfl) (by kernel_rfl) (by kernel_rfl) (fun _ => by kernel_rfl)
      exact pk_nil rfl
    intro W_6 x hC hall
    refine then_n ?_
    obtain ⟨a_6, ha⟩ : ∃ a, a = putE x a_5 [(0, some 45), (1, some 46), (2, some 47), (3, some 48)] := ⟨_, rfl⟩
    rw [← ha]
    have hN_6 := size_behind ha hN_5
    have hD_6 := defers_behind ha hD_5
    have bb_6 := bb_5.trans hC.below
    have e3_6 := slot_old ha (by kernel_rfl) e3_5
    have l3_6 := hC.locZ l3_5
    have e4_6 := slot_old ha (by kernel_rfl) e4_5
    have l4_6 := hC.locZ l4_5
    have e5_6 := slot_old ha (by kernel_rfl) e5_5
    have l5_6 := hC.locZ l5_5
    have e7_6 := slot_old ha (by kernel_rfl) e7_5
    have l7_6 := hC.locR l7_5
    have e8_6 := slot_old ha (by kernel_rfl) e8_5
    have l8_6 := hC.locR l8_5
    have e9_6 := slot_old ha (by kernel_rfl) e9_5
    have e10_6 := slot_old ha (by kernel_rfl) e10_5
    have LL_6 := hC.zrs LL_5
    have e48_6 := (slot_new (t := 48) (i := 3) ha hN_5 (by kernel_rfl) (by kernel_rfl)).trans (show x 3 = .bool true from hall 3 (of_decide_eq_true (by kernel_rfl)))
    clear hall hC ha bb_5 hD_5 e3_5 l3_5 e4_5 l4_5 e5_5 l5_5 e7_5 l7_5 e8_5 l8_5 e9_5 e10_5 LL_5
    refine wp_cond_true e48_6 ?_
    repeat (first | refine wp_seq ?_ | (refine wp_skip ?_; refine then_n ?_))
    refine wp_block ?_
    repeat (first | refine wp_seq ?_ | (refine wp_skip ?_; refine then_n ?_))
    refine wp_region_law hN_6 w.heap.size
      [kIs (.slice (some ⟨gl, 0, none⟩) 7 7), kIs (.int .i64 (6)), kIs (.pointer (some ⟨gl, 12, none⟩)), kZ 1 (0), kIs (.string (ztext (0))), kZB 1 (0) true, kZB 1 (0) true, kZ 1 (0), kIs (.bool true), PK.fresh 2, kPutZ 9 1 (0), kIs (.bool true)]
      [ [], [], [(0, some 52), (1, some 53)], [(2, some 54)], [(3, some 55)], [(4, some 56)], [(5, some 57)], [(6, some 51)], [(6, some 51)], [], [(9, some 11), (7, some 58)], [(8, some 59)] ]
      [(0, some 52), (1, some 53), (2, some 54), (3, some 55), (4, some 56), (5, some 57), (6, some 51), (7, some 58), (8, some 59), (9, some 11), (10, none), (11, some 12)] [] [] (by kernel_rfl) (by kernel_rfl) (by kernel_rfl) (by kernel_rfl) (by kernel_rfl) (by kernel_rfl) (by kernel_rfl) bb_6.size ?_ ?_
    ·
      refine pk_cons rfl rfl ?_ ?_
      · exact st_pure [] [(9, .slice (some ⟨gl, 0, none⟩) 7 7)] (.slice (some ⟨gl, 0, none⟩) 7 7) rfl hN_6 (by kernel_rfl) (by kernel_rfl) (by kernel_rfl) (old1 e9_6) (by kernel_rfl) (by kernel_rfl) (by kernel_rfl) (fun _ => by kernel_rfl)
      refine pk_cons rfl rfl ?_ ?_
      · exact st_pure [] [(10, .int .i64 (6))] (.int .i64 (6)) rfl hN_6 (by kernel_rfl) (by kernel_rfl) (by kernel_rfl) (old1 e10_6) (by kernel_rfl) (by kernel_rfl) (by kernel_rfl) (fun _ => by kernel_rfl)
      refine pk_cons rfl rfl ?_ ?_
      · exact st_pure [.slice (some ⟨gl, 0, none⟩) 7 7, .int .i64 (6)] [] (.pointer (some ⟨gl, 12, none⟩)) rfl hN_6 (by kernel_rfl) (by kernel_rfl) (by kernel_rfl) old0 (by kernel_rfl) (by kernel_rfl) (by kernel_rfl) (fun _ => by kernel_rfl)
      refine pk_cons rfl rfl ?_ ?_
      · exact st_loadI LL_6 (n := 6) rfl rfl hN_6 (by kernel_rfl) (by kernel_rfl) rfl rfl
      refine pk_cons rfl rfl ?_ ?_
      · exact st_call1 hN_6 (by kernel_rfl) (by kernel_rfl) (by kernel_rfl) rfl rfl fun w x v1 hC h1 => ti (z_text (rz h1) (by decide) (HT.out.1.below (bb_6.trans hC.below) HT.out.2) (Nat.le_trans HT.out.2 (bb_6.trans hC.below).size))
      refine pk_cons rfl rfl ?_ ?_
      · exact st_call1 hN_6 (by kernel_rfl) (by kernel_rfl) (by kernel_rfl) rfl rfl fun w x v1 hC h1 => parse_at (k := 1) (z := 0) HZB 6 rfl h1 (by decide)
      refine pk_cons rfl rfl ?_ ?_
      · exact st_move hN_6 (by kernel_rfl) (by kernel_rfl) rfl rfl
      refine pk_cons rfl rfl ?_ ?_
      · exact st_ext hN_6 (by kernel_rfl) (by kernel_rfl) rfl rfl ext_z
      refine pk_cons rfl rfl ?_ ?_
      · exact st_ext hN_6 (by kernel_rfl) (by kernel_rfl) rfl rfl ext_ok
      refine pk_cons rfl rfl ?_ ?_
      · exact st_alloc hN_6 (by kernel_rfl) (Nat.le_refl _) rfl
      refine pk_cons rfl rfl ?_ ?_
      · exact st_put hN_6 (by kernel_rfl) (by kernel_rfl) (by kernel_rfl) rfl rfl rfl
      refine pk_cons rfl rfl ?_ ?_
      · exact st_pure [.bool true] [] (.bool true) rfl hN_6 (by kernel_rfl) (by kernel_rfl) (by kernel_rfl) old0 (by kernel_rfl) (by kernel_rfl) (by kernel_rfl) (fun _ => by kernel_rfl)
      exact pk_nil rfl
    intro W_7 x hC hall
    refine then_n ?_
    obtain ⟨a_7, ha⟩ : ∃ a, a = putE x a_6 [(0, some 52), (1, some 53), (2, some 54), (3, some 55), (4, some 56), (5, some 57), (6, some 51), (7, some 58), (8, some 59), (9, some 11), (10, none), (11, some 12)] := ⟨_, rfl⟩
    rw [← ha]
    have hN_7 := size_behind ha hN_6
    have hD_7 := defers_behind ha hD_6
    have bb_7 := bb_6.trans hC.below
    have e3_7 := slot_old ha (by kernel_rfl) e3_6
    have l3_7 := hC.locZ l3_6
    have e4_7 := slot_old ha (by kernel_rfl) e4_6
    have l4_7 := hC.locZ l4_6
    have e5_7 := slot_old ha (by kernel_rfl) e5_6
    have l5_7 := hC.locZ l5_6
    have e7_7 := slot_old ha (by kernel_rfl) e7_6
    have l7_7 := hC.locR l7_6
    have e8_7 := slot_old ha (by kernel_rfl) e8_6
    have l8_7 := hC.locR l8_6
    have e9_7 := slot_old ha (by kernel_rfl) e9_6
    have e10_7 := slot_old ha (by kernel_rfl) e10_6
    have e48_7 := slot_old ha (by kernel_rfl) e48_6
    have LL_7 := hC.zrs LL_6
    obtain ⟨g11, hx, l11_7⟩ := put_loc (show (kPutZ 9 1 (0)).sem _ _ _ _ from hall 10 (of_decide_eq_true (by kernel_rfl)))
    have e11_7 := (slot_new (t := 11) (i := 9) ha hN_6 (by kernel_rfl) (by kernel_rfl)).trans hx
    clear hx
    have e12_7 := (slot_new (t := 12) (i := 11) ha hN_6 (by kernel_rfl) (by kernel_rfl)).trans (show x 11 = .bool true from hall 11 (of_decide_eq_true (by kernel_rfl)))
    clear hall hC ha bb_6 hD_6 e3_6 l3_6 e4_6 l4_6 e5_6 l5_6 e7_6 l7_6 e8_6 l8_6 e9_6 e10_6 e48_6 LL_6
    repeat (first | refine wp_seq ?_ | (refine wp_skip ?_; refine then_n ?_))
    refine wp_region_law hN_7 w.heap.size
      [kIs (.slice (some ⟨gl, 0, none⟩) 7 7), kIs (.int .i64 (6)), kIs (.pointer (some ⟨gl, 12, none⟩)), kZ 1 (0), kIs (.bool true), kIs (.bool false), kIs (.bool false), kIs (.bool true), kIs (.bool false), kIs (.bool false), kIs (.bool false), kZ 1 (0), kIs (.slice (some ⟨gl, 0, none⟩) 7 7), kIs (.int .i64 (6)), kIs (.pointer (some ⟨gl, 12, none⟩)), kZ 1 (0), kIs (.bool true), kIs (.bool false), kIs (.bool false)]
      [ [], [], [(0, some 60), (1, some 61)], [(2, some 62)], [(3, some 63)], [(4, some 64)], [(5, some 65)], [], [(7, some 67)], [(6, some 66), (8, some 68)], [(9, some 69)], [], [], [], [(12, some 72), (13, some 73)], [(14, some 74)], [(11, some 71), (15, some 75)], [(16, some 76)], [(10, some 70), (17, some 77)] ]
      [(0, some 60), (1, some 61), (2, some 62), (3, some 63), (4, some 64), (5, some 65), (6, some 66), (7, some 67), (8, some 68), (9, some 69), (10, some 70), (11, some 71), (12, some 72), (13, some 73), (14, some 74), (15, some 75), (16, some 76), (17, some 77), (18, some 78)] [(6, false), (10, false)] [] (by kernel_rfl) (by kernel_rfl) (by kernel_rfl) (by kernel_rfl) (by kernel_rfl) (by kernel_rfl) (by kernel_rfl) bb_7.size ?_ ?_
    ·
      refine pk_cons rfl rfl ?_ ?_
      · exact st_pure [] [(9, .slice (some ⟨gl, 0, none⟩) 7 7)] (.slice (some ⟨gl, 0, none⟩) 7 7) rfl hN_7 (by kernel_rfl) (by kernel_rfl) (by kernel_rfl) (old1 e9_7) (by kernel_rfl) (by kernel_rfl) (by kernel_rfl) (fun _ => by kernel_rfl)
      refine pk_cons rfl rfl ?_ ?_
      · exact st_pure [] [(10, .int .i64 (6))] (.int .i64 (6)) rfl hN_7 (by kernel_rfl) (by kernel_rfl) (by kernel_rfl) (old1 e10_7) (by kernel_rfl) (by kernel_rfl) (by kernel_rfl) (fun _ => by kernel_rfl)
      refine pk_cons rfl rfl ?_ ?_
      · exact st_pure [.slice (some ⟨gl, 0, none⟩) 7 7, .int .i64 (6)] [] (.pointer (some ⟨gl, 12, none⟩)) rfl hN_7 (by kernel_rfl) (by kernel_rfl) (by kernel_rfl) old0 (by kernel_rfl) (by kernel_rfl) (by kernel_rfl) (fun _ => by kernel_rfl)
      refine pk_cons rfl rfl ?_ ?_
      · exact st_loadI LL_7 (n := 6) rfl rfl hN_7 (by kernel_rfl) (by kernel_rfl) rfl rfl
      refine pk_cons rfl rfl ?_ ?_
      · exact st_call1 hN_7 (by kernel_rfl) (by kernel_rfl) (by kernel_rfl) rfl rfl fun w x v1 hC h1 => ti (z_right (rr h1))
      refine pk_cons rfl rfl ?_ ?_
      · exact st_pure [.bool true] [] (.bool false) rfl hN_7 (by kernel_rfl) (by kernel_rfl) (by kernel_rfl) old0 (by kernel_rfl) (by kernel_rfl) (by kernel_rfl) (fun _ => by kernel_rfl)
      refine pk_cons rfl rfl ?_ ?_
      · exact st_pure [.bool false] [] (.bool false) rfl hN_7 (by kernel_rfl) (by kernel_rfl) (by kernel_rfl) old0 (by kernel_rfl) (by kernel_rfl) (by kernel_rfl) (fun _ => by kernel_rfl)
      refine pk_cons rfl rfl ?_ ?_
      · exact st_pure [] [(12, .bool true)] (.bool true) rfl hN_7 (by kernel_rfl) (by kernel_rfl) (by kernel_rfl) (old1 e12_7) (by kernel_rfl) (by kernel_rfl) (by kernel_rfl) (fun _ => by kernel_rfl)
      refine pk_cons rfl rfl ?_ ?_
      · exact st_pure [.bool true] [] (.bool false) rfl hN_7 (by kernel_rfl) (by kernel_rfl) (by kernel_rfl) old0 (by kernel_rfl) (by kernel_rfl) (by kernel_rfl) (fun _ => by kernel_rfl)
      refine pk_cons rfl rfl ?_ ?_
      · exact st_pure [.bool false, .bool false] [] (.bool false) rfl hN_7 (by kernel_rfl) (by kernel_rfl) (by kernel_rfl) old0 (by kernel_rfl) (by kernel_rfl) (by kernel_rfl) (fun _ => by kernel_rfl)
      refine pk_cons rfl rfl ?_ ?_
      · exact st_pure [.bool false] [] (.bool false) rfl hN_7 (by kernel_rfl) (by kernel_rfl) (by kernel_rfl) old0 (by kernel_rfl) (by kernel_rfl) (by kernel_rfl) (fun _ => by kernel_rfl)
      refine pk_cons rfl rfl ?_ ?_
      · exact st_loadR l11_7 e11_7 hN_7 (by kernel_rfl) rfl
      refine pk_cons rfl rfl ?_ ?_
      · exact st_pure [] [(9, .slice (some ⟨gl, 0, none⟩) 7 7)] (.slice (some ⟨gl, 0, none⟩) 7 7) rfl hN_7 (by kernel_rfl) (by kernel_rfl) (by kernel_rfl) (old1 e9_7) (by kernel_rfl) (by kernel_rfl) (by kernel_rfl) (fun _ => by kernel_rfl)
      refine pk_cons rfl rfl ?_ ?_
      · exact st_pure [] [(10, .int .i64 (6))] (.int .i64 (6)) rfl hN_7 (by kernel_rfl) (by kernel_rfl) (by kernel_rfl) (old1 e10_7) (by kernel_rfl) (by kernel_rfl) (by kernel_rfl) (fun _ => by kernel_rfl)
      refine pk_cons rfl rfl ?_ ?_
      · exact st_pure [.slice (some ⟨gl, 0, none⟩) 7 7, .int .i64 (6)] [] (.pointer (some ⟨gl, 12, none⟩)) rfl hN_7 (by kernel_rfl) (by kernel_rfl) (by kernel_rfl) old0 (by kernel_rfl) (by kernel_rfl) (by kernel_rfl) (fun _ => by kernel_rfl)
      refine pk_cons rfl rfl ?_ ?_
      · exact st_loadI LL_7 (n := 6) rfl rfl hN_7 (by kernel_rfl) (by kernel_rfl) rfl rfl
      refine pk_cons rfl rfl ?_ ?_
      · exact st_call2 hN_7 (by kernel_rfl) (by kernel_rfl) (by kernel_rfl) (by kernel_rfl) (by kernel_rfl) rfl rfl rfl fun w x v1 v2 hC h1 h2 => ti (z_same (rr h1) (rr h2) (rfl))
      refine pk_cons rfl rfl ?_ ?_
      · exact st_pure [.bool true] [] (.bool false) rfl hN_7 (by kernel_rfl) (by kernel_rfl) (by kernel_rfl) old0 (by kernel_rfl) (by kernel_rfl) (by kernel_rfl) (fun _ => by kernel_rfl)
      refine pk_cons rfl rfl ?_ ?_
      · exact st_pure [.bool false, .bool false] [] (.bool false) rfl hN_7 (by kernel_rfl) (by kernel_rfl) (by kernel_rfl) old0 (by kernel_rfl) (by kernel_rfl) (by kernel_rfl) (fun _ => by kernel_rfl)
      exact pk_nil rfl
    intro W_8 x hC hall
    refine then_n ?_
    obtain ⟨a_8, ha⟩ : ∃ a, a = putE x a_7 [(0, some 60), (1, some 61), (2, some 62), (3, some 63), (4, some 64), (5, some 65), (6, some 66), (7, some 67), (8, some 68), (9, some 69), (10, some 70), (11, some 71), (12, some 72), (13, some 73), (14, some 74), (15, some 75), (16, some 76), (17, some 77), (18, some 78)] := ⟨_, rfl⟩
    rw [← ha]
    have hN_8 := size_behind ha hN_7
    have hD_8 := defers_behind ha hD_7
    have bb_8 := bb_7.trans hC.below
    have e3_8 := slot_old ha (by kernel_rfl) e3_7
    have l3_8 := hC.locZ l3_7
    have e4_8 := slot_old ha (by kernel_rfl) e4_7
    have l4_8 := hC.locZ l4_7
    have e5_8 := slot_old ha (by kernel_rfl) e5_7
    have l5_8 := hC.locZ l5_7
    have e7_8 := slot_old ha (by kernel_rfl) e7_7
    have l7_8 := hC.locR l7_7
    have e8_8 := slot_old ha (by kernel_rfl) e8_7
    have l8_8 := hC.locR l8_7
    have e9_8 := slot_old ha (by kernel_rfl) e9_7
    have e10_8 := slot_old ha (by kernel_rfl) e10_7
    have e48_8 := slot_old ha (by kernel_rfl) e48_7
    have e11_8 := slot_old ha (by kernel_rfl) e11_7
    have l11_8 := hC.locR l11_7
    have e12_8 := slot_old ha (by kernel_rfl) e12_7
    have LL_8 := hC.zrs LL_7
    have e78_8 := (slot_new (t := 78) (i := 18) ha hN_7 (by kernel_rfl) (by kernel_rfl)).trans (show x 18 = .bool false from hall 18 (of_decide_eq_true (by kernel_rfl)))
    clear hall hC ha bb_7 hD_7 e3_7 l3_7 e4_7 l4_7 e5_7 l5_7 e7_7 l7_7 e8_7 l8_7 e9_7 e10_7 e48_7 e11_7 l11_7 e12_7 LL_7
    refine wp_cond_false e78_8 ?_
    repeat (first | refine wp_seq ?_ | (refine wp_skip ?_; refine then_n ?_))
    refine wp_skip ?_
    refine in_block ?_
    refine then_n ?_
    refine wp_incr (n := 6) (m := 7) hN_8 (by kernel_rfl) (by kernel_rfl) e10_8 (fun _ => by kernel_rfl) ?_
    intro x hx
    refine then_n ?_
    obtain ⟨a_9, ha⟩ : ∃ a, a = putE x a_8 [(0, some 49), (1, some 50), (2, some 10)] := ⟨_, rfl⟩
    rw [← ha]
    have hN_9 := size_behind ha hN_8
    have hD_9 := defers_behind ha hD_8
    have bb_9 := bb_8
    have e3_9 := slot_old ha (by kernel_rfl) e3_8
    have l3_9 := l3_8
    have e4_9 := slot_old ha (by kernel_rfl) e4_8
    have l4_9 := l4_8
    have e5_9 := slot_old ha (by kernel_rfl) e5_8
    have l5_9 := l5_8
    have e7_9 := slot_old ha (by kernel_rfl) e7_8
    have l7_9 := l7_8
    have e8_9 := slot_old ha (by kernel_rfl) e8_8
    have l8_9 := l8_8
    have e9_9 := slot_old ha (by kernel_rfl) e9_8
    have e48_9 := slot_old ha (by kernel_rfl) e48_8
    have e11_9 := slot_old ha (by kernel_rfl) e11_8
    have l11_9 := l11_8
    have e12_9 := slot_old ha (by kernel_rfl) e12_8
    have e78_9 := slot_old ha (by kernel_rfl) e78_8
    have LL_9 := LL_8
    have e10_9 := (slot_new (t := 10) (i := 2) ha hN_8 (by kernel_rfl) (by kernel_rfl)).trans hx
    clear ha hx
    refine ⟨⟨hN_9, hD_9, e3_9, e4_9, e5_9, e7_9, e8_9, e9_9, ⟨7, by decide, e10_9⟩, bb_9, l3_9, l4_9, l5_9, l7_9, l8_9, LL_9⟩, ?_⟩
    rw [e10_9]; decide
  ·
    have hm : intOf (a_5.eval (.tmp 10)) = 7 := by rw [e10_5]; rfl
    rw [hm]
    clear hi hm
    repeat (first | refine wp_seq ?_ | (refine wp_skip ?_; refine then_n ?_))
    refine wp_region_law hN_5 w.heap.size
      [kIs (.int .i64 (7)), kIs (.slice (some ⟨gl, 0, none⟩) 7 7), kIs (.int .i64 (7)), kIs (.bool false)]
      [ [], [], [(1, some 46)], [(0, some 45), (2, some 47)] ]
      [(0, some 45), (1, some 46), (2, some 47), (3, some 48)] [] [] (by kernel_rfl) (by kernel_rfl) (by kernel_rfl) (by kernel_rfl) (by kernel_rfl) (by kernel_rfl) (by kernel_rfl) bb_5.size ?_ ?_
    ·
      refine pk_cons rfl rfl ?_ ?_
      · exact st_pure [] [(10, .int .i64 (7))] (.int .i64 (7)) rfl hN_5 (by kernel_rfl) (by kernel_rfl) (by kernel_rfl) (old1 e10_5) (by kernel_rfl) (by kernel_rfl) (by kernel_rfl) (fun _ => by kernel_rfl)
      refine pk_cons rfl rfl ?_ ?_
      · exact st_pure [] [(9, .slice (some ⟨gl, 0, none⟩) 7 7)] (.slice (some ⟨gl, 0, none⟩) 7 7) rfl hN_5 (by kernel_rfl) (by kernel_rfl) (by kernel_rfl) (old1 e9_5) (by kernel_rfl) (by kernel_rfl) (by kernel_rfl) (fun _ => by kernel_rfl)
      refine pk_cons rfl rfl ?_ ?_
      · exact st_pure [.slice (some ⟨gl, 0, none⟩) 7 7] [] (.int .i64 (7)) rfl hN_5 (by kernel_rfl) (by kernel_rfl) (by kernel_rfl) old0 (by kernel_rfl) (by kernel_rfl) (by kernel_rfl) (fun _ => by kernel_rfl)
      refine pk_cons rfl rfl ?_ ?_
      · exact st_pure [.int .i64 (7), .int .i64 (7)] [] (.bool false) rfl hN_5 (by kernel_rfl) (by kernel_rfl) (by kernel_rfl) old0 (by kernel_rfl) (by kernel_rfl) (by kernel_rfl) (fun _ => by kernel_rfl)
      exact pk_nil rfl
    intro W_6 x hC hall
    refine then_n ?_
    obtain ⟨a_6, ha⟩ : ∃ a, a = putE x a_5 [(0, some 45), (1, some 46), (2, some 47), (3, some 48)] := ⟨_, rfl⟩
    rw [← ha]
    have hN_6 := size_behind ha hN_5
    have hD_6 := defers_behind ha hD_5
    have bb_6 := bb_5.trans hC.below
    have e3_6 := slot_old ha (by kernel_rfl) e3_5
    have l3_6 := hC.locZ l3_5
    have e4_6 := slot_old ha (by kernel_rfl) e4_5
    have l4_6 := hC.locZ l4_5
    have e5_6 := slot_old ha (by kernel_rfl) e5_5
    have l5_6 := hC.locZ l5_5
    have e7_6 := slot_old ha (by kernel_rfl) e7_5
    have l7_6 := hC.locR l7_5
    have e8_6 := slot_old ha (by kernel_rfl) e8_5
    have l8_6 := hC.locR l8_5
    have e9_6 := slot_old ha (by kernel_rfl) e9_5
    have e10_6 := slot_old ha (by kernel_rfl) e10_5
    have LL_6 := hC.zrs LL_5
    have e48_6 := (slot_new (t := 48) (i := 3) ha hN_5 (by kernel_rfl) (by kernel_rfl)).trans (show x 3 = .bool false from hall 3 (of_decide_eq_true (by kernel_rfl)))
    clear hall hC ha bb_5 hD_5 e3_5 l3_5 e4_5 l4_5 e5_5 l5_5 e7_5 l7_5 e8_5 l8_5 e9_5 e10_5 LL_5
    refine wp_cond_false e48_6 ?_
    repeat (first | refine wp_seq ?_ | (refine wp_skip ?_; refine then_n ?_))
    refine wp_exit ?_
    repeat (refine then_x ?_)
    refine out_block ?_
    refine then_n ?_
    repeat (first | refine wp_seq ?_ | (refine wp_skip ?_; refine then_n ?_))
    refine wp_region_law hN_6 w.heap.size
      [kZ 1002 ((za) + (zb) + (zc)), kZd 1001 (zc), kZd 1001 (zb), kZd 1001 (za), kZs [(1001, (zb)), (1001, (za))], kZ 1002 ((zb) + (za)), kZs [(1001, (zc)), (1002, ((zb) + (za)))], kZ 1003 ((zc) + ((zb) + (za))), kIs (.bool true), kIs (.bool false), kIs (.bool false), kZ 3003 ((za) * (zb) * (zc)), kZd 1001 (zc), kZd 1001 (zb), kZs [(1001, (zc)), (1001, (zb))], kZ 2002 ((zc) * (zb)), kZd 1001 (za), kZs [(2002, ((zc) * (zb))), (1001, (za))], kZ 3003 (((zc) * (zb)) * (za)), kIs (.bool true), kIs (.bool false), kIs (.bool false), kIs (.bool false), kZd 1001 (za), kZd 1001 (zb), kZd 1001 (zc), kZs [(1001, (zb)), (1001, (zc))], kZ 1002 ((zb) + (zc)), kZs [(1001, (za)), (1002, ((zb) + (zc)))], kZ 2003 ((za) * ((zb) + (zc))), kZd 1001 (za), kZd 1001 (zb), kZs [(1001, (za)), (1001, (zb))], kZ 2002 ((za) * (zb)), kZd 1001 (za), kZd 1001 (zc), kZs [(1001, (za)), (1001, (zc))], kZ 2002 ((za) * (zc)), kZs [(2002, ((za) * (zb))), (2002, ((za) * (zc)))], kZ 2003 (((za) * (zb)) + ((za) * (zc))), kIs (.bool true), kIs (.bool false), kIs (.bool false)]
      [ [], [], [], [], [(2, some 81), (3, some 82)], [(4, some 83)], [(1, some 80), (5, some 84)], [(6, some 85)], [(0, some 79), (7, some 86)], [(8, some 87)], [(9, some 88)], [], [], [], [(12, some 91), (13, some 92)], [(14, some 93)], [], [(15, some 94), (16, some 95)], [(17, some 96)], [(11, some 90), (18, some 97)], [(19, some 98)], [(10, some 89), (20, some 99)], [(21, some 100)], [], [], [], [(24, some 103), (25, some 104)], [(26, some 105)], [(23, some 102), (27, some 106)], [(28, some 107)], [], [], [(30, some 109), (31, some 110)], [(32, some 111)], [], [], [(34, some 113), (35, some 114)], [(36, some 115)], [(33, some 112), (37, some 116)], [(38, some 117)], [(29, some 108), (39, some 118)], [(40, some 119)], [(22, some 101), (41, some 120)] ]
      [(0, some 79), (1, some 80), (2, some 81), (3, some 82), (4, some 83), (5, some 84), (6, some 85), (7, some 86), (8, some 87), (9, some 88), (10, some 89), (11, some 90), (12, some 91), (13, some 92), (14, some 93), (15, some 94), (16, some 95), (17, some 96), (18, some 97), (19, some 98), (20, some 99), (21, some 100), (22, some 101), (23, some 102), (24, some 103), (25, some 104), (26, some 105), (27, some 106), (28, some 107), (29, some 108), (30, some 109), (31, some 110), (32, some 111), (33, some 112), (34, some 113), (35, some 114), (36, some 115), (37, some 116), (38, some 117), (39, some 118), (40, some 119), (41, some 120), (42, some 121)] [(10, false), (22, false)] [] (by kernel_rfl) (by kernel_rfl) (by kernel_rfl) (by kernel_rfl) (by kernel_rfl) (by kernel_rfl) (by kernel_rfl) bb_6.size ?_ ?_
    ·
      refine pk_cons rfl rfl ?_ ?_
      · exact st_loadR l7_6 e7_6 hN_6 (by kernel_rfl) rfl
      refine pk_cons rfl rfl ?_ ?_
      · exact st_loadZ l5_6 e5_6 hN_6 (by kernel_rfl) rfl
      refine pk_cons rfl rfl ?_ ?_
      · exact st_loadZ l4_6 e4_6 hN_6 (by kernel_rfl) rfl
      refine pk_cons rfl rfl ?_ ?_
      · exact st_loadZ l3_6 e3_6 hN_6 (by kernel_rfl) rfl
      refine pk_cons rfl rfl ?_ ?_
      · exact st_list2 hN_6 (by kernel_rfl) (by kernel_rfl) (by kernel_rfl) (by kernel_rfl) (Nat.le_refl _) asD asD rfl
      refine pk_cons rfl rfl ?_ ?_
      · exact st_call1 hN_6 (by kernel_rfl) (by kernel_rfl) (by kernel_rfl) rfl rfl fun w x v1 hC h1 => tz (l_add2 1002 (lz h1) (by decide) (by decide) (by decide))
      refine pk_cons rfl rfl ?_ ?_
      · exact st_list2 hN_6 (by kernel_rfl) (by kernel_rfl) (by kernel_rfl) (by kernel_rfl) (Nat.le_refl _) asD asR rfl
      refine pk_cons rfl rfl ?_ ?_
      · exact st_call1 hN_6 (by kernel_rfl) (by kernel_rfl) (by kernel_rfl) rfl rfl fun w x v1 hC h1 => tz (l_add2 1003 (lz h1) (by decide) (by decide) (by decide))
      refine pk_cons rfl rfl ?_ ?_
      · exact st_call2 hN_6 (by kernel_rfl) (by kernel_rfl) (by kernel_rfl) (by kernel_rfl) (by kernel_rfl) rfl rfl rfl fun w x v1 v2 hC h1 h2 => ti (z_same (rr h1) (rr h2) (by omega))
      refine pk_cons rfl rfl ?_ ?_
      · exact st_pure [.bool true] [] (.bool false) rfl hN_6 (by kernel_rfl) (by kernel_rfl) (by kernel_rfl) old0 (by kernel_rfl) (by kernel_rfl) (by kernel_rfl) (fun _ => by kernel_rfl)
      refine pk_cons rfl rfl ?_ ?_
      · exact st_pure [.bool false] [] (.bool false) rfl hN_6 (by kernel_rfl) (by kernel_rfl) (by kernel_rfl) old0 (by kernel_rfl) (by kernel_rfl) (by kernel_rfl) (fun _ => by kernel_rfl)
      refine pk_cons rfl rfl ?_ ?_
      · exact st_loadR l8_6 e8_6 hN_6 (by kernel_rfl) rfl
      refine pk_cons rfl rfl ?_ ?_
      · exact st_loadZ l5_6 e5_6 hN_6 (by kernel_rfl) rfl
      refine pk_cons rfl rfl ?_ ?_
      · exact st_loadZ l4_6 e4_6 hN_6 (by kernel_rfl) rfl
      refine pk_cons rfl rfl ?_ ?_
      · exact st_list2 hN_6 (by kernel_rfl) (by kernel_rfl) (by kernel_rfl) (by kernel_rfl) (Nat.le_refl _) asD asD rfl
      refine pk_cons rfl rfl ?_ ?_
      · exact st_call1 hN_6 (by kernel_rfl) (by kernel_rfl) (by kernel_rfl) rfl rfl fun w x v1 hC h1 => tz (l_mul2 2002 (lz h1) (by decide) (by decide) (by decide))
      refine pk_cons rfl rfl ?_ ?_
      · exact st_loadZ l3_6 e3_6 hN_6 (by kernel_rfl) rfl
      refine pk_cons rfl rfl ?_ ?_
      · exact st_list2 hN_6 (by kernel_rfl) (by kernel_rfl) (by kernel_rfl) (by kernel_rfl) (Nat.le_refl _) asR asD rfl
      refine pk_cons rfl rfl ?_ ?_
      · exact st_call1 hN_6 (by kernel_rfl) (by kernel_rfl) (by kernel_rfl) rfl rfl fun w x v1 hC h1 => tz (l_mul2 3003 (lz h1) (by decide) (by decide) (by decide))
      refine pk_cons rfl rfl ?_ ?_
      · exact st_call2 hN_6 (by kernel_rfl) (by kernel_rfl) (by kernel_rfl) (by kernel_rfl) (by kernel_rfl) rfl rfl rfl fun w x v1 v2 hC h1 h2 => ti (z_same (rr h1) (rr h2) (by rw [Int.mul_comm zc zb, Int.mul_comm (zb * zc) za, Int.mul_assoc]))
      refine pk_cons rfl rfl ?_ ?_
      · exact st_pure [.bool true] [] (.bool false) rfl hN_6 (by kernel_rfl) (by kernel_rfl) (by kernel_rfl) old0 (by kernel_rfl) (by kernel_rfl) (by kernel_rfl) (fun _ => by kernel_rfl)
      refine pk_cons rfl rfl ?_ ?_
      · exact st_pure [.bool false, .bool false] [] (.bool false) rfl hN_6 (by kernel_rfl) (by kernel_rfl) (by kernel_rfl) old0 (by kernel_rfl) (by kernel_rfl) (by kernel_rfl) (fun _ => by kernel_rfl)
      refine pk_cons rfl rfl ?_ ?_
      · exact st_pure [.bool false] [] (.bool false) rfl hN_6 (by kernel_rfl) (by kernel_rfl) (by kernel_rfl) old0 (by kernel_rfl) (by kernel_rfl) (by kernel_rfl) (fun _ => by kernel_rfl)
      refine pk_cons rfl rfl ?_ ?_
      · exact st_loadZ l3_6 e3_6 hN_6 (by kernel_rfl) rfl
      refine pk_cons rfl rfl ?_ ?_
      · exact st_loadZ l4_6 e4_6 hN_6 (by kernel_rfl) rfl
      refine pk_cons rfl rfl ?_ ?_
      · exact st_loadZ l5_6 e5_6 hN_6 (by kernel_rfl) rfl
      refine pk_cons rfl rfl ?_ ?_
      · exact st_list2 hN_6 (by kernel_rfl) (by kernel_rfl) (by kernel_rfl) (by kernel_rfl) (Nat.le_refl _) asD asD rfl
      refine pk_cons rfl rfl ?_ ?_
      · exact st_call1 hN_6 (by kernel_rfl) (by kernel_rfl) (by kernel_rfl) rfl rfl fun w x v1 hC h1 => tz (l_add2 1002 (lz h1) (by decide) (by decide) (by decide))
      refine pk_cons rfl rfl ?_ ?_
      · exact st_list2 hN_6 (by kernel_rfl) (by kernel_rfl) (by kernel_rfl) (by kernel_rfl) (Nat.le_refl _) asD asR rfl
      refine pk_cons rfl rfl ?_ ?_
      · exact st_call1 hN_6 (by kernel_rfl) (by kernel_rfl) (by kernel_rfl) rfl rfl fun w x v1 hC h1 => tz (l_mul2 2003 (lz h1) (by decide) (by decide) (by decide))
      refine pk_cons rfl rfl ?_ ?_
      · exact st_loadZ l3_6 e3_6 hN_6 (by kernel_rfl) rfl
      refine pk_cons rfl rfl ?_ ?_
      · exact st_loadZ l4_6 e4_6 hN_6 (by kernel_rfl) rfl
      refine pk_cons rfl rfl ?_ ?_
      · exact st_list2 hN_6 (by kernel_rfl) (by kernel_rfl) (by kernel_rfl) (by kernel_rfl) (Nat.le_refl _) asD asD rfl
      refine pk_cons rfl rfl ?_ ?_
      · exact st_call1 hN_6 (by kernel_rfl) (by kernel_rfl) (by kernel_rfl) rfl rfl fun w x v1 hC h1 => tz (l_mul2 2002 (lz h1) (by decide) (by decide) (by decide))
      refine pk_cons rfl rfl ?_ ?_
      · exact st_loadZ l3_6 e3_6 hN_6 (by kernel_rfl) rfl
      refine pk_cons rfl rfl ?_ ?_
      · exact st_loadZ l5_6 e5_6 hN_6 (by kernel_rfl) rfl
      refine pk_cons rfl rfl ?_ ?_
      · exact st_list2 hN_6 (by kernel_rfl) (by kernel_rfl) (by kernel_rfl) (by kernel_rfl) (Nat.le_refl _) asD asD rfl
      refine pk_cons rfl rfl ?_ ?_
      · exact st_call1 hN_6 (by kernel_rfl) (by kernel_rfl) (by kernel_rfl) rfl rfl fun w x v1 hC h1 => tz (l_mul2 2002 (lz h1) (by decide) (by decide) (by decide))
      refine pk_cons rfl rfl ?_ ?_
      · exact st_list2 hN_6 (by kernel_rfl) (by kernel_rfl) (by kernel_rfl) (by kernel_rfl) (Nat.le_refl _) asR asR rfl
      refine pk_cons rfl rfl ?_ ?_
      · exact st_call1 hN_6 (by kernel_rfl) (by kernel_rfl) (by kernel_rfl) rfl rfl fun w x v1 hC h1 => tz (l_add2 2003 (lz h1) (by decide) (by decide) (by decide))
      refine pk_cons rfl rfl ?_ ?_
      · exact st_call2 hN_6 (by kernel_rfl) (by kernel_rfl) (by kernel_rfl) (by kernel_rfl) (by kernel_rfl) rfl rfl rfl fun w x v1 v2 hC h1 h2 => ti (z_same (rr h1) (rr h2) (Int.mul_add _ _ _))
      refine pk_cons rfl rfl ?_ ?_
      · exact st_pure [.bool true] [] (.bool false) rfl hN_6 (by kernel_rfl) (by kernel_rfl) (by kernel_rfl) old0 (by kernel_rfl) (by kernel_rfl) (by kernel_rfl) (fun _ => by kernel_rfl)
      refine pk_cons rfl rfl ?_ ?_
      · exact st_pure [.bool false, .bool false] [] (.bool false) rfl hN_6 (by kernel_rfl) (by kernel_rfl) (by kernel_rfl) old0 (by kernel_rfl) (by kernel_rfl) (by kernel_rfl) (fun _ => by kernel_rfl)
      exact pk_nil rfl
    intro W_7 x hC hall
    refine then_n ?_
    obtain ⟨a_7, ha⟩ : ∃ a, a = putE x a_6 [(0, some 79), (1, some 80), (2, some 81), (3, some 82), (4, some 83), (5, some 84), (6, some 85), (7, some 86), (8, some 87), (9, some 88), (10, some 89), (11, some 90), (12, some 91), (13, some 92), (14, some 93), (15, some 94), (16, some 95), (17, some 96), (18, some 97), (19, some 98), (20, some 99), (21, some 100), (22, some 101), (23, some 102), (24, some 103), (25, some 104), (26, some 105), (27, some 106), (28, some 107), (29, some 108), (30, some 109), (31, some 110), (32, some 111), (33, some 112), (34, some 113), (35, some 114), (36, some 115), (37, some 116), (38, some 117), (39, some 118), (40, some 119), (41, some 120), (42, some 121)] := ⟨_, rfl⟩
    rw [← ha]
    have hN_7 := size_behind ha hN_6
    have hD_7 := defers_behind ha hD_6
    have bb_7 := bb_6.trans hC.below
    have e3_7 := slot_old ha (by kernel_rfl) e3_6
    have l3_7 := hC.locZ l3_6
    have e4_7 := slot_old ha (by kernel_rfl) e4_6
    have l4_7 := hC.locZ l4_6
    have e5_7 := slot_old ha (by kernel_rfl) e5_6
    have l5_7 := hC.locZ l5_6
    have e7_7 := slot_old ha (by kernel_rfl) e7_6
    have l7_7 := hC.locR l7_6
    have e8_7 := slot_old ha (by kernel_rfl) e8_6
    have l8_7 := hC.locR l8_6
    have e10_7 := slot_old ha (by kernel_rfl) e10_6
    have e48_7 := slot_old ha (by kernel_rfl) e48_6
    have e121_7 := (slot_new (t := 121) (i := 42) ha hN_6 (by kernel_rfl) (by kernel_rfl)).trans (show x 42 = .bool false from hall 42 (of_decide_eq_true (by kernel_rfl)))
    clear hall hC ha bb_6 hD_6 e3_6 l3_6 e4_6 l4_6 e5_6 l5_6 e7_6 l7_6 e8_6 l8_6 e10_6 e48_6
    refine wp_cond_false e121_7 ?_
    repeat (first | refine wp_seq ?_ | (refine wp_skip ?_; refine then_n ?_))
    refine wp_region_law hN_7 w.heap.size
      [kZd 1001 (za), kZd 1001 (za), kZ 1002 (za - (za)), kZ 1 (0), kIs (.int .i64 (0)), kIs (.bool false), kIs (.bool false), kZd 1001 (za), kZd 1001 (zb), kZ 1002 (za - (zb)), kZd 1001 (zb), kZd 1001 (za), kZ 1002 (zb - (za)), kZ 1002 (-(zb - (za))), kIs (.bool true), kIs (.bool false), kIs (.bool false), kIs (.bool false), kZd 1001 (za), kZd 1001 (zb), kZ 1002 (za - (zb)), kZd 1001 (zb), kZs [(1002, (za - (zb))), (1001, (zb))], kZ 1003 ((za - (zb)) + (zb)), kZd 1001 (za), kZs [(1001, (za))], kZ 1001 ((za)), kIs (.bool true), kIs (.bool false), kIs (.bool false)]
      [ [], [], [(0, some 122), (1, some 123)], [], [(2, some 124), (3, some 125)], [(4, some 126)], [(5, some 127)], [], [], [(7, some 129), (8, some 130)], [], [], [(10, some 132), (11, some 133)], [(12, some 134)], [(9, some 131), (13, some 135)], [(14, some 136)], [(6, some 128), (15, some 137)], [(16, some 138)], [], [], [(18, some 140), (19, some 141)], [], [(20, some 142), (21, some 143)], [(22, some 144)], [], [(24, some 146)], [(25, some 147)], [(23, some 145), (26, some 148)], [(27, some 149)], [(17, some 139), (28, some 150)] ]
      [(0, some 122), (1, some 123), (2, some 124), (3, some 125), (4, some 126), (5, some 127), (6, some 128), (7, some 129), (8, some 130), (9, some 131), (10, some 132), (11, some 133), (12, some 134), (13, some 135), (14, some 136), (15, some 137), (16, some 138), (17, some 139), (18, some 140), (19, some 141), (20, some 142), (21, some 143), (22, some 144), (23, some 145), (24, some 146), (25, some 147), (26, some 148), (27, some 149), (28, some 150), (29, some 151)] [(6, false), (17, false)] [] (by kernel_rfl) (by kernel_rfl) (by kernel_rfl) (by kernel_rfl) (by kernel_rfl) (by kernel_rfl) (by kernel_rfl) bb_7.size ?_ ?_
    ·
      refine pk_cons rfl rfl ?_ ?_
      · exact st_loadZ l3_7 e3_7 hN_7 (by kernel_rfl) rfl
      refine pk_cons rfl rfl ?_ ?_
      · exact st_loadZ l3_7 e3_7 hN_7 (by kernel_rfl) rfl
      refine pk_cons rfl rfl ?_ ?_
      · exact st_call2 hN_7 (by kernel_rfl) (by kernel_rfl) (by kernel_rfl) (by kernel_rfl) (by kernel_rfl) rfl rfl rfl fun w x v1 v2 hC h1 h2 => tz (z_sub 1002 (dz h1) (dz h2) (by decide) (by decide) (by decide))
      refine pk_cons rfl rfl ?_ ?_
      · exact st_call0 [.int .i64 (0)] hN_7 (by kernel_rfl) (by kernel_rfl) rfl rfl fun w x hC => tz (z_of (0) 1 (by decide) (by decide) (by decide))
      refine pk_cons rfl rfl ?_ ?_
      · exact st_call2 hN_7 (by kernel_rfl) (by kernel_rfl) (by kernel_rfl) (by kernel_rfl) (by kernel_rfl) rfl rfl rfl fun w x v1 v2 hC h1 h2 => ti (cmp_is (ord_eq (by omega)) (z_cmp (rz h1) (rz h2) (by decide) (by decide)))
      refine pk_cons rfl rfl ?_ ?_
      · exact st_pure [.int .i64 (0)] [] (.bool false) rfl hN_7 (by kernel_rfl) (by kernel_rfl) (by kernel_rfl) old0 (by kernel_rfl) (by kernel_rfl) (by kernel_rfl) (fun _ => by kernel_rfl)
      refine pk_cons rfl rfl ?_ ?_
      · exact st_pure [.bool false] [] (.bool false) rfl hN_7 (by kernel_rfl) (by kernel_rfl) (by kernel_rfl) old0 (by kernel_rfl) (by kernel_rfl) (by kernel_rfl) (fun _ => by kernel_rfl)
      refine pk_cons rfl rfl ?_ ?_
      · exact st_loadZ l3_7 e3_7 hN_7 (by kernel_rfl) rfl
      refine pk_cons rfl rfl ?_ ?_
      · exact st_loadZ l4_7 e4_7 hN_7 (by kernel_rfl) rfl
      refine pk_cons rfl rfl ?_ ?_
      · exact st_call2 hN_7 (by kernel_rfl) (by kernel_rfl) (by kernel_rfl) (by kernel_rfl) (by kernel_rfl) rfl rfl rfl fun w x v1 v2 hC h1 h2 => tz (z_sub 1002 (dz h1) (dz h2) (by decide) (by decide) (by decide))
      refine pk_cons rfl rfl ?_ ?_
      · exact st_loadZ l4_7 e4_7 hN_7 (by kernel_rfl) rfl
      refine pk_cons rfl rfl ?_ ?_
      · exact st_loadZ l3_7 e3_7 hN_7 (by kernel_rfl) rfl
      refine pk_cons rfl rfl ?_ ?_
      · exact st_call2 hN_7 (by kernel_rfl) (by kernel_rfl) (by kernel_rfl) (by kernel_rfl) (by kernel_rfl) rfl rfl rfl fun w x v1 v2 hC h1 h2 => tz (z_sub 1002 (dz h1) (dz h2) (by decide) (by decide) (by decide))
      refine pk_cons rfl rfl ?_ ?_
      · exact st_call1 hN_7 (by kernel_rfl) (by kernel_rfl) (by kernel_rfl) rfl rfl fun w x v1 hC h1 => tz (z_neg (rz h1) (by decide))
      refine pk_cons rfl rfl ?_ ?_
      · exact st_call2 hN_7 (by kernel_rfl) (by kernel_rfl) (by kernel_rfl) (by kernel_rfl) (by kernel_rfl) rfl rfl rfl fun w x v1 v2 hC h1 h2 => ti (z_same (rr h1) (rr h2) (by omega))
      refine pk_cons rfl rfl ?_ ?_
      · exact st_pure [.bool true] [] (.bool false) rfl hN_7 (by kernel_rfl) (by kernel_rfl) (by kernel_rfl) old0 (by kernel_rfl) (by kernel_rfl) (by kernel_rfl) (fun _ => by kernel_rfl)
      refine pk_cons rfl rfl ?_ ?_
      · exact st_pure [.bool false, .bool false] [] (.bool false) rfl hN_7 (by kernel_rfl) (by kernel_rfl) (by kernel_rfl) old0 (by kernel_rfl) (by kernel_rfl) (by kernel_rfl) (fun _ => by kernel_rfl)
      refine pk_cons rfl rfl ?_ ?_
      · exact st_pure [.bool false] [] (.bool false) rfl hN_7 (by kernel_rfl) (by kernel_rfl) (by kernel_rfl) old0 (by kernel_rfl) (by kernel_rfl) (by kernel_rfl) (fun _ => by kernel_rfl)
      refine pk_cons rfl rfl ?_ ?_
      · exact st_loadZ l3_7 e3_7 hN_7 (by kernel_rfl) rfl
      refine pk_cons rfl rfl ?_ ?_
      · exact st_loadZ l4_7 e4_7 hN_7 (by kernel_rfl) rfl
      refine pk_cons rfl rfl ?_ ?_
      · exact st_call2 hN_7 (by kernel_rfl) (by kernel_rfl) (by kernel_rfl) (by kernel_rfl) (by kernel_rfl) rfl rfl rfl fun w x v1 v2 hC h1 h2 => tz (z_sub 1002 (dz h1) (dz h2) (by decide) (by decide) (by decide))
      refine pk_cons rfl rfl ?_ ?_
      · exact st_loadZ l4_7 e4_7 hN_7 (by kernel_rfl) rfl
      refine pk_cons rfl rfl ?_ ?_
      · exact st_list2 hN_7 (by kernel_rfl) (by kernel_rfl) (by kernel_rfl) (by kernel_rfl) (Nat.le_refl _) asR asD rfl
      refine pk_cons rfl rfl ?_ ?_
      · exact st_call1 hN_7 (by kernel_rfl) (by kernel_rfl) (by kernel_rfl) rfl rfl fun w x v1 hC h1 => tz (l_add2 1003 (lz h1) (by decide) (by decide) (by decide))
      refine pk_cons rfl rfl ?_ ?_
      · exact st_loadZ l3_7 e3_7 hN_7 (by kernel_rfl) rfl
      refine pk_cons rfl rfl ?_ ?_
      · exact st_list1 hN_7 (by kernel_rfl) (by kernel_rfl) (Nat.le_refl _) asD rfl
      refine pk_cons rfl rfl ?_ ?_
      · exact st_call1 hN_7 (by kernel_rfl) (by kernel_rfl) (by kernel_rfl) rfl rfl fun w x v1 hC h1 => tz (l_add1 1001 (lz h1) (by decide) (by decide))
      refine pk_cons rfl rfl ?_ ?_
      · exact st_call2 hN_7 (by kernel_rfl) (by kernel_rfl) (by kernel_rfl) (by kernel_rfl) (by kernel_rfl) rfl rfl rfl fun w x v1 v2 hC h1 h2 => ti (z_same (rr h1) (rr h2) (by omega))
      refine pk_cons rfl rfl ?_ ?_
      · exact st_pure [.bool true] [] (.bool false) rfl hN_7 (by kernel_rfl) (by kernel_rfl) (by kernel_rfl) old0 (by kernel_rfl) (by kernel_rfl) (by kernel_rfl) (fun _ => by kernel_rfl)
      refine pk_cons rfl rfl ?_ ?_
      · exact st_pure [.bool false, .bool false] [] (.bool false) rfl hN_7 (by kernel_rfl) (by kernel_rfl) (by kernel_rfl) old0 (by kernel_rfl) (by kernel_rfl) (by kernel_rfl) (fun _ => by kernel_rfl)
      exact pk_nil rfl
    intro W_8 x hC hall
    refine then_n ?_
    obtain ⟨a_8, ha⟩ : ∃ a, a = putE x a_7 [(0, some 122), (1, some 123), (2, some 124), (3, some 125), (4, some 126), (5, some 127), (6, some 128), (7, some 129), (8, some 130), (9, some 131), (10, some 132), (11, some 133), (12, some 134), (13, some 135), (14, some 136), (15, some 137), (16, some 138), (17, some 139), (18, some 140), (19, some 141), (20, some 142), (21, some 143), (22, some 144), (23, some 145), (24, some 146), (25, some 147), (26, some 148), (27, some 149), (28, some 150), (29, some 151)] := ⟨_, rfl⟩
    rw [← ha]
    have hN_8 := size_behind ha hN_7
    have hD_8 := defers_behind ha hD_7
    have bb_8 := bb_7.trans hC.below
    have e3_8 := slot_old ha (by kernel_rfl) e3_7
    have l3_8 := hC.locZ l3_7
    have e4_8 := slot_old ha (by kernel_rfl) e4_7
    have l4_8 := hC.locZ l4_7
    have e5_8 := slot_old ha (by kernel_rfl) e5_7
    have l5_8 := hC.locZ l5_7
    have e7_8 := slot_old ha (by kernel_rfl) e7_7
    have l7_8 := hC.locR l7_7
    have e8_8 := slot_old ha (by kernel_rfl) e8_7
    have l8_8 := hC.locR l8_7
    have e10_8 := slot_old ha (by kernel_rfl) e10_7
    have e48_8 := slot_old ha (by kernel_rfl) e48_7
    have e121_8 := slot_old ha (by kernel_rfl) e121_7
    have e151_8 := (slot_new (t := 151) (i := 29) ha hN_7 (by kernel_rfl) (by kernel_rfl)).trans (show x 29 = .bool false from hall 29 (of_decide_eq_true (by kernel_rfl)))
    clear hall hC ha bb_7 hD_7 e3_7 l3_7 e4_7 l4_7 e5_7 l5_7 e7_7 l7_7 e8_7 l8_7 e10_7 e48_7 e121_7
    refine wp_cond_false e151_8 ?_
    repeat (first | refine wp_seq ?_ | (refine wp_skip ?_; refine then_n ?_))
    rcases Int.lt_trichotomy za zb with hs | hs | hs
    ·
      refine wp_region_law hN_8 w.heap.size
        [kZd 1001 (za), kZd 1001 (zb), kIs (.int .i64 (-1)), kZd 1001 (za), kZd 1001 (zc), kZs [(1001, (za)), (1001, (zc))], kZ 1002 ((za) + (zc)), kZd 1001 (zb), kZd 1001 (zc), kZs [(1001, (zb)), (1001, (zc))], kZ 1002 ((zb) + (zc)), kIs (.int .i64 (-1)), kIs (.bool true), kIs (.bool true), kZd 1001 (za), kZd 1001 (zb), kIs (.int .i64 (-1)), kZd 1001 (zb), kZd 1001 (za), kIs (.int .i64 (1)), kIs (.int .i64 (-1)), kIs (.bool true), kIs (.bool true), kIs (.bool true), kZd 1001 (za), kZd 1001 (zb), kIs (.int .i64 (-1)), kZd 1001 (za), kZd 1001 (zb), kZ 1002 (za - (zb)), kZ 1 (0), kIs (.int .i64 (-1)), kIs (.bool true), kIs (.bool true), kIs (.bool true), kZd 1001 (za), kZd 1001 (zb), kIs (.int .i64 (-1)), kIs (.bool true), kIs (.bool true), kIs undef, kIs undef, kIs undef, kIs undef, kIs undef, kIs (.bool true), kIs (.bool true), kIs (.bool true)]
        [ [], [], [(0, some 152), (1, some 153)], [], [], [(3, some 155), (4, some 156)], [(5, some 157)], [], [], [(7, some 159), (8, some 160)], [(9, some 161)], [(6, some 158), (10, some 162)], [(2, some 154), (11, some 163)], [(12, some 164)], [], [], [(14, some 166), (15, some 167)], [], [], [(17, some 169), (18, some 170)], [(19, some 171)], [(16, some 168), (20, some 172)], [(13, some 165), (21, some 173)], [(22, some 174)], [], [], [(24, some 176), (25, some 177)], [], [], [(27, some 179), (28, some 180)], [], [(29, some 181), (30, some 182)], [(26, some 178), (31, some 183)], [(23, some 175), (32, some 184)], [(33, some 185)], [], [], [(35, some 187), (36, some 188)], [(37, some 189)], [(38, some 190)], [], [(40, some 192)], [], [(42, some 194)], [(41, some 193), (43, some 195)], [(39, some 191), (44, some 196)], [(34, some 186), (45, some 197)], [(46, some 198)] ]
        [(0, some 152), (1, some 153), (2, some 154), (3, some 155), (4, some 156), (5, some 157), (6, some 158), (7, some 159), (8, some 160), (9, some 161), (10, some 162), (11, some 163), (12, some 164), (13, some 165), (14, some 166), (15, some 167), (16, some 168), (17, some 169), (18, some 170), (19, some 171), (20, some 172), (21, some 173), (22, some 174), (23, some 175), (24, some 176), (25, some 177), (26, some 178), (27, some 179), (28, some 180), (29, some 181), (30, some 182), (31, some 183), (32, some 184), (33, some 185), (34, some 186), (35, some 187), (36, some 188), (37, some 189), (38, some 190), (39, some 191), (40, some 192), (41, some 193), (42, some 194), (43, some 195), (44, some 196), (45, some 197), (46, some 198), (47, some 6)] [(13, true), (23, true), (34, true), (39, true)] [40, 41, 42, 43, 44] (by kernel_rfl) (by kernel_rfl) (by kernel_rfl) (by kernel_rfl) (by kernel_rfl) (by kernel_rfl) (by kernel_rfl) bb_8.size ?_ ?_
      ·
        refine pk_cons rfl rfl ?_ ?_
        · exact st_loadZ l3_8 e3_8 hN_8 (by kernel_rfl) rfl
        refine pk_cons rfl rfl ?_ ?_
        · exact st_loadZ l4_8 e4_8 hN_8 (by kernel_rfl) rfl
        refine pk_cons rfl rfl ?_ ?_
        · exact st_call2 hN_8 (by kernel_rfl) (by kernel_rfl) (by kernel_rfl) (by kernel_rfl) (by kernel_rfl) rfl rfl rfl fun w x v1 v2 hC h1 h2 => ti (cmp_is (ord_lt hs) (z_cmp (dz h1) (dz h2) (by decide) (by decide)))
        refine pk_cons rfl rfl ?_ ?_
        · exact st_loadZ l3_8 e3_8 hN_8 (by kernel_rfl) rfl
        refine pk_cons rfl rfl ?_ ?_
        · exact st_loadZ l5_8 e5_8 hN_8 (by kernel_rfl) rfl
        refine pk_cons rfl rfl ?_ ?_
        · exact st_list2 hN_8 (by kernel_rfl) (by kernel_rfl) (by kernel_rfl) (by kernel_rfl) (Nat.le_refl _) asD asD rfl
        refine pk_cons rfl rfl ?_ ?_
        · exact st_call1 hN_8 (by kernel_rfl) (by kernel_rfl) (by kernel_rfl) rfl rfl fun w x v1 hC h1 => tz (l_add2 1002 (lz h1) (by decide) (by decide) (by decide))
        refine pk_cons rfl rfl ?_ ?_
        · exact st_loadZ l4_8 e4_8 hN_8 (by kernel_rfl) rfl
        refine pk_cons rfl rfl ?_ ?_
        · exact st_loadZ l5_8 e5_8 hN_8 (by kernel_rfl) rfl
        refine pk_cons rfl rfl ?_ ?_
        · exact st_list2 hN_8 (by kernel_rfl) (by kernel_rfl) (by kernel_rfl) (by kernel_rfl) (Nat.le_refl _) asD asD rfl
        refine pk_cons rfl rfl ?_ ?_
        · exact st_call1 hN_8 (by kernel_rfl) (by kernel_rfl) (by kernel_rfl) rfl rfl fun w x v1 hC h1 => tz (l_add2 1002 (lz h1) (by decide) (by decide) (by decide))
        refine pk_cons rfl rfl ?_ ?_
        · exact st_call2 hN_8 (by kernel_rfl) (by kernel_rfl) (by kernel_rfl) (by kernel_rfl) (by kernel_rfl) rfl rfl rfl fun w x v1 v2 hC h1 h2 => ti (cmp_is (ord_lt (by omega)) (z_cmp (rz h1) (rz h2) (by decide) (by decide)))
        refine pk_cons rfl rfl ?_ ?_
        · exact st_pure [.int .i64 (-1), .int .i64 (-1)] [] (.bool true) rfl hN_8 (by kernel_rfl) (by kernel_rfl) (by kernel_rfl) old0 (by kernel_rfl) (by kernel_rfl) (by kernel_rfl) (fun _ => by kernel_rfl)
        refine pk_cons rfl rfl ?_ ?_
        · exact st_pure [.bool true] [] (.bool true) rfl hN_8 (by kernel_rfl) (by kernel_rfl) (by kernel_rfl) old0 (by kernel_rfl) (by kernel_rfl) (by kernel_rfl) (fun _ => by kernel_rfl)
        refine pk_cons rfl rfl ?_ ?_
        · exact st_loadZ l3_8 e3_8 hN_8 (by kernel_rfl) rfl
        refine pk_cons rfl rfl ?_ ?_
        · exact st_loadZ l4_8 e4_8 hN_8 (by kernel_rfl) rfl
        refine pk_cons rfl rfl ?_ ?_
        · exact st_call2 hN_8 (by kernel_rfl) (by kernel_rfl) (by kernel_rfl) (by kernel_rfl) (by kernel_rfl) rfl rfl rfl fun w x v1 v2 hC h1 h2 => ti (cmp_is (ord_lt hs) (z_cmp (dz h1) (dz h2) (by decide) (by decide)))
        refine pk_cons rfl rfl ?_ ?_
        · exact st_loadZ l4_8 e4_8 hN_8 (by kernel_rfl) rfl
        refine pk_cons rfl rfl ?_ ?_
        · exact st_loadZ l3_8 e3_8 hN_8 (by kernel_rfl) rfl
        refine pk_cons rfl rfl ?_ ?_
        · exact st_call2 hN_8 (by kernel_rfl) (by kernel_rfl) (by kernel_rfl) (by kernel_rfl) (by kernel_rfl) rfl rfl rfl fun w x v1 v2 hC h1 h2 => ti (cmp_is (ord_gt (by omega)) (z_cmp (dz h1) (dz h2) (by decide) (by decide)))
        refine pk_cons rfl rfl ?_ ?_
        · exact st_pure [.int .i64 (1)] [] (.int .i64 (-1)) rfl hN_8 (by kernel_rfl) (by kernel_rfl) (by kernel_rfl) old0 (by kernel_rfl) (by kernel_rfl) (by kernel_rfl) (fun _ => by kernel_rfl)
        refine pk_cons rfl rfl ?_ ?_
        · exact st_pure [.int .i64 (-1), .int .i64 (-1)] [] (.bool true) rfl hN_8 (by kernel_rfl) (by kernel_rfl) (by kernel_rfl) old0 (by kernel_rfl) (by kernel_rfl) (by kernel_rfl) (fun _ => by kernel_rfl)
        refine pk_cons rfl rfl ?_ ?_
        · exact st_pure [.bool true, .bool true] [] (.bool true) rfl hN_8 (by kernel_rfl) (by kernel_rfl) (by kernel_rfl) old0 (by kernel_rfl) (by kernel_rfl) (by kernel_rfl) (fun _ => by kernel_rfl)
        refine pk_cons rfl rfl ?_ ?_
        · exact st_pure [.bool true] [] (.bool true) rfl hN_8 (by kernel_rfl) (by kernel_rfl) (by kernel_rfl) old0 (by kernel_rfl) (by kernel_rfl) (by kernel_rfl) (fun _ => by kernel_rfl)
        refine pk_cons rfl rfl ?_ ?_
        · exact st_loadZ l3_8 e3_8 hN_8 (by kernel_rfl) rfl
        refine pk_cons rfl rfl ?_ ?_
        · exact st_loadZ l4_8 e4_8 hN_8 (by kernel_rfl) rfl
        refine pk_cons rfl rfl ?_ ?_
        · exact st_call2 hN_8 (by kernel_rfl) (by kernel_rfl) (by kernel_rfl) (by kernel_rfl) (by kernel_rfl) rfl rfl rfl fun w x v1 v2 hC h1 h2 => ti (cmp_is (ord_lt hs) (z_cmp (dz h1) (dz h2) (by decide) (by decide)))
        refine pk_cons rfl rfl ?_ ?_
        · exact st_loadZ l3_8 e3_8 hN_8 (by kernel_rfl) rfl
        refine pk_cons rfl rfl ?_ ?_
        · exact st_loadZ l4_8 e4_8 hN_8 (by kernel_rfl) rfl
        refine pk_cons rfl rfl ?_ ?_
        · exact st_call2 hN_8 (by kernel_rfl) (by kernel_rfl) (by kernel_rfl) (by kernel_rfl) (by kernel_rfl) rfl rfl rfl fun w x v1 v2 hC h1 h2 => tz (z_sub 1002 (dz h1) (dz h2) (by decide) (by decide) (by decide))
        refine pk_cons rfl rfl ?_ ?_
        · exact st_call0 [.int .i64 (0)] hN_8 (by kernel_rfl) (by kernel_rfl) rfl rfl fun w x hC => tz (z_of (0) 1 (by decide) (by decide) (by decide))
        refine pk_cons rfl rfl ?_ ?_
        · exact st_call2 hN_8 (by kernel_rfl) (by kernel_rfl) (by kernel_rfl) (by kernel_rfl) (by kernel_rfl) rfl rfl rfl fun w x v1 v2 hC h1 h2 => ti (cmp_is (ord_lt (by omega)) (z_cmp (rz h1) (rz h2) (by decide) (by decide)))
        refine pk_cons rfl rfl ?_ ?_
        · exact st_pure [.int .i64 (-1), .int .i64 (-1)] [] (.bool true) rfl hN_8 (by kernel_rfl) (by kernel_rfl) (by kernel_rfl) old0 (by kernel_rfl) (by kernel_rfl) (by kernel_rfl) (fun _ => by kernel_rfl)
        refine pk_cons rfl rfl ?_ ?_
        · exact st_pure [.bool true, .bool true] [] (.bool true) rfl hN_8 (by kernel_rfl) (by kernel_rfl) (by kernel_rfl) old0 (by kernel_rfl) (by kernel_rfl) (by kernel_rfl) (fun _ => by kernel_rfl)
        refine pk_cons rfl rfl ?_ ?_
        · exact st_pure [.bool true] [] (.bool true) rfl hN_8 (by kernel_rfl) (by kernel_rfl) (by kernel_rfl) old0 (by kernel_rfl) (by kernel_rfl) (by kernel_rfl) (fun _ => by kernel_rfl)
        refine pk_cons rfl rfl ?_ ?_
        · exact st_loadZ l3_8 e3_8 hN_8 (by kernel_rfl) rfl
        refine pk_cons rfl rfl ?_ ?_
        · exact st_loadZ l4_8 e4_8 hN_8 (by kernel_rfl) rfl
        refine pk_cons rfl rfl ?_ ?_
        · exact st_call2 hN_8 (by kernel_rfl) (by kernel_rfl) (by kernel_rfl) (by kernel_rfl) (by kernel_rfl) rfl rfl rfl fun w x v1 v2 hC h1 h2 => ti (cmp_is (ord_lt hs) (z_cmp (dz h1) (dz h2) (by decide) (by decide)))
        refine pk_cons rfl rfl ?_ ?_
        · exact st_pure [.int .i64 (-1)] [] (.bool true) rfl hN_8 (by kernel_rfl) (by kernel_rfl) (by kernel_rfl) old0 (by kernel_rfl) (by kernel_rfl) (by kernel_rfl) (fun _ => by kernel_rfl)
        refine pk_cons rfl rfl ?_ ?_
        · exact st_pure [.bool true] [] (.bool true) rfl hN_8 (by kernel_rfl) (by kernel_rfl) (by kernel_rfl) old0 (by kernel_rfl) (by kernel_rfl) (by kernel_rfl) (fun _ => by kernel_rfl)
        refine pk_skip rfl ?_
        refine pk_skip rfl ?_
        refine pk_skip rfl ?_
        refine pk_skip rfl ?_
        refine pk_skip rfl ?_
        refine pk_cons rfl rfl ?_ ?_
        · exact st_pure [.bool true, undef] [] (.bool true) rfl hN_8 (by kernel_rfl) (by kernel_rfl) (by kernel_rfl) old0 (by kernel_rfl) (by kernel_rfl) (by kernel_rfl) (fun _ => by kernel_rfl)
        refine pk_cons rfl rfl ?_ ?_
        · exact st_pure [.bool true, .bool true] [] (.bool true) rfl hN_8 (by kernel_rfl) (by kernel_rfl) (by kernel_rfl) old0 (by kernel_rfl) (by kernel_rfl) (by kernel_rfl) (fun _ => by kernel_rfl)
        refine pk_cons rfl rfl ?_ ?_
        · exact st_pure [.bool true] [] (.bool true) rfl hN_8 (by kernel_rfl) (by kernel_rfl) (by kernel_rfl) old0 (by kernel_rfl) (by kernel_rfl) (by kernel_rfl) (fun _ => by kernel_rfl)
        exact pk_nil rfl
      intro W_9 x hC hall
      refine then_n ?_
      obtain ⟨a_9, ha⟩ : ∃ a, a = putE x a_8 [(0, some 152), (1, some 153), (2, some 154), (3, some 155), (4, some 156), (5, some 157), (6, some 158), (7, some 159), (8, some 160), (9, some 161), (10, some 162), (11, some 163), (12, some 164), (13, some 165), (14, some 166), (15, some 167), (16, some 168), (17, some 169), (18, some 170), (19, some 171), (20, some 172), (21, some 173), (22, some 174), (23, some 175), (24, some 176), (25, some 177), (26, some 178), (27, some 179), (28, some 180), (29, some 181), (30, some 182), (31, some 183), (32, some 184), (33, some 185), (34, some 186), (35, some 187), (36, some 188), (37, some 189), (38, some 190), (39, some 191), (40, some 192), (41, some 193), (42, some 194), (43, some 195), (44, some 196), (45, some 197), (46, some 198), (47, some 6)] := ⟨_, rfl⟩
      rw [← ha]
      have hN_9 := size_behind ha hN_8
      have hD_9 := defers_behind ha hD_8
      have bb_9 := bb_8.trans hC.below
      have e3_9 := slot_old ha (by kernel_rfl) e3_8
      have l3_9 := hC.locZ l3_8
      have e4_9 := slot_old ha (by kernel_rfl) e4_8
      have l4_9 := hC.locZ l4_8
      have e5_9 := slot_old ha (by kernel_rfl) e5_8
      have l5_9 := hC.locZ l5_8
      have e7_9 := slot_old ha (by kernel_rfl) e7_8
      have l7_9 := hC.locR l7_8
      have e8_9 := slot_old ha (by kernel_rfl) e8_8
      have l8_9 := hC.locR l8_8
      have e10_9 := slot_old ha (by kernel_rfl) e10_8
      have e48_9 := slot_old ha (by kernel_rfl) e48_8
      have e121_9 := slot_old ha (by kernel_rfl) e121_8
      have e151_9 := slot_old ha (by kernel_rfl) e151_8
      have e6_9 := (slot_new (t := 6) (i := 47) ha hN_8 (by kernel_rfl) (by kernel_rfl)).trans (show x 47 = .bool true from hall 47 (of_decide_eq_true (by kernel_rfl)))
      clear hall hC ha bb_8 hD_8 e3_8 l3_8 e4_8 l4_8 e5_8 l5_8 e7_8 l7_8 e8_8 l8_8 e10_8 e48_8 e121_8 e151_8
      repeat (first | refine wp_seq ?_ | (refine wp_skip ?_; refine then_n ?_))
      refine wp_ret ?_
      repeat (refine then_r ?_)
      exact ret_one (t := 6) rfl hD_9 e6_9 ⟨rfl, bb_9⟩
    ·
      refine wp_region_law hN_8 w.heap.size
        [kZd 1001 (za), kZd 1001 (zb), kIs (.int .i64 (0)), kZd 1001 (za), kZd 1001 (zc), kZs [(1001, (za)), (1001, (zc))], kZ 1002 ((za) + (zc)), kZd 1001 (zb), kZd 1001 (zc), kZs [(1001, (zb)), (1001, (zc))], kZ 1002 ((zb) + (zc)), kIs (.int .i64 (0)), kIs (.bool true), kIs (.bool true), kZd 1001 (za), kZd 1001 (zb), kIs (.int .i64 (0)), kZd 1001 (zb), kZd 1001 (za), kIs (.int .i64 (0)), kIs (.int .i64 (0)), kIs (.bool true), kIs (.bool true), kIs (.bool true), kZd 1001 (za), kZd 1001 (zb), kIs (.int .i64 (0)), kZd 1001 (za), kZd 1001 (zb), kZ 1002 (za - (zb)), kZ 1 (0), kIs (.int .i64 (0)), kIs (.bool true), kIs (.bool true), kIs (.bool true), kZd 1001 (za), kZd 1001 (zb), kIs (.int .i64 (0)), kIs (.bool false), kIs (.bool false), kZd 1001 (za), kIs (.string (ztext (za))), kZd 1001 (zb), kIs (.string (ztext (zb))), kIs (.bool true), kIs (.bool true), kIs (.bool true), kIs (.bool true)]
        [ [], [], [(0, some 152), (1, some 153)], [], [], [(3, some 155), (4, some 156)], [(5, some 157)], [], [], [(7, some 159), (8, some 160)], [(9, some 161)], [(6, some 158), (10, some 162)], [(2, some 154), (11, some 163)], [(12, some 164)], [], [], [(14, some 166), (15, some 167)], [], [], [(17, some 169), (18, some 170)], [(19, some 171)], [(16, some 168), (20, some 172)], [(13, some 165), (21, some 173)], [(22, some 174)], [], [], [(24, some 176), (25, some 177)], [], [], [(27, some 179), (28, some 180)], [], [(29, some 181), (30, some 182)], [(26, some 178), (31, some 183)], [(23, some 175), (32, some 184)], [(33, some 185)], [], [], [(35, some 187), (36, some 188)], [(37, some 189)], [(38, some 190)], [], [(40, some 192)], [], [(42, some 194)], [(41, some 193), (43, some 195)], [(39, some 191), (44, some 196)], [(34, some 186), (45, some 197)], [(46, some 198)] ]
        [(0, some 152), (1, some 153), (2, some 154), (3, some 155), (4, some 156), (5, some 157), (6, some 158), (7, some 159), (8, some 160), (9, some 161), (10, some 162), (11, some 163), (12, some 164), (13, some 165), (14, some 166), (15, some 167), (16, some 168), (17, some 169), (18, some 170), (19, some 171), (20, some 172), (21, some 173), (22, some 174), (23, some 175), (24, some 176), (25, some 177), (26, some 178), (27, some 179), (28, some 180), (29, some 181), (30, some 182), (31, some 183), (32, some 184), (33, some 185), (34, some 186), (35, some 187), (36, some 188), (37, some 189), (38, some 190), (39, some 191), (40, some 192), (41, some 193), (42, some 194), (43, some 195), (44, some 196), (45, some 197), (46, some 198), (47, some 6)] [(13, true), (23, true), (34, true), (39, false)] [] (by kernel_rfl) (by kernel_rfl) (by kernel_rfl) (by kernel_rfl) (by kernel_rfl) (by kernel_rfl) (by kernel_rfl) bb_8.size ?_ ?_
      ·
        refine pk_cons rfl rfl ?_ ?_
        · exact st_loadZ l3_8 e3_8 hN_8 (by kernel_rfl) rfl
        refine pk_cons rfl rfl ?_ ?_
        · exact st_loadZ l4_8 e4_8 hN_8 (by kernel_rfl) rfl
        refine pk_cons rfl rfl ?_ ?_
        · exact st_call2 hN_8 (by kernel_rfl) (by kernel_rfl) (by kernel_rfl) (by kernel_rfl) (by kernel_rfl) rfl rfl rfl fun w x v1 v2 hC h1 h2 => ti (cmp_is (ord_eq hs) (z_cmp (dz h1) (dz h2) (by decide) (by decide)))
        refine pk_cons rfl rfl ?_ ?_
        · exact st_loadZ l3_8 e3_8 hN_8 (by kernel_rfl) rfl
        refine pk_cons rfl rfl ?_ ?_
        · exact st_loadZ l5_8 e5_8 hN_8 (by kernel_rfl) rfl
        refine pk_cons rfl rfl ?_ ?_
        · exact st_list2 hN_8 (by kernel_rfl) (by kernel_rfl) (by kernel_rfl) (by kernel_rfl) (Nat.le_refl _) asD asD rfl
        refine pk_cons rfl rfl ?_ ?_
        · exact st_call1 hN_8 (by kernel_rfl) (by kernel_rfl) (by kernel_rfl) rfl rfl fun w x v1 hC h1 => tz (l_add2 1002 (lz h1) (by decide) (by decide) (by decide))
        refine pk_cons rfl rfl ?_ ?_
        · exact st_loadZ l4_8 e4_8 hN_8 (by kernel_rfl) rfl
        refine pk_cons rfl rfl ?_ ?_
        · exact st_loadZ l5_8 e5_8 hN_8 (by kernel_rfl) rfl
        refine pk_cons rfl rfl ?_ ?_
        · exact st_list2 hN_8 (by kernel_rfl) (by kernel_rfl) (by kernel_rfl) (by kernel_rfl) (Nat.le_refl _) asD asD rfl
        refine pk_cons rfl rfl ?_ ?_
        · exact st_call1 hN_8 (by kernel_rfl) (by kernel_rfl) (by kernel_rfl) rfl rfl fun w x v1 hC h1 => tz (l_add2 1002 (lz h1) (by decide) (by decide) (by decide))
        refine pk_cons rfl rfl ?_ ?_
        · exact st_call2 hN_8 (by kernel_rfl) (by kernel_rfl) (by kernel_rfl) (by kernel_rfl) (by kernel_rfl) rfl rfl rfl fun w x v1 v2 hC h1 h2 => ti (cmp_is (ord_eq (by omega)) (z_cmp (rz h1) (rz h2) (by decide) (by decide)))
        refine pk_cons rfl rfl ?_ ?_
        · exact st_pure [.int .i64 (0), .int .i64 (0)] [] (.bool true) rfl hN_8 (by kernel_rfl) (by kernel_rfl) (by kernel_rfl) old0 (by kernel_rfl) (by kernel_rfl) (by kernel_rfl) (fun _ => by kernel_rfl)
        refine pk_cons rfl rfl ?_ ?_
        · exact st_pure [.bool true] [] (.bool true) rfl hN_8 (by kernel_rfl) (by kernel_rfl) (by kernel_rfl) old0 (by kernel_rfl) (by kernel_rfl) (by kernel_rfl) (fun _ => by kernel_rfl)
        refine pk_cons rfl rfl ?_ ?_
        · exact st_loadZ l3_8 e3_8 hN_8 (by kernel_rfl) rfl
        refine pk_cons rfl rfl ?_ ?_
        · exact st_loadZ l4_8 e4_8 hN_8 (by kernel_rfl) rfl
        refine pk_cons rfl rfl ?_ ?_
        · exact st_call2 hN_8 (by kernel_rfl) (by kernel_rfl) (by kernel_rfl) (by kernel_rfl) (by kernel_rfl) rfl rfl rfl fun w x v1 v2 hC h1 h2 => ti (cmp_is (ord_eq hs) (z_cmp (dz h1) (dz h2) (by decide) (by decide)))
        refine pk_cons rfl rfl ?_ ?_
        · exact st_loadZ l4_8 e4_8 hN_8 (by kernel_rfl) rfl
        refine pk_cons rfl rfl ?_ ?_
        · exact st_loadZ l3_8 e3_8 hN_8 (by kernel_rfl) rfl
        refine pk_cons rfl rfl ?_ ?_
        · exact st_call2 hN_8 (by kernel_rfl) (by kernel_rfl) (by kernel_rfl) (by kernel_rfl) (by kernel_rfl) rfl rfl rfl fun w x v1 v2 hC h1 h2 => ti (cmp_is (ord_eq (by omega)) (z_cmp (dz h1) (dz h2) (by decide) (by decide)))
        refine pk_cons rfl rfl ?_ ?_
        · exact st_pure [.int .i64 (0)] [] (.int .i64 (0)) rfl hN_8 (by kernel_rfl) (by kernel_rfl) (by kernel_rfl) old0 (by kernel_rfl) (by kernel_rfl) (by kernel_rfl) (fun _ => by kernel_rfl)
        refine pk_cons rfl rfl ?_ ?_
        · exact st_pure [.int .i64 (0), .int .i64 (0)] [] (.bool true) rfl hN_8 (by kernel_rfl) (by kernel_rfl) (by kernel_rfl) old0 (by kernel_rfl) (by kernel_rfl) (by kernel_rfl) (fun _ => by kernel_rfl)
        refine pk_cons rfl rfl ?_ ?_
        · exact st_pure [.bool true, .bool true] [] (.bool true) rfl hN_8 (by kernel_rfl) (by kernel_rfl) (by kernel_rfl) old0 (by kernel_rfl) (by kernel_rfl) (by kernel_rfl) (fun _ => by kernel_rfl)
        refine pk_cons rfl rfl ?_ ?_
        · exact st_pure [.bool true] [] (.bool true) rfl hN_8 (by kernel_rfl) (by kernel_rfl) (by kernel_rfl) old0 (by kernel_rfl) (by kernel_rfl) (by kernel_rfl) (fun _ => by kernel_rfl)
        refine pk_cons rfl rfl ?_ ?_
        · exact st_loadZ l3_8 e3_8 hN_8 (by kernel_rfl) rfl
        refine pk_cons rfl rfl ?_ ?_
        · exact st_loadZ l4_8 e4_8 hN_8 (by kernel_rfl) rfl
        refine pk_cons rfl rfl ?_ ?_
        · exact st_call2 hN_8 (by kernel_rfl) (by kernel_rfl) (by kernel_rfl) (by kernel_rfl) (by kernel_rfl) rfl rfl rfl fun w x v1 v2 hC h1 h2 => ti (cmp_is (ord_eq hs) (z_cmp (dz h1) (dz h2) (by decide) (by decide)))
        refine pk_cons rfl rfl ?_ ?_
        · exact st_loadZ l3_8 e3_8 hN_8 (by kernel_rfl) rfl
        refine pk_cons rfl rfl ?_ ?_
        · exact st_loadZ l4_8 e4_8 hN_8 (by kernel_rfl) rfl
        refine pk_cons rfl rfl ?_ ?_
        · exact st_call2 hN_8 (by kernel_rfl) (by kernel_rfl) (by kernel_rfl) (by kernel_rfl) (by kernel_rfl) rfl rfl rfl fun w x v1 v2 hC h1 h2 => tz (z_sub 1002 (dz h1) (dz h2) (by decide) (by decide) (by decide))
        refine pk_cons rfl rfl ?_ ?_
        · exact st_call0 [.int .i64 (0)] hN_8 (by kernel_rfl) (by kernel_rfl) rfl rfl fun w x hC => tz (z_of (0) 1 (by decide) (by decide) (by decide))
        refine pk_cons rfl rfl ?_ ?_
        · exact st_call2 hN_8 (by kernel_rfl) (by kernel_rfl) (by kernel_rfl) (by kernel_rfl) (by kernel_rfl) rfl rfl rfl fun w x v1 v2 hC h1 h2 => ti (cmp_is (ord_eq (by omega)) (z_cmp (rz h1) (rz h2) (by decide) (by decide)))
        refine pk_cons rfl rfl ?_ ?_
        · exact st_pure [.int .i64 (0), .int .i64 (0)] [] (.bool true) rfl hN_8 (by kernel_rfl) (by kernel_rfl) (by kernel_rfl) old0 (by kernel_rfl) (by kernel_rfl) (by kernel_rfl) (fun _ => by kernel_rfl)
        refine pk_cons rfl rfl ?_ ?_
        · exact st_pure [.bool true, .bool true] [] (.bool true) rfl hN_8 (by kernel_rfl) (by kernel_rfl) (by kernel_rfl) old0 (by kernel_rfl) (by kernel_rfl) (by kernel_rfl) (fun _ => by kernel_rfl)
        refine pk_cons rfl rfl ?_ ?_
        · exact st_pure [.bool true] [] (.bool true) rfl hN_8 (by kernel_rfl) (by kernel_rfl) (by kernel_rfl) old0 (by kernel_rfl) (by kernel_rfl) (by kernel_rfl) (fun _ => by kernel_rfl)
        refine pk_cons rfl rfl ?_ ?_
        · exact st_loadZ l3_8 e3_8 hN_8 (by kernel_rfl) rfl
        refine pk_cons rfl rfl ?_ ?_
        · exact st_loadZ l4_8 e4_8 hN_8 (by kernel_rfl) rfl
        refine pk_cons rfl rfl ?_ ?_
        · exact st_call2 hN_8 (by kernel_rfl) (by kernel_rfl) (by kernel_rfl) (by kernel_rfl) (by kernel_rfl) rfl rfl rfl fun w x v1 v2 hC h1 h2 => ti (cmp_is (ord_eq hs) (z_cmp (dz h1) (dz h2) (by decide) (by decide)))
        refine pk_cons rfl rfl ?_ ?_
        · exact st_pure [.int .i64 (0)] [] (.bool false) rfl hN_8 (by kernel_rfl) (by kernel_rfl) (by kernel_rfl) old0 (by kernel_rfl) (by kernel_rfl) (by kernel_rfl) (fun _ => by kernel_rfl)
        refine pk_cons rfl rfl ?_ ?_
        · exact st_pure [.bool false] [] (.bool false) rfl hN_8 (by kernel_rfl) (by kernel_rfl) (by kernel_rfl) old0 (by kernel_rfl) (by kernel_rfl) (by kernel_rfl) (fun _ => by kernel_rfl)
        refine pk_cons rfl rfl ?_ ?_
        · exact st_loadZ l3_8 e3_8 hN_8 (by kernel_rfl) rfl
        refine pk_cons rfl rfl ?_ ?_
        · exact st_call1 hN_8 (by kernel_rfl) (by kernel_rfl) (by kernel_rfl) rfl rfl fun w x v1 hC h1 => ti (z_text (dz h1) (by decide) (HT.out.1.below (bb_8.trans hC.below) HT.out.2) (Nat.le_trans HT.out.2 (bb_8.trans hC.below).size))
        refine pk_cons rfl rfl ?_ ?_
        · exact st_loadZ l4_8 e4_8 hN_8 (by kernel_rfl) rfl
        refine pk_cons rfl rfl ?_ ?_
        · exact st_call1 hN_8 (by kernel_rfl) (by kernel_rfl) (by kernel_rfl) rfl rfl fun w x v1 hC h1 => ti (z_text (dz h1) (by decide) (HT.out.1.below (bb_8.trans hC.below) HT.out.2) (Nat.le_trans HT.out.2 (bb_8.trans hC.below).size))
        refine pk_cons rfl rfl ?_ ?_
        · exact st_pureV [.string (ztext (za)), .string (ztext (zb))] [] (.bool ((ztext (za)).toList == (ztext (zb)).toList)) (.bool true) (congrArg Value.bool (by rw [hs]; exact beq_self_eq_true _)) rfl hN_8 (by kernel_rfl) (by kernel_rfl) (by kernel_rfl) old0 (by kernel_rfl) (by kernel_rfl) (by kernel_rfl) (fun _ => by kernel_rfl)
        refine pk_cons rfl rfl ?_ ?_
        · exact st_pure [.bool false, .bool true] [] (.bool true) rfl hN_8 (by kernel_rfl) (by kernel_rfl) (by kernel_rfl) old0 (by kernel_rfl) (by kernel_rfl) (by kernel_rfl) (fun _ => by kernel_rfl)
        refine pk_cons rfl rfl ?_ ?_
        · exact st_pure [.bool true, .bool true] [] (.bool true) rfl hN_8 (by kernel_rfl) (by kernel_rfl) (by kernel_rfl) old0 (by kernel_rfl) (by kernel_rfl) (by kernel_rfl) (fun _ => by kernel_rfl)
        refine pk_cons rfl rfl ?_ ?_
        · exact st_pure [.bool true] [] (.bool true) rfl hN_8 (by kernel_rfl) (by kernel_rfl) (by kernel_rfl) old0 (by kernel_rfl) (by kernel_rfl) (by kernel_rfl) (fun _ => by kernel_rfl)
        exact pk_nil rfl
      intro W_9 x hC hall
      refine then_n ?_
      obtain ⟨a_9, ha⟩ : ∃ a, a = putE x a_8 [(0, some 152), (1, some 153), (2, some 154), (3, some 155), (4, some 156), (5, some 157), (6, some 158), (7, some 159), (8, some 160), (9, some 161), (10, some 162), (11, some 163), (12, some 164), (13, some 165), (14, some 166), (15, some 167), (16, some 168), (17, some 169), (18, some 170), (19, some 171), (20, some 172), (21, some 173), (22, some 174), (23, some 175), (24, some 176), (25, some 177), (26, some 178), (27, some 179), (28, some 180), (29, some 181), (30, some 182), (31, some 183), (32, some 184), (33, some 185), (34, some 186), (35, some 187), (36, some 188), (37, some 189), (38, some 190), (39, some 191), (40, some 192), (41, some 193), (42, some 194), (43, some 195), (44, some 196), (45, some 197), (46, some 198), (47, some 6)] := ⟨_, rfl⟩
      rw [← ha]
      have hN_9 := size_behind ha hN_8
      have hD_9 := defers_behind ha hD_8
      have bb_9 := bb_8.trans hC.below
      have e3_9 := slot_old ha (by kernel_rfl) e3_8
      have l3_9 := hC.locZ l3_8
      have e4_9 := slot_old ha (by kernel_rfl) e4_8
      have l4_9 := hC.locZ l4_8
      have e5_9 := slot_old ha (by kernel_rfl) e5_8
      have l5_9 := hC.locZ l5_8
      have e7_9 := slot_old ha (by kernel_rfl) e7_8
      have l7_9 := hC.locR l7_8
      have e8_9 := slot_old ha (by kernel_rfl) e8_8
      have l8_9 := hC.locR l8_8
      have e10_9 := slot_old ha (by kernel_rfl) e10_8
      have e48_9 := slot_old ha (by kernel_rfl) e48_8
      have e121_9 := slot_old ha (by kernel_rfl) e121_8
      have e151_9 := slot_old ha (by kernel_rfl) e151_8
      have e6_9 := (slot_new (t := 6) (i := 47) ha hN_8 (by kernel_rfl) (by kernel_rfl)).trans (show x 47 = .bool true from hall 47 (of_decide_eq_true (by kernel_rfl)))
      clear hall hC ha bb_8 hD_8 e3_8 l3_8 e4_8 l4_8 e5_8 l5_8 e7_8 l7_8 e8_8 l8_8 e10_8 e48_8 e121_8 e151_8
      repeat (first | refine wp_seq ?_ | (refine wp_skip ?_; refine then_n ?_))
      refine wp_ret ?_
      repeat (refine then_r ?_)
      exact ret_one (t := 6) rfl hD_9 e6_9 ⟨rfl, bb_9⟩
    ·
      refine wp_region_law hN_8 w.heap.size
        [kZd 1001 (za), kZd 1001 (zb), kIs (.int .i64 (1)), kZd 1001 (za), kZd 1001 (zc), kZs [(1001, (za)), (1001, (zc))], kZ 1002 ((za) + (zc)), kZd 1001 (zb), kZd 1001 (zc), kZs [(1001, (zb)), (1001, (zc))], kZ 1002 ((zb) + (zc)), kIs (.int .i64 (1)), kIs (.bool true), kIs (.bool true), kZd 1001 (za), kZd 1001 (zb), kIs (.int .i64 (1)), kZd 1001 (zb), kZd 1001 (za), kIs (.int .i64 (-1)), kIs (.int .i64 (1)), kIs (.bool true), kIs (.bool true), kIs (.bool true), kZd 1001 (za), kZd 1001 (zb), kIs (.int .i64 (1)), kZd 1001 (za), kZd 1001 (zb), kZ 1002 (za - (zb)), kZ 1 (0), kIs (.int .i64 (1)), kIs (.bool true), kIs (.bool true), kIs (.bool true), kZd 1001 (za), kZd 1001 (zb), kIs (.int .i64 (1)), kIs (.bool true), kIs (.bool true), kIs undef, kIs undef, kIs undef, kIs undef, kIs undef, kIs (.bool true), kIs (.bool true), kIs (.bool true)]
        [ [], [], [(0, some 152), (1, some 153)], [], [], [(3, some 155), (4, some 156)], [(5, some 157)], [], [], [(7, some 159), (8, some 160)], [(9, some 161)], [(6, some 158), (10, some 162)], [(2, some 154), (11, some 163)], [(12, some 164)], [], [], [(14, some 166), (15, some 167)], [], [], [(17, some 169), (18, some 170)], [(19, some 171)], [(16, some 168), (20, some 172)], [(13, some 165), (21, some 173)], [(22, some 174)], [], [], [(24, some 176), (25, some 177)], [], [], [(27, some 179), (28, some 180)], [], [(29, some 181), (30, some 182)], [(26, some 178), (31, some 183)], [(23, some 175), (32, some 184)], [(33, some 185)], [], [], [(35, some 187), (36, some 188)], [(37, some 189)], [(38, some 190)], [], [(40, some 192)], [], [(42, some 194)], [(41, some 193), (43, some 195)], [(39, some 191), (44, some 196)], [(34, some 186), (45, some 197)], [(46, some 198)] ]
        [(0, some 152), (1, some 153), (2, some 154), (3, some 155), (4, some 156), (5, some 157), (6, some 158), (7, some 159), (8, some 160), (9, some 161), (10, some 162), (11, some 163), (12, some 164), (13, some 165), (14, some 166), (15, some 167), (16, some 168), (17, some 169), (18, some 170), (19, some 171), (20, some 172), (21, some 173), (22, some 174), (23, some 175), (24, some 176), (25, some 177), (26, some 178), (27, some 179), (28, some 180), (29, some 181), (30, some 182), (31, some 183), (32, some 184), (33, some 185), (34, some 186), (35, some 187), (36, some 188), (37, some 189), (38, some 190), (39, some 191), (40, some 192), (41, some 193), (42, some 194), (43, some 195), (44, some 196), (45, some 197), (46, some 198), (47, some 6)] [(13, true), (23, true), (34, true), (39, true)] [40, 41, 42, 43, 44] (by kernel_rfl) (by kernel_rfl) (by kernel_rfl) (by kernel_rfl) (by kernel_rfl) (by kernel_rfl) (by kernel_rfl) bb_8.size ?_ ?_
      ·
        refine pk_cons rfl rfl ?_ ?_
        · exact st_loadZ l3_8 e3_8 hN_8 (by kernel_rfl) rfl
        refine pk_cons rfl rfl ?_ ?_
        · exact st_loadZ l4_8 e4_8 hN_8 (by kernel_rfl) rfl
        refine pk_cons rfl rfl ?_ ?_
        · exact st_call2 hN_8 (by kernel_rfl) (by kernel_rfl) (by kernel_rfl) (by kernel_rfl) (by kernel_rfl) rfl rfl rfl fun w x v1 v2 hC h1 h2 => ti (cmp_is (ord_gt hs) (z_cmp (dz h1) (dz h2) (by decide) (by decide)))
        refine pk_cons rfl rfl ?_ ?_
        · exact st_loadZ l3_8 e3_8 hN_8 (by kernel_rfl) rfl
        refine pk_cons rfl rfl ?_ ?_
        · exact st_loadZ l5_8 e5_8 hN_8 (by kernel_rfl) rfl
        refine pk_cons rfl rfl ?_ ?_
        · exact st_list2 hN_8 (by kernel_rfl) (by kernel_rfl) (by kernel_rfl) (by kernel_rfl) (Nat.le_refl _) asD asD rfl
        refine pk_cons rfl rfl ?_ ?_
        · exact st_call1 hN_8 (by kernel_rfl) (by kernel_rfl) (by kernel_rfl) rfl rfl fun w x v1 hC h1 => tz (l_add2 1002 (lz h1) (by decide) (by decide) (by decide))
        refine pk_cons rfl rfl ?_ ?_
        · exact st_loadZ l4_8 e4_8 hN_8 (by kernel_rfl) rfl
        refine pk_cons rfl rfl ?_ ?_
        · exact st_loadZ l5_8 e5_8 hN_8 (by kernel_rfl) rfl
        refine pk_cons rfl rfl ?_ ?_
        · exact st_list2 hN_8 (by kernel_rfl) (by kernel_rfl) (by kernel_rfl) (by kernel_rfl) (Nat.le_refl _) asD asD rfl
        refine pk_cons rfl rfl ?_ ?_
        · exact st_call1 hN_8 (by kernel_rfl) (by kernel_rfl) (by kernel_rfl) rfl rfl fun w x v1 hC h1 => tz (l_add2 1002 (lz h1) (by decide) (by decide) (by decide))
        refine pk_cons rfl rfl ?_ ?_
        · exact st_call2 hN_8 (by kernel_rfl) (by kernel_rfl) (by kernel_rfl) (by kernel_rfl) (by kernel_rfl) rfl rfl rfl fun w x v1 v2 hC h1 h2 => ti (cmp_is (ord_gt (by omega)) (z_cmp (rz h1) (rz h2) (by decide) (by decide)))
        refine pk_cons rfl rfl ?_ ?_
        · exact st_pure [.int .i64 (1), .int .i64 (1)] [] (.bool true) rfl hN_8 (by kernel_rfl) (by kernel_rfl) (by kernel_rfl) old0 (by kernel_rfl) (by kernel_rfl) (by kernel_rfl) (fun _ => by kernel_rfl)
        refine pk_cons rfl rfl ?_ ?_
        · exact st_pure [.bool true] [] (.bool true) rfl hN_8 (by kernel_rfl) (by kernel_rfl) (by kernel_rfl) old0 (by kernel_rfl) (by kernel_rfl) (by kernel_rfl) (fun _ => by kernel_rfl)
        refine pk_cons rfl rfl ?_ ?_
        · exact st_loadZ l3_8 e3_8 hN_8 (by kernel_rfl) rfl
        refine pk_cons rfl rfl ?_ ?_
        · exact st_loadZ l4_8 e4_8 hN_8 (by kernel_rfl) rfl
        refine pk_cons rfl rfl ?_ ?_
        · exact st_call2 hN_8 (by kernel_rfl) (by kernel_rfl) (by kernel_rfl) (by kernel_rfl) (by kernel_rfl) rfl rfl rfl fun w x v1 v2 hC h1 h2 => ti (cmp_is (ord_gt hs) (z_cmp (dz h1) (dz h2) (by decide) (by decide)))
        refine pk_cons rfl rfl ?_ ?_
        · exact st_loadZ l4_8 e4_8 hN_8 (by kernel_rfl) rfl
        refine pk_cons rfl rfl ?_ ?_
        · exact st_loadZ l3_8 e3_8 hN_8 (by kernel_rfl) rfl
        refine pk_cons rfl rfl ?_ ?_
        · exact st_call2 hN_8 (by kernel_rfl) (by kernel_rfl) (by kernel_rfl) (by kernel_rfl) (by kernel_rfl) rfl rfl rfl fun w x v1 v2 hC h1 h2 => ti (cmp_is (ord_lt (by omega)) (z_cmp (dz h1) (dz h2) (by decide) (by decide)))
        refine pk_cons rfl rfl ?_ ?_
        · exact st_pure [.int .i64 (-1)] [] (.int .i64 (1)) rfl hN_8 (by kernel_rfl) (by kernel_rfl) (by kernel_rfl) old0 (by kernel_rfl) (by kernel_rfl) (by kernel_rfl) (fun _ => by kernel_rfl)
        refine pk_cons rfl rfl ?_ ?_
        · exact st_pure [.int .i64 (1), .int .i64 (1)] [] (.bool true) rfl hN_8 (by kernel_rfl) (by kernel_rfl) (by kernel_rfl) old0 (by kernel_rfl) (by kernel_rfl) (by kernel_rfl) (fun _ => by kernel_rfl)
        refine pk_cons rfl rfl ?_ ?_
        · exact st_pure [.bool true, .bool true] [] (.bool true) rfl hN_8 (by kernel_rfl) (by kernel_rfl) (by kernel_rfl) old0 (by kernel_rfl) (by kernel_rfl) (by kernel_rfl) (fun _ => by kernel_rfl)
        refine pk_cons rfl rfl ?_ ?_
        · exact st_pure [.bool true] [] (.bool true) rfl hN_8 (by kernel_rfl) (by kernel_rfl) (by kernel_rfl) old0 (by kernel_rfl) (by kernel_rfl) (by kernel_rfl) (fun _ => by kernel_rfl)
        refine pk_cons rfl rfl ?_ ?_
        · exact st_loadZ l3_8 e3_8 hN_8 (by kernel_rfl) rfl
        refine pk_cons rfl rfl ?_ ?_
        · exact st_loadZ l4_8 e4_8 hN_8 (by kernel_rfl) rfl
        refine pk_cons rfl rfl ?_ ?_
        · exact st_call2 hN_8 (by kernel_rfl) (by kernel_rfl) (by kernel_rfl) (by kernel_rfl) (by kernel_rfl) rfl rfl rfl fun w x v1 v2 hC h1 h2 => ti (cmp_is (ord_gt hs) (z_cmp (dz h1) (dz h2) (by decide) (by decide)))
        refine pk_cons rfl rfl ?_ ?_
        · exact st_loadZ l3_8 e3_8 hN_8 (by kernel_rfl) rfl
        refine pk_cons rfl rfl ?_ ?_
        · exact st_loadZ l4_8 e4_8 hN_8 (by kernel_rfl) rfl
        refine pk_cons rfl rfl ?_ ?_
        · exact st_call2 hN_8 (by kernel_rfl) (by kernel_rfl) (by kernel_rfl) (by kernel_rfl) (by kernel_rfl) rfl rfl rfl fun w x v1 v2 hC h1 h2 => tz (z_sub 1002 (dz h1) (dz h2) (by decide) (by decide) (by decide))
        refine pk_cons rfl rfl ?_ ?_
        · exact st_call0 [.int .i64 (0)] hN_8 (by kernel_rfl) (by kernel_rfl) rfl rfl fun w x hC => tz (z_of (0) 1 (by decide) (by decide) (by decide))
        refine pk_cons rfl rfl ?_ ?_
        · exact st_call2 hN_8 (by kernel_rfl) (by kernel_rfl) (by kernel_rfl) (by kernel_rfl) (by kernel_rfl) rfl rfl rfl fun w x v1 v2 hC h1 h2 => ti (cmp_is (ord_gt (by omega)) (z_cmp (rz h1) (rz h2) (by decide) (by decide)))
        refine pk_cons rfl rfl ?_ ?_
        · exact st_pure [.int .i64 (1), .int .i64 (1)] [] (.bool true) rfl hN_8 (by kernel_rfl) (by kernel_rfl) (by kernel_rfl) old0 (by kernel_rfl) (by kernel_rfl) (by kernel_rfl) (fun _ => by kernel_rfl)
        refine pk_cons rfl rfl ?_ ?_
        · exact st_pure [.bool true, .bool true] [] (.bool true) rfl hN_8 (by kernel_rfl) (by kernel_rfl) (by kernel_rfl) old0 (by kernel_rfl) (by kernel_rfl) (by kernel_rfl) (fun _ => by kernel_rfl)
        refine pk_cons rfl rfl ?_ ?_
        · exact st_pure [.bool true] [] (.bool true) rfl hN_8 (by kernel_rfl) (by kernel_rfl) (by kernel_rfl) old0 (by kernel_rfl) (by kernel_rfl) (by kernel_rfl) (fun _ => by kernel_rfl)
        refine pk_cons rfl rfl ?_ ?_
        · exact st_loadZ l3_8 e3_8 hN_8 (by kernel_rfl) rfl
        refine pk_cons rfl rfl ?_ ?_
        · exact st_loadZ l4_8 e4_8 hN_8 (by kernel_rfl) rfl
        refine pk_cons rfl rfl ?_ ?_
        · exact st_call2 hN_8 (by kernel_rfl) (by kernel_rfl) (by kernel_rfl) (by kernel_rfl) (by kernel_rfl) rfl rfl rfl fun w x v1 v2 hC h1 h2 => ti (cmp_is (ord_gt hs) (z_cmp (dz h1) (dz h2) (by decide) (by decide)))
        refine pk_cons rfl rfl ?_ ?_
        · exact st_pure [.int .i64 (1)] [] (.bool true) rfl hN_8 (by kernel_rfl) (by kernel_rfl) (by kernel_rfl) old0 (by kernel_rfl) (by kernel_rfl) (by kernel_rfl) (fun _ => by kernel_rfl)
        refine pk_cons rfl rfl ?_ ?_
        · exact st_pure [.bool true] [] (.bool true) rfl hN_8 (by kernel_rfl) (by kernel_rfl) (by kernel_rfl) old0 (by kernel_rfl) (by kernel_rfl) (by kernel_rfl) (fun _ => by kernel_rfl)
        refine pk_skip rfl ?_
        refine pk_skip rfl ?_
        refine pk_skip rfl ?_
        refine pk_skip rfl ?_
        refine pk_skip rfl ?_
        refine pk_cons rfl rfl ?_ ?_
        · exact st_pure [.bool true, undef] [] (.bool true) rfl hN_8 (by kernel_rfl) (by kernel_rfl) (by kernel_rfl) old0 (by kernel_rfl) (by kernel_rfl) (by kernel_rfl) (fun _ => by kernel_rfl)
        refine pk_cons rfl rfl ?_ ?_
        · exact st_pure [.bool true, .bool true] [] (.bool true) rfl hN_8 (by kernel_rfl) (by kernel_rfl) (by kernel_rfl) old0 (by kernel_rfl) (by kernel_rfl) (by kernel_rfl) (fun _ => by kernel_rfl)
        refine pk_cons rfl rfl ?_ ?_
        · exact st_pure [.bool true] [] (.bool true) rfl hN_8 (by kernel_rfl) (by kernel_rfl) (by kernel_rfl) old0 (by kernel_rfl) (by kernel_rfl) (by kernel_rfl) (fun _ => by kernel_rfl)
        exact pk_nil rfl
      intro W_9 x hC hall
      refine then_n ?_
      obtain ⟨a_9, ha⟩ : ∃ a, a = putE x a_8 [(0, some 152), (1, some 153), (2, some 154), (3, some 155), (4, some 156), (5, some 157), (6, some 158), (7, some 159), (8, some 160), (9, some 161), (10, some 162), (11, some 163), (12, some 164), (13, some 165), (14, some 166), (15, some 167), (16, some 168), (17, some 169), (18, some 170), (19, some 171), (20, some 172), (21, some 173), (22, some 174), (23, some 175), (24, some 176), (25, some 177), (26, some 178), (27, some 179), (28, some 180), (29, some 181), (30, some 182), (31, some 183), (32, some 184), (33, some 185), (34, some 186), (35, some 187), (36, some 188), (37, some 189), (38, some 190), (39, some 191), (40, some 192), (41, some 193), (42, some 194), (43, some 195), (44, some 196), (45, some 197), (46, some 198), (47, some 6)] := ⟨_, rfl⟩
      rw [← ha]
      have hN_9 := size_behind ha hN_8
      have hD_9 := defers_behind ha hD_8
      have bb_9 := bb_8.trans hC.below
      have e3_9 := slot_old ha (by kernel_rfl) e3_8
      have l3_9 := hC.locZ l3_8
      have e4_9 := slot_old ha (by kernel_rfl) e4_8
      have l4_9 := hC.locZ l4_8
      have e5_9 := slot_old ha (by kernel_rfl) e5_8
      have l5_9 := hC.locZ l5_8
      have e7_9 := slot_old ha (by kernel_rfl) e7_8
      have l7_9 := hC.locR l7_8
      have e8_9 := slot_old ha (by kernel_rfl) e8_8
      have l8_9 := hC.locR l8_8
      have e10_9 := slot_old ha (by kernel_rfl) e10_8
      have e48_9 := slot_old ha (by kernel_rfl) e48_8
      have e121_9 := slot_old ha (by kernel_rfl) e121_8
      have e151_9 := slot_old ha (by kernel_rfl) e151_8
      have e6_9 := (slot_new (t := 6) (i := 47) ha hN_8 (by kernel_rfl) (by kernel_rfl)).trans (show x 47 = .bool true from hall 47 (of_decide_eq_true (by kernel_rfl)))
      clear hall hC ha bb_8 hD_8 e3_8 l3_8 e4_8 l4_8 e5_8 l5_8 e7_8 l7_8 e8_8 l8_8 e10_8 e48_8 e121_8 e151_8
      repeat (first | refine wp_seq ?_ | (refine wp_skip ?_; refine then_n ?_))
      refine wp_ret ?_
      repeat (refine then_r ?_)
      exact ret_one (t := 6) rfl hD_9 e6_9 ⟨rfl, bb_9⟩
end Go.Proofs.YthjgfkmnelefpaaGreatDoor

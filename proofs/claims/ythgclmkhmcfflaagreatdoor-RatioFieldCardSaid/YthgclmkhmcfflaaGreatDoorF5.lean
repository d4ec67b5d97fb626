/- Contracts over right ratios: Div by what is not 0, Of of right numbers, not by 0. Contracts over right ratios: floor, Floor. SameInt over two right numbers that are not the same: false. Texts put one behind the other, in a step. A value told in another form of one number. No condition. Contracts over right ratios: decimal, Text (of a whole number; of a broken one). A region that draws its order, in which some operations find a result's cell as it was ahead of the region: those that the one store into it waits for, and that store itself. No condition. Steps in a region that stores into one old block, of operations that find it as it was: a load of it, a store into one of its fields. Calls that hand a list and a function on. No condition. -/
import Derived.Test.YthgclmkhmcfflaaGreatDoorF1
import Derived.Test.YthgclmkhmcfflaaGreatDoorF2
import Derived.Test.YthgclmkhmcfflaaGreatDoorF3
import Derived.Test.YthgclmkhmcfflaaGreatDoorF4
namespace Go.Proofs.YthgclmkhmcfflaaGreatDoor
open Go.RowKit
theorem ret_cellP2 {fn : Func} {R : Ending → World → Prop} {a : Act} {w : World} {t u g k : Nat} {x y : Int} {cs : Array Value} {V : Value} (hres : fn.results = #[.cell t 27, .tmp u]) (hd : a.defers = []) (hp : a.eval (.tmp t) = .pointer (some ⟨g, 0, none⟩)) (hu : a.eval (.tmp u) = V) (hg : Holds_ w g cs) (hP : isP k x y cs w) (hR : ∀ v, Pr w v k x y → R (.returned (.tuple #[v, V])) w) : bodyPost Tryz.prog fn R .ret a w := by
  obtain ⟨A, l, c, A', l', c', rfl, h⟩ := hP
  obtain ⟨m1, m2, m3, m4, _, _, _, _⟩ := hg.four
  refine bodyPost_ret (v := .tuple #[.agg #[.bool (decide (x < 0)), .slice A l c, .bool (decide (y < 0)), .slice A' l' c'], V]) ?_ hd (hR _ h)
  have hp' : a.tmps[t]?.getD undef = .pointer (some ⟨g, 0, none⟩) := by
    rw [← Array.getD_eq_getD_getElem?]; exact hp
  have hu' : a.tmps[u]?.getD undef = V := by
    rw [← Array.getD_eq_getD_getElem?]; exact hu
  simp [results, hres, go_sem, hp', hu', m1, m2, m3, m4]
set_option maxRecDepth 100000 in
set_option maxHeartbeats 4000000 in
theorem Of_9 {w : World} {v1 v2 : Value} {p q : Int} (hz : q ≠ 0) (h1 : Zr w v1 9 (p)) (h2 : Zr w v2 9 (q)) :
    Calls Tryz.prog 22 #[v1, v2] w (fun e w' => ∃ v, e = .returned (.tuple #[v, .int .i64 (0)]) ∧ Pr w' v 9 ((Rat.divInt (p) (q)).num) (((Rat.divInt (p) (q)).den : Int)) ∧ Below w.heap.size w w') := by
  obtain ⟨A1, l1, c1, rfl, r1, u1⟩ := h1
  obtain ⟨b1, hb1⟩ : ∃ s, s = decide (p < 0) := ⟨_, rfl⟩
  rw [← hb1]
  have H1 := Lib.hid (show _ ∧ _ ∧ _ from ⟨hb1, r1, u1⟩)
  clear hb1 r1 u1
  obtain ⟨A2, l2, c2, rfl, r2, u2⟩ := h2
  obtain ⟨b2, hb2⟩ : ∃ s, s = decide (q < 0) := ⟨_, rfl⟩
  rw [← hb2]
  have H2 := Lib.hid (show _ ∧ _ ∧ _ from ⟨hb2, r2, u2⟩)
  clear hb2 r2 u2
  go_enter Tryz.func22, Tryz.ntmps22
  repeat (refine wp_seq ?_)
  refine region_k ?_
  intro K hK
  have HK := Lib.hid hK
  clear hK
  go_wp2
  refine HK.out _ _ ?_
  clear HK
  refine then_n ?_
  obtain ⟨W_0, hW⟩ : ∃ W, W = ((w.alloc (Obj.cells #[Value.bool b1, Value.slice A1 l1 c1] 25)).alloc (Obj.cells #[Value.bool b2, Value.slice A2 l2 c2] 25)).alloc (Obj.cells #[Value.bool false, Value.slice none 0 0, Value.bool false, Value.slice none 0 0] 27) := ⟨_, rfl⟩
  have bb_0 : Below w.heap.size w W_0 := by rw [hW]; exact bal (bal (bal (Below.refl _ _) _) _) _
  have K0 : W_0.heap[w.heap.size]? = some (Obj.cells #[Value.bool b1, Value.slice A1 l1 c1] 25) := by rw [hW]; rw [Below.heap_alloc _ _ _ (by simp <;> omega)]; rw [Below.heap_alloc _ _ _ (by simp <;> omega)]; exact new_at (by simp)
  have K1 : W_0.heap[w.heap.size + 1]? = some (Obj.cells #[Value.bool b2, Value.slice A2 l2 c2] 25) := by rw [hW]; rw [Below.heap_alloc _ _ _ (by simp <;> omega)]; exact new_at (by simp)
  have K2 : W_0.heap[w.heap.size + 1 + 1]? = some (Obj.cells #[Value.bool false, Value.slice none 0 0, Value.bool false, Value.slice none 0 0] 27) := by rw [hW]; exact new_at (by simp)
  rw [← hW]
  obtain ⟨m1, n1, _, _⟩ := cell_of_two K0
  have f1_0 : AtR W_0 (w.heap.size) 0 9 (p) := ⟨A1, l1, c1, by rw [← H1.out.1]; exact m1, n1, A1, l1, c1, rfl, H1.out.2.1.below bb_0, H1.out.2.2⟩
  clear m1 n1
  obtain ⟨m2, n2, _, _⟩ := cell_of_two K1
  have f2_0 : AtR W_0 (w.heap.size + 1) 0 9 (q) := ⟨A2, l2, c2, by rw [← H2.out.1]; exact m2, n2, A2, l2, c2, rfl, H2.out.2.1.below bb_0, H2.out.2.2⟩
  clear m2 n2
  have R_0 : Holds_ W_0 (w.heap.size + 1 + 1) #[Value.bool false, Value.slice none 0 0, Value.bool false, Value.slice none 0 0] := ⟨⟨_, K2⟩, by simp [noDig]⟩
  clear hW K0 K1 K2
  refine name_frame (G := fun a => Code.wp _ _ _ a _) ?_
  intro a_0 ha
  have hN_0 : a_0.tmps.size = 24 := by subst ha; kernel_rfl
  have hD_0 : a_0.defers = [] := by subst ha; rfl
  have e2_0 : a_0.eval (.tmp 2) = .pointer (some ⟨w.heap.size, 0, none⟩) := by subst ha; kernel_rfl
  have e3_0 : a_0.eval (.tmp 3) = .pointer (some ⟨w.heap.size + 1, 0, none⟩) := by subst ha; kernel_rfl
  have e4_0 : a_0.eval (.tmp 4) = .pointer (some ⟨w.heap.size + 1 + 1, 0, none⟩) := by subst ha; kernel_rfl
  clear ha
  repeat (first | refine wp_seq ?_ | (refine wp_skip ?_; refine then_n ?_))
  refine wp_region_law hN_0 w.heap.size
    [kZ 9 (p), kIs (.bool true), kIs (.bool false), kIs (.bool false), kZ 9 (q), kIs (.bool true), kIs (.bool false), kIs (.bool false)]
    [ [], [(0, some 6)], [(1, some 7)], [(2, some 8)], [], [(4, some 10)], [(5, some 11)], [(3, some 9), (6, some 12)] ]
    [(0, some 6), (1, some 7), (2, some 8), (3, some 9), (4, some 10), (5, some 11), (6, some 12), (7, some 13)] [(3, false)] [] (by kernel_rfl) (by kernel_rfl) (by kernel_rfl) (by kernel_rfl) (by kernel_rfl) (by kernel_rfl) (by kernel_rfl) bb_0.size ?_ ?_
  ·
    refine pk_cons rfl rfl (st_loadB f1_0 (by simp) e2_0 hN_0 (by kernel_rfl) rfl) ?_
    refine pk_cons rfl rfl (st_call1 hN_0 (by kernel_rfl) (by kernel_rfl) (by kernel_rfl) rfl rfl fun w x v1 hC h1 => ti (z_right (rr h1))) ?_
    refine pk_cons rfl rfl (st_pure [.bool true] [] (.bool false) rfl hN_0 (by kernel_rfl) (by kernel_rfl) (by kernel_rfl) old0 (by kernel_rfl) (by kernel_rfl) (by kernel_rfl) (fun _ => by kernel_rfl)) ?_
    refine pk_cons rfl rfl (st_pure [.bool false] [] (.bool false) rfl hN_0 (by kernel_rfl) (by kernel_rfl) (by kernel_rfl) old0 (by kernel_rfl) (by kernel_rfl) (by kernel_rfl) (fun _ => by kernel_rfl)) ?_
    refine pk_cons rfl rfl (st_loadB f2_0 (by simp) e3_0 hN_0 (by kernel_rfl) rfl) ?_
    refine pk_cons rfl rfl (st_call1 hN_0 (by kernel_rfl) (by kernel_rfl) (by kernel_rfl) rfl rfl fun w x v1 hC h1 => ti (z_right (rr h1))) ?_
    refine pk_cons rfl rfl (st_pure [.bool true] [] (.bool false) rfl hN_0 (by kernel_rfl) (by kernel_rfl) (by kernel_rfl) old0 (by kernel_rfl) (by kernel_rfl) (by kernel_rfl) (fun _ => by kernel_rfl)) ?_
    refine pk_cons rfl rfl (st_pure [.bool false, .bool false] [] (.bool false) rfl hN_0 (by kernel_rfl) (by kernel_rfl) (by kernel_rfl) old0 (by kernel_rfl) (by kernel_rfl) (by kernel_rfl) (fun _ => by kernel_rfl)) ?_
    exact pk_nil rfl
  intro W_1 x hC hall
  refine then_n ?_
  obtain ⟨a_1, ha⟩ : ∃ a, a = putE x a_0 [(0, some 6), (1, some 7), (2, some 8), (3, some 9), (4, some 10), (5, some 11), (6, some 12), (7, some 13)] := ⟨_, rfl⟩
  rw [← ha]
  have hN_1 := size_behind ha hN_0
  have hD_1 := defers_behind ha hD_0
  have bb_1 := bb_0.trans hC.below
  have e2_1 := slot_old ha (by kernel_rfl) e2_0
  have e3_1 := slot_old ha (by kernel_rfl) e3_0
  have e4_1 := slot_old ha (by kernel_rfl) e4_0
  have f1_1 := hC.at0 f1_0
  have f2_1 := hC.at0 f2_0
  have R_1 := hC.holds R_0
  have e13_1 := (slot_new (t := 13) (i := 7) ha hN_0 (by kernel_rfl) (by kernel_rfl)).trans (show x 7 = .bool false from hall 7 (of_decide_eq_true (by kernel_rfl)))
  clear hall hC ha bb_0 hD_0 e2_0 e3_0 e4_0 f1_0 f2_0 R_0
  repeat (first | refine wp_seq ?_ | (refine wp_skip ?_; refine then_n ?_))
  refine wp_cond_false e13_1 ?_
  repeat (first | refine wp_seq ?_ | (refine wp_skip ?_; refine then_n ?_))
  refine wp_region_law hN_1 w.heap.size
    [kZ 9 (q), kIs (.bool false)]
    [ [], [(0, some 16)] ]
    [(0, some 16), (1, some 17)] [] [] (by kernel_rfl) (by kernel_rfl) (by kernel_rfl) (by kernel_rfl) (by kernel_rfl) (by kernel_rfl) (by kernel_rfl) bb_1.size ?_ ?_
  ·
    refine pk_cons rfl rfl (st_loadB f2_1 (by simp) e3_1 hN_1 (by kernel_rfl) rfl) ?_
    refine pk_cons rfl rfl (st_call1 hN_1 (by kernel_rfl) (by kernel_rfl) (by kernel_rfl) rfl rfl fun w x v1 hC h1 => ti (isNone_z (rr h1) hz)) ?_
    exact pk_nil rfl
  intro W_2 x hC hall
  refine then_n ?_
  obtain ⟨a_2, ha⟩ : ∃ a, a = putE x a_1 [(0, some 16), (1, some 17)] := ⟨_, rfl⟩
  rw [← ha]
  have hN_2 := size_behind ha hN_1
  have hD_2 := defers_behind ha hD_1
  have bb_2 := bb_1.trans hC.below
  have e2_2 := slot_old ha (by kernel_rfl) e2_1
  have e3_2 := slot_old ha (by kernel_rfl) e3_1
  have e4_2 := slot_old ha (by kernel_rfl) e4_1
  have e13_2 := slot_old ha (by kernel_rfl) e13_1
  have f1_2 := hC.at0 f1_1
  have f2_2 := hC.at0 f2_1
  have R_2 := hC.holds R_1
  have e17_2 := (slot_new (t := 17) (i := 1) ha hN_1 (by kernel_rfl) (by kernel_rfl)).trans (show x 1 = .bool false from hall 1 (of_decide_eq_true (by kernel_rfl)))
  clear hall hC ha bb_1 hD_1 e2_1 e3_1 e4_1 e13_1 f1_1 f2_1 R_1
  repeat (first | refine wp_seq ?_ | (refine wp_skip ?_; refine then_n ?_))
  refine wp_cond_false e17_2 ?_
  repeat (first | refine wp_seq ?_ | (refine wp_skip ?_; refine then_n ?_))
  refine wp_region_res hN_2 w.heap.size (w.heap.size + 1 + 1) R_2 (by omega)
    [kZ 9 (p), kZ 9 (q), kP 9 ((Rat.divInt (p) (q)).num) (((Rat.divInt (p) (q)).den : Int)), kP 9 ((Rat.divInt (p) (q)).num) (((Rat.divInt (p) (q)).den : Int)), kRes (w.heap.size + 1 + 1) 9 ((Rat.divInt (p) (q)).num) (((Rat.divInt (p) (q)).den : Int)), kIs (.int .i64 (0))]
    [ [], [], [(0, some 20), (1, some 21)], [(2, some 22)], [(3, some 23)], [] ]
    [(0, some 20), (1, some 21), (2, some 22), (3, some 23), (4, none), (5, some 5)] [] [] (by kernel_rfl) (by kernel_rfl) (by kernel_rfl) (by kernel_rfl) (by kernel_rfl) (by kernel_rfl) (by kernel_rfl) bb_2.size ?_ ?_
  ·
    refine pk_cons rfl rfl (st_loadB f1_2 (by simp only [List.mem_singleton]; omega) e2_2 hN_2 (by kernel_rfl) rfl) ?_
    refine pk_cons rfl rfl (st_loadB f2_2 (by simp only [List.mem_singleton]; omega) e3_2 hN_2 (by kernel_rfl) rfl) ?_
    refine pk_cons rfl rfl (st_call2 hN_2 (by kernel_rfl) (by kernel_rfl) (by kernel_rfl) (by kernel_rfl) (by kernel_rfl) rfl rfl rfl fun w x v1 v2 hC h1 h2 => tp (lowest_q (k := 9) ((rr h1).mono (by decide)) ((rr h2).mono (by decide)) hz (by decide) (by decide))) ?_
    refine pk_cons rfl rfl (st_fieldF hN_2 (by kernel_rfl) (by kernel_rfl) rfl rfl) ?_
    refine pk_cons rfl rfl (st_resP R_2 rfl (by simp) e4_2 hN_2 (by kernel_rfl) (by kernel_rfl) rfl rfl) ?_
    refine pk_cons rfl rfl (st_pure [] [] (.int .i64 (0)) rfl hN_2 (by kernel_rfl) (by kernel_rfl) (by kernel_rfl) old0 (by kernel_rfl) (by kernel_rfl) (by kernel_rfl) (fun _ => by kernel_rfl)) ?_
    exact pk_nil rfl
  intro W x hC hall
  refine then_n ?_
  obtain ⟨a1, ha⟩ : ∃ a, a = putE x a_2 [(0, some 20), (1, some 21), (2, some 22), (3, some 23), (4, none), (5, some 5)] := ⟨_, rfl⟩
  rw [← ha]
  have hD1 := defers_behind ha hD_2
  have bb1 := bb_2.trans hC.below
  obtain ⟨cs, hg, hP⟩ := (show (kRes (w.heap.size + 1 + 1) 9 ((Rat.divInt (p) (q)).num) (((Rat.divInt (p) (q)).den : Int))).sem _ _ _ _ from hall 4 (of_decide_eq_true (by kernel_rfl)))
  have e1 := slot_old (t := 4) ha (by kernel_rfl) e4_2
  have e2 := (slot_new (t := 5) (i := 5) ha hN_2 (by kernel_rfl) (by kernel_rfl)).trans (show x 5 = .int .i64 (0) from hall 5 (of_decide_eq_true (by kernel_rfl)))
  repeat (first | refine wp_seq ?_ | (refine wp_skip ?_; refine then_n ?_))
  refine wp_ret ?_
  repeat (refine then_r ?_)
  exact ret_cellP2 (t := 4) (u := 5) rfl hD1 e1 e2 hg hP fun v hv => ⟨v, rfl, hv, bb1⟩
set_option maxRecDepth 100000 in
set_option maxHeartbeats 4000000 in
theorem Div_19 {w : World} {v1 v2 : Value} {a b : Rat} (hz : b.num ≠ 0) (h1 : Pr w v1 19 (a.num) ((a.den : Int))) (h2 : Pr w v2 19 (b.num) ((b.den : Int))) :
    Calls Tryz.prog 18 #[v1, v2] w (fun e w' => ∃ v, e = .returned (.tuple #[v, .int .i64 (0)]) ∧ Pr w' v 38 ((a * (b⁻¹)).num) (((a * (b⁻¹)).den : Int)) ∧ Below w.heap.size w w') := by
  obtain ⟨A1, l1, c1, A1', l1', c1', rfl, ⟨r1, u1⟩, r1', u1'⟩ := h1
  obtain ⟨b1, hb1⟩ : ∃ s, s = decide (a.num < 0) := ⟨_, rfl⟩
  obtain ⟨b1', hb1'⟩ : ∃ s, s = decide ((a.den : Int) < 0) := ⟨_, rfl⟩
  rw [← hb1, ← hb1']
  have H1 := Lib.hid (show _ ∧ _ ∧ _ ∧ _ ∧ _ ∧ _ from ⟨hb1, hb1', r1, u1, r1', u1'⟩)
  clear hb1 hb1' r1 u1 r1' u1'
  obtain ⟨A2, l2, c2, A2', l2', c2', rfl, ⟨r2, u2⟩, r2', u2'⟩ := h2
  obtain ⟨b2, hb2⟩ : ∃ s, s = decide (b.num < 0) := ⟨_, rfl⟩
  obtain ⟨b2', hb2'⟩ : ∃ s, s = decide ((b.den : Int) < 0) := ⟨_, rfl⟩
  rw [← hb2, ← hb2']
  have H2 := Lib.hid (show _ ∧ _ ∧ _ ∧ _ ∧ _ ∧ _ from ⟨hb2, hb2', r2, u2, r2', u2'⟩)
  clear hb2 hb2' r2 u2 r2' u2'
  go_enter Tryz.func18, Tryz.ntmps18
  repeat (refine wp_seq ?_)
  refine region_k ?_
  intro K hK
  have HK := Lib.hid hK
  clear hK
  go_wp2
  refine HK.out _ _ ?_
  clear HK
  refine then_n ?_
  obtain ⟨W_0, hW⟩ : ∃ W, W = ((w.alloc (Obj.cells #[Value.bool b1, Value.slice A1 l1 c1, Value.bool b1', Value.slice A1' l1' c1'] 27)).alloc (Obj.cells #[Value.bool b2, Value.slice A2 l2 c2, Value.bool b2', Value.slice A2' l2' c2'] 27)).alloc (Obj.cells #[Value.bool false, Value.slice none 0 0, Value.bool false, Value.slice none 0 0] 27) := ⟨_, rfl⟩
  have bb_0 : Below w.heap.size w W_0 := by rw [hW]; exact bal (bal (bal (Below.refl _ _) _) _) _
  have K0 : W_0.heap[w.heap.size]? = some (Obj.cells #[Value.bool b1, Value.slice A1 l1 c1, Value.bool b1', Value.slice A1' l1' c1'] 27) := by rw [hW]; rw [Below.heap_alloc _ _ _ (by simp <;> omega)]; rw [Below.heap_alloc _ _ _ (by simp <;> omega)]; exact new_at (by simp)
  have K1 : W_0.heap[w.heap.size + 1]? = some (Obj.cells #[Value.bool b2, Value.slice A2 l2 c2, Value.bool b2', Value.slice A2' l2' c2'] 27) := by rw [hW]; rw [Below.heap_alloc _ _ _ (by simp <;> omega)]; exact new_at (by simp)
  have K2 : W_0.heap[w.heap.size + 1 + 1]? = some (Obj.cells #[Value.bool false, Value.slice none 0 0, Value.bool false, Value.slice none 0 0] 27) := by rw [hW]; exact new_at (by simp)
  rw [← hW]
  obtain ⟨m1, n1, m1', n1', _, _, _, _⟩ := four_cells K0
  have f1_0 : AtR W_0 (w.heap.size) 0 19 (a.num) := ⟨A1, l1, c1, by rw [← H1.out.1]; exact m1, n1, A1, l1, c1, rfl, H1.out.2.2.1.below bb_0, H1.out.2.2.2.1⟩
  have f1'_0 : AtR W_0 (w.heap.size) 2 19 ((a.den : Int)) := ⟨A1', l1', c1', by rw [← H1.out.2.1]; exact m1', n1', A1', l1', c1', rfl, H1.out.2.2.2.2.1.below bb_0, H1.out.2.2.2.2.2⟩
  clear m1 n1 m1' n1'
  obtain ⟨m2, n2, m2', n2', _, _, _, _⟩ := four_cells K1
  have f2_0 : AtR W_0 (w.heap.size + 1) 0 19 (b.num) := ⟨A2, l2, c2, by rw [← H2.out.1]; exact m2, n2, A2, l2, c2, rfl, H2.out.2.2.1.below bb_0, H2.out.2.2.2.1⟩
  have f2'_0 : AtR W_0 (w.heap.size + 1) 2 19 ((b.den : Int)) := ⟨A2', l2', c2', by rw [← H2.out.2.1]; exact m2', n2', A2', l2', c2', rfl, H2.out.2.2.2.2.1.below bb_0, H2.out.2.2.2.2.2⟩
  clear m2 n2 m2' n2'
  have R_0 : Holds_ W_0 (w.heap.size + 1 + 1) #[Value.bool false, Value.slice none 0 0, Value.bool false, Value.slice none 0 0] := ⟨⟨_, K2⟩, by simp [noDig]⟩
  clear hW K0 K1 K2
  refine name_frame (G := fun a => Code.wp _ _ _ a _) ?_
  intro a_0 ha
  have hN_0 : a_0.tmps.size = 21 := by subst ha; kernel_rfl
  have hD_0 : a_0.defers = [] := by subst ha; rfl
  have e2_0 : a_0.eval (.tmp 2) = .pointer (some ⟨w.heap.size, 0, none⟩) := by subst ha; kernel_rfl
  have e3_0 : a_0.eval (.tmp 3) = .pointer (some ⟨w.heap.size + 1, 0, none⟩) := by subst ha; kernel_rfl
  have e4_0 : a_0.eval (.tmp 4) = .pointer (some ⟨w.heap.size + 1 + 1, 0, none⟩) := by subst ha; kernel_rfl
  clear ha
  repeat (first | refine wp_seq ?_ | (refine wp_skip ?_; refine then_n ?_))
  refine wp_region_law hN_0 w.heap.size
    [kP 19 (b.num) ((b.den : Int)), kP 19 (b.num) ((b.den : Int)), PK.fresh 4, kPutP 2 19 (b.num) ((b.den : Int))]
    [ [], [(0, some 7)], [], [(2, some 6), (1, some 8)] ]
    [(0, some 7), (1, some 8), (2, some 6), (3, none)] [] [] (by kernel_rfl) (by kernel_rfl) (by kernel_rfl) (by kernel_rfl) (by kernel_rfl) (by kernel_rfl) (by kernel_rfl) bb_0.size ?_ ?_
  ·
    refine pk_cons rfl rfl (st_load4P f2_0 f2'_0 (by simp) e3_0 hN_0 (by kernel_rfl) rfl) ?_
    refine pk_cons rfl rfl (st_call1 hN_0 (by kernel_rfl) (by kernel_rfl) (by kernel_rfl) rfl rfl fun w x v1 hC h1 => tp (of_19 (pm (by decide) h1))) ?_
    refine pk_cons rfl rfl (st_allocF hN_0 (by kernel_rfl) (Nat.le_refl _) rfl) ?_
    refine pk_cons rfl rfl (st_putF hN_0 (by kernel_rfl) (by kernel_rfl) (by kernel_rfl) rfl rfl rfl) ?_
    exact pk_nil rfl
  intro W_1 x hC hall
  refine then_n ?_
  obtain ⟨a_1, ha⟩ : ∃ a, a = putE x a_0 [(0, some 7), (1, some 8), (2, some 6), (3, none)] := ⟨_, rfl⟩
  rw [← ha]
  have hN_1 := size_behind ha hN_0
  have hD_1 := defers_behind ha hD_0
  have bb_1 := bb_0.trans hC.below
  have e2_1 := slot_old ha (by kernel_rfl) e2_0
  have e3_1 := slot_old ha (by kernel_rfl) e3_0
  have e4_1 := slot_old ha (by kernel_rfl) e4_0
  have f1_1 := hC.at0 f1_0
  have f1'_1 := hC.at0 f1'_0
  have f2_1 := hC.at0 f2_0
  have f2'_1 := hC.at0 f2'_0
  have R_1 := hC.holds R_0
  obtain ⟨g6, hx, hge, p6_1, p6'_1⟩ := put_atP (show (kPutP 2 19 (b.num) ((b.den : Int))).sem _ _ _ _ from hall 3 (of_decide_eq_true (by kernel_rfl)))
  have e6_1 := (slot_new (t := 6) (i := 2) ha hN_0 (by kernel_rfl) (by kernel_rfl)).trans hx
  have d6 := Nat.lt_of_lt_of_le R_0.lt hge
  clear hx hge
  clear hall hC ha bb_0 hD_0 e2_0 e3_0 e4_0 f1_0 f1'_0 f2_0 f2'_0 R_0
  repeat (first | refine wp_seq ?_ | (refine wp_skip ?_; refine then_n ?_))
  refine wp_region_law hN_1 w.heap.size
    [kIs (.pointer (some ⟨g6, 0, none⟩)), kIs (.pointer (some ⟨g6, 0, none⟩)), kZ 19 (b.num), kIs (.bool false)]
    [ [], [(0, some 9)], [(1, some 10)], [(2, some 11)] ]
    [(0, some 9), (1, some 10), (2, some 11), (3, some 12)] [] [] (by kernel_rfl) (by kernel_rfl) (by kernel_rfl) (by kernel_rfl) (by kernel_rfl) (by kernel_rfl) (by kernel_rfl) bb_1.size ?_ ?_
  ·
    refine pk_cons rfl rfl (st_pure [] [(6, .pointer (some ⟨g6, 0, none⟩))] (.pointer (some ⟨g6, 0, none⟩)) rfl hN_1 (by kernel_rfl) (by kernel_rfl) (by kernel_rfl) (old1 e6_1) (by kernel_rfl) (by kernel_rfl) (by kernel_rfl) (fun _ => by kernel_rfl)) ?_
    refine pk_cons rfl rfl (st_pure [.pointer (some ⟨g6, 0, none⟩)] [] (.pointer (some ⟨g6, 0, none⟩)) rfl hN_1 (by kernel_rfl) (by kernel_rfl) (by kernel_rfl) old0 (by kernel_rfl) (by kernel_rfl) (by kernel_rfl) (fun _ => by kernel_rfl)) ?_
    refine pk_cons rfl rfl (st_loadA p6_1 (by simp) hN_1 (by kernel_rfl) (by kernel_rfl) rfl rfl) ?_
    refine pk_cons rfl rfl (st_call1 hN_1 (by kernel_rfl) (by kernel_rfl) (by kernel_rfl) rfl rfl fun w x v1 hC h1 => ti (isNone_z (rr h1) hz)) ?_
    exact pk_nil rfl
  intro W_2 x hC hall
  refine then_n ?_
  obtain ⟨a_2, ha⟩ : ∃ a, a = putE x a_1 [(0, some 9), (1, some 10), (2, some 11), (3, some 12)] := ⟨_, rfl⟩
  rw [← ha]
  have hN_2 := size_behind ha hN_1
  have hD_2 := defers_behind ha hD_1
  have bb_2 := bb_1.trans hC.below
  have e2_2 := slot_old ha (by kernel_rfl) e2_1
  have e3_2 := slot_old ha (by kernel_rfl) e3_1
  have e4_2 := slot_old ha (by kernel_rfl) e4_1
  have e6_2 := slot_old ha (by kernel_rfl) e6_1
  have f1_2 := hC.at0 f1_1
  have f1'_2 := hC.at0 f1'_1
  have f2_2 := hC.at0 f2_1
  have f2'_2 := hC.at0 f2'_1
  have R_2 := hC.holds R_1
  have p6_2 := hC.at0 p6_1
  have p6'_2 := hC.at0 p6'_1
  have e12_2 := (slot_new (t := 12) (i := 3) ha hN_1 (by kernel_rfl) (by kernel_rfl)).trans (show x 3 = .bool false from hall 3 (of_decide_eq_true (by kernel_rfl)))
  clear hall hC ha bb_1 hD_1 e2_1 e3_1 e4_1 e6_1 f1_1 f1'_1 f2_1 f2'_1 R_1 p6_1 p6'_1
  repeat (first | refine wp_seq ?_ | (refine wp_skip ?_; refine then_n ?_))
  refine wp_cond_false e12_2 ?_
  repeat (first | refine wp_seq ?_ | (refine wp_skip ?_; refine then_n ?_))
  refine wp_region_res hN_2 w.heap.size (w.heap.size + 1 + 1) R_2 (by omega)
    [kP 19 (a.num) ((a.den : Int)), kP 19 (a.num) ((a.den : Int)), kP 19 (b.num) ((b.den : Int)), kP 19 ((b⁻¹).num) (((b⁻¹).den : Int)), kP 38 ((a * (b⁻¹)).num) (((a * (b⁻¹)).den : Int)), kP 38 ((a * (b⁻¹)).num) (((a * (b⁻¹)).den : Int)), kRes (w.heap.size + 1 + 1) 38 ((a * (b⁻¹)).num) (((a * (b⁻¹)).den : Int)), kIs (.int .i64 (0))]
    [ [], [(0, some 15)], [], [(2, some 17)], [(1, some 16), (3, some 18)], [(4, some 19)], [(5, some 20)], [] ]
    [(0, some 15), (1, some 16), (2, some 17), (3, some 18), (4, some 19), (5, some 20), (6, none), (7, some 5)] [] [] (by kernel_rfl) (by kernel_rfl) (by kernel_rfl) (by kernel_rfl) (by kernel_rfl) (by kernel_rfl) (by kernel_rfl) bb_2.size ?_ ?_
  ·
    refine pk_cons rfl rfl (st_load4P f1_2 f1'_2 (by simp only [List.mem_singleton]; omega) e2_2 hN_2 (by kernel_rfl) rfl) ?_
    refine pk_cons rfl rfl (st_call1 hN_2 (by kernel_rfl) (by kernel_rfl) (by kernel_rfl) rfl rfl fun w x v1 hC h1 => tp (of_19 (pm (by decide) h1))) ?_
    refine pk_cons rfl rfl (st_load4F p6_2 p6'_2 (by simp only [List.mem_singleton]; omega) e6_2 hN_2 (by kernel_rfl) rfl) ?_
    refine pk_cons rfl rfl (st_call1 hN_2 (by kernel_rfl) (by kernel_rfl) (by kernel_rfl) rfl rfl fun w x v1 hC h1 => tp (turned_19 hz (pm (by decide) h1))) ?_
    refine pk_cons rfl rfl (st_call2 hN_2 (by kernel_rfl) (by kernel_rfl) (by kernel_rfl) (by kernel_rfl) (by kernel_rfl) rfl rfl rfl fun w x v1 v2 hC h1 h2 => tp (times_19 (pm (by decide) h1) (pm (by decide) h2))) ?_
    refine pk_cons rfl rfl (st_fieldF hN_2 (by kernel_rfl) (by kernel_rfl) rfl rfl) ?_
    refine pk_cons rfl rfl (st_resP R_2 rfl (by simp) e4_2 hN_2 (by kernel_rfl) (by kernel_rfl) rfl rfl) ?_
    refine pk_cons rfl rfl (st_pure [] [] (.int .i64 (0)) rfl hN_2 (by kernel_rfl) (by kernel_rfl) (by kernel_rfl) old0 (by kernel_rfl) (by kernel_rfl) (by kernel_rfl) (fun _ => by kernel_rfl)) ?_
    exact pk_nil rfl
  intro W x hC hall
  refine then_n ?_
  obtain ⟨a1, ha⟩ : ∃ a, a = putE x a_2 [(0, some 15), (1, some 16), (2, some 17), (3, some 18), (4, some 19), (5, some 20), (6, none), (7, some 5)] := ⟨_, rfl⟩
  rw [← ha]
  have hD1 := defers_behind ha hD_2
  have bb1 := bb_2.trans hC.below
  obtain ⟨cs, hg, hP⟩ := (show (kRes (w.heap.size + 1 + 1) 38 ((a * (b⁻¹)).num) (((a * (b⁻¹)).den : Int))).sem _ _ _ _ from hall 6 (of_decide_eq_true (by kernel_rfl)))
  have e1 := slot_old (t := 4) ha (by kernel_rfl) e4_2
  have e2 := (slot_new (t := 5) (i := 7) ha hN_2 (by kernel_rfl) (by kernel_rfl)).trans (show x 7 = .int .i64 (0) from hall 7 (of_decide_eq_true (by kernel_rfl)))
  repeat (first | refine wp_seq ?_ | (refine wp_skip ?_; refine then_n ?_))
  refine wp_ret ?_
  repeat (refine then_r ?_)
  exact ret_cellP2 (t := 4) (u := 5) rfl hD1 e1 e2 hg hP fun v hv => ⟨v, rfl, hv, bb1⟩
end Go.Proofs.YthgclmkhmcfflaaGreatDoor
namespace Go.Proofs.YthgclmkhmcfflaaGreatDoor
open Go.RowKit
set_option maxRecDepth 100000 in
set_option maxHeartbeats 4000000 in
theorem floor_9 {w : World} {v1 : Value} {a : Rat} (h1 : Pr w v1 9 (a.num) ((a.den : Int))) :
    Calls Tryz.prog 48 #[v1] w (TellsZ w 10 (zq (a.num) ((a.den : Int)))) := by
  obtain ⟨A1, l1, c1, A1', l1', c1', rfl, ⟨r1, u1⟩, r1', u1'⟩ := h1
  obtain ⟨b1, hb1⟩ : ∃ s, s = decide (a.num < 0) := ⟨_, rfl⟩
  obtain ⟨b1', hb1'⟩ : ∃ s, s = decide ((a.den : Int) < 0) := ⟨_, rfl⟩
  rw [← hb1, ← hb1']
  have H1 := Lib.hid (show _ ∧ _ ∧ _ ∧ _ ∧ _ ∧ _ from ⟨hb1, hb1', r1, u1, r1', u1'⟩)
  clear hb1 hb1' r1 u1 r1' u1'
  go_enter Tryz.func48, Tryz.ntmps48
  repeat (refine wp_seq ?_)
  refine region_k ?_
  intro K hK
  have HK := Lib.hid hK
  clear hK
  go_wp2
  refine HK.out _ _ ?_
  clear HK
  refine then_n ?_
  obtain ⟨W_0, hW⟩ : ∃ W, W = (w.alloc (Obj.cells #[Value.bool b1, Value.slice A1 l1 c1, Value.bool b1', Value.slice A1' l1' c1'] 53)).alloc (Obj.cells #[Value.bool false, Value.slice none 0 0] 25) := ⟨_, rfl⟩
  have bb_0 : Below w.heap.size w W_0 := by rw [hW]; exact bal (bal (Below.refl _ _) _) _
  have K0 : W_0.heap[w.heap.size]? = some (Obj.cells #[Value.bool b1, Value.slice A1 l1 c1, Value.bool b1', Value.slice A1' l1' c1'] 53) := by rw [hW]; rw [Below.heap_alloc _ _ _ (by simp <;> omega)]; exact new_at (by simp)
  have K1 : W_0.heap[w.heap.size + 1]? = some (Obj.cells #[Value.bool false, Value.slice none 0 0] 25) := by rw [hW]; exact new_at (by simp)
  rw [← hW]
  obtain ⟨m1, n1, m1', n1', _, _, _, _⟩ := four_cells K0
  have f1_0 : AtR W_0 (w.heap.size) 0 9 (a.num) := ⟨A1, l1, c1, by rw [← H1.out.1]; exact m1, n1, A1, l1, c1, rfl, H1.out.2.2.1.below bb_0, H1.out.2.2.2.1⟩
  have f1'_0 : AtR W_0 (w.heap.size) 2 9 ((a.den : Int)) := ⟨A1', l1', c1', by rw [← H1.out.2.1]; exact m1', n1', A1', l1', c1', rfl, H1.out.2.2.2.2.1.below bb_0, H1.out.2.2.2.2.2⟩
  clear m1 n1 m1' n1'
  have R_0 : Holds_ W_0 (w.heap.size + 1) #[Value.bool false, Value.slice none 0 0] := ⟨⟨_, K1⟩, by simp [noDig]⟩
  clear hW K0 K1
  refine name_frame (G := fun a => Code.wp _ _ _ a _) ?_
  intro a_0 ha
  have hN_0 : a_0.tmps.size = 18 := by subst ha; kernel_rfl
  have hD_0 : a_0.defers = [] := by subst ha; rfl
  have e1_0 : a_0.eval (.tmp 1) = .pointer (some ⟨w.heap.size, 0, none⟩) := by subst ha; kernel_rfl
  have e2_0 : a_0.eval (.tmp 2) = .pointer (some ⟨w.heap.size + 1, 0, none⟩) := by subst ha; kernel_rfl
  clear ha
  repeat (first | refine wp_seq ?_ | (refine wp_skip ?_; refine then_n ?_))
  refine wp_region_law hN_0 w.heap.size
    [kIs (.pointer (some ⟨w.heap.size, 0, none⟩)), kIs (.pointer (some ⟨w.heap.size, 0, none⟩)), kZ 9 (a.num), kIs (.pointer (some ⟨w.heap.size, 0, none⟩)), kIs (.pointer (some ⟨w.heap.size, 2, none⟩)), kZ 9 ((a.den : Int)), kZQ 10 9 (zq (a.num) ((a.den : Int))) (zm (a.num) ((a.den : Int))) 0, kZQ 10 9 (zq (a.num) ((a.den : Int))) (zm (a.num) ((a.den : Int))) 0, kZ 10 (zq (a.num) ((a.den : Int))), kZ 9 (zm (a.num) ((a.den : Int))), kIs (.int .i64 (0)), PK.fresh 2, PK.fresh 2, kPutZ 11 10 (zq (a.num) ((a.den : Int))), kPutZ 12 9 (zm (a.num) ((a.den : Int))), kIs (.int .i64 (0))]
    [ [], [(0, some 7)], [(1, some 8)], [], [(3, some 10)], [(4, some 11)], [(2, some 9), (5, some 12)], [(6, some 13)], [(7, some 6)], [(7, some 6)], [(7, some 6)], [], [], [(11, some 3), (8, some 14)], [(12, some 4), (9, some 15)], [(10, some 16)] ]
    [(0, some 7), (1, some 8), (2, some 9), (3, some 10), (4, some 11), (5, some 12), (6, some 13), (7, some 6), (8, some 14), (9, some 15), (10, some 16), (11, some 3), (12, some 4), (13, none), (14, none), (15, some 5)] [] [] (by kernel_rfl) (by kernel_rfl) (by kernel_rfl) (by kernel_rfl) (by kernel_rfl) (by kernel_rfl) (by kernel_rfl) bb_0.size ?_ ?_
  ·
    refine pk_cons rfl rfl (st_pure [] [(1, .pointer (some ⟨w.heap.size, 0, none⟩))] (.pointer (some ⟨w.heap.size, 0, none⟩)) rfl hN_0 (by kernel_rfl) (by kernel_rfl) (by kernel_rfl) (old1 e1_0) (by kernel_rfl) (by kernel_rfl) (by kernel_rfl) (fun _ => by kernel_rfl)) ?_
    refine pk_cons rfl rfl (st_pure [.pointer (some ⟨w.heap.size, 0, none⟩)] [] (.pointer (some ⟨w.heap.size, 0, none⟩)) rfl hN_0 (by kernel_rfl) (by kernel_rfl) (by kernel_rfl) old0 (by kernel_rfl) (by kernel_rfl) (by kernel_rfl) (fun _ => by kernel_rfl)) ?_
    refine pk_cons rfl rfl (st_loadA f1_0 (by simp) hN_0 (by kernel_rfl) (by kernel_rfl) rfl rfl) ?_
    refine pk_cons rfl rfl (st_pure [] [(1, .pointer (some ⟨w.heap.size, 0, none⟩))] (.pointer (some ⟨w.heap.size, 0, none⟩)) rfl hN_0 (by kernel_rfl) (by kernel_rfl) (by kernel_rfl) (old1 e1_0) (by kernel_rfl) (by kernel_rfl) (by kernel_rfl) (fun _ => by kernel_rfl)) ?_
    refine pk_cons rfl rfl (st_pure [.pointer (some ⟨w.heap.size, 0, none⟩)] [] (.pointer (some ⟨w.heap.size, 2, none⟩)) rfl hN_0 (by kernel_rfl) (by kernel_rfl) (by kernel_rfl) old0 (by kernel_rfl) (by kernel_rfl) (by kernel_rfl) (fun _ => by kernel_rfl)) ?_
    refine pk_cons rfl rfl (st_loadA f1'_0 (by simp) hN_0 (by kernel_rfl) (by kernel_rfl) rfl rfl) ?_
    refine pk_cons rfl rfl (st_call2 hN_0 (by kernel_rfl) (by kernel_rfl) (by kernel_rfl) (by kernel_rfl) (by kernel_rfl) rfl rfl rfl fun w x v1 v2 hC h1 h2 => tq (z_divMod (m := 10) (rz h1) (rz h2) (den_ne a) (by decide) (by decide) (by decide) (by decide))) ?_
    refine pk_cons rfl rfl (st_move hN_0 (by kernel_rfl) (by kernel_rfl) rfl rfl) ?_
    refine pk_cons rfl rfl (st_ext hN_0 (by kernel_rfl) (by kernel_rfl) rfl rfl ext_q) ?_
    refine pk_cons rfl rfl (st_ext hN_0 (by kernel_rfl) (by kernel_rfl) rfl rfl ext_r) ?_
    refine pk_cons rfl rfl (st_ext hN_0 (by kernel_rfl) (by kernel_rfl) rfl rfl ext_e) ?_
    refine pk_cons rfl rfl (st_alloc hN_0 (by kernel_rfl) (Nat.le_refl _) rfl) ?_
    refine pk_cons rfl rfl (st_alloc hN_0 (by kernel_rfl) (Nat.le_refl _) rfl) ?_
    refine pk_cons rfl rfl (st_put hN_0 (by kernel_rfl) (by kernel_rfl) (by kernel_rfl) rfl rfl rfl) ?_
    refine pk_cons rfl rfl (st_put hN_0 (by kernel_rfl) (by kernel_rfl) (by kernel_rfl) rfl rfl rfl) ?_
    refine pk_cons rfl rfl (st_pure [.int .i64 (0)] [] (.int .i64 (0)) rfl hN_0 (by kernel_rfl) (by kernel_rfl) (by kernel_rfl) old0 (by kernel_rfl) (by kernel_rfl) (by kernel_rfl) (fun _ => by kernel_rfl)) ?_
    exact pk_nil rfl
  intro W_1 x hC hall
  refine then_n ?_
  obtain ⟨a_1, ha⟩ : ∃ a, a = putE x a_0 [(0, some 7), (1, some 8), (2, some 9), (3, some 10), (4, some 11), (5, some 12), (6, some 13), (7, some 6), (8, some 14), (9, some 15), (10, some 16), (11, some 3), (12, some 4), (13, none), (14, none), (15, some 5)] := ⟨_, rfl⟩
  rw [← ha]
  have hN_1 := size_behind ha hN_0
  have hD_1 := defers_behind ha hD_0
  have bb_1 := bb_0.trans hC.below
  have e1_1 := slot_old ha (by kernel_rfl) e1_0
  have e2_1 := slot_old ha (by kernel_rfl) e2_0
  have f1_1 := hC.at0 f1_0
  have f1'_1 := hC.at0 f1'_0
  have R_1 := hC.holds R_0
  obtain ⟨g3, hx, hge, l3_1⟩ := put_locG (show (kPutZ 11 10 (zq (a.num) ((a.den : Int)))).sem _ _ _ _ from hall 13 (of_decide_eq_true (by kernel_rfl)))
  have d3 := Nat.lt_of_lt_of_le R_0.lt hge
  clear hge
  have e3_1 := (slot_new (t := 3) (i := 11) ha hN_0 (by kernel_rfl) (by kernel_rfl)).trans hx
  clear hx
  clear hall hC ha bb_0 hD_0 e1_0 e2_0 f1_0 f1'_0 R_0
  repeat (first | refine wp_seq ?_ | (refine wp_skip ?_; refine then_n ?_))
  refine wp_region_res hN_1 w.heap.size (w.heap.size + 1) R_1 (by omega)
    [kZ 10 (zq (a.num) ((a.den : Int))), kResZ (w.heap.size + 1) 10 (zq (a.num) ((a.den : Int)))]
    [ [], [(0, some 17)] ]
    [(0, some 17), (1, none)] [] [] (by kernel_rfl) (by kernel_rfl) (by kernel_rfl) (by kernel_rfl) (by kernel_rfl) (by kernel_rfl) (by kernel_rfl) bb_1.size ?_ ?_
  ·
    refine pk_cons rfl rfl (st_loadB (l3_1.atR) (by simp only [List.mem_singleton]; omega) e3_1 hN_1 (by kernel_rfl) rfl) ?_
    refine pk_cons rfl rfl (st_resZ R_1 (by simp) e2_1 hN_1 (by kernel_rfl) (by kernel_rfl) rfl rfl) ?_
    exact pk_nil rfl
  intro W x hC hall
  refine then_n ?_
  obtain ⟨a1, ha⟩ : ∃ a, a = putE x a_1 [(0, some 17), (1, none)] := ⟨_, rfl⟩
  rw [← ha]
  have hD1 := defers_behind ha hD_1
  have bb1 := bb_1.trans hC.below
  obtain ⟨cs, hg, hP⟩ := (show (kResZ (w.heap.size + 1) 10 (zq (a.num) ((a.den : Int)))).sem _ _ _ _ from hall 1 (of_decide_eq_true (by kernel_rfl)))
  have e1 := slot_old (t := 2) ha (by kernel_rfl) e2_1
  repeat (first | refine wp_seq ?_ | (refine wp_skip ?_; refine then_n ?_))
  refine wp_ret ?_
  repeat (refine then_r ?_)
  exact ret_cellZ (t := 2) rfl hD1 e1 hg hP fun v hv => ⟨v, rfl, hv, bb1⟩
set_option maxRecDepth 100000 in
set_option maxHeartbeats 4000000 in
theorem Floor_9 {w : World} {v1 : Value} {a : Rat} (h1 : Pr w v1 9 (a.num) ((a.den : Int))) :
    Calls Tryz.prog 20 #[v1] w (TellsZ w 10 (zq (a.num) ((a.den : Int)))) := by
  obtain ⟨A1, l1, c1, A1', l1', c1', rfl, ⟨r1, u1⟩, r1', u1'⟩ := h1
  obtain ⟨b1, hb1⟩ : ∃ s, s = decide (a.num < 0) := ⟨_, rfl⟩
  obtain ⟨b1', hb1'⟩ : ∃ s, s = decide ((a.den : Int) < 0) := ⟨_, rfl⟩
  rw [← hb1, ← hb1']
  have H1 := Lib.hid (show _ ∧ _ ∧ _ ∧ _ ∧ _ ∧ _ from ⟨hb1, hb1', r1, u1, r1', u1'⟩)
  clear hb1 hb1' r1 u1 r1' u1'
  go_enter Tryz.func20, Tryz.ntmps20
  repeat (refine wp_seq ?_)
  refine region_k ?_
  intro K hK
  have HK := Lib.hid hK
  clear hK
  go_wp2
  refine HK.out _ _ ?_
  clear HK
  refine then_n ?_
  obtain ⟨W_0, hW⟩ : ∃ W, W = (w.alloc (Obj.cells #[Value.bool b1, Value.slice A1 l1 c1, Value.bool b1', Value.slice A1' l1' c1'] 27)).alloc (Obj.cells #[Value.bool false, Value.slice none 0 0] 25) := ⟨_, rfl⟩
  have bb_0 : Below w.heap.size w W_0 := by rw [hW]; exact bal (bal (Below.refl _ _) _) _
  have K0 : W_0.heap[w.heap.size]? = some (Obj.cells #[Value.bool b1, Value.slice A1 l1 c1, Value.bool b1', Value.slice A1' l1' c1'] 27) := by rw [hW]; rw [Below.heap_alloc _ _ _ (by simp <;> omega)]; exact new_at (by simp)
  have K1 : W_0.heap[w.heap.size + 1]? = some (Obj.cells #[Value.bool false, Value.slice none 0 0] 25) := by rw [hW]; exact new_at (by simp)
  rw [← hW]
  obtain ⟨m1, n1, m1', n1', _, _, _, _⟩ := four_cells K0
  have f1_0 : AtR W_0 (w.heap.size) 0 9 (a.num) := ⟨A1, l1, c1, by rw [← H1.out.1]; exact m1, n1, A1, l1, c1, rfl, H1.out.2.2.1.below bb_0, H1.out.2.2.2.1⟩
  have f1'_0 : AtR W_0 (w.heap.size) 2 9 ((a.den : Int)) := ⟨A1', l1', c1', by rw [← H1.out.2.1]; exact m1', n1', A1', l1', c1', rfl, H1.out.2.2.2.2.1.below bb_0, H1.out.2.2.2.2.2⟩
  clear m1 n1 m1' n1'
  have R_0 : Holds_ W_0 (w.heap.size + 1) #[Value.bool false, Value.slice none 0 0] := ⟨⟨_, K1⟩, by simp [noDig]⟩
  clear hW K0 K1
  refine name_frame (G := fun a => Code.wp _ _ _ a _) ?_
  intro a_0 ha
  have hN_0 : a_0.tmps.size = 6 := by subst ha; kernel_rfl
  have hD_0 : a_0.defers = [] := by subst ha; rfl
  have e1_0 : a_0.eval (.tmp 1) = .pointer (some ⟨w.heap.size, 0, none⟩) := by subst ha; kernel_rfl
  have e2_0 : a_0.eval (.tmp 2) = .pointer (some ⟨w.heap.size + 1, 0, none⟩) := by subst ha; kernel_rfl
  clear ha
  repeat (first | refine wp_seq ?_ | (refine wp_skip ?_; refine then_n ?_))
  refine wp_region_res hN_0 w.heap.size (w.heap.size + 1) R_0 (by omega)
    [kP 9 (a.num) ((a.den : Int)), kP 9 (a.num) ((a.den : Int)), kZ 10 (zq (a.num) ((a.den : Int))), kResZ (w.heap.size + 1) 10 (zq (a.num) ((a.den : Int)))]
    [ [], [(0, some 3)], [(1, some 4)], [(2, some 5)] ]
    [(0, some 3), (1, some 4), (2, some 5), (3, none)] [] [] (by kernel_rfl) (by kernel_rfl) (by kernel_rfl) (by kernel_rfl) (by kernel_rfl) (by kernel_rfl) (by kernel_rfl) bb_0.size ?_ ?_
  ·
    refine pk_cons rfl rfl (st_load4P f1_0 f1'_0 (by simp only [List.mem_singleton]; omega) e1_0 hN_0 (by kernel_rfl) rfl) ?_
    refine pk_cons rfl rfl (st_call1 hN_0 (by kernel_rfl) (by kernel_rfl) (by kernel_rfl) rfl rfl fun w x v1 hC h1 => tp (of_9 (pm (by decide) h1))) ?_
    refine pk_cons rfl rfl (st_call1 hN_0 (by kernel_rfl) (by kernel_rfl) (by kernel_rfl) rfl rfl fun w x v1 hC h1 => tz (floor_9 (pm (by decide) h1))) ?_
    refine pk_cons rfl rfl (st_resZ R_0 (by simp) e2_0 hN_0 (by kernel_rfl) (by kernel_rfl) rfl rfl) ?_
    exact pk_nil rfl
  intro W x hC hall
  refine then_n ?_
  obtain ⟨a1, ha⟩ : ∃ a, a = putE x a_0 [(0, some 3), (1, some 4), (2, some 5), (3, none)] := ⟨_, rfl⟩
  rw [← ha]
  have hD1 := defers_behind ha hD_0
  have bb1 := bb_0.trans hC.below
  obtain ⟨cs, hg, hP⟩ := (show (kResZ (w.heap.size + 1) 10 (zq (a.num) ((a.den : Int)))).sem _ _ _ _ from hall 3 (of_decide_eq_true (by kernel_rfl)))
  have e1 := slot_old (t := 2) ha (by kernel_rfl) e2_0
  repeat (first | refine wp_seq ?_ | (refine wp_skip ?_; refine then_n ?_))
  refine wp_ret ?_
  repeat (refine then_r ?_)
  exact ret_cellZ (t := 2) rfl hD1 e1 hg hP fun v hv => ⟨v, rfl, hv, bb1⟩
end Go.Proofs.YthgclmkhmcfflaaGreatDoor
namespace Go.Proofs.YthgclmkhmcfflaaGreatDoor
open Go.RowKit
set_option maxRecDepth 100000 in
set_option maxHeartbeats 1000000 in
theorem sameInt_no {w : World} {A1 A2 : Option Addr} {k1 c1 k2 c2 n m : Nat} {b : Bool} (h1 : Rr w (.slice A1 k1 c1) n) (h2 : Rr w (.slice A2 k2 c2) m) (hne : n ≠ m) :
    Calls Tryz.prog 66 #[.agg #[.bool b, .slice A1 k1 c1], .agg #[.bool b, .slice A2 k2 c2]] w fun e w' => e = .returned (.bool false) ∧ Below w.heap.size w w' := by
  obtain ⟨A1', c1', xs, e1, r1, x1, l1, v1⟩ := h1
  obtain ⟨A2', c2', ys, e2, r2, x2, l2, v2⟩ := h2
  injection e1 with e1 e1' e1''
  injection e2 with e2 e2' e2''
  subst e1; subst e1'; subst e2; subst e2'
  have hxy : xs ≠ ys := fun e => hne (by rw [← v1, ← v2, e])
  have hsm := fun (W : World) (hW : Below w.heap.size w W) => same_no0 (w := W) (c1 := c1) (c2 := c2) (r1.below hW) (r2.below hW) (by omega) hxy
  have HSM := Lib.hid hsm
  clear hsm r1 r2 x1 x2 v1 v2 e1'' e2'' hxy hne
  go_enter Tryz.func66, Tryz.ntmps66
  go_wp2_with fail
  refine (HSM.out _ (bal (bal (Below.refl _ _) _) _)).mono ?_
  rintro e w1 ⟨rfl, hd⟩
  have hb := bstep (bal (bal (Below.refl w.heap.size w) _) _) hd.below
  clear hd
  go_wp2
  go_ret
  exact ⟨rfl, hb⟩
set_option maxRecDepth 100000 in
set_option maxHeartbeats 1000000 in
theorem sameInt_signs {w : World} {A1 A2 : Option Addr} {k1 c1 k2 c2 : Nat} {b b' : Bool} (hb : (b == b') = false) :
    Calls Tryz.prog 66 #[.agg #[.bool b, .slice A1 k1 c1], .agg #[.bool b', .slice A2 k2 c2]] w fun e w' => e = .returned (.bool false) ∧ Below w.heap.size w w' := by
  go_enter Tryz.func66, Tryz.ntmps66
  go_wp2_with fail
  go_ret
  exact ⟨rfl, bal (bal (Below.refl _ _) _) _⟩
theorem z_sameInt_no {w : World} {v1 v2 : Value} {j k : Nat} {x y : Int} (h1 : Zr w v1 j x) (h2 : Zr w v2 k y) (hne : x ≠ y) : Calls Tryz.prog 66 #[v1, v2] w fun e w' => e = .returned (.bool false) ∧ Below w.heap.size w w' := by
  obtain ⟨A1, l1, c1, rfl, r1, e1⟩ := h1
  obtain ⟨A2, l2, c2, rfl, r2, e2⟩ := h2
  by_cases hs : decide (x < 0) = decide (y < 0)
  · rw [hs]
    refine sameInt_no r1 r2 fun e => hne ?_
    have : (x < 0 ↔ y < 0) := by simpa using hs
    omega
  · exact sameInt_signs (by simpa using hs)
theorem run_adds {w : World} {x y : ByteArray} (h : x.size + y.size ≤ 1000000) : (binOp .add 9 (.string x) (.string y)).run Tryz.prog w = .ok (.string (x ++ y)) w := by
  have h' : x.size + y.size ≤ 9223372036854775807 := by omega
  have e := run_string_add_sum (P := Tryz.prog) (w := w) x y h'
  simpa [binOp] using e
theorem ex_adds {ρ : Operand → Value} {w : World} {d : Option Tmp} {T E2 : TypeId} {pos : String} {af : Array Edge} {gu : Option (Nat × Bool)} {a b : Operand} {x y : ByteArray} (ha : ρ a = .string x) (hb : ρ b = .string y) (h : x.size + y.size ≤ 1000000) :
    (execOp ρ { dst := d, op := .binOp .add 9 a b E2, type := T, pos := pos, after := af, guard := gu }).run Tryz.prog w = .ok (.value (.string (x ++ y))) w := by
  show (((do eqGuard .add 9 a b (ρ a) (ρ b); binOp .add 9 (ρ a) (ρ b)) : Sem Value) >>= fun v => pure (Next.value v)).run Tryz.prog w = _
  rw [ha, hb]
  have e2 : ((do eqGuard .add 9 a b (.string x) (.string y); binOp .add 9 (.string x) (.string y)) : Sem Value).run Tryz.prog w = .ok (.string (x ++ y)) w := by
    rw [run_then (v := ()) (w' := w) rfl]; exact run_adds h
  rw [run_then e2]; rfl
theorem ztext_size {z : Int} {k : Nat} (h : z.natAbs < 1000000000 ^ k) (hk : 0 < k) : (ztext z).size ≤ 9 * k + 1 := by
  have h1 := decDigits_len h hk
  unfold ztext ntext
  split
  · rw [ByteArray.size_append, dtext_size]
    show 1 + _ ≤ _
    omega
  · rw [dtext_size]; omega
/-- Two numbers that are the same, each told by a broken number. -/
theorem pe {S0 : Nat} {x : Nat → Value} {v : Value} {w : World} {k : Nat} {a b : Rat} (e : a = b) (h : (kP k a.num (a.den : Int)).sem S0 x v w) : (kP k b.num (b.den : Int)).sem S0 x v w := e ▸ h
end Go.Proofs.YthgclmkhmcfflaaGreatDoor
namespace Go.Proofs.YthgclmkhmcfflaaGreatDoor
open Go.RowKit
theorem den_one {a : Rat} (h : a.den ≠ 1) : (1 : Int) < (a.den : Int) := by have := a.den_pos; omega
theorem AtR.add1 {W : World} {g o k : Nat} {x : Int} (h : AtR W g o k x) (hk : 0 < k) (hk2 : k ≤ 1000) : (ztext x).size + (⟨#[47]⟩ : ByteArray).size ≤ 1000000 := by
  obtain ⟨_, _, _, _, _, h⟩ := h
  have := ztext_size h.lt hk
  show _ + 1 ≤ _
  omega
theorem AtR.add2 {W : World} {g o g' o' k k' : Nat} {x y : Int} (h : AtR W g o k x) (h' : AtR W g' o' k' y) (hk : 0 < k ∧ 0 < k') (hk2 : k ≤ 1000 ∧ k' ≤ 1000) : ((ztext x) ++ (⟨#[47]⟩ : ByteArray)).size + (ztext y).size ≤ 1000000 := by
  obtain ⟨_, _, _, _, _, h⟩ := h
  obtain ⟨_, _, _, _, _, h'⟩ := h'
  have := ztext_size h.lt hk.1
  have := ztext_size h'.lt hk.2
  rw [ByteArray.size_append]
  show _ + 1 + _ ≤ _
  omega
set_option maxRecDepth 100000 in
set_option maxHeartbeats 4000000 in
theorem decimal_9w {w : World} {v1 : Value} {a : Rat} (HT : Hid (Tab w ∧ 4 ≤ w.heap.size)) (hz : a.den = 1) (h1 : Pr w v1 9 (a.num) ((a.den : Int))) :
    Calls Tryz.prog 49 #[v1] w (fun e w' => e = .returned (.string (ztext (a.num))) ∧ Below w.heap.size w w') := by
  obtain ⟨A1, l1, c1, A1', l1', c1', rfl, ⟨r1, u1⟩, r1', u1'⟩ := h1
  obtain ⟨b1, hb1⟩ : ∃ s, s = decide (a.num < 0) := ⟨_, rfl⟩
  obtain ⟨b1', hb1'⟩ : ∃ s, s = decide ((a.den : Int) < 0) := ⟨_, rfl⟩
  rw [← hb1, ← hb1']
  have H1 := Lib.hid (show _ ∧ _ ∧ _ ∧ _ ∧ _ ∧ _ from ⟨hb1, hb1', r1, u1, r1', u1'⟩)
  clear hb1 hb1' r1 u1 r1' u1'
  go_enter Tryz.func49, Tryz.ntmps49
  repeat (refine wp_seq ?_)
  refine region_k ?_
  intro K hK
  have HK := Lib.hid hK
  clear hK
  go_wp2
  refine HK.out _ _ ?_
  clear HK
  refine then_n ?_
  obtain ⟨W_0, hW⟩ : ∃ W, W = w.alloc (Obj.cells #[Value.bool b1, Value.slice A1 l1 c1, Value.bool b1', Value.slice A1' l1' c1'] 53) := ⟨_, rfl⟩
  have bb_0 : Below w.heap.size w W_0 := by rw [hW]; exact bal (Below.refl _ _) _
  have K0 : W_0.heap[w.heap.size]? = some (Obj.cells #[Value.bool b1, Value.slice A1 l1 c1, Value.bool b1', Value.slice A1' l1' c1'] 53) := by rw [hW]; exact new_at (by simp)
  rw [← hW]
  obtain ⟨m1, n1, m1', n1', _, _, _, _⟩ := four_cells K0
  have f1_0 : AtR W_0 (w.heap.size) 0 9 (a.num) := ⟨A1, l1, c1, by rw [← H1.out.1]; exact m1, n1, A1, l1, c1, rfl, H1.out.2.2.1.below bb_0, H1.out.2.2.2.1⟩
  have f1'_0 : AtR W_0 (w.heap.size) 2 9 ((a.den : Int)) := ⟨A1', l1', c1', by rw [← H1.out.2.1]; exact m1', n1', A1', l1', c1', rfl, H1.out.2.2.2.2.1.below bb_0, H1.out.2.2.2.2.2⟩
  clear m1 n1 m1' n1'
  clear hW K0
  refine name_frame (G := fun a => Code.wp _ _ _ a _) ?_
  intro a_0 ha
  have hN_0 : a_0.tmps.size = 21 := by subst ha; kernel_rfl
  have hD_0 : a_0.defers = [] := by subst ha; rfl
  have e1_0 : a_0.eval (.tmp 1) = .pointer (some ⟨w.heap.size, 0, none⟩) := by subst ha; kernel_rfl
  clear ha
  repeat (first | refine wp_seq ?_ | (refine wp_skip ?_; refine then_n ?_))
  refine wp_region_law hN_0 w.heap.size
    [kIs (.pointer (some ⟨w.heap.size, 0, none⟩)), kIs (.pointer (some ⟨w.heap.size, 2, none⟩)), kZ 9 ((a.den : Int)), kIs (.bool true)]
    [ [], [(0, some 3)], [(1, some 4)], [(2, some 5)] ]
    [(0, some 3), (1, some 4), (2, some 5), (3, some 6)] [] [] (by kernel_rfl) (by kernel_rfl) (by kernel_rfl) (by kernel_rfl) (by kernel_rfl) (by kernel_rfl) (by kernel_rfl) bb_0.size ?_ ?_
  ·
    refine pk_cons rfl rfl (st_pure [] [(1, .pointer (some ⟨w.heap.size, 0, none⟩))] (.pointer (some ⟨w.heap.size, 0, none⟩)) rfl hN_0 (by kernel_rfl) (by kernel_rfl) (by kernel_rfl) (old1 e1_0) (by kernel_rfl) (by kernel_rfl) (by kernel_rfl) (fun _ => by kernel_rfl)) ?_
    refine pk_cons rfl rfl (st_pure [.pointer (some ⟨w.heap.size, 0, none⟩)] [] (.pointer (some ⟨w.heap.size, 2, none⟩)) rfl hN_0 (by kernel_rfl) (by kernel_rfl) (by kernel_rfl) old0 (by kernel_rfl) (by kernel_rfl) (by kernel_rfl) (fun _ => by kernel_rfl)) ?_
    refine pk_cons rfl rfl (st_loadA f1'_0 (by simp) hN_0 (by kernel_rfl) (by kernel_rfl) rfl rfl) ?_
    refine pk_cons rfl rfl (st_call1 hN_0 (by kernel_rfl) (by kernel_rfl) (by kernel_rfl) rfl rfl fun w x v1 hC h1 => ti (isOne_z1 (by rw [hz]; rfl) ((rr h1).mono (by decide)))) ?_
    exact pk_nil rfl
  intro W_1 x hC hall
  refine then_n ?_
  obtain ⟨a_1, ha⟩ : ∃ a, a = putE x a_0 [(0, some 3), (1, some 4), (2, some 5), (3, some 6)] := ⟨_, rfl⟩
  rw [← ha]
  have hN_1 := size_behind ha hN_0
  have hD_1 := defers_behind ha hD_0
  have bb_1 := bb_0.trans hC.below
  have e1_1 := slot_old ha (by kernel_rfl) e1_0
  have f1_1 := hC.at0 f1_0
  have f1'_1 := hC.at0 f1'_0
  have e6_1 := (slot_new (t := 6) (i := 3) ha hN_0 (by kernel_rfl) (by kernel_rfl)).trans (show x 3 = .bool true from hall 3 (of_decide_eq_true (by kernel_rfl)))
  clear hall hC ha bb_0 hD_0 e1_0 f1_0 f1'_0
  repeat (first | refine wp_seq ?_ | (refine wp_skip ?_; refine then_n ?_))
  refine wp_cond_true e6_1 ?_
  repeat (first | refine wp_seq ?_ | (refine wp_skip ?_; refine then_n ?_))
  refine wp_region_law hN_1 w.heap.size
    [kIs (.pointer (some ⟨w.heap.size, 0, none⟩)), kIs (.pointer (some ⟨w.heap.size, 0, none⟩)), kZ 9 (a.num), kIs (.string (ztext (a.num))), kIs (.string (ztext (a.num)))]
    [ [], [(0, some 7)], [(1, some 8)], [(2, some 9)], [(3, some 10)] ]
    [(0, some 7), (1, some 8), (2, some 9), (3, some 10), (4, some 2)] [] [] (by kernel_rfl) (by kernel_rfl) (by kernel_rfl) (by kernel_rfl) (by kernel_rfl) (by kernel_rfl) (by kernel_rfl) bb_1.size ?_ ?_
  ·
    refine pk_cons rfl rfl (st_pure [] [(1, .pointer (some ⟨w.heap.size, 0, none⟩))] (.pointer (some ⟨w.heap.size, 0, none⟩)) rfl hN_1 (by kernel_rfl) (by kernel_rfl) (by kernel_rfl) (old1 e1_1) (by kernel_rfl) (by kernel_rfl) (by kernel_rfl) (fun _ => by kernel_rfl)) ?_
    refine pk_cons rfl rfl (st_pure [.pointer (some ⟨w.heap.size, 0, none⟩)] [] (.pointer (some ⟨w.heap.size, 0, none⟩)) rfl hN_1 (by kernel_rfl) (by kernel_rfl) (by kernel_rfl) old0 (by kernel_rfl) (by kernel_rfl) (by kernel_rfl) (fun _ => by kernel_rfl)) ?_
    refine pk_cons rfl rfl (st_loadA f1_1 (by simp) hN_1 (by kernel_rfl) (by kernel_rfl) rfl rfl) ?_
    refine pk_cons rfl rfl (st_call1 hN_1 (by kernel_rfl) (by kernel_rfl) (by kernel_rfl) rfl rfl fun w x v1 hC h1 => ti (z_text (rz h1) (by decide) (HT.out.1.below (bb_1.trans hC.below) HT.out.2) (Nat.le_trans HT.out.2 (bb_1.trans hC.below).size))) ?_
    refine pk_cons rfl rfl (st_pure [.string (ztext (a.num))] [] (.string (ztext (a.num))) rfl hN_1 (by kernel_rfl) (by kernel_rfl) (by kernel_rfl) old0 (by kernel_rfl) (by kernel_rfl) (by kernel_rfl) (fun _ => by kernel_rfl)) ?_
    exact pk_nil rfl
  intro W x hC hall
  refine then_n ?_
  obtain ⟨a1, ha⟩ : ∃ a, a = putE x a_1 [(0, some 7), (1, some 8), (2, some 9), (3, some 10), (4, some 2)] := ⟨_, rfl⟩
  rw [← ha]
  have hD1 := defers_behind ha hD_1
  have bb1 := bb_1.trans hC.below
  have e1 := (slot_new (t := 2) (i := 4) ha hN_1 (by kernel_rfl) (by kernel_rfl)).trans (show x 4 = .string (ztext (a.num)) from hall 4 (of_decide_eq_true (by kernel_rfl)))
  repeat (first | refine wp_seq ?_ | (refine wp_skip ?_; refine then_n ?_))
  refine wp_ret ?_
  repeat (refine then_r ?_)
  exact ret_one (t := 2) rfl hD1 e1 ⟨rfl, bb1⟩
set_option maxRecDepth 100000 in
set_option maxHeartbeats 4000000 in
theorem Text_9w {w : World} {v1 : Value} {a : Rat} (HT : Hid (Tab w ∧ 4 ≤ w.heap.size)) (hz : a.den = 1) (h1 : Pr w v1 9 (a.num) ((a.den : Int))) :
    Calls Tryz.prog 21 #[v1] w (fun e w' => e = .returned (.string (ztext (a.num))) ∧ Below w.heap.size w w') := by
  obtain ⟨A1, l1, c1, A1', l1', c1', rfl, ⟨r1, u1⟩, r1', u1'⟩ := h1
  obtain ⟨b1, hb1⟩ : ∃ s, s = decide (a.num < 0) := ⟨_, rfl⟩
  obtain ⟨b1', hb1'⟩ : ∃ s, s = decide ((a.den : Int) < 0) := ⟨_, rfl⟩
  rw [← hb1, ← hb1']
  have H1 := Lib.hid (show _ ∧ _ ∧ _ ∧ _ ∧ _ ∧ _ from ⟨hb1, hb1', r1, u1, r1', u1'⟩)
  clear hb1 hb1' r1 u1 r1' u1'
  go_enter Tryz.func21, Tryz.ntmps21
  repeat (refine wp_seq ?_)
  refine region_k ?_
  intro K hK
  have HK := Lib.hid hK
  clear hK
  go_wp2
  refine HK.out _ _ ?_
  clear HK
  refine then_n ?_
  obtain ⟨W_0, hW⟩ : ∃ W, W = w.alloc (Obj.cells #[Value.bool b1, Value.slice A1 l1 c1, Value.bool b1', Value.slice A1' l1' c1'] 27) := ⟨_, rfl⟩
  have bb_0 : Below w.heap.size w W_0 := by rw [hW]; exact bal (Below.refl _ _) _
  have K0 : W_0.heap[w.heap.size]? = some (Obj.cells #[Value.bool b1, Value.slice A1 l1 c1, Value.bool b1', Value.slice A1' l1' c1'] 27) := by rw [hW]; exact new_at (by simp)
  rw [← hW]
  obtain ⟨m1, n1, m1', n1', _, _, _, _⟩ := four_cells K0
  have f1_0 : AtR W_0 (w.heap.size) 0 9 (a.num) := ⟨A1, l1, c1, by rw [← H1.out.1]; exact m1, n1, A1, l1, c1, rfl, H1.out.2.2.1.below bb_0, H1.out.2.2.2.1⟩
  have f1'_0 : AtR W_0 (w.heap.size) 2 9 ((a.den : Int)) := ⟨A1', l1', c1', by rw [← H1.out.2.1]; exact m1', n1', A1', l1', c1', rfl, H1.out.2.2.2.2.1.below bb_0, H1.out.2.2.2.2.2⟩
  clear m1 n1 m1' n1'
  clear hW K0
  refine name_frame (G := fun a => Code.wp _ _ _ a _) ?_
  intro a_0 ha
  have hN_0 : a_0.tmps.size = 6 := by subst ha; kernel_rfl
  have hD_0 : a_0.defers = [] := by subst ha; rfl
  have e1_0 : a_0.eval (.tmp 1) = .pointer (some ⟨w.heap.size, 0, none⟩) := by subst ha; kernel_rfl
  clear ha
  repeat (first | refine wp_seq ?_ | (refine wp_skip ?_; refine then_n ?_))
  refine wp_region_law hN_0 w.heap.size
    [kP 9 (a.num) ((a.den : Int)), kP 9 (a.num) ((a.den : Int)), kIs (.string (ztext (a.num))), kIs (.string (ztext (a.num)))]
    [ [], [(0, some 3)], [(1, some 4)], [(2, some 5)] ]
    [(0, some 3), (1, some 4), (2, some 5), (3, some 2)] [] [] (by kernel_rfl) (by kernel_rfl) (by kernel_rfl) (by kernel_rfl) (by kernel_rfl) (by kernel_rfl) (by kernel_rfl) bb_0.size ?_ ?_
  ·
    refine pk_cons rfl rfl (st_load4P f1_0 f1'_0 (by simp) e1_0 hN_0 (by kernel_rfl) rfl) ?_
    refine pk_cons rfl rfl (st_call1 hN_0 (by kernel_rfl) (by kernel_rfl) (by kernel_rfl) rfl rfl fun w x v1 hC h1 => tp (of_9 (pm (by decide) h1))) ?_
    refine pk_cons rfl rfl (st_call1 hN_0 (by kernel_rfl) (by kernel_rfl) (by kernel_rfl) rfl rfl fun w x v1 hC h1 => ti (decimal_9w (Lib.hid ⟨HT.out.1.below (bb_0.trans hC.below) HT.out.2, Nat.le_trans HT.out.2 (bb_0.trans hC.below).size⟩) hz (pm (by decide) h1))) ?_
    refine pk_cons rfl rfl (st_pure [.string (ztext (a.num))] [] (.string (ztext (a.num))) rfl hN_0 (by kernel_rfl) (by kernel_rfl) (by kernel_rfl) old0 (by kernel_rfl) (by kernel_rfl) (by kernel_rfl) (fun _ => by kernel_rfl)) ?_
    exact pk_nil rfl
  intro W x hC hall
  refine then_n ?_
  obtain ⟨a1, ha⟩ : ∃ a, a = putE x a_0 [(0, some 3), (1, some 4), (2, some 5), (3, some 2)] := ⟨_, rfl⟩
  rw [← ha]
  have hD1 := defers_behind ha hD_0
  have bb1 := bb_0.trans hC.below
  have e1 := (slot_new (t := 2) (i := 3) ha hN_0 (by kernel_rfl) (by kernel_rfl)).trans (show x 3 = .string (ztext (a.num)) from hall 3 (of_decide_eq_true (by kernel_rfl)))
  repeat (first | refine wp_seq ?_ | (refine wp_skip ?_; refine then_n ?_))
  refine wp_ret ?_
  repeat (refine then_r ?_)
  exact ret_one (t := 2) rfl hD1 e1 ⟨rfl, bb1⟩
set_option maxRecDepth 100000 in
set_option maxHeartbeats 4000000 in
theorem decimal_9b {w : World} {v1 : Value} {a : Rat} (HT : Hid (Tab w ∧ 4 ≤ w.heap.size)) (hz : a.den ≠ 1) (h1 : Pr w v1 9 (a.num) ((a.den : Int))) :
    Calls Tryz.prog 49 #[v1] w (fun e w' => e = .returned (.string (((ztext (a.num)) ++ ({ data := #[47] })) ++ (ztext ((a.den : Int))))) ∧ Below w.heap.size w w') := by
  obtain ⟨A1, l1, c1, A1', l1', c1', rfl, ⟨r1, u1⟩, r1', u1'⟩ := h1
  obtain ⟨b1, hb1⟩ : ∃ s, s = decide (a.num < 0) := ⟨_, rfl⟩
  obtain ⟨b1', hb1'⟩ : ∃ s, s = decide ((a.den : Int) < 0) := ⟨_, rfl⟩
  rw [← hb1, ← hb1']
  have H1 := Lib.hid (show _ ∧ _ ∧ _ ∧ _ ∧ _ ∧ _ from ⟨hb1, hb1', r1, u1, r1', u1'⟩)
  clear hb1 hb1' r1 u1 r1' u1'
  go_enter Tryz.func49, Tryz.ntmps49
  repeat (refine wp_seq ?_)
  refine region_k ?_
  intro K hK
  have HK := Lib.hid hK
  clear hK
  go_wp2
  refine HK.out _ _ ?_
  clear HK
  refine then_n ?_
  obtain ⟨W_0, hW⟩ : ∃ W, W = w.alloc (Obj.cells #[Value.bool b1, Value.slice A1 l1 c1, Value.bool b1', Value.slice A1' l1' c1'] 53) := ⟨_, rfl⟩
  have bb_0 : Below w.heap.size w W_0 := by rw [hW]; exact bal (Below.refl _ _) _
  have K0 : W_0.heap[w.heap.size]? = some (Obj.cells #[Value.bool b1, Value.slice A1 l1 c1, Value.bool b1', Value.slice A1' l1' c1'] 53) := by rw [hW]; exact new_at (by simp)
  rw [← hW]
  obtain ⟨m1, n1, m1', n1', _, _, _, _⟩ := four_cells K0
  have f1_0 : AtR W_0 (w.heap.size) 0 9 (a.num) := ⟨A1, l1, c1, by rw [← H1.out.1]; exact m1, n1, A1, l1, c1, rfl, H1.out.2.2.1.below bb_0, H1.out.2.2.2.1⟩
  have f1'_0 : AtR W_0 (w.heap.size) 2 9 ((a.den : Int)) := ⟨A1', l1', c1', by rw [← H1.out.2.1]; exact m1', n1', A1', l1', c1', rfl, H1.out.2.2.2.2.1.below bb_0, H1.out.2.2.2.2.2⟩
  clear m1 n1 m1' n1'
  clear hW K0
  refine name_frame (G := fun a => Code.wp _ _ _ a _) ?_
  intro a_0 ha
  have hN_0 : a_0.tmps.size = 21 := by subst ha; kernel_rfl
  have hD_0 : a_0.defers = [] := by subst ha; rfl
  have e1_0 : a_0.eval (.tmp 1) = .pointer (some ⟨w.heap.size, 0, none⟩) := by subst ha; kernel_rfl
  clear ha
  repeat (first | refine wp_seq ?_ | (refine wp_skip ?_; refine then_n ?_))
  refine wp_region_law hN_0 w.heap.size
    [kIs (.pointer (some ⟨w.heap.size, 0, none⟩)), kIs (.pointer (some ⟨w.heap.size, 2, none⟩)), kZ 9 ((a.den : Int)), kIs (.bool false)]
    [ [], [(0, some 3)], [(1, some 4)], [(2, some 5)] ]
    [(0, some 3), (1, some 4), (2, some 5), (3, some 6)] [] [] (by kernel_rfl) (by kernel_rfl) (by kernel_rfl) (by kernel_rfl) (by kernel_rfl) (by kernel_rfl) (by kernel_rfl) bb_0.size ?_ ?_
  ·
    refine pk_cons rfl rfl (st_pure [] [(1, .pointer (some ⟨w.heap.size, 0, none⟩))] (.pointer (some ⟨w.heap.size, 0, none⟩)) rfl hN_0 (by kernel_rfl) (by kernel_rfl) (by kernel_rfl) (old1 e1_0) (by kernel_rfl) (by kernel_rfl) (by kernel_rfl) (fun _ => by kernel_rfl)) ?_
    refine pk_cons rfl rfl (st_pure [.pointer (some ⟨w.heap.size, 0, none⟩)] [] (.pointer (some ⟨w.heap.size, 2, none⟩)) rfl hN_0 (by kernel_rfl) (by kernel_rfl) (by kernel_rfl) old0 (by kernel_rfl) (by kernel_rfl) (by kernel_rfl) (fun _ => by kernel_rfl)) ?_
    refine pk_cons rfl rfl (st_loadA f1'_0 (by simp) hN_0 (by kernel_rfl) (by kernel_rfl) rfl rfl) ?_
    refine pk_cons rfl rfl (st_call1 hN_0 (by kernel_rfl) (by kernel_rfl) (by kernel_rfl) rfl rfl fun w x v1 hC h1 => ti (isOne_z0 (den_one hz) ((rr h1).mono (by decide)))) ?_
    exact pk_nil rfl
  intro W_1 x hC hall
  refine then_n ?_
  obtain ⟨a_1, ha⟩ : ∃ a, a = putE x a_0 [(0, some 3), (1, some 4), (2, some 5), (3, some 6)] := ⟨_, rfl⟩
  rw [← ha]
  have hN_1 := size_behind ha hN_0
  have hD_1 := defers_behind ha hD_0
  have bb_1 := bb_0.trans hC.below
  have e1_1 := slot_old ha (by kernel_rfl) e1_0
  have f1_1 := hC.at0 f1_0
  have f1'_1 := hC.at0 f1'_0
  have e6_1 := (slot_new (t := 6) (i := 3) ha hN_0 (by kernel_rfl) (by kernel_rfl)).trans (show x 3 = .bool false from hall 3 (of_decide_eq_true (by kernel_rfl)))
  clear hall hC ha bb_0 hD_0 e1_0 f1_0 f1'_0
  repeat (first | refine wp_seq ?_ | (refine wp_skip ?_; refine then_n ?_))
  refine wp_cond_false e6_1 ?_
  repeat (first | refine wp_seq ?_ | (refine wp_skip ?_; refine then_n ?_))
  refine wp_region_law hN_1 w.heap.size
    [kIs (.pointer (some ⟨w.heap.size, 0, none⟩)), kIs (.pointer (some ⟨w.heap.size, 0, none⟩)), kZ 9 (a.num), kIs (.string (ztext (a.num))), kIs (.string ((ztext (a.num)) ++ ({ data := #[47] }))), kIs (.pointer (some ⟨w.heap.size, 0, none⟩)), kIs (.pointer (some ⟨w.heap.size, 2, none⟩)), kZ 9 ((a.den : Int)), kIs (.string (ztext ((a.den : Int)))), kIs (.string (((ztext (a.num)) ++ ({ data := #[47] })) ++ (ztext ((a.den : Int))))), kIs (.string (((ztext (a.num)) ++ ({ data := #[47] })) ++ (ztext ((a.den : Int)))))]
    [ [], [(0, some 11)], [(1, some 12)], [(2, some 13)], [(3, some 14)], [], [(5, some 16)], [(6, some 17)], [(7, some 18)], [(4, some 15), (8, some 19)], [(9, some 20)] ]
    [(0, some 11), (1, some 12), (2, some 13), (3, some 14), (4, some 15), (5, some 16), (6, some 17), (7, some 18), (8, some 19), (9, some 20), (10, some 2)] [] [] (by kernel_rfl) (by kernel_rfl) (by kernel_rfl) (by kernel_rfl) (by kernel_rfl) (by kernel_rfl) (by kernel_rfl) bb_1.size ?_ ?_
  ·
    refine pk_cons rfl rfl (st_pure [] [(1, .pointer (some ⟨w.heap.size, 0, none⟩))] (.pointer (some ⟨w.heap.size, 0, none⟩)) rfl hN_1 (by kernel_rfl) (by kernel_rfl) (by kernel_rfl) (old1 e1_1) (by kernel_rfl) (by kernel_rfl) (by kernel_rfl) (fun _ => by kernel_rfl)) ?_
    refine pk_cons rfl rfl (st_pure [.pointer (some ⟨w.heap.size, 0, none⟩)] [] (.pointer (some ⟨w.heap.size, 0, none⟩)) rfl hN_1 (by kernel_rfl) (by kernel_rfl) (by kernel_rfl) old0 (by kernel_rfl) (by kernel_rfl) (by kernel_rfl) (fun _ => by kernel_rfl)) ?_
    refine pk_cons rfl rfl (st_loadA f1_1 (by simp) hN_1 (by kernel_rfl) (by kernel_rfl) rfl rfl) ?_
    refine pk_cons rfl rfl (st_call1 hN_1 (by kernel_rfl) (by kernel_rfl) (by kernel_rfl) rfl rfl fun w x v1 hC h1 => ti (z_text (rz h1) (by decide) (HT.out.1.below (bb_1.trans hC.below) HT.out.2) (Nat.le_trans HT.out.2 (bb_1.trans hC.below).size))) ?_
    refine pk_cons rfl rfl (st_pure [.string (ztext (a.num))] [] (.string ((ztext (a.num)) ++ ({ data := #[47] }))) rfl hN_1 (by kernel_rfl) (by kernel_rfl) (by kernel_rfl) old0 (by kernel_rfl) (by kernel_rfl) (by kernel_rfl) (fun _ => ex_adds (by kernel_rfl) (by kernel_rfl) (f1_1.add1 (by decide) (by decide)))) ?_
    refine pk_cons rfl rfl (st_pure [] [(1, .pointer (some ⟨w.heap.size, 0, none⟩))] (.pointer (some ⟨w.heap.size, 0, none⟩)) rfl hN_1 (by kernel_rfl) (by kernel_rfl) (by kernel_rfl) (old1 e1_1) (by kernel_rfl) (by kernel_rfl) (by kernel_rfl) (fun _ => by kernel_rfl)) ?_
    refine pk_cons rfl rfl (st_pure [.pointer (some ⟨w.heap.size, 0, none⟩)] [] (.pointer (some ⟨w.heap.size, 2, none⟩)) rfl hN_1 (by kernel_rfl) (by kernel_rfl) (by kernel_rfl) old0 (by kernel_rfl) (by kernel_rfl) (by kernel_rfl) (fun _ => by kernel_rfl)) ?_
    refine pk_cons rfl rfl (st_loadA f1'_1 (by simp) hN_1 (by kernel_rfl) (by kernel_rfl) rfl rfl) ?_
    refine pk_cons rfl rfl (st_call1 hN_1 (by kernel_rfl) (by kernel_rfl) (by kernel_rfl) rfl rfl fun w x v1 hC h1 => ti (z_text (rz h1) (by decide) (HT.out.1.below (bb_1.trans hC.below) HT.out.2) (Nat.le_trans HT.out.2 (bb_1.trans hC.below).size))) ?_
    refine pk_cons rfl rfl (st_pure [.string ((ztext (a.num)) ++ ({ data := #[47] })), .string (ztext ((a.den : Int)))] [] (.string (((ztext (a.num)) ++ ({ data := #[47] })) ++ (ztext ((a.den : Int))))) rfl hN_1 (by kernel_rfl) (by kernel_rfl) (by kernel_rfl) old0 (by kernel_rfl) (by kernel_rfl) (by kernel_rfl) (fun _ => ex_adds (by kernel_rfl) (by kernel_rfl) (f1_1.add2 f1'_1 (by decide) (by decide)))) ?_
    refine pk_cons rfl rfl (st_pure [.string (((ztext (a.num)) ++ ({ data := #[47] })) ++ (ztext ((a.den : Int))))] [] (.string (((ztext (a.num)) ++ ({ data := #[47] })) ++ (ztext ((a.den : Int))))) rfl hN_1 (by kernel_rfl) (by kernel_rfl) (by kernel_rfl) old0 (by kernel_rfl) (by kernel_rfl) (by kernel_rfl) (fun _ => by kernel_rfl)) ?_
    exact pk_nil rfl
  intro W x hC hall
  refine then_n ?_
  obtain ⟨a1, ha⟩ : ∃ a, a = putE x a_1 [(0, some 11), (1, some 12), (2, some 13), (3, some 14), (4, some 15), (5, some 16), (6, some 17), (7, some 18), (8, some 19), (9, some 20), (10, some 2)] := ⟨_, rfl⟩
  rw [← ha]
  have hD1 := defers_behind ha hD_1
  have bb1 := bb_1.trans hC.below
  have e1 := (slot_new (t := 2) (i := 10) ha hN_1 (by kernel_rfl) (by kernel_rfl)).trans (show x 10 = .string (((ztext (a.num)) ++ ({ data := #[47] })) ++ (ztext ((a.den : Int)))) from hall 10 (of_decide_eq_true (by kernel_rfl)))
  repeat (first | refine wp_seq ?_ | (refine wp_skip ?_; refine then_n ?_))
  refine wp_ret ?_
  repeat (refine then_r ?_)
  exact ret_one (t := 2) rfl hD1 e1 ⟨rfl, bb1⟩
set_option maxRecDepth 100000 in
set_option maxHeartbeats 4000000 in
theorem Text_9b {w : World} {v1 : Value} {a : Rat} (HT : Hid (Tab w ∧ 4 ≤ w.heap.size)) (hz : a.den ≠ 1) (h1 : Pr w v1 9 (a.num) ((a.den : Int))) :
    Calls Tryz.prog 21 #[v1] w (fun e w' => e = .returned (.string (((ztext (a.num)) ++ ({ data := #[47] })) ++ (ztext ((a.den : Int))))) ∧ Below w.heap.size w w') := by
  obtain ⟨A1, l1, c1, A1', l1', c1', rfl, ⟨r1, u1⟩, r1', u1'⟩ := h1
  obtain ⟨b1, hb1⟩ : ∃ s, s = decide (a.num < 0) := ⟨_, rfl⟩
  obtain ⟨b1', hb1'⟩ : ∃ s, s = decide ((a.den : Int) < 0) := ⟨_, rfl⟩
  rw [← hb1, ← hb1']
  have H1 := Lib.hid (show _ ∧ _ ∧ _ ∧ _ ∧ _ ∧ _ from ⟨hb1, hb1', r1, u1, r1', u1'⟩)
  clear hb1 hb1' r1 u1 r1' u1'
  go_enter Tryz.func21, Tryz.ntmps21
  repeat (refine wp_seq ?_)
  refine region_k ?_
  intro K hK
  have HK := Lib.hid hK
  clear hK
  go_wp2
  refine HK.out _ _ ?_
  clear HK
  refine then_n ?_
  obtain ⟨W_0, hW⟩ : ∃ W, W = w.alloc (Obj.cells #[Value.bool b1, Value.slice A1 l1 c1, Value.bool b1', Value.slice A1' l1' c1'] 27) := ⟨_, rfl⟩
  have bb_0 : Below w.heap.size w W_0 := by rw [hW]; exact bal (Below.refl _ _) _
  have K0 : W_0.heap[w.heap.size]? = some (Obj.cells #[Value.bool b1, Value.slice A1 l1 c1, Value.bool b1', Value.slice A1' l1' c1'] 27) := by rw [hW]; exact new_at (by simp)
  rw [← hW]
  obtain ⟨m1, n1, m1', n1', _, _, _, _⟩ := four_cells K0
  have f1_0 : AtR W_0 (w.heap.size) 0 9 (a.num) := ⟨A1, l1, c1, by rw [← H1.out.1]; exact m1, n1, A1, l1, c1, rfl, H1.out.2.2.1.below bb_0, H1.out.2.2.2.1⟩
  have f1'_0 : AtR W_0 (w.heap.size) 2 9 ((a.den : Int)) := ⟨A1', l1', c1', by rw [← H1.out.2.1]; exact m1', n1', A1', l1', c1', rfl, H1.out.2.2.2.2.1.below bb_0, H1.out.2.2.2.2.2⟩
  clear m1 n1 m1' n1'
  clear hW K0
  refine name_frame (G := fun a => Code.wp _ _ _ a _) ?_
  intro a_0 ha
  have hN_0 : a_0.tmps.size = 6 := by subst ha; kernel_rfl
  have hD_0 : a_0.defers = [] := by subst ha; rfl
  have e1_0 : a_0.eval (.tmp 1) = .pointer (some ⟨w.heap.size, 0, none⟩) := by subst ha; kernel_rfl
  clear ha
  repeat (first | refine wp_seq ?_ | (refine wp_skip ?_; refine then_n ?_))
  refine wp_region_law hN_0 w.heap.size
    [kP 9 (a.num) ((a.den : Int)), kP 9 (a.num) ((a.den : Int)), kIs (.string (((ztext (a.num)) ++ ({ data := #[47] })) ++ (ztext ((a.den : Int))))), kIs (.string (((ztext (a.num)) ++ ({ data := #[47] })) ++ (ztext ((a.den : Int)))))]
    [ [], [(0, some 3)], [(1, some 4)], [(2, some 5)] ]
    [(0, some 3), (1, some 4), (2, some 5), (3, some 2)] [] [] (by kernel_rfl) (by kernel_rfl) (by kernel_rfl) (by kernel_rfl) (by kernel_rfl) (by kernel_rfl) (by kernel_rfl) bb_0.size ?_ ?_
  ·
    refine pk_cons rfl rfl (st_load4P f1_0 f1'_0 (by simp) e1_0 hN_0 (by kernel_rfl) rfl) ?_
    refine pk_cons rfl rfl (st_call1 hN_0 (by kernel_rfl) (by kernel_rfl) (by kernel_rfl) rfl rfl fun w x v1 hC h1 => tp (of_9 (pm (by decide) h1))) ?_
    refine pk_cons rfl rfl (st_call1 hN_0 (by kernel_rfl) (by kernel_rfl) (by kernel_rfl) rfl rfl fun w x v1 hC h1 => ti (decimal_9b (Lib.hid ⟨HT.out.1.below (bb_0.trans hC.below) HT.out.2, Nat.le_trans HT.out.2 (bb_0.trans hC.below).size⟩) hz (pm (by decide) h1))) ?_
    refine pk_cons rfl rfl (st_pure [.string (((ztext (a.num)) ++ ({ data := #[47] })) ++ (ztext ((a.den : Int))))] [] (.string (((ztext (a.num)) ++ ({ data := #[47] })) ++ (ztext ((a.den : Int))))) rfl hN_0 (by kernel_rfl) (by kernel_rfl) (by kernel_rfl) old0 (by kernel_rfl) (by kernel_rfl) (by kernel_rfl) (fun _ => by kernel_rfl)) ?_
    exact pk_nil rfl
  intro W x hC hall
  refine then_n ?_
  obtain ⟨a1, ha⟩ : ∃ a, a = putE x a_0 [(0, some 3), (1, some 4), (2, some 5), (3, some 2)] := ⟨_, rfl⟩
  rw [← ha]
  have hD1 := defers_behind ha hD_0
  have bb1 := bb_0.trans hC.below
  have e1 := (slot_new (t := 2) (i := 3) ha hN_0 (by kernel_rfl) (by kernel_rfl)).trans (show x 3 = .string (((ztext (a.num)) ++ ({ data := #[47] })) ++ (ztext ((a.den : Int)))) from hall 3 (of_decide_eq_true (by kernel_rfl)))
  repeat (first | refine wp_seq ?_ | (refine wp_skip ?_; refine then_n ?_))
  refine wp_ret ?_
  repeat (refine then_r ?_)
  exact ret_one (t := 2) rfl hD1 e1 ⟨rfl, bb1⟩
end Go.Proofs.YthgclmkhmcfflaaGreatDoor
namespace Go.Proofs.YthgclmkhmcfflaaGreatDoor
open Go.RowKit
theorem wp_region_pkE {P : Program} {id : Nat} {draw : Bool} {ops : Array Oper} {Q : Exit → Act → World → Prop} {a0 : Act} {W0 : World} (B : Nat) (ks : List PK) (es : List (List (Nat × Option Tmp))) (all : List (Nat × Option Tmp)) (bs : List (Nat × Bool)) (sk : List Nat) (hm : P.follows .mixedOrders = true) (hchk : growOK ops (fun i => !sk.contains i) es all a0.tmps.size = true) (hk : codesOK ks es = true) (hgu : guardOK ops bs sk = true) (hbs : bs.map (fun p => at_ ks p.1) = bs.map fun p => kIs (.bool p.2)) (hsk : sk.map (at_ ks) = sk.map fun _ => kIs undef)
    (hn : (blks ks).Nodup) (hB : ∀ g ∈ blks ks, B ≤ g) (hB0 : B ≤ W0.heap.size) (ht : ∀ g ∈ blks ks, ∃ cs, Holds_ W0 g cs)
    (E : (Nat → Bool) → World → Prop) (hE0 : ∀ W', W' = W0 ∨ W' = W0.drew → E (fun i => decide (ops.size ≤ i)) W') (hEs : ∀ i, i < ops.size → ∀ L x v w w', E L w → Reg B W0 (blks ks) w → L i = false → (sk.contains i = false → ∀ p ∈ es.getD i [], L p.1 = true) → (at_ ks i).move W0.heap.size x v w w' → E (upd L i true) w')
    (hs : ∀ i o, ops[i]? = some o → sk.contains i = false → ∀ L, L i = false → PkStep P (fun w => Reg B W0 (blks ks) w ∧ E L w) W0.heap.size ks a0 i o (es.getD i [])) (hend : ∀ w' x, Reg B W0 (blks ks) w' → (∀ i, i < ops.size → (at_ ks i).sem W0.heap.size x (x i) w') → Q .normal (putE x a0 all) w') : (Code.region id ops draw).wp P Q a0 W0 := by
  have hchk' := hchk
  unfold growOK at hchk'
  simp only [Bool.and_eq_true, decide_eq_true_eq] at hchk'
  have hall := hchk'.1.1.1
  have hops := hchk'.2
  have hlt : ∀ i o, ops[i]? = some o → ∀ p ∈ es.getD i [], p.1 < ops.size := fun i o ho p hp => by
    have hl : i < ops.size := (Array.getElem?_eq_some_iff.1 ho).1
    have h := List.all_eq_true.1 hops i (List.mem_range.2 hl)
    rw [ho] at h
    simp only [Bool.and_eq_true] at h
    have := List.all_eq_true.1 h.1.2 p hp
    simp only [Bool.and_eq_true, decide_eq_true_eq] at this
    exact this.1.2
  have hinto : ∀ i e, (at_ ks i).into = some e → i < ks.length ∧ (at_ ks e).isFresh = true ∧ (∃ p ∈ es.getD i [], p.1 = e) ∧ ∀ j, i ≠ j → (at_ ks j).into ≠ some e := fun i e hi => by
    have hl : i < ks.length := by
      rcases Nat.lt_or_ge i ks.length with h | h
      · exact h
      · unfold at_ at hi
        rw [List.getD_eq_getElem?_getD, List.getElem?_eq_none h] at hi
        simp [kAny, PK.into] at hi
    have h := List.all_eq_true.1 hk i (List.mem_range.2 hl)
    rw [hi] at h
    simp only [Bool.and_eq_true] at h
    obtain ⟨⟨⟨h1, h2⟩, h3⟩, _⟩ := h
    refine ⟨hl, h1, ?_, fun j hj hj2 => ?_⟩
    · obtain ⟨p, hp, hh⟩ := List.any_eq_true.1 h2
      exact ⟨p, hp, of_decide_eq_true hh⟩
    · have hlj : j < ks.length := by
        rcases Nat.lt_or_ge j ks.length with h | h
        · exact h
        · unfold at_ at hj2
          rw [List.getD_eq_getElem?_getD, List.getElem?_eq_none h] at hj2
          simp [kAny, PK.into] at hj2
      have := List.all_eq_true.1 h3 j (List.mem_range.2 hlj)
      simp [hj, hj2] at this
  have href : ∀ i e, (at_ ks i).ref = some e → ∃ p ∈ es.getD i [], p.1 = e := fun i e hi => by
    have hl : i < ks.length := by
      rcases Nat.lt_or_ge i ks.length with h | h
      · exact h
      · unfold at_ at hi
        rw [List.getD_eq_getElem?_getD, List.getElem?_eq_none h] at hi
        simp [kAny, PK.ref] at hi
    have h := List.all_eq_true.1 hk i (List.mem_range.2 hl)
    simp only [Bool.and_eq_true, hi] at h
    obtain ⟨p, hp, hh⟩ := List.any_eq_true.1 h.2
    exact ⟨p, hp, of_decide_eq_true hh⟩
  obtain ⟨Inv, hInv⟩ : ∃ Inv : (Nat → Bool) → (Nat → Value) → World → Prop, Inv = fun L x w => Reg B W0 (blks ks) w ∧ (∀ i, i < ops.size → L i = true → (at_ ks i).sem W0.heap.size x (x i) w) ∧ (∀ i j, i < ops.size → j < ops.size → i ≠ j → L i = true → L j = true → (at_ ks i).isNew = true → (at_ ks j).isNew = true → blockOf (x i) ≠ blockOf (x j)) ∧ ∀ i e, i < ops.size → L i = true → (at_ ks i).ref = some e → e < ops.size ∧ L e = true := ⟨_, rfl⟩
  have hgo : ∀ i, i < ops.size → ∀ L x w, Inv L x w → L i = false → (∀ e, (at_ ks i).ref = some e → e < ops.size ∧ L e = true) → ∀ v w', (at_ ks i).move W0.heap.size x v w w' → (at_ ks i).sem W0.heap.size x v w' → Inv (upd L i true) (upd x i v) w' := by
    intro i hil L x w hI hi hin v w' h1 h2
    rw [hInv] at hI ⊢
    have hintoi : ∀ j e, j < ops.size → L j = true → (at_ ks j).ref = some e → e ≠ i := fun j e hj hLj he hei => by
      have := (hI.2.2.2 j e hj hLj he).2
      rw [hei, hi] at this; cases this
    have hintoii : ∀ e, (at_ ks i).ref = some e → e ≠ i := fun e he hei => by
      have := (hin e he).2
      rw [hei, hi] at this; cases this
    -- the class
    have hR : Reg B W0 (blks ks) w' := by
      cases e : at_ ks i with
      | p f k1 k2 => rw [e] at h1; exact hI.1.step hB0 h1
      | fresh n => rw [e] at h1; exact hI.1.step hB0 h1.1
      | list n f k1 k2 => rw [e] at h1; exact hI.1.step hB0 h1.1
      | same e1 => rw [e] at h1; exact hI.1.step hB0 h1
      | cell g f k1 k2 =>
        rw [e] at h1
        have hg : g ∈ blks ks := blk_mem (i := i) (by rw [e]; rfl)
        exact hI.1.store (.inl hg) (hB g hg) h1
      | put n f k1 k2 =>
        rw [e] at h1
        obtain ⟨g, _, hg, hst⟩ := h1
        exact hI.1.store (.inr hg) (by omega) hst
    have hkeep : ∀ j, j < ops.size → L j = true → (at_ ks j).sem W0.heap.size x (x j) w' := fun j hj hLj => by
      have hij : i ≠ j := fun hh => by rw [hh, hLj] at hi; cases hi
      have hsem := hI.2.1 j hj hLj
      cases e : at_ ks i with
      | p f k1 k2 => rw [e] at h1; exact PK.step hsem h1
      | fresh n => rw [e] at h1; exact PK.step hsem h1.1
      | list n f k1 k2 => rw [e] at h1; exact PK.step hsem h1.1
      | same e1 => rw [e] at h1; exact PK.step hsem h1
      | cell g f k1 k2 =>
        rw [e] at h1
        have hgl : g < W0.heap.size := by
          obtain ⟨cs, hh⟩ := ht g (blk_mem (i := i) (by rw [e]; rfl))
          exact hh.lt
        refine PK.store hsem h1 (fun hb => hij (blk_inj hn (i := i) (j := j) (g := g) (by rw [e]; rfl) hb)) (fun e2 he2 hx => ?_) fun hf hnw hbl => ?_
        rotate_left 1
        · cases ej : at_ ks j with
          | list n3 f3 k3 k4 =>
            rw [ej] at hsem
            obtain ⟨g', q1, q2, _⟩ := hsem
            rw [q1] at hbl
            injection hbl with hbl
            have : g' = g := hbl
            omega
          | fresh n => rw [ej] at hf; cases hf
          | _ => rw [ej] at hnw; cases hnw
        cases ej : at_ ks j with
        | put e3 f3 k3 k4 =>
          rw [ej] at hsem he2
          obtain ⟨g', _, q1, q2, _⟩ := hsem
          injection he2 with he2
          subst he2
          rw [q1] at hx
          injection hx with hx
          injection hx with hx
          injection hx with hx
          omega
        | _ => rw [ej] at he2; cases he2
      | put e1 f k1 k2 =>
        rw [e] at h1
        obtain ⟨g, hxe, hg, hst⟩ := h1
        obtain ⟨_, q1, _, q3⟩ := hinto i e1 (by rw [e]; rfl)
        obtain ⟨he1l, hLe1⟩ := hin e1 (by rw [e]; rfl)
        refine PK.store hsem hst (fun hb => ?_) (fun e2 he2 hx => ?_) fun hf hnw hbl => ?_
        · obtain ⟨cs, hh⟩ := ht g (blk_mem hb)
          have := hh.lt
          omega
        rotate_left 1
        · have hne : e1 ≠ j := fun hh => by rw [← hh, q1] at hf; cases hf
          exact hI.2.2.1 e1 j he1l hj hne hLe1 hLj (PK.new_of_fresh q1) hnw (by rw [hxe, hbl]; rfl)
        ·
          have hne : e1 ≠ e2 := fun hh => q3 j hij (hh ▸ he2)
          have q4 := hinto j e2 he2
          have q5 := hI.2.2.2 j e2 hj hLj (PK.ref_of_into he2)
          exact hI.2.2.1 e1 e2 he1l q5.1 hne hLe1 q5.2 (PK.new_of_fresh q1) (PK.new_of_fresh q4.2.1) (by rw [hxe, hx])
    refine ⟨hR, fun j hj hLj => ?_, fun j k hj hk' hjk hLj hLk hfj hfk => ?_, fun j e hj hLj he => ?_⟩
    · by_cases e : j = i
      · subst e
        rw [upd_same]
        exact PK.sem_upd h2 hintoii
      · rw [upd_ne _ _ e] at hLj
        rw [upd_ne _ _ e]
        exact PK.sem_upd (hkeep j hj hLj) fun e2 he2 => hintoi j e2 hj hLj he2
    · have old : ∀ k, k < ops.size → L k = true → (at_ ks k).isNew = true → ∃ g', blockOf (x k) = some g' ∧ g' < w.heap.size := fun k hkl hLk hfk => by
        have hsem := hI.2.1 k hkl hLk
        cases e2 : at_ ks k with
        | fresh m =>
          rw [e2] at hsem
          obtain ⟨g', cs, q1, _, q3, _⟩ := hsem
          exact ⟨g', by rw [q1]; rfl, q3.lt⟩
        | list m f3 k3 k4 =>
          rw [e2] at hsem
          obtain ⟨g', q1, _, q3, _⟩ := hsem
          exact ⟨g', by rw [q1]; rfl, q3⟩
        | _ => rw [e2] at hfk; cases hfk
      have new : (at_ ks i).isNew = true → ∃ g', blockOf v = some g' ∧ w.heap.size ≤ g' := fun hfi => by
        cases e1 : at_ ks i with
        | fresh n =>
          rw [e1] at h1
          obtain ⟨_, g, hg, hgs⟩ := h1
          exact ⟨g, by rw [hg]; rfl, hgs⟩
        | list n f3 k3 k4 =>
          rw [e1] at h1
          obtain ⟨_, g, hg, hgs⟩ := h1
          exact ⟨g, by rw [hg]; rfl, hgs⟩
        | _ => rw [e1] at hfi; cases hfi
      have fr : ∀ k, k ≠ i → k < ops.size → L k = true → (at_ ks k).isNew = true → (at_ ks i).isNew = true → blockOf v ≠ blockOf (x k) := fun k _ hkl hLk hfk hfi hv => by
        obtain ⟨g', q1, q2⟩ := old k hkl hLk hfk
        obtain ⟨g, q3, q4⟩ := new hfi
        rw [q1, q3] at hv
        injection hv with hv
        omega
      by_cases e : j = i
      · subst e
        rw [upd_same, upd_ne _ _ (fun h => hjk h.symm)]
        rw [upd_ne _ _ (fun h => hjk h.symm)] at hLk
        exact fr k (fun h => hjk h.symm) hk' hLk hfk hfj
      · rw [upd_ne _ _ e] at hLj ⊢
        by_cases e' : k = i
        · subst e'
          rw [upd_same]
          exact fun h => fr j e hj hLj hfj hfk h.symm
        · rw [upd_ne _ _ e'] at hLk ⊢
          exact hI.2.2.1 j k hj hk' hjk hLj hLk hfj hfk
    · by_cases e' : j = i
      · subst e'
        refine ⟨(hin e he).1, ?_⟩
        rw [upd_ne _ _ (hintoii e he)]
        exact (hin e he).2
      · rw [upd_ne _ _ e'] at hLj
        have q := hI.2.2.2 j e hj hLj he
        refine ⟨q.1, ?_⟩
        rw [upd_ne _ _ (hintoi j e hj hLj he)]
        exact q.2
  refine wp_region_grow hm (fun L x w => Inv L x w ∧ E L w) (fun i => !sk.contains i) es all hchk ?_ (fun i o g ho hg L x w hI hL => ?_) (fun i hil hWi L x w hI hi => ?_) (fun i o ho hW L x w hI hi hd K hK => ?_) (fun L x w' hL hI => ?_)
  · intro W' hW'
    refine ⟨?_, hE0 W' hW'⟩
    rw [hInv]
    exact ⟨Reg.start ht hW', fun i hi h => absurd (of_decide_eq_true h) (by omega), fun i _ hi _ _ h => absurd (of_decide_eq_true h) (by omega), fun i _ hi h => absurd (of_decide_eq_true h) (by omega)⟩
  · replace hI := hI.1
    rw [hInv] at hI
    have hil : i < ops.size := (Array.getElem?_eq_some_iff.1 ho).1
    have h := List.all_eq_true.1 hgu i (List.mem_range.2 hil)
    rw [ho] at h
    simp only [hg, Bool.or_eq_true] at h
    rcases h with h | h
    · obtain ⟨p, hp, hh⟩ := List.any_eq_true.1 h
      simp only [Bool.and_eq_true, decide_eq_true_eq, beq_iff_eq] at hh
      obtain ⟨⟨h1, h2⟩, h3⟩ := hh
      have hs1 := hI.2.1 g.1 h2 hL
      have hk1 : at_ ks g.1 = kIs (.bool p.2) := by
        rw [← h1]
        exact List.map_inj_left.1 hbs p hp
      rw [hk1] at hs1
      exact .inl ⟨p.2, hs1, h3⟩
    · simp only [Bool.and_eq_true, decide_eq_true_eq] at h
      obtain ⟨⟨h1, h2⟩, h3⟩ := h
      have hs1 := hI.2.1 g.1 h1 hL
      have hk1 : at_ ks g.1 = kIs undef := List.map_inj_left.1 hsk g.1 (by simpa using h2)
      rw [hk1] at hs1
      exact .inr ⟨hs1, by rw [h3]; rfl⟩
  · have hm : i ∈ sk := by simpa using hWi
    have hk1 : at_ ks i = kIs undef := List.map_inj_left.1 hsk i hm
    have hmv : (at_ ks i).move W0.heap.size x undef w w := by rw [hk1]; exact Below.refl _ _
    have hI1 := hI.1
    rw [hInv] at hI1
    exact ⟨hgo i hil L x w hI.1 hi (fun e he => by rw [hk1] at he; cases he) undef w hmv (by rw [hk1]; rfl), hEs i hil L x undef w w hI.2 hI1.1 hi (fun h => absurd (show sk.contains i = true by simpa using hm) (by rw [h]; decide)) hmv⟩
  · have hil : i < ops.size := (Array.getElem?_eq_some_iff.1 ho).1
    have hI' := hI.1
    rw [hInv] at hI'
    refine deps_use (es.getD i []) (fun p hp => hI'.2.1 p.1 (hlt i o ho p hp) (hd p hp)) (hs i o ho (by simpa using hW) L hi w x ⟨hI'.1, hI.2⟩) K fun v w' h1 h2 => hK v w' ⟨hgo i hil L x w hI.1 hi (fun e he => ?_) v w' h1 h2, hEs i hil L x v w w' hI.2 hI'.1 hi (fun _ => hd) h1⟩
    obtain ⟨p, hp, hpe⟩ := href i e he
    exact ⟨hpe ▸ hlt i o ho p hp, hpe ▸ hd p hp⟩
  · replace hI := hI.1
    rw [hInv] at hI
    exact hend w' x hI.1 fun i hi => hI.2.1 i hi (hL i hi)
/-- Does operation s wait for operation j (or is it that one)? -/
def waits (es : List (List (Nat × Option Tmp))) (sk : List Nat) (n s j : Nat) : Bool := decide (j = s) || decide (s < n) && !sk.contains s && (es.getD s []).any fun p => decide (p.1 = j) || decide (p.1 < n) && !sk.contains p.1 && (es.getD p.1 []).any fun q => decide (q.1 = j)
theorem waits_not {es : List (List (Nat × Option Tmp))} {sk : List Nat} {n s j : Nat} {L : Nat → Bool} (h : waits es sk n s j = true) (hj : L j = false) (hd : ∀ i, i < n → sk.contains i = false → L i = true → ∀ p ∈ es.getD i [], L p.1 = true) : L s = false := by
  cases hs : L s with
  | false => rfl
  | true =>
    exfalso
    unfold waits at h
    rw [Bool.or_eq_true] at h
    rcases h with h | h
    · rw [of_decide_eq_true h] at hj; rw [hj] at hs; cases hs
    · rw [Bool.and_eq_true, Bool.and_eq_true] at h
      obtain ⟨⟨h1, h2⟩, h⟩ := h
      obtain ⟨p, hp, h⟩ := List.any_eq_true.1 h
      have hp1 := hd s (of_decide_eq_true h1) (by simpa using h2) hs p hp
      rw [Bool.or_eq_true] at h
      rcases h with h | h
      · rw [of_decide_eq_true h, hj] at hp1; cases hp1
      · rw [Bool.and_eq_true, Bool.and_eq_true] at h
        obtain ⟨⟨h3, h4⟩, h⟩ := h
        obtain ⟨q, hq, h⟩ := List.any_eq_true.1 h
        have hq1 := hd p.1 (of_decide_eq_true h3) (by simpa using h4) hp1 q hq
        rw [of_decide_eq_true h, hj] at hq1; cases hq1
/-- The steps, those of js with the cell as it was. -/
def PkFromL (P : Program) (ops : Array Oper) (es : List (List (Nat × Option Tmp))) (sk : List Nat) (B : Nat) (W0 : World) (g : Nat) (ks : List PK) (a0 : Act) (js : List Nat) (i : Nat) : Prop :=
  ∀ k o, i ≤ k → ops[k]? = some o → sk.contains k = false → PkStep P (fun w => Reg B W0 [g] w ∧ (js.contains k = true → w.heap[g]? = W0.heap[g]?)) W0.heap.size ks a0 k o (es.getD k [])
section
variable {P : Program} {ops : Array Oper} {es : List (List (Nat × Option Tmp))} {sk : List Nat} {B : Nat} {W0 : World} {g : Nat} {ks : List PK} {a0 : Act} {js : List Nat} {i : Nat} {o : Oper} {e : List (Nat × Option Tmp)}
theorem pkl_cons (ho : ops[i]? = some o) (he : es.getD i [] = e) (h : PkStep P (Reg B W0 [g]) W0.heap.size ks a0 i o e) (hr : PkFromL P ops es sk B W0 g ks a0 js (i + 1)) : PkFromL P ops es sk B W0 g ks a0 js i := fun k o' hk ho' hs => by
  by_cases e1 : k = i
  · subst e1
    rw [ho] at ho'
    injection ho' with ho'
    rw [← ho', he]
    exact fun w x hC => h w x hC.1
  · exact hr k o' (by omega) ho' hs
theorem pkl_keep (ho : ops[i]? = some o) (he : es.getD i [] = e) (hj : js.contains i = true) (h : PkStep P (fun w => Reg B W0 [g] w ∧ w.heap[g]? = W0.heap[g]?) W0.heap.size ks a0 i o e) (hr : PkFromL P ops es sk B W0 g ks a0 js (i + 1)) : PkFromL P ops es sk B W0 g ks a0 js i := fun k o' hk ho' hs => by
  by_cases e1 : k = i
  · subst e1
    rw [ho] at ho'
    injection ho' with ho'
    rw [← ho', he]
    exact fun w x hC => h w x ⟨hC.1, hC.2 hj⟩
  · exact hr k o' (by omega) ho' hs
theorem pkl_nil (h : ops.size = i) : PkFromL P ops es sk B W0 g ks a0 js i := fun k o hk ho _ => by
  have := (Array.getElem?_eq_some_iff.1 ho).1
  omega
end
/-- A region that stores into one old block g, by operation s; the operations js, for which s waits, find it as it was. -/
theorem wp_region_keep {P : Program} {id : Nat} {draw : Bool} {ops : Array Oper} {Q : Exit → Act → World → Prop} {a0 : Act} {W0 : World} {N : Nat} (hN : a0.tmps.size = N) (B g : Nat) {cs : Array Value} (hg : Holds_ W0 g cs) (hBg : B ≤ g) (s : Nat) (js : List Nat) (ks : List PK) (es : List (List (Nat × Option Tmp))) (all : List (Nat × Option Tmp)) (bs : List (Nat × Bool)) (sk : List Nat) (hm : P.follows .mixedOrders = true) (hchk : growOK ops (fun i => !sk.contains i) es all N = true) (hk : codesOK ks es = true) (hgu : guardOK ops bs sk = true) (hbs : bs.map (fun p => at_ ks p.1) = bs.map fun p => kIs (.bool p.2)) (hsk : sk.map (at_ ks) = sk.map fun _ => kIs undef)
    (hb : blks ks = [g]) (hsg : (at_ ks s).blk = some g) (hjs : js.all (waits es sk ops.size s) = true) (hB0 : B ≤ W0.heap.size) (hs : PkFromL P ops es sk B W0 g ks a0 js 0) (hend : ∀ w' x, Reg B W0 [g] w' → (∀ i, i < ops.size → (at_ ks i).sem W0.heap.size x (x i) w') → Q .normal (putE x a0 all) w') : (Code.region id ops draw).wp P Q a0 W0 := by
  subst hN
  have hn : (blks ks).Nodup := by rw [hb]; exact List.nodup_cons.2 ⟨by simp, List.nodup_nil⟩
  have hops := hchk
  unfold growOK at hops
  simp only [Bool.and_eq_true, decide_eq_true_eq] at hops
  have hlt : ∀ i, i < ops.size → ∀ p ∈ es.getD i [], p.1 < ops.size := fun i hi p hp => by
    have h := List.all_eq_true.1 hops.2 i (List.mem_range.2 hi)
    rw [Array.getElem?_eq_getElem hi] at h
    simp only [Bool.and_eq_true] at h
    have := List.all_eq_true.1 h.1.2 p hp
    simp only [Bool.and_eq_true, decide_eq_true_eq] at this
    exact this.1.2
  refine wp_region_pkE B ks es all bs sk hm hchk hk hgu hbs hsk hn ?_ hB0 ?_ (fun L w => (L s = false → w.heap[g]? = W0.heap[g]?) ∧ ∀ i, i < ops.size → sk.contains i = false → L i = true → ∀ p ∈ es.getD i [], L p.1 = true) ?_ ?_ ?_ ?_
  · rw [hb]; intro g' hg'; rw [List.mem_singleton.1 hg']; exact hBg
  · rw [hb]; intro g' hg'; rw [List.mem_singleton.1 hg']; exact ⟨_, hg⟩
  · intro W' hW'
    refine ⟨fun _ => ?_, fun i hi _ h => absurd (of_decide_eq_true h) (by omega)⟩
    rcases hW' with rfl | rfl <;> rfl
  · intro i hil L x v w w' hE hR hi hd hmv
    refine ⟨fun hL => ?_, fun k hk1 hk2 hk3 p hp => ?_⟩
    · have hne : s ≠ i := fun h => by rw [h, upd_same] at hL; cases hL
      rw [upd_ne _ _ hne] at hL
      have hw := hE.1 hL
      have hgw : g < w.heap.size := Nat.lt_of_lt_of_le hg.lt hR.below.size
      refine Eq.trans ?_ hw
      cases e : at_ ks i with
      | p f k1 k2 => rw [e] at hmv; exact hmv.block g hgw
      | fresh n => rw [e] at hmv; exact hmv.1.block g hgw
      | list n f k1 k2 => rw [e] at hmv; exact hmv.1.block g hgw
      | same e1 => rw [e] at hmv; exact hmv.block g hgw
      | cell g' f k1 k2 =>
        rw [e] at hmv
        refine hmv.other g fun h => hne (blk_inj hn (i := s) (j := i) (g := g) hsg ?_)
        rw [e, h]; rfl
      | put n f k1 k2 =>
        rw [e] at hmv
        obtain ⟨g', _, hg', hst⟩ := hmv
        refine hst.other g fun h => ?_
        have := hg.lt
        omega
    · by_cases e : k = i
      · subst e
        by_cases e2 : p.1 = k
        · rw [e2, upd_same]
        · rw [upd_ne _ _ e2]; exact hd hk2 p hp
      · rw [upd_ne _ _ e] at hk3
        by_cases e2 : p.1 = i
        · rw [e2, upd_same]
        · rw [upd_ne _ _ e2]; exact hE.2 k hk1 hk2 hk3 p hp
  · intro i o ho hsi L hi w x hC
    rw [hb] at hC
    exact hs i o (Nat.zero_le _) ho hsi w x ⟨hC.1, fun hj => hC.2.1 (waits_not (List.all_eq_true.1 hjs i (by simpa using hj)) hi hC.2.2)⟩
  · rw [hb]; exact hend
end Go.Proofs.YthgclmkhmcfflaaGreatDoor
namespace Go.Proofs.YthgclmkhmcfflaaGreatDoor
open Go.RowKit
theorem keep_holds {W0 w : World} {g : Nat} {cs : Array Value} (h : w.heap[g]? = W0.heap[g]?) (hh : Holds_ W0 g cs) : Holds_ w g cs := by
  obtain ⟨⟨T, e⟩, hn⟩ := hh
  exact ⟨⟨T, h.trans e⟩, hn⟩
theorem keep_atR {B : Nat} {W0 w : World} {g0 : Nat} (hC : Reg B W0 [g0] w ∧ w.heap[g0]? = W0.heap[g0]?) {o k : Nat} {z : Int} (hl : AtR W0 g0 o k z) : AtR w g0 o k z := by
  obtain ⟨A, l, c, h1, h2, h3⟩ := hl
  exact ⟨A, l, c, (World.cell?_of_block hC.2).trans h1, (World.cell?_of_block hC.2).trans h2, hC.1.zr h3⟩
theorem run_load4F' {w : World} {g : Nat} {u v u' v' : Value} (h0 : w.cell? ⟨g, 0, none⟩ = some u) (h1 : w.cell? ⟨g, 0 + 1, none⟩ = some v) (h2 : w.cell? ⟨g, 2, none⟩ = some u') (h3 : w.cell? ⟨g, 2 + 1, none⟩ = some v') : (Instr.loadAt 53 (.pointer (some ⟨g, 0, none⟩))).run Tryz.prog w = .ok (.agg #[u, v, u', v']) w := by go_simp
theorem run_storeHi {w : World} {g : Nat} {b : Bool} {A : Option Addr} {l c : Nat} {u0 v0 : Value} (h0 : w.cell? ⟨g, 2, none⟩ = some u0) (h1 : w.cell? ⟨g, 3, none⟩ = some v0) (f0 : w.frozen? ⟨g, 2, none⟩ = false) (f1 : w.frozen? ⟨g, 3, none⟩ = false) :
    (Instr.storeAt 25 (.pointer (some ⟨g, 2, none⟩)) (.agg #[.bool b, .slice A l c])).run Tryz.prog w = .ok () ((w.setCell ⟨g, 2, none⟩ (.bool b)).setCell ⟨g, 3, none⟩ (.slice A l c)) := by go_simp
theorem run_storeLo {w : World} {g : Nat} {b : Bool} {A : Option Addr} {l c : Nat} {u0 v0 : Value} (h0 : w.cell? ⟨g, 0, none⟩ = some u0) (h1 : w.cell? ⟨g, 1, none⟩ = some v0) (f0 : w.frozen? ⟨g, 0, none⟩ = false) (f1 : w.frozen? ⟨g, 1, none⟩ = false) :
    (Instr.storeAt 25 (.pointer (some ⟨g, 0, none⟩)) (.agg #[.bool b, .slice A l c])).run Tryz.prog w = .ok () ((w.setCell ⟨g, 0, none⟩ (.bool b)).setCell ⟨g, 1, none⟩ (.slice A l c)) := by go_simp
/-- The first number of two, just stored; the second not yet. -/
def isLo (k : Nat) (x : Int) (u v : Value) (cs : Array Value) (w : World) : Prop := ∃ A l c, cs = #[.bool (decide (x < 0)), .slice A l c, u, v] ∧ Zr w (.agg #[.bool (decide (x < 0)), .slice A l c]) k x
def kLo (g k : Nat) (x : Int) (u v : Value) : PK := .cell g (isLo k x u v) (fun _ _ _ ⟨A, l, c, e, h⟩ hb => ⟨A, l, c, e, h.below hb⟩) (fun _ _ _ _ ⟨A, l, c, e, h⟩ hs => ⟨A, l, c, e, h.stored hs⟩)
section
variable {S0 B : Nat} {ks : List PK} {a0 : Act} {i : Nat} {N : Nat} {W0 : World} {T : TypeId} {pos : String} {af : Array Edge} {gu : Option (Nat × Bool)}
set_option maxRecDepth 100000 in
set_option maxHeartbeats 1000000 in
theorem st_loadKF {d t g k : Nat} {z1 z2 : Int} (hl : AtR W0 g 0 k z1) (hl2 : AtR W0 g 2 k z2) (hp : a0.eval (.tmp t) = .pointer (some ⟨g, 0, none⟩)) (hN : a0.tmps.size = N) (hd : decide (d < N) = true) (hi : at_ ks i = kP k z1 z2) :
    PkStep Tryz.prog (fun w => Reg B W0 [g] w ∧ w.heap[g]? = W0.heap[g]?) S0 ks a0 i { dst := some d, op := .load 53 (.tmp t), type := T, pos := pos, after := af, guard := gu } [] := by
  intro w x hC K hK
  obtain ⟨A, m, c, h1, h2, A1, m1, c1, e1, h3⟩ := keep_atR hC hl
  obtain ⟨A', m', c', h4, h5, A2, m2, c2, e2, h6⟩ := keep_atR hC hl2
  injection e1 with e1; injection e1 with e1; injection e1 with _ e1; injection e1 with e1 _; injection e1 with a b c; subst a; subst b; subst c
  injection e2 with e2; injection e2 with e2; injection e2 with _ e2; injection e2 with e2 _; injection e2 with a b c; subst a; subst b; subst c
  refine wp_val (w' := w) rfl hN hd (ex_load hp (run_load4F' h1 h2 h4 h5)) (hK _ _ ?_ ?_)
  · rw [hi]; exact Below.refl _ _
  · rw [hi]; exact ⟨_, _, _, _, _, _, rfl, h3, h6⟩
set_option maxRecDepth 100000 in
set_option maxHeartbeats 1000000 in
theorem st_lo {t u e j g k : Nat} {x1 : Int} {a b c d : Value} (h0 : Holds_ W0 g #[a, b, c, d]) (hN : a0.tmps.size = N) (ht : decide (t < N) = true) (hu : decide (u < N) = true) (htu : decide (t = u) = false) (he : at_ ks e = kIs (.pointer (some ⟨g, 0, none⟩))) (hj : at_ ks j = kZ k x1) (hi : at_ ks i = kLo g k x1 c d) :
    PkStep Tryz.prog (fun w => Reg B W0 [g] w ∧ w.heap[g]? = W0.heap[g]?) S0 ks a0 i { dst := none, op := .store 25 (.tmp t) (.tmp u), type := T, pos := pos, after := af, guard := gu } [(e, some t), (j, some u)] := by
  intro w x hC
  refine deps_all _ fun hdeps K hK => ?_
  have g0 := hdeps (e, some t) (by simp)
  have g1 := hdeps (j, some u) (by simp)
  rw [he] at g0
  rw [hj] at g1
  have g0' : x e = .pointer (some ⟨g, 0, none⟩) := g0
  obtain ⟨A, l, c1, hx, q1⟩ := (show Zr w (x j) k x1 from g1)
  have htu' : t ≠ u := of_decide_eq_false htu
  have e1 : (putE x a0 [(e, some t), (j, some u)]).eval (.tmp t) = .pointer (some ⟨g, 0, none⟩) := (putE_new _ _ (by rw [hN]; exact of_decide_eq_true ht) (by simp [slotAt, Ne.symm htu'])).trans g0'
  have e2 : (putE x a0 [(e, some t), (j, some u)]).eval (.tmp u) = x j := putE_new _ _ (by rw [hN]; exact of_decide_eq_true hu) (by simp [slotAt])
  have hg := keep_holds hC.2 h0
  obtain ⟨m1, m2, m3, m4, f1, f2, f3, f4⟩ := hg.four
  obtain ⟨hst, hh⟩ := stored_lo hg (noDig_bool (decide (x1 < 0))) (noDig_slice A l c1)
  refine wp_skp (w' := (w.setCell ⟨g, 0, none⟩ (.bool (decide (x1 < 0)))).setCell ⟨g, 1, none⟩ (.slice A l c1)) rfl ?_ (hK _ _ ?_ ?_)
  · exact ex_store e1 (e2.trans hx) (run_storeLo m1 m2 f1 f2)
  · rw [hi]; exact hst
  · rw [hi]; exact ⟨_, hh, A, l, c1, rfl, A, l, c1, rfl, hst.rr q1.1, q1.2⟩
set_option maxRecDepth 100000 in
set_option maxHeartbeats 1000000 in
theorem st_hi {t u e j g k : Nat} {x1 x2 : Int} {A1 : Option Addr} {l1 c1 : Nat} {c d : Value} (h0 : Holds_ W0 g #[.bool (decide (x1 < 0)), .slice A1 l1 c1, c, d]) (hz : Zr W0 (.agg #[.bool (decide (x1 < 0)), .slice A1 l1 c1]) k x1) (hN : a0.tmps.size = N) (ht : decide (t < N) = true) (hu : decide (u < N) = true) (htu : decide (t = u) = false) (he : at_ ks e = kIs (.pointer (some ⟨g, 2, none⟩))) (hj : at_ ks j = kZ k x2) (hi : at_ ks i = kRes g k x1 x2) :
    PkStep Tryz.prog (fun w => Reg B W0 [g] w ∧ w.heap[g]? = W0.heap[g]?) S0 ks a0 i { dst := none, op := .store 25 (.tmp t) (.tmp u), type := T, pos := pos, after := af, guard := gu } [(e, some t), (j, some u)] := by
  intro w x hC
  refine deps_all _ fun hdeps K hK => ?_
  have g0 := hdeps (e, some t) (by simp)
  have g1 := hdeps (j, some u) (by simp)
  rw [he] at g0
  rw [hj] at g1
  have g0' : x e = .pointer (some ⟨g, 2, none⟩) := g0
  obtain ⟨A, l, c2, hx, q1⟩ := (show Zr w (x j) k x2 from g1)
  have htu' : t ≠ u := of_decide_eq_false htu
  have e1 : (putE x a0 [(e, some t), (j, some u)]).eval (.tmp t) = .pointer (some ⟨g, 2, none⟩) := (putE_new _ _ (by rw [hN]; exact of_decide_eq_true ht) (by simp [slotAt, Ne.symm htu'])).trans g0'
  have e2 : (putE x a0 [(e, some t), (j, some u)]).eval (.tmp u) = x j := putE_new _ _ (by rw [hN]; exact of_decide_eq_true hu) (by simp [slotAt])
  have hg := keep_holds hC.2 h0
  obtain ⟨m1, m2, m3, m4, f1, f2, f3, f4⟩ := hg.four
  obtain ⟨hst, hh⟩ := stored_hi hg (noDig_bool (decide (x2 < 0))) (noDig_slice A l c2)
  obtain ⟨A1', l1', c1', ez, hz1⟩ := (hC.1.zr hz).stored hst
  injection ez with ez; injection ez with ez; injection ez with _ ez; injection ez with ez _; injection ez with qa qb qc; subst qa; subst qb; subst qc
  refine wp_skp (w' := (w.setCell ⟨g, 2, none⟩ (.bool (decide (x2 < 0)))).setCell ⟨g, 3, none⟩ (.slice A l c2)) rfl ?_ (hK _ _ ?_ ?_)
  · exact ex_store e1 (e2.trans hx) (run_storeHi m3 m4 f3 f4)
  · rw [hi]; exact hst
  · rw [hi]; exact ⟨_, hh, _, _, _, _, _, _, rfl, _, _, _, _, _, _, rfl, hz1, hst.rr q1.1, q1.2⟩
end
/-- A list of broken numbers, as a call gets it. -/
def PL (w : World) (v : Value) (l : List (Nat × Int × Int)) : Prop := ∃ g, v = .slice (some ⟨g, 0, none⟩) l.length l.length ∧ g < w.heap.size ∧ PRs w g l
theorem pl {S0 : Nat} {x : Nat → Value} {v : Value} {w : World} {l : List (Nat × Int × Int)} (h : (kPRs l).sem S0 x v w) : PL w v l := by
  obtain ⟨g, h1, _, h2, h3⟩ := h
  exact ⟨g, h1, h2, h3⟩
theorem Reg.prs {B : Nat} {W0 w : World} {G : List Nat} (h : Reg B W0 G w) {g : Nat} (hg : g ∉ G) {l : List (Nat × Int × Int)} (hl : PRs W0 g l) : PRs w g l := fun j q hj => by
  obtain ⟨A, m, c, A', m', c', h1, h2, h3, h4, A1, m1, c1, A2, m2, c2, e, h5, h6, h7⟩ := hl j q hj
  exact ⟨A, m, c, A', m', c', ((h.cell (cell_lt h1) hg _).1).trans h1, ((h.cell (cell_lt h2) hg _).1).trans h2, ((h.cell (cell_lt h3) hg _).1).trans h3, ((h.cell (cell_lt h4) hg _).1).trans h4, A1, m1, c1, A2, m2, c2, e, ⟨h.rr h5.1, h5.2⟩, h.rr h6, h7⟩
theorem Reg.holdsG {B : Nat} {W0 w : World} {G : List Nat} (h : Reg B W0 G w) {g : Nat} (hg : g ∉ G) {cs : Array Value} (hh : Holds_ W0 g cs) : Holds_ w g cs := by
  have hl := hh.lt
  obtain ⟨⟨T, e⟩, hn⟩ := hh
  exact ⟨⟨T, (h.old g hl hg).trans e⟩, hn⟩
theorem Pr.tight {W : World} {v : Value} {j k : Nat} {x y : Int} (h : Pr W v j x y) (hx : x.natAbs < 1000000000 ^ k) (hy : y.natAbs < 1000000000 ^ k) : Pr W v k x y := by
  obtain ⟨A, l, c, A', l', c', e, h1, h2, _⟩ := h
  exact ⟨A, l, c, A', l', c', e, ⟨h1.1, hx⟩, h2, hy⟩
theorem AtR.tight {W : World} {g o j k : Nat} {x : Int} (h : AtR W g o j x) (hx : x.natAbs < 1000000000 ^ k) : AtR W g o k x := by
  obtain ⟨A, l, c, h1, h2, A', l', c', e, h3, _⟩ := h
  exact ⟨A, l, c, h1, h2, A', l', c', e, h3, hx⟩
theorem PRs.lt {W : World} {g : Nat} {l : List (Nat × Int × Int)} (h : PRs W g l) {j : Nat} {q : Nat × Int × Int} (hj : l[j]? = some q) : q.2.1.natAbs < 1000000000 ^ q.1 ∧ q.2.2.natAbs < 1000000000 ^ q.1 := by
  obtain ⟨_, _, _, _, _, _, _, _, _, _, _, _, _, _, _, _, _, h5, _, h7⟩ := h j q hj
  exact ⟨h5.2, h7⟩
section
variable {C : World → Prop} {S0 : Nat} {ks : List PK} {a0 : Act} {i : Nat} {N : Nat} {P : Program} {T : TypeId} {pos : String} {af : Array Edge} {gu : Option (Nat × Bool)} {ats : Array TypeId}
set_option maxRecDepth 100000 in
theorem st_callM {d F F2 j1 t1 j2 t2 : Nat} {c1 c2 c : PK} (hN : a0.tmps.size = N) (hd : decide (d < N) = true) (ht1 : decide (t1 < N) = true) (ht2 : decide (t2 < N) = true) (hne : decide (t1 = t2) = false) (hF : enters P F = true) (h1 : at_ ks j1 = c1) (h2 : at_ ks j2 = c2) (hi : at_ ks i = c)
    (h : ∀ w x v1 v2, C w → c1.sem S0 x v1 w → c2.sem S0 x v2 w → Calls P F #[v1, .func (.func F2) #[] #[], v2] w (Told c S0 x w)) :
    PkStep P C S0 ks a0 i { dst := some d, op := .call { callee := .value (.func F), args := #[.tmp t1, .func F2, .tmp t2], argTypes := ats }, type := T, pos := pos, after := af, guard := gu } [(j1, some t1), (j2, some t2)] :=
  st_call (ss := [.dep j1, .val (.func (.func F2) #[] #[]), .dep j2]) hN (by simp [esIn]; exact ⟨of_decide_eq_true ht1, of_decide_eq_true ht2⟩) hd hF (by have := of_decide_eq_false hne; simp [src, slotAt, Ne.symm this]) fun w x hC hdeps => by
    have g1 := hdeps (j1, some t1) (by simp)
    have g2 := hdeps (j2, some t2) (by simp)
    rw [h1] at g1
    rw [h2] at g2
    rw [hi]
    exact h w x (x j1) (x j2) hC g1 g2
end
end Go.Proofs.YthgclmkhmcfflaaGreatDoor

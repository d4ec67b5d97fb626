/- Contracts of package ratio's small calls: plus, times, negated, turned, compare. Each at several sizes (the parts lie below that power of the base). Contracts of package ratio's calls over right ratios: isNone, isOne, Right, of. Contracts of package ratio's calls over right ratios: whole, Neg, Sub, Cmp. Contracts over right ratios: none, Whole, SameRatio and the law's own of that name. A step for a call of a function that came as a value (put in ratio.fold). Steps over ratios in variables and lists: a fresh variable, what is stored there, lists of two and of three, a load out of a list. A region that counts a slot on by two operations (a range loop's own counter). Steps for a function that tells a number in a variable of two cells: stored there, returned. And a region that counts by two operations. -/
import Derived.Test.YthgclmkhmcfflaaGreatDoorO1
import Derived.Test.YthgclmkhmcfflaaGreatDoorO2
import Derived.Test.YthgclmkhmcfflaaGreatDoorO3
namespace Go.Proofs.YthgclmkhmcfflaaGreatDoor
open Go.RowKit
theorem tp {P : Program} {F : FuncId} {vs : Array Value} {w : World} {S0 : Nat} {x : Nat → Value} {k : Nat} {z1 z2 : Int} (h : Calls P F vs w (TellsP w k z1 z2)) : Calls P F vs w (Told (kP k z1 z2) S0 x w) :=
  h.mono fun _ _ ⟨v, e, h1, h2⟩ => ⟨v, e, h2, h1⟩
set_option maxRecDepth 100000 in
set_option maxHeartbeats 4000000 in
theorem plus_9 {w : World} {v1 v2 : Value} {a b : Rat} (h1 : Pr w v1 9 (a.num) ((a.den : Int))) (h2 : Pr w v2 9 (b.num) ((b.den : Int))) :
    Calls Tryz.prog 38 #[v1, v2] w (TellsP w 19 (a + b).num ((a + b).den : Int)) := by
  obtain ⟨A1, l1, c1, A1', l1', c1', rfl, ⟨r1, u1⟩, r1', u1'⟩ := h1
  obtain ⟨b1, hb1⟩ : ∃ s, s = decide (a.num < 0) := ⟨_, rfl⟩
  obtain ⟨b1', hb1'⟩ : ∃ s, s = decide ((a.den : Int) < 0) := ⟨_, rfl⟩
  rw [← hb1, ← hb1']
  obtain ⟨A2, l2, c2, A2', l2', c2', rfl, ⟨r2, u2⟩, r2', u2'⟩ := h2
  obtain ⟨b2, hb2⟩ : ∃ s, s = decide (b.num < 0) := ⟨_, rfl⟩
  obtain ⟨b2', hb2'⟩ : ∃ s, s = decide ((b.den : Int) < 0) := ⟨_, rfl⟩
  rw [← hb2, ← hb2']
  have H1 := Lib.hid (show _ ∧ _ ∧ _ ∧ _ ∧ _ ∧ _ from ⟨hb1, hb1', r1, u1, r1', u1'⟩)
  have H2 := Lib.hid (show _ ∧ _ ∧ _ ∧ _ ∧ _ ∧ _ from ⟨hb2, hb2', r2, u2, r2', u2'⟩)
  clear hb1 hb1' r1 u1 r1' u1' hb2 hb2' r2 u2 r2' u2'
  go_enter Tryz.func38, Tryz.ntmps38
  repeat (refine wp_seq ?_)
  refine region_k ?_
  intro K hK
  have HK := Lib.hid hK
  clear hK
  go_wp2
  refine HK.out _ _ ?_
  clear HK
  refine then_n ?_
  obtain ⟨W_0, hW⟩ : ∃ W, W = ((w.alloc (Obj.cells #[Value.bool b1, Value.slice A1 l1 c1, Value.bool b1', Value.slice A1' l1' c1'] 53)).alloc (Obj.cells #[Value.bool b2, Value.slice A2 l2 c2, Value.bool b2', Value.slice A2' l2' c2'] 53)).alloc (Obj.cells #[Value.bool false, Value.slice none 0 0, Value.bool false, Value.slice none 0 0] 53) := ⟨_, rfl⟩
  have bb_0 : Below w.heap.size w W_0 := by rw [hW]; exact bal (bal (bal (Below.refl _ _) _) _) _
  have K0 : W_0.heap[w.heap.size]? = some (Obj.cells #[Value.bool b1, Value.slice A1 l1 c1, Value.bool b1', Value.slice A1' l1' c1'] 53) := by rw [hW]; rw [Below.heap_alloc _ _ _ (by simp <;> omega)]; rw [Below.heap_alloc _ _ _ (by simp <;> omega)]; exact new_at (by simp)
  have K1 : W_0.heap[w.heap.size + 1]? = some (Obj.cells #[Value.bool b2, Value.slice A2 l2 c2, Value.bool b2', Value.slice A2' l2' c2'] 53) := by rw [hW]; rw [Below.heap_alloc _ _ _ (by simp <;> omega)]; exact new_at (by simp)
  have K2 : W_0.heap[w.heap.size + 1 + 1]? = some (Obj.cells #[Value.bool false, Value.slice none 0 0, Value.bool false, Value.slice none 0 0] 53) := by rw [hW]; exact new_at (by simp)
  rw [← hW]
  obtain ⟨m1, n1, m1', n1', _, _, _, _⟩ := four_cells K0
  have f1 : AtR W_0 (w.heap.size) 0 9 (a.num) := ⟨A1, l1, c1, by rw [← H1.out.1]; exact m1, n1, A1, l1, c1, rfl, H1.out.2.2.1.below bb_0, H1.out.2.2.2.1⟩
  have f1' : AtR W_0 (w.heap.size) 2 9 ((a.den : Int)) := ⟨A1', l1', c1', by rw [← H1.out.2.1]; exact m1', n1', A1', l1', c1', rfl, H1.out.2.2.2.2.1.below bb_0, H1.out.2.2.2.2.2⟩
  obtain ⟨m2, n2, m2', n2', _, _, _, _⟩ := four_cells K1
  have f2 : AtR W_0 (w.heap.size + 1) 0 9 (b.num) := ⟨A2, l2, c2, by rw [← H2.out.1]; exact m2, n2, A2, l2, c2, rfl, H2.out.2.2.1.below bb_0, H2.out.2.2.2.1⟩
  have f2' : AtR W_0 (w.heap.size + 1) 2 9 ((b.den : Int)) := ⟨A2', l2', c2', by rw [← H2.out.2.1]; exact m2', n2', A2', l2', c2', rfl, H2.out.2.2.2.2.1.below bb_0, H2.out.2.2.2.2.2⟩
  have R : Holds_ W_0 (w.heap.size + 1 + 1) #[Value.bool false, Value.slice none 0 0, Value.bool false, Value.slice none 0 0] := ⟨⟨_, K2⟩, by simp [noDig]⟩
  clear hW K0 K1 K2 m1 n1 m1' n1' m2 n2 m2' n2'
  refine name_frame (G := fun a => Code.wp _ _ _ a _) ?_
  intro a_0 ha
  have hN_0 : a_0.tmps.size = 32 := by subst ha; kernel_rfl
  have hD_0 : a_0.defers = [] := by subst ha; rfl
  have e2_0 : a_0.eval (.tmp 2) = .pointer (some ⟨w.heap.size, 0, none⟩) := by subst ha; kernel_rfl
  have e3_0 : a_0.eval (.tmp 3) = .pointer (some ⟨w.heap.size + 1, 0, none⟩) := by subst ha; kernel_rfl
  have e4_0 : a_0.eval (.tmp 4) = .pointer (some ⟨w.heap.size + 1 + 1, 0, none⟩) := by subst ha; kernel_rfl
  clear ha
  repeat (first | refine wp_seq ?_ | (refine wp_skip ?_; refine then_n ?_))
  refine wp_region_res hN_0 w.heap.size (w.heap.size + 1 + 1) R (by omega)
    [kIs (.pointer (some ⟨w.heap.size, 0, none⟩)), kIs (.pointer (some ⟨w.heap.size, 0, none⟩)), kZ 9 (a.num), kIs (.pointer (some ⟨w.heap.size + 1, 0, none⟩)), kIs (.pointer (some ⟨w.heap.size + 1, 2, none⟩)), kZ 9 ((b.den : Int)), kZs [(9, (a.num)), (9, ((b.den : Int)))], kZ 18 ((a.num) * ((b.den : Int))), kIs (.pointer (some ⟨w.heap.size + 1, 0, none⟩)), kIs (.pointer (some ⟨w.heap.size + 1, 0, none⟩)), kZ 9 (b.num), kIs (.pointer (some ⟨w.heap.size, 0, none⟩)), kIs (.pointer (some ⟨w.heap.size, 2, none⟩)), kZ 9 ((a.den : Int)), kZs [(9, (b.num)), (9, ((a.den : Int)))], kZ 18 ((b.num) * ((a.den : Int))), kZs [(18, ((a.num) * ((b.den : Int)))), (18, ((b.num) * ((a.den : Int))))], kZ 19 (((a.num) * ((b.den : Int))) + ((b.num) * ((a.den : Int)))), kIs (.pointer (some ⟨w.heap.size, 0, none⟩)), kIs (.pointer (some ⟨w.heap.size, 2, none⟩)), kZ 9 ((a.den : Int)), kIs (.pointer (some ⟨w.heap.size + 1, 0, none⟩)), kIs (.pointer (some ⟨w.heap.size + 1, 2, none⟩)), kZ 9 ((b.den : Int)), kZs [(9, ((a.den : Int))), (9, ((b.den : Int)))], kZ 18 (((a.den : Int)) * ((b.den : Int))), kP 19 ((Rat.divInt (((a.num) * ((b.den : Int))) + ((b.num) * ((a.den : Int)))) (((a.den : Int)) * ((b.den : Int)))).num) (((Rat.divInt (((a.num) * ((b.den : Int))) + ((b.num) * ((a.den : Int)))) (((a.den : Int)) * ((b.den : Int)))).den : Int)), kRes (w.heap.size + 1 + 1) 19 ((Rat.divInt (((a.num) * ((b.den : Int))) + ((b.num) * ((a.den : Int)))) (((a.den : Int)) * ((b.den : Int)))).num) (((Rat.divInt (((a.num) * ((b.den : Int))) + ((b.num) * ((a.den : Int)))) (((a.den : Int)) * ((b.den : Int)))).den : Int))]
    [ [], [(0, some 5)], [(1, some 6)], [], [(3, some 8)], [(4, some 9)], [(2, some 7), (5, some 10)], [(6, some 11)], [], [(8, some 13)], [(9, some 14)], [], [(11, some 16)], [(12, some 17)], [(10, some 15), (13, some 18)], [(14, some 19)], [(7, some 12), (15, some 20)], [(16, some 21)], [], [(18, some 23)], [(19, some 24)], [], [(21, some 26)], [(22, some 27)], [(20, some 25), (23, some 28)], [(24, some 29)], [(17, some 22), (25, some 30)], [(26, some 31)] ]
    [(0, some 5), (1, some 6), (2, some 7), (3, some 8), (4, some 9), (5, some 10), (6, some 11), (7, some 12), (8, some 13), (9, some 14), (10, some 15), (11, some 16), (12, some 17), (13, some 18), (14, some 19), (15, some 20), (16, some 21), (17, some 22), (18, some 23), (19, some 24), (20, some 25), (21, some 26), (22, some 27), (23, some 28), (24, some 29), (25, some 30), (26, some 31), (27, none)] [] [] (by kernel_rfl) (by kernel_rfl) (by kernel_rfl) (by kernel_rfl) (by kernel_rfl) (by kernel_rfl) (by kernel_rfl) bb_0.size ?_ ?_
  ·
    refine pk_cons rfl rfl (st_pure [] [(2, .pointer (some ⟨w.heap.size, 0, none⟩))] (.pointer (some ⟨w.heap.size, 0, none⟩)) rfl hN_0 (by kernel_rfl) (by kernel_rfl) (by kernel_rfl) (old1 e2_0) (by kernel_rfl) (by kernel_rfl) (by kernel_rfl) (fun _ => by kernel_rfl)) ?_
    refine pk_cons rfl rfl (st_pure [.pointer (some ⟨w.heap.size, 0, none⟩)] [] (.pointer (some ⟨w.heap.size, 0, none⟩)) rfl hN_0 (by kernel_rfl) (by kernel_rfl) (by kernel_rfl) old0 (by kernel_rfl) (by kernel_rfl) (by kernel_rfl) (fun _ => by kernel_rfl)) ?_
    refine pk_cons rfl rfl (st_loadA f1 (by simp only [List.mem_singleton]; omega) hN_0 (by kernel_rfl) (by kernel_rfl) rfl rfl) ?_
    refine pk_cons rfl rfl (st_pure [] [(3, .pointer (some ⟨w.heap.size + 1, 0, none⟩))] (.pointer (some ⟨w.heap.size + 1, 0, none⟩)) rfl hN_0 (by kernel_rfl) (by kernel_rfl) (by kernel_rfl) (old1 e3_0) (by kernel_rfl) (by kernel_rfl) (by kernel_rfl) (fun _ => by kernel_rfl)) ?_
    refine pk_cons rfl rfl (st_pure [.pointer (some ⟨w.heap.size + 1, 0, none⟩)] [] (.pointer (some ⟨w.heap.size + 1, 2, none⟩)) rfl hN_0 (by kernel_rfl) (by kernel_rfl) (by kernel_rfl) old0 (by kernel_rfl) (by kernel_rfl) (by kernel_rfl) (fun _ => by kernel_rfl)) ?_
    refine pk_cons rfl rfl (st_loadA f2' (by simp only [List.mem_singleton]; omega) hN_0 (by kernel_rfl) (by kernel_rfl) rfl rfl) ?_
    refine pk_cons rfl rfl (st_list2 hN_0 (by kernel_rfl) (by kernel_rfl) (by kernel_rfl) (by kernel_rfl) (Nat.le_refl _) asR asR rfl) ?_
    refine pk_cons rfl rfl (st_call1 hN_0 (by kernel_rfl) (by kernel_rfl) (by kernel_rfl) rfl rfl fun w x v1 hC h1 => tz (l_mul2 18 (lz h1) (by decide) (by decide) (by decide))) ?_
    refine pk_cons rfl rfl (st_pure [] [(3, .pointer (some ⟨w.heap.size + 1, 0, none⟩))] (.pointer (some ⟨w.heap.size + 1, 0, none⟩)) rfl hN_0 (by kernel_rfl) (by kernel_rfl) (by kernel_rfl) (old1 e3_0) (by kernel_rfl) (by kernel_rfl) (by kernel_rfl) (fun _ => by kernel_rfl)) ?_
    refine pk_cons rfl rfl (st_pure [.pointer (some ⟨w.heap.size + 1, 0, none⟩)] [] (.pointer (some ⟨w.heap.size + 1, 0, none⟩)) rfl hN_0 (by kernel_rfl) (by kernel_rfl) (by kernel_rfl) old0 (by kernel_rfl) (by kernel_rfl) (by kernel_rfl) (fun _ => by kernel_rfl)) ?_
    refine pk_cons rfl rfl (st_loadA f2 (by simp only [List.mem_singleton]; omega) hN_0 (by kernel_rfl) (by kernel_rfl) rfl rfl) ?_
    refine pk_cons rfl rfl (st_pure [] [(2, .pointer (some ⟨w.heap.size, 0, none⟩))] (.pointer (some ⟨w.heap.size, 0, none⟩)) rfl hN_0 (by kernel_rfl) (by kernel_rfl) (by kernel_rfl) (old1 e2_0) (by kernel_rfl) (by kernel_rfl) (by kernel_rfl) (fun _ => by kernel_rfl)) ?_
    refine pk_cons rfl rfl (st_pure [.pointer (some ⟨w.heap.size, 0, none⟩)] [] (.pointer (some ⟨w.heap.size, 2, none⟩)) rfl hN_0 (by kernel_rfl) (by kernel_rfl) (by kernel_rfl) old0 (by kernel_rfl) (by kernel_rfl) (by kernel_rfl) (fun _ => by kernel_rfl)) ?_
    refine pk_cons rfl rfl (st_loadA f1' (by simp only [List.mem_singleton]; omega) hN_0 (by kernel_rfl) (by kernel_rfl) rfl rfl) ?_
    refine pk_cons rfl rfl (st_list2 hN_0 (by kernel_rfl) (by kernel_rfl) (by kernel_rfl) (by kernel_rfl) (Nat.le_refl _) asR asR rfl) ?_
    refine pk_cons rfl rfl (st_call1 hN_0 (by kernel_rfl) (by kernel_rfl) (by kernel_rfl) rfl rfl fun w x v1 hC h1 => tz (l_mul2 18 (lz h1) (by decide) (by decide) (by decide))) ?_
    refine pk_cons rfl rfl (st_list2 hN_0 (by kernel_rfl) (by kernel_rfl) (by kernel_rfl) (by kernel_rfl) (Nat.le_refl _) asR asR rfl) ?_
    refine pk_cons rfl rfl (st_call1 hN_0 (by kernel_rfl) (by kernel_rfl) (by kernel_rfl) rfl rfl fun w x v1 hC h1 => tz (l_add2 19 (lz h1) (by decide) (by decide) (by decide))) ?_
    refine pk_cons rfl rfl (st_pure [] [(2, .pointer (some ⟨w.heap.size, 0, none⟩))] (.pointer (some ⟨w.heap.size, 0, none⟩)) rfl hN_0 (by kernel_rfl) (by kernel_rfl) (by kernel_rfl) (old1 e2_0) (by kernel_rfl) (by kernel_rfl) (by kernel_rfl) (fun _ => by kernel_rfl)) ?_
    refine pk_cons rfl rfl (st_pure [.pointer (some ⟨w.heap.size, 0, none⟩)] [] (.pointer (some ⟨w.heap.size, 2, none⟩)) rfl hN_0 (by kernel_rfl) (by kernel_rfl) (by kernel_rfl) old0 (by kernel_rfl) (by kernel_rfl) (by kernel_rfl) (fun _ => by kernel_rfl)) ?_
    refine pk_cons rfl rfl (st_loadA f1' (by simp only [List.mem_singleton]; omega) hN_0 (by kernel_rfl) (by kernel_rfl) rfl rfl) ?_
    refine pk_cons rfl rfl (st_pure [] [(3, .pointer (some ⟨w.heap.size + 1, 0, none⟩))] (.pointer (some ⟨w.heap.size + 1, 0, none⟩)) rfl hN_0 (by kernel_rfl) (by kernel_rfl) (by kernel_rfl) (old1 e3_0) (by kernel_rfl) (by kernel_rfl) (by kernel_rfl) (fun _ => by kernel_rfl)) ?_
    refine pk_cons rfl rfl (st_pure [.pointer (some ⟨w.heap.size + 1, 0, none⟩)] [] (.pointer (some ⟨w.heap.size + 1, 2, none⟩)) rfl hN_0 (by kernel_rfl) (by kernel_rfl) (by kernel_rfl) old0 (by kernel_rfl) (by kernel_rfl) (by kernel_rfl) (fun _ => by kernel_rfl)) ?_
    refine pk_cons rfl rfl (st_loadA f2' (by simp only [List.mem_singleton]; omega) hN_0 (by kernel_rfl) (by kernel_rfl) rfl rfl) ?_
    refine pk_cons rfl rfl (st_list2 hN_0 (by kernel_rfl) (by kernel_rfl) (by kernel_rfl) (by kernel_rfl) (Nat.le_refl _) asR asR rfl) ?_
    refine pk_cons rfl rfl (st_call1 hN_0 (by kernel_rfl) (by kernel_rfl) (by kernel_rfl) rfl rfl fun w x v1 hC h1 => tz (l_mul2 18 (lz h1) (by decide) (by decide) (by decide))) ?_
    refine pk_cons rfl rfl (st_call2 hN_0 (by kernel_rfl) (by kernel_rfl) (by kernel_rfl) (by kernel_rfl) (by kernel_rfl) rfl rfl rfl fun w x v1 v2 hC h1 h2 => tp (lowest_q (k := 19) ((rr h1).mono (by decide)) ((rr h2).mono (by decide)) (Int.mul_ne_zero (Int.ne_of_gt (den_pos a)) (Int.ne_of_gt (den_pos b))) (by decide) (by decide))) ?_
    refine pk_cons rfl rfl (st_resF R rfl (by simp) e4_0 hN_0 (by kernel_rfl) (by kernel_rfl) rfl rfl) ?_
    exact pk_nil rfl
  intro W x hC hall
  refine then_n ?_
  obtain ⟨a1, ha⟩ : ∃ a, a = putE x a_0 [(0, some 5), (1, some 6), (2, some 7), (3, some 8), (4, some 9), (5, some 10), (6, some 11), (7, some 12), (8, some 13), (9, some 14), (10, some 15), (11, some 16), (12, some 17), (13, some 18), (14, some 19), (15, some 20), (16, some 21), (17, some 22), (18, some 23), (19, some 24), (20, some 25), (21, some 26), (22, some 27), (23, some 28), (24, some 29), (25, some 30), (26, some 31), (27, none)] := ⟨_, rfl⟩
  rw [← ha]
  have hD1 := defers_behind ha hD_0
  have bb1 := bb_0.trans hC.below
  obtain ⟨cs, hg, hP⟩ := (show (kRes (w.heap.size + 1 + 1) 19 ((Rat.divInt (((a.num) * ((b.den : Int))) + ((b.num) * ((a.den : Int)))) (((a.den : Int)) * ((b.den : Int)))).num) (((Rat.divInt (((a.num) * ((b.den : Int))) + ((b.num) * ((a.den : Int)))) (((a.den : Int)) * ((b.den : Int)))).den : Int))).sem _ _ _ _ from hall 27 (of_decide_eq_true (by kernel_rfl)))
  have e1 := slot_old (t := 4) ha (by kernel_rfl) e4_0
  repeat (first | refine wp_seq ?_ | (refine wp_skip ?_; refine then_n ?_))
  refine wp_ret ?_
  repeat (refine then_r ?_)
  exact ret_cellF (t := 4) rfl hD1 e1 hg hP fun v hv => ⟨v, rfl, (q_add a b) ▸ hv, bb1⟩
set_option maxRecDepth 100000 in
set_option maxHeartbeats 4000000 in
theorem compare_9 {w : World} {v1 v2 : Value} {a b : Rat} (h1 : Pr w v1 9 (a.num) ((a.den : Int))) (h2 : Pr w v2 9 (b.num) ((b.den : Int))) :
    Calls Tryz.prog 47 #[v1, v2] w (fun e w' => e = .returned (.int .i64 (ordI ((a.num) * ((b.den : Int))) ((b.num) * ((a.den : Int))))) ∧ Below w.heap.size w w') := by
  obtain ⟨A1, l1, c1, A1', l1', c1', rfl, ⟨r1, u1⟩, r1', u1'⟩ := h1
  obtain ⟨b1, hb1⟩ : ∃ s, s = decide (a.num < 0) := ⟨_, rfl⟩
  obtain ⟨b1', hb1'⟩ : ∃ s, s = decide ((a.den : Int) < 0) := ⟨_, rfl⟩
  rw [← hb1, ← hb1']
  obtain ⟨A2, l2, c2, A2', l2', c2', rfl, ⟨r2, u2⟩, r2', u2'⟩ := h2
  obtain ⟨b2, hb2⟩ : ∃ s, s = decide (b.num < 0) := ⟨_, rfl⟩
  obtain ⟨b2', hb2'⟩ : ∃ s, s = decide ((b.den : Int) < 0) := ⟨_, rfl⟩
  rw [← hb2, ← hb2']
  have H1 := Lib.hid (show _ ∧ _ ∧ _ ∧ _ ∧ _ ∧ _ from ⟨hb1, hb1', r1, u1, r1', u1'⟩)
  have H2 := Lib.hid (show _ ∧ _ ∧ _ ∧ _ ∧ _ ∧ _ from ⟨hb2, hb2', r2, u2, r2', u2'⟩)
  clear hb1 hb1' r1 u1 r1' u1' hb2 hb2' r2 u2 r2' u2'
  go_enter Tryz.func47, Tryz.ntmps47
  repeat (refine wp_seq ?_)
  refine region_k ?_
  intro K hK
  have HK := Lib.hid hK
  clear hK
  go_wp2
  refine HK.out _ _ ?_
  clear HK
  refine then_n ?_
  obtain ⟨W_0, hW⟩ : ∃ W, W = (w.alloc (Obj.cells #[Value.bool b1, Value.slice A1 l1 c1, Value.bool b1', Value.slice A1' l1' c1'] 53)).alloc (Obj.cells #[Value.bool b2, Value.slice A2 l2 c2, Value.bool b2', Value.slice A2' l2' c2'] 53) := ⟨_, rfl⟩
  have bb_0 : Below w.heap.size w W_0 := by rw [hW]; exact bal (bal (Below.refl _ _) _) _
  have K0 : W_0.heap[w.heap.size]? = some (Obj.cells #[Value.bool b1, Value.slice A1 l1 c1, Value.bool b1', Value.slice A1' l1' c1'] 53) := by rw [hW]; rw [Below.heap_alloc _ _ _ (by simp <;> omega)]; exact new_at (by simp)
  have K1 : W_0.heap[w.heap.size + 1]? = some (Obj.cells #[Value.bool b2, Value.slice A2 l2 c2, Value.bool b2', Value.slice A2' l2' c2'] 53) := by rw [hW]; exact new_at (by simp)
  rw [← hW]
  obtain ⟨m1, n1, m1', n1', _, _, _, _⟩ := four_cells K0
  have f1 : AtR W_0 (w.heap.size) 0 9 (a.num) := ⟨A1, l1, c1, by rw [← H1.out.1]; exact m1, n1, A1, l1, c1, rfl, H1.out.2.2.1.below bb_0, H1.out.2.2.2.1⟩
  have f1' : AtR W_0 (w.heap.size) 2 9 ((a.den : Int)) := ⟨A1', l1', c1', by rw [← H1.out.2.1]; exact m1', n1', A1', l1', c1', rfl, H1.out.2.2.2.2.1.below bb_0, H1.out.2.2.2.2.2⟩
  obtain ⟨m2, n2, m2', n2', _, _, _, _⟩ := four_cells K1
  have f2 : AtR W_0 (w.heap.size + 1) 0 9 (b.num) := ⟨A2, l2, c2, by rw [← H2.out.1]; exact m2, n2, A2, l2, c2, rfl, H2.out.2.2.1.below bb_0, H2.out.2.2.2.1⟩
  have f2' : AtR W_0 (w.heap.size + 1) 2 9 ((b.den : Int)) := ⟨A2', l2', c2', by rw [← H2.out.2.1]; exact m2', n2', A2', l2', c2', rfl, H2.out.2.2.2.2.1.below bb_0, H2.out.2.2.2.2.2⟩
  clear hW K0 K1 m1 n1 m1' n1' m2 n2 m2' n2'
  refine name_frame (G := fun a => Code.wp _ _ _ a _) ?_
  intro a_0 ha
  have hN_0 : a_0.tmps.size = 22 := by subst ha; kernel_rfl
  have hD_0 : a_0.defers = [] := by subst ha; rfl
  have e2_0 : a_0.eval (.tmp 2) = .pointer (some ⟨w.heap.size, 0, none⟩) := by subst ha; kernel_rfl
  have e3_0 : a_0.eval (.tmp 3) = .pointer (some ⟨w.heap.size + 1, 0, none⟩) := by subst ha; kernel_rfl
  clear ha
  repeat (first | refine wp_seq ?_ | (refine wp_skip ?_; refine then_n ?_))
  refine wp_region_law hN_0 w.heap.size
    [kIs (.pointer (some ⟨w.heap.size, 0, none⟩)), kIs (.pointer (some ⟨w.heap.size, 0, none⟩)), kZ 9 (a.num), kIs (.pointer (some ⟨w.heap.size + 1, 0, none⟩)), kIs (.pointer (some ⟨w.heap.size + 1, 2, none⟩)), kZ 9 ((b.den : Int)), kZs [(9, (a.num)), (9, ((b.den : Int)))], kZ 18 ((a.num) * ((b.den : Int))), kIs (.pointer (some ⟨w.heap.size + 1, 0, none⟩)), kIs (.pointer (some ⟨w.heap.size + 1, 0, none⟩)), kZ 9 (b.num), kIs (.pointer (some ⟨w.heap.size, 0, none⟩)), kIs (.pointer (some ⟨w.heap.size, 2, none⟩)), kZ 9 ((a.den : Int)), kZs [(9, (b.num)), (9, ((a.den : Int)))], kZ 18 ((b.num) * ((a.den : Int))), kIs (.int .i64 (ordI ((a.num) * ((b.den : Int))) ((b.num) * ((a.den : Int))))), kIs (.int .i64 (ordI ((a.num) * ((b.den : Int))) ((b.num) * ((a.den : Int)))))]
    [ [], [(0, some 5)], [(1, some 6)], [], [(3, some 8)], [(4, some 9)], [(2, some 7), (5, some 10)], [(6, some 11)], [], [(8, some 13)], [(9, some 14)], [], [(11, some 16)], [(12, some 17)], [(10, some 15), (13, some 18)], [(14, some 19)], [(7, some 12), (15, some 20)], [(16, some 21)] ]
    [(0, some 5), (1, some 6), (2, some 7), (3, some 8), (4, some 9), (5, some 10), (6, some 11), (7, some 12), (8, some 13), (9, some 14), (10, some 15), (11, some 16), (12, some 17), (13, some 18), (14, some 19), (15, some 20), (16, some 21), (17, some 4)] [] [] (by kernel_rfl) (by kernel_rfl) (by kernel_rfl) (by kernel_rfl) (by kernel_rfl) (by kernel_rfl) (by kernel_rfl) bb_0.size ?_ ?_
  ·
    refine pk_cons rfl rfl (st_pure [] [(2, .pointer (some ⟨w.heap.size, 0, none⟩))] (.pointer (some ⟨w.heap.size, 0, none⟩)) rfl hN_0 (by kernel_rfl) (by kernel_rfl) (by kernel_rfl) (old1 e2_0) (by kernel_rfl) (by kernel_rfl) (by kernel_rfl) (fun _ => by kernel_rfl)) ?_
    refine pk_cons rfl rfl (st_pure [.pointer (some ⟨w.heap.size, 0, none⟩)] [] (.pointer (some ⟨w.heap.size, 0, none⟩)) rfl hN_0 (by kernel_rfl) (by kernel_rfl) (by kernel_rfl) old0 (by kernel_rfl) (by kernel_rfl) (by kernel_rfl) (fun _ => by kernel_rfl)) ?_
    refine pk_cons rfl rfl (st_loadA f1 (by simp) hN_0 (by kernel_rfl) (by kernel_rfl) rfl rfl) ?_
    refine pk_cons rfl rfl (st_pure [] [(3, .pointer (some ⟨w.heap.size + 1, 0, none⟩))] (.pointer (some ⟨w.heap.size + 1, 0, none⟩)) rfl hN_0 (by kernel_rfl) (by kernel_rfl) (by kernel_rfl) (old1 e3_0) (by kernel_rfl) (by kernel_rfl) (by kernel_rfl) (fun _ => by kernel_rfl)) ?_
    refine pk_cons rfl rfl (st_pure [.pointer (some ⟨w.heap.size + 1, 0, none⟩)] [] (.pointer (some ⟨w.heap.size + 1, 2, none⟩)) rfl hN_0 (by kernel_rfl) (by kernel_rfl) (by kernel_rfl) old0 (by kernel_rfl) (by kernel_rfl) (by kernel_rfl) (fun _ => by kernel_rfl)) ?_
    refine pk_cons rfl rfl (st_loadA f2' (by simp) hN_0 (by kernel_rfl) (by kernel_rfl) rfl rfl) ?_
    refine pk_cons rfl rfl (st_list2 hN_0 (by kernel_rfl) (by kernel_rfl) (by kernel_rfl) (by kernel_rfl) (Nat.le_refl _) asR asR rfl) ?_
    refine pk_cons rfl rfl (st_call1 hN_0 (by kernel_rfl) (by kernel_rfl) (by kernel_rfl) rfl rfl fun w x v1 hC h1 => tz (l_mul2 18 (lz h1) (by decide) (by decide) (by decide))) ?_
    refine pk_cons rfl rfl (st_pure [] [(3, .pointer (some ⟨w.heap.size + 1, 0, none⟩))] (.pointer (some ⟨w.heap.size + 1, 0, none⟩)) rfl hN_0 (by kernel_rfl) (by kernel_rfl) (by kernel_rfl) (old1 e3_0) (by kernel_rfl) (by kernel_rfl) (by kernel_rfl) (fun _ => by kernel_rfl)) ?_
    refine pk_cons rfl rfl (st_pure [.pointer (some ⟨w.heap.size + 1, 0, none⟩)] [] (.pointer (some ⟨w.heap.size + 1, 0, none⟩)) rfl hN_0 (by kernel_rfl) (by kernel_rfl) (by kernel_rfl) old0 (by kernel_rfl) (by kernel_rfl) (by kernel_rfl) (fun _ => by kernel_rfl)) ?_
    refine pk_cons rfl rfl (st_loadA f2 (by simp) hN_0 (by kernel_rfl) (by kernel_rfl) rfl rfl) ?_
    refine pk_cons rfl rfl (st_pure [] [(2, .pointer (some ⟨w.heap.size, 0, none⟩))] (.pointer (some ⟨w.heap.size, 0, none⟩)) rfl hN_0 (by kernel_rfl) (by kernel_rfl) (by kernel_rfl) (old1 e2_0) (by kernel_rfl) (by kernel_rfl) (by kernel_rfl) (fun _ => by kernel_rfl)) ?_
    refine pk_cons rfl rfl (st_pure [.pointer (some ⟨w.heap.size, 0, none⟩)] [] (.pointer (some ⟨w.heap.size, 2, none⟩)) rfl hN_0 (by kernel_rfl) (by kernel_rfl) (by kernel_rfl) old0 (by kernel_rfl) (by kernel_rfl) (by kernel_rfl) (fun _ => by kernel_rfl)) ?_
    refine pk_cons rfl rfl (st_loadA f1' (by simp) hN_0 (by kernel_rfl) (by kernel_rfl) rfl rfl) ?_
    refine pk_cons rfl rfl (st_list2 hN_0 (by kernel_rfl) (by kernel_rfl) (by kernel_rfl) (by kernel_rfl) (Nat.le_refl _) asR asR rfl) ?_
    refine pk_cons rfl rfl (st_call1 hN_0 (by kernel_rfl) (by kernel_rfl) (by kernel_rfl) rfl rfl fun w x v1 hC h1 => tz (l_mul2 18 (lz h1) (by decide) (by decide) (by decide))) ?_
    refine pk_cons rfl rfl (st_call2 hN_0 (by kernel_rfl) (by kernel_rfl) (by kernel_rfl) (by kernel_rfl) (by kernel_rfl) rfl rfl rfl fun w x v1 v2 hC h1 h2 => ti (z_cmp (rz h1) (rz h2) (by decide) (by decide))) ?_
    refine pk_cons rfl rfl (st_pure [.int .i64 (ordI ((a.num) * ((b.den : Int))) ((b.num) * ((a.den : Int))))] [] (.int .i64 (ordI ((a.num) * ((b.den : Int))) ((b.num) * ((a.den : Int))))) rfl hN_0 (by kernel_rfl) (by kernel_rfl) (by kernel_rfl) old0 (by kernel_rfl) (by kernel_rfl) (by kernel_rfl) (fun _ => by kernel_rfl)) ?_
    exact pk_nil rfl
  intro W x hC hall
  refine then_n ?_
  obtain ⟨a1, ha⟩ : ∃ a, a = putE x a_0 [(0, some 5), (1, some 6), (2, some 7), (3, some 8), (4, some 9), (5, some 10), (6, some 11), (7, some 12), (8, some 13), (9, some 14), (10, some 15), (11, some 16), (12, some 17), (13, some 18), (14, some 19), (15, some 20), (16, some 21), (17, some 4)] := ⟨_, rfl⟩
  rw [← ha]
  have hD1 := defers_behind ha hD_0
  have bb1 := bb_0.trans hC.below
  have e1 := (slot_new (t := 4) (i := 17) ha hN_0 (by kernel_rfl) (by kernel_rfl)).trans (show x 17 = .int .i64 (ordI ((a.num) * ((b.den : Int))) ((b.num) * ((a.den : Int)))) from hall 17 (of_decide_eq_true (by kernel_rfl)))
  repeat (first | refine wp_seq ?_ | (refine wp_skip ?_; refine then_n ?_))
  refine wp_ret ?_
  repeat (refine then_r ?_)
  exact ret_one (t := 4) rfl hD1 e1 ⟨rfl, bb1⟩
set_option maxRecDepth 100000 in
set_option maxHeartbeats 4000000 in
theorem plus_19 {w : World} {v1 v2 : Value} {a b : Rat} (h1 : Pr w v1 19 (a.num) ((a.den : Int))) (h2 : Pr w v2 19 (b.num) ((b.den : Int))) :
    Calls Tryz.prog 38 #[v1, v2] w (TellsP w 39 (a + b).num ((a + b).den : Int)) := by
  obtain ⟨A1, l1, c1, A1', l1', c1', rfl, ⟨r1, u1⟩, r1', u1'⟩ := h1
  obtain ⟨b1, hb1⟩ : ∃ s, s = decide (a.num < 0) := ⟨_, rfl⟩
  obtain ⟨b1', hb1'⟩ : ∃ s, s = decide ((a.den : Int) < 0) := ⟨_, rfl⟩
  rw [← hb1, ← hb1']
  obtain ⟨A2, l2, c2, A2', l2', c2', rfl, ⟨r2, u2⟩, r2', u2'⟩ := h2
  obtain ⟨b2, hb2⟩ : ∃ s, s = decide (b.num < 0) := ⟨_, rfl⟩
  obtain ⟨b2', hb2'⟩ : ∃ s, s = decide ((b.den : Int) < 0) := ⟨_, rfl⟩
  rw [← hb2, ← hb2']
  have H1 := Lib.hid (show _ ∧ _ ∧ _ ∧ _ ∧ _ ∧ _ from ⟨hb1, hb1', r1, u1, r1', u1'⟩)
  have H2 := Lib.hid (show _ ∧ _ ∧ _ ∧ _ ∧ _ ∧ _ from ⟨hb2, hb2', r2, u2, r2', u2'⟩)
  clear hb1 hb1' r1 u1 r1' u1' hb2 hb2' r2 u2 r2' u2'
  go_enter Tryz.func38, Tryz.ntmps38
  repeat (refine wp_seq ?_)
  refine region_k ?_
  intro K hK
  have HK := Lib.hid hK
  clear hK
  go_wp2
  refine HK.out _ _ ?_
  clear HK
  refine then_n ?_
  obtain ⟨W_0, hW⟩ : ∃ W, W = ((w.alloc (Obj.cells #[Value.bool b1, Value.slice A1 l1 c1, Value.bool b1', Value.slice A1' l1' c1'] 53)).alloc (Obj.cells #[Value.bool b2, Value.slice A2 l2 c2, Value.bool b2', Value.slice A2' l2' c2'] 53)).alloc (Obj.cells #[Value.bool false, Value.slice none 0 0, Value.bool false, Value.slice none 0 0] 53) := ⟨_, rfl⟩
  have bb_0 : Below w.heap.size w W_0 := by rw [hW]; exact bal (bal (bal (Below.refl _ _) _) _) _
  have K0 : W_0.heap[w.heap.size]? = some (Obj.cells #[Value.bool b1, Value.slice A1 l1 c1, Value.bool b1', Value.slice A1' l1' c1'] 53) := by rw [hW]; rw [Below.heap_alloc _ _ _ (by simp <;> omega)]; rw [Below.heap_alloc _ _ _ (by simp <;> omega)]; exact new_at (by simp)
  have K1 : W_0.heap[w.heap.size + 1]? = some (Obj.cells #[Value.bool b2, Value.slice A2 l2 c2, Value.bool b2', Value.slice A2' l2' c2'] 53) := by rw [hW]; rw [Below.heap_alloc _ _ _ (by simp <;> omega)]; exact new_at (by simp)
  have K2 : W_0.heap[w.heap.size + 1 + 1]? = some (Obj.cells #[Value.bool false, Value.slice none 0 0, Value.bool false, Value.slice none 0 0] 53) := by rw [hW]; exact new_at (by simp)
  rw [← hW]
  obtain ⟨m1, n1, m1', n1', _, _, _, _⟩ := four_cells K0
  have f1 : AtR W_0 (w.heap.size) 0 19 (a.num) := ⟨A1, l1, c1, by rw [← H1.out.1]; exact m1, n1, A1, l1, c1, rfl, H1.out.2.2.1.below bb_0, H1.out.2.2.2.1⟩
  have f1' : AtR W_0 (w.heap.size) 2 19 ((a.den : Int)) := ⟨A1', l1', c1', by rw [← H1.out.2.1]; exact m1', n1', A1', l1', c1', rfl, H1.out.2.2.2.2.1.below bb_0, H1.out.2.2.2.2.2⟩
  obtain ⟨m2, n2, m2', n2', _, _, _, _⟩ := four_cells K1
  have f2 : AtR W_0 (w.heap.size + 1) 0 19 (b.num) := ⟨A2, l2, c2, by rw [← H2.out.1]; exact m2, n2, A2, l2, c2, rfl, H2.out.2.2.1.below bb_0, H2.out.2.2.2.1⟩
  have f2' : AtR W_0 (w.heap.size + 1) 2 19 ((b.den : Int)) := ⟨A2', l2', c2', by rw [← H2.out.2.1]; exact m2', n2', A2', l2', c2', rfl, H2.out.2.2.2.2.1.below bb_0, H2.out.2.2.2.2.2⟩
  have R : Holds_ W_0 (w.heap.size + 1 + 1) #[Value.bool false, Value.slice none 0 0, Value.bool false, Value.slice none 0 0] := ⟨⟨_, K2⟩, by simp [noDig]⟩
  clear hW K0 K1 K2 m1 n1 m1' n1' m2 n2 m2' n2'
  refine name_frame (G := fun a => Code.wp _ _ _ a _) ?_
  intro a_0 ha
  have hN_0 : a_0.tmps.size = 32 := by subst ha; kernel_rfl
  have hD_0 : a_0.defers = [] := by subst ha; rfl
  have e2_0 : a_0.eval (.tmp 2) = .pointer (some ⟨w.heap.size, 0, none⟩) := by subst ha; kernel_rfl
  have e3_0 : a_0.eval (.tmp 3) = .pointer (some ⟨w.heap.size + 1, 0, none⟩) := by subst ha; kernel_rfl
  have e4_0 : a_0.eval (.tmp 4) = .pointer (some ⟨w.heap.size + 1 + 1, 0, none⟩) := by subst ha; kernel_rfl
  clear ha
  repeat (first | refine wp_seq ?_ | (refine wp_skip ?_; refine then_n ?_))
  refine wp_region_res hN_0 w.heap.size (w.heap.size + 1 + 1) R (by omega)
    [kIs (.pointer (some ⟨w.heap.size, 0, none⟩)), kIs (.pointer (some ⟨w.heap.size, 0, none⟩)), kZ 19 (a.num), kIs (.pointer (some ⟨w.heap.size + 1, 0, none⟩)), kIs (.pointer (some ⟨w.heap.size + 1, 2, none⟩)), kZ 19 ((b.den : Int)), kZs [(19, (a.num)), (19, ((b.den : Int)))], kZ 38 ((a.num) * ((b.den : Int))), kIs (.pointer (some ⟨w.heap.size + 1, 0, none⟩)), kIs (.pointer (some ⟨w.heap.size + 1, 0, none⟩)), kZ 19 (b.num), kIs (.pointer (some ⟨w.heap.size, 0, none⟩)), kIs (.pointer (some ⟨w.heap.size, 2, none⟩)), kZ 19 ((a.den : Int)), kZs [(19, (b.num)), (19, ((a.den : Int)))], kZ 38 ((b.num) * ((a.den : Int))), kZs [(38, ((a.num) * ((b.den : Int)))), (38, ((b.num) * ((a.den : Int))))], kZ 39 (((a.num) * ((b.den : Int))) + ((b.num) * ((a.den : Int)))), kIs (.pointer (some ⟨w.heap.size, 0, none⟩)), kIs (.pointer (some ⟨w.heap.size, 2, none⟩)), kZ 19 ((a.den : Int)), kIs (.pointer (some ⟨w.heap.size + 1, 0, none⟩)), kIs (.pointer (some ⟨w.heap.size + 1, 2, none⟩)), kZ 19 ((b.den : Int)), kZs [(19, ((a.den : Int))), (19, ((b.den : Int)))], kZ 38 (((a.den : Int)) * ((b.den : Int))), kP 39 ((Rat.divInt (((a.num) * ((b.den : Int))) + ((b.num) * ((a.den : Int)))) (((a.den : Int)) * ((b.den : Int)))).num) (((Rat.divInt (((a.num) * ((b.den : Int))) + ((b.num) * ((a.den : Int)))) (((a.den : Int)) * ((b.den : Int)))).den : Int)), kRes (w.heap.size + 1 + 1) 39 ((Rat.divInt (((a.num) * ((b.den : Int))) + ((b.num) * ((a.den : Int)))) (((a.den : Int)) * ((b.den : Int)))).num) (((Rat.divInt (((a.num) * ((b.den : Int))) + ((b.num) * ((a.den : Int)))) (((a.den : Int)) * ((b.den : Int)))).den : Int))]
    [ [], [(0, some 5)], [(1, some 6)], [], [(3, some 8)], [(4, some 9)], [(2, some 7), (5, some 10)], [(6, some 11)], [], [(8, some 13)], [(9, some 14)], [], [(11, some 16)], [(12, some 17)], [(10, some 15), (13, some 18)], [(14, some 19)], [(7, some 12), (15, some 20)], [(16, some 21)], [], [(18, some 23)], [(19, some 24)], [], [(21, some 26)], [(22, some 27)], [(20, some 25), (23, some 28)], [(24, some 29)], [(17, some 22), (25, some 30)], [(26, some 31)] ]
    [(0, some 5), (1, some 6), (2, some 7), (3, some 8), (4, some 9), (5, some 10), (6, some 11), (7, some 12), (8, some 13), (9, some 14), (10, some 15), (11, some 16), (12, some 17), (13, some 18), (14, some 19), (15, some 20), (16, some 21), (17, some 22), (18, some 23), (19, some 24), (20, some 25), (21, some 26), (22, some 27), (23, some 28), (24, some 29), (25, some 30), (26, some 31), (27, none)] [] [] (by kernel_rfl) (by kernel_rfl) (by kernel_rfl) (by kernel_rfl) (by kernel_rfl) (by kernel_rfl) (by kernel_rfl) bb_0.size ?_ ?_
  ·
    refine pk_cons rfl rfl (st_pure [] [(2, .pointer (some ⟨w.heap.size, 0, none⟩))] (.pointer (some ⟨w.heap.size, 0, none⟩)) rfl hN_0 (by kernel_rfl) (by kernel_rfl) (by kernel_rfl) (old1 e2_0) (by kernel_rfl) (by kernel_rfl) (by kernel_rfl) (fun _ => by kernel_rfl)) ?_
    refine pk_cons rfl rfl (st_pure [.pointer (some ⟨w.heap.size, 0, none⟩)] [] (.pointer (some ⟨w.heap.size, 0, none⟩)) rfl hN_0 (by kernel_rfl) (by kernel_rfl) (by kernel_rfl) old0 (by kernel_rfl) (by kernel_rfl) (by kernel_rfl) (fun _ => by kernel_rfl)) ?_
    refine pk_cons rfl rfl (st_loadA f1 (by simp only [List.mem_singleton]; omega) hN_0 (by kernel_rfl) (by kernel_rfl) rfl rfl) ?_
    refine pk_cons rfl rfl (st_pure [] [(3, .pointer (some ⟨w.heap.size + 1, 0, none⟩))] (.pointer (some ⟨w.heap.size + 1, 0, none⟩)) rfl hN_0 (by kernel_rfl) (by kernel_rfl) (by kernel_rfl) (old1 e3_0) (by kernel_rfl) (by kernel_rfl) (by kernel_rfl) (fun _ => by kernel_rfl)) ?_
    refine pk_cons rfl rfl (st_pure [.pointer (some ⟨w.heap.size + 1, 0, none⟩)] [] (.pointer (some ⟨w.heap.size + 1, 2, none⟩)) rfl hN_0 (by kernel_rfl) (by kernel_rfl) (by kernel_rfl) old0 (by kernel_rfl) (by kernel_rfl) (by kernel_rfl) (fun _ => by kernel_rfl)) ?_
    refine pk_cons rfl rfl (st_loadA f2' (by simp only [List.mem_singleton]; omega) hN_0 (by kernel_rfl) (by kernel_rfl) rfl rfl) ?_
    refine pk_cons rfl rfl (st_list2 hN_0 (by kernel_rfl) (by kernel_rfl) (by kernel_rfl) (by kernel_rfl) (Nat.le_refl _) asR asR rfl) ?_
    refine pk_cons rfl rfl (st_call1 hN_0 (by kernel_rfl) (by kernel_rfl) (by kernel_rfl) rfl rfl fun w x v1 hC h1 => tz (l_mul2 38 (lz h1) (by decide) (by decide) (by decide))) ?_
    refine pk_cons rfl rfl (st_pure [] [(3, .pointer (some ⟨w.heap.size + 1, 0, none⟩))] (.pointer (some ⟨w.heap.size + 1, 0, none⟩)) rfl hN_0 (by kernel_rfl) (by kernel_rfl) (by kernel_rfl) (old1 e3_0) (by kernel_rfl) (by kernel_rfl) (by kernel_rfl) (fun _ => by kernel_rfl)) ?_
    refine pk_cons rfl rfl (st_pure [.pointer (some ⟨w.heap.size + 1, 0, none⟩)] [] (.pointer (some ⟨w.heap.size + 1, 0, none⟩)) rfl hN_0 (by kernel_rfl) (by kernel_rfl) (by kernel_rfl) old0 (by kernel_rfl) (by kernel_rfl) (by kernel_rfl) (fun _ => by kernel_rfl)) ?_
    refine pk_cons rfl rfl (st_loadA f2 (by simp only [List.mem_singleton]; omega) hN_0 (by kernel_rfl) (by kernel_rfl) rfl rfl) ?_
    refine pk_cons rfl rfl (st_pure [] [(2, .pointer (some ⟨w.heap.size, 0, none⟩))] (.pointer (some ⟨w.heap.size, 0, none⟩)) rfl hN_0 (by kernel_rfl) (by kernel_rfl) (by kernel_rfl) (old1 e2_0) (by kernel_rfl) (by kernel_rfl) (by kernel_rfl) (fun _ => by kernel_rfl)) ?_
    refine pk_cons rfl rfl (st_pure [.pointer (some ⟨w.heap.size, 0, none⟩)] [] (.pointer (some ⟨w.heap.size, 2, none⟩)) rfl hN_0 (by kernel_rfl) (by kernel_rfl) (by kernel_rfl) old0 (by kernel_rfl) (by kernel_rfl) (by kernel_rfl) (fun _ => by kernel_rfl)) ?_
    refine pk_cons rfl rfl (st_loadA f1' (by simp only [List.mem_singleton]; omega) hN_0 (by kernel_rfl) (by kernel_rfl) rfl rfl) ?_
    refine pk_cons rfl rfl (st_list2 hN_0 (by kernel_rfl) (by kernel_rfl) (by kernel_rfl) (by kernel_rfl) (Nat.le_refl _) asR asR rfl) ?_
    refine pk_cons rfl rfl (st_call1 hN_0 (by kernel_rfl) (by kernel_rfl) (by kernel_rfl) rfl rfl fun w x v1 hC h1 => tz (l_mul2 38 (lz h1) (by decide) (by decide) (by decide))) ?_
    refine pk_cons rfl rfl (st_list2 hN_0 (by kernel_rfl) (by kernel_rfl) (by kernel_rfl) (by kernel_rfl) (Nat.le_refl _) asR asR rfl) ?_
    refine pk_cons rfl rfl (st_call1 hN_0 (by kernel_rfl) (by kernel_rfl) (by kernel_rfl) rfl rfl fun w x v1 hC h1 => tz (l_add2 39 (lz h1) (by decide) (by decide) (by decide))) ?_
    refine pk_cons rfl rfl (st_pure [] [(2, .pointer (some ⟨w.heap.size, 0, none⟩))] (.pointer (some ⟨w.heap.size, 0, none⟩)) rfl hN_0 (by kernel_rfl) (by kernel_rfl) (by kernel_rfl) (old1 e2_0) (by kernel_rfl) (by kernel_rfl) (by kernel_rfl) (fun _ => by kernel_rfl)) ?_
    refine pk_cons rfl rfl (st_pure [.pointer (some ⟨w.heap.size, 0, none⟩)] [] (.pointer (some ⟨w.heap.size, 2, none⟩)) rfl hN_0 (by kernel_rfl) (by kernel_rfl) (by kernel_rfl) old0 (by kernel_rfl) (by kernel_rfl) (by kernel_rfl) (fun _ => by kernel_rfl)) ?_
    refine pk_cons rfl rfl (st_loadA f1' (by simp only [List.mem_singleton]; omega) hN_0 (by kernel_rfl) (by kernel_rfl) rfl rfl) ?_
    refine pk_cons rfl rfl (st_pure [] [(3, .pointer (some ⟨w.heap.size + 1, 0, none⟩))] (.pointer (some ⟨w.heap.size + 1, 0, none⟩)) rfl hN_0 (by kernel_rfl) (by kernel_rfl) (by kernel_rfl) (old1 e3_0) (by kernel_rfl) (by kernel_rfl) (by kernel_rfl) (fun _ => by kernel_rfl)) ?_
    refine pk_cons rfl rfl (st_pure [.pointer (some ⟨w.heap.size + 1, 0, none⟩)] [] (.pointer (some ⟨w.heap.size + 1, 2, none⟩)) rfl hN_0 (by kernel_rfl) (by kernel_rfl) (by kernel_rfl) old0 (by kernel_rfl) (by kernel_rfl) (by kernel_rfl) (fun _ => by kernel_rfl)) ?_
    refine pk_cons rfl rfl (st_loadA f2' (by simp only [List.mem_singleton]; omega) hN_0 (by kernel_rfl) (by kernel_rfl) rfl rfl) ?_
    refine pk_cons rfl rfl (st_list2 hN_0 (by kernel_rfl) (by kernel_rfl) (by kernel_rfl) (by kernel_rfl) (Nat.le_refl _) asR asR rfl) ?_
    refine pk_cons rfl rfl (st_call1 hN_0 (by kernel_rfl) (by kernel_rfl) (by kernel_rfl) rfl rfl fun w x v1 hC h1 => tz (l_mul2 38 (lz h1) (by decide) (by decide) (by decide))) ?_
    refine pk_cons rfl rfl (st_call2 hN_0 (by kernel_rfl) (by kernel_rfl) (by kernel_rfl) (by kernel_rfl) (by kernel_rfl) rfl rfl rfl fun w x v1 v2 hC h1 h2 => tp (lowest_q (k := 39) ((rr h1).mono (by decide)) ((rr h2).mono (by decide)) (Int.mul_ne_zero (Int.ne_of_gt (den_pos a)) (Int.ne_of_gt (den_pos b))) (by decide) (by decide))) ?_
    refine pk_cons rfl rfl (st_resF R rfl (by simp) e4_0 hN_0 (by kernel_rfl) (by kernel_rfl) rfl rfl) ?_
    exact pk_nil rfl
  intro W x hC hall
  refine then_n ?_
  obtain ⟨a1, ha⟩ : ∃ a, a = putE x a_0 [(0, some 5), (1, some 6), (2, some 7), (3, some 8), (4, some 9), (5, some 10), (6, some 11), (7, some 12), (8, some 13), (9, some 14), (10, some 15), (11, some 16), (12, some 17), (13, some 18), (14, some 19), (15, some 20), (16, some 21), (17, some 22), (18, some 23), (19, some 24), (20, some 25), (21, some 26), (22, some 27), (23, some 28), (24, some 29), (25, some 30), (26, some 31), (27, none)] := ⟨_, rfl⟩
  rw [← ha]
  have hD1 := defers_behind ha hD_0
  have bb1 := bb_0.trans hC.below
  obtain ⟨cs, hg, hP⟩ := (show (kRes (w.heap.size + 1 + 1) 39 ((Rat.divInt (((a.num) * ((b.den : Int))) + ((b.num) * ((a.den : Int)))) (((a.den : Int)) * ((b.den : Int)))).num) (((Rat.divInt (((a.num) * ((b.den : Int))) + ((b.num) * ((a.den : Int)))) (((a.den : Int)) * ((b.den : Int)))).den : Int))).sem _ _ _ _ from hall 27 (of_decide_eq_true (by kernel_rfl)))
  have e1 := slot_old (t := 4) ha (by kernel_rfl) e4_0
  repeat (first | refine wp_seq ?_ | (refine wp_skip ?_; refine then_n ?_))
  refine wp_ret ?_
  repeat (refine then_r ?_)
  exact ret_cellF (t := 4) rfl hD1 e1 hg hP fun v hv => ⟨v, rfl, (q_add a b) ▸ hv, bb1⟩
set_option maxRecDepth 100000 in
set_option maxHeartbeats 4000000 in
theorem negated_19 {w : World} {v1 : Value} {a : Rat} (h1 : Pr w v1 19 (a.num) ((a.den : Int))) :
    Calls Tryz.prog 45 #[v1] w (TellsP w 19 (-a).num ((-a).den : Int)) := by
  obtain ⟨A1, l1, c1, A1', l1', c1', rfl, ⟨r1, u1⟩, r1', u1'⟩ := h1
  obtain ⟨b1, hb1⟩ : ∃ s, s = decide (a.num < 0) := ⟨_, rfl⟩
  obtain ⟨b1', hb1'⟩ : ∃ s, s = decide ((a.den : Int) < 0) := ⟨_, rfl⟩
  rw [← hb1, ← hb1']
  have H1 := Lib.hid (show _ ∧ _ ∧ _ ∧ _ ∧ _ ∧ _ from ⟨hb1, hb1', r1, u1, r1', u1'⟩)
  clear hb1 hb1' r1 u1 r1' u1'
  go_enter Tryz.func45, Tryz.ntmps45
  repeat (refine wp_seq ?_)
  refine region_k ?_
  intro K hK
  have HK := Lib.hid hK
  clear hK
  go_wp2
  refine HK.out _ _ ?_
  clear HK
  refine then_n ?_
  obtain ⟨W_0, hW⟩ : ∃ W, W = (w.alloc (Obj.cells #[Value.bool b1, Value.slice A1 l1 c1, Value.bool b1', Value.slice A1' l1' c1'] 53)).alloc (Obj.cells #[Value.bool false, Value.slice none 0 0, Value.bool false, Value.slice none 0 0] 53) := ⟨_, rfl⟩
  have bb_0 : Below w.heap.size w W_0 := by rw [hW]; exact bal (bal (Below.refl _ _) _) _
  have K0 : W_0.heap[w.heap.size]? = some (Obj.cells #[Value.bool b1, Value.slice A1 l1 c1, Value.bool b1', Value.slice A1' l1' c1'] 53) := by rw [hW]; rw [Below.heap_alloc _ _ _ (by simp <;> omega)]; exact new_at (by simp)
  have K1 : W_0.heap[w.heap.size + 1]? = some (Obj.cells #[Value.bool false, Value.slice none 0 0, Value.bool false, Value.slice none 0 0] 53) := by rw [hW]; exact new_at (by simp)
  rw [← hW]
  obtain ⟨m1, n1, m1', n1', _, _, _, _⟩ := four_cells K0
  have f1 : AtR W_0 (w.heap.size) 0 19 (a.num) := ⟨A1, l1, c1, by rw [← H1.out.1]; exact m1, n1, A1, l1, c1, rfl, H1.out.2.2.1.below bb_0, H1.out.2.2.2.1⟩
  have f1' : AtR W_0 (w.heap.size) 2 19 ((a.den : Int)) := ⟨A1', l1', c1', by rw [← H1.out.2.1]; exact m1', n1', A1', l1', c1', rfl, H1.out.2.2.2.2.1.below bb_0, H1.out.2.2.2.2.2⟩
  have R : Holds_ W_0 (w.heap.size + 1) #[Value.bool false, Value.slice none 0 0, Value.bool false, Value.slice none 0 0] := ⟨⟨_, K1⟩, by simp [noDig]⟩
  clear hW K0 K1 m1 n1 m1' n1'
  refine name_frame (G := fun a => Code.wp _ _ _ a _) ?_
  intro a_0 ha
  have hN_0 : a_0.tmps.size = 12 := by subst ha; kernel_rfl
  have hD_0 : a_0.defers = [] := by subst ha; rfl
  have e1_0 : a_0.eval (.tmp 1) = .pointer (some ⟨w.heap.size, 0, none⟩) := by subst ha; kernel_rfl
  have e2_0 : a_0.eval (.tmp 2) = .pointer (some ⟨w.heap.size + 1, 0, none⟩) := by subst ha; kernel_rfl
  clear ha
  repeat (first | refine wp_seq ?_ | (refine wp_skip ?_; refine then_n ?_))
  refine wp_region_res hN_0 w.heap.size (w.heap.size + 1) R (by omega)
    [kIs (.pointer (some ⟨w.heap.size, 0, none⟩)), kIs (.pointer (some ⟨w.heap.size, 0, none⟩)), kZ 19 (a.num), kZ 19 (-(a.num)), kIs (.pointer (some ⟨w.heap.size, 0, none⟩)), kIs (.pointer (some ⟨w.heap.size, 2, none⟩)), kZ 19 ((a.den : Int)), kP 19 (-(a.num)) ((a.den : Int)), kP 19 (-(a.num)) ((a.den : Int)), kRes (w.heap.size + 1) 19 (-(a.num)) ((a.den : Int))]
    [ [], [(0, some 3)], [(1, some 4)], [(2, some 5)], [], [(4, some 7)], [(5, some 8)], [(3, some 6), (6, some 9)], [(7, some 10)], [(8, some 11)] ]
    [(0, some 3), (1, some 4), (2, some 5), (3, some 6), (4, some 7), (5, some 8), (6, some 9), (7, some 10), (8, some 11), (9, none)] [] [] (by kernel_rfl) (by kernel_rfl) (by kernel_rfl) (by kernel_rfl) (by kernel_rfl) (by kernel_rfl) (by kernel_rfl) bb_0.size ?_ ?_
  ·
    refine pk_cons rfl rfl (st_pure [] [(1, .pointer (some ⟨w.heap.size, 0, none⟩))] (.pointer (some ⟨w.heap.size, 0, none⟩)) rfl hN_0 (by kernel_rfl) (by kernel_rfl) (by kernel_rfl) (old1 e1_0) (by kernel_rfl) (by kernel_rfl) (by kernel_rfl) (fun _ => by kernel_rfl)) ?_
    refine pk_cons rfl rfl (st_pure [.pointer (some ⟨w.heap.size, 0, none⟩)] [] (.pointer (some ⟨w.heap.size, 0, none⟩)) rfl hN_0 (by kernel_rfl) (by kernel_rfl) (by kernel_rfl) old0 (by kernel_rfl) (by kernel_rfl) (by kernel_rfl) (fun _ => by kernel_rfl)) ?_
    refine pk_cons rfl rfl (st_loadA f1 (by simp only [List.mem_singleton]; omega) hN_0 (by kernel_rfl) (by kernel_rfl) rfl rfl) ?_
    refine pk_cons rfl rfl (st_call1 hN_0 (by kernel_rfl) (by kernel_rfl) (by kernel_rfl) rfl rfl fun w x v1 hC h1 => tz (z_neg (rz h1) (by decide))) ?_
    refine pk_cons rfl rfl (st_pure [] [(1, .pointer (some ⟨w.heap.size, 0, none⟩))] (.pointer (some ⟨w.heap.size, 0, none⟩)) rfl hN_0 (by kernel_rfl) (by kernel_rfl) (by kernel_rfl) (old1 e1_0) (by kernel_rfl) (by kernel_rfl) (by kernel_rfl) (fun _ => by kernel_rfl)) ?_
    refine pk_cons rfl rfl (st_pure [.pointer (some ⟨w.heap.size, 0, none⟩)] [] (.pointer (some ⟨w.heap.size, 2, none⟩)) rfl hN_0 (by kernel_rfl) (by kernel_rfl) (by kernel_rfl) old0 (by kernel_rfl) (by kernel_rfl) (by kernel_rfl) (fun _ => by kernel_rfl)) ?_
    refine pk_cons rfl rfl (st_loadA f1' (by simp only [List.mem_singleton]; omega) hN_0 (by kernel_rfl) (by kernel_rfl) rfl rfl) ?_
    refine pk_cons rfl rfl (st_buildP (k := 19) hN_0 (by kernel_rfl) (by kernel_rfl) (by kernel_rfl) (by kernel_rfl) (by kernel_rfl) (by kernel_rfl) rfl rfl rfl) ?_
    refine pk_cons rfl rfl (st_buildF hN_0 (by kernel_rfl) (by kernel_rfl) rfl rfl) ?_
    refine pk_cons rfl rfl (st_resF R rfl (by simp) e2_0 hN_0 (by kernel_rfl) (by kernel_rfl) rfl rfl) ?_
    exact pk_nil rfl
  intro W x hC hall
  refine then_n ?_
  obtain ⟨a1, ha⟩ : ∃ a, a = putE x a_0 [(0, some 3), (1, some 4), (2, some 5), (3, some 6), (4, some 7), (5, some 8), (6, some 9), (7, some 10), (8, some 11), (9, none)] := ⟨_, rfl⟩
  rw [← ha]
  have hD1 := defers_behind ha hD_0
  have bb1 := bb_0.trans hC.below
  obtain ⟨cs, hg, hP⟩ := (show (kRes (w.heap.size + 1) 19 (-(a.num)) ((a.den : Int))).sem _ _ _ _ from hall 9 (of_decide_eq_true (by kernel_rfl)))
  have e1 := slot_old (t := 2) ha (by kernel_rfl) e2_0
  repeat (first | refine wp_seq ?_ | (refine wp_skip ?_; refine then_n ?_))
  refine wp_ret ?_
  repeat (refine then_r ?_)
  exact ret_cellF (t := 2) rfl hD1 e1 hg hP fun v hv => ⟨v, rfl, hv, bb1⟩
set_option maxRecDepth 100000 in
set_option maxHeartbeats 4000000 in
theorem compare_19 {w : World} {v1 v2 : Value} {a b : Rat} (h1 : Pr w v1 19 (a.num) ((a.den : Int))) (h2 : Pr w v2 19 (b.num) ((b.den : Int))) :
    Calls Tryz.prog 47 #[v1, v2] w (fun e w' => e = .returned (.int .i64 (ordI ((a.num) * ((b.den : Int))) ((b.num) * ((a.den : Int))))) ∧ Below w.heap.size w w') := by
  obtain ⟨A1, l1, c1, A1', l1', c1', rfl, ⟨r1, u1⟩, r1', u1'⟩ := h1
  obtain ⟨b1, hb1⟩ : ∃ s, s = decide (a.num < 0) := ⟨_, rfl⟩
  obtain ⟨b1', hb1'⟩ : ∃ s, s = decide ((a.den : Int) < 0) := ⟨_, rfl⟩
  rw [← hb1, ← hb1']
  obtain ⟨A2, l2, c2, A2', l2', c2', rfl, ⟨r2, u2⟩, r2', u2'⟩ := h2
  obtain ⟨b2, hb2⟩ : ∃ s, s = decide (b.num < 0) := ⟨_, rfl⟩
  obtain ⟨b2', hb2'⟩ : ∃ s, s = decide ((b.den : Int) < 0) := ⟨_, rfl⟩
  rw [← hb2, ← hb2']
  have H1 := Lib.hid (show _ ∧ _ ∧ _ ∧ _ ∧ _ ∧ _ from ⟨hb1, hb1', r1, u1, r1', u1'⟩)
  have H2 := Lib.hid (show _ ∧ _ ∧ _ ∧ _ ∧ _ ∧ _ from ⟨hb2, hb2', r2, u2, r2', u2'⟩)
  clear hb1 hb1' r1 u1 r1' u1' hb2 hb2' r2 u2 r2' u2'
  go_enter Tryz.func47, Tryz.ntmps47
  repeat (refine wp_seq ?_)
  refine region_k ?_
  intro K hK
  have HK := Lib.hid hK
  clear hK
  go_wp2
  refine HK.out _ _ ?_
  clear HK
  refine then_n ?_
  obtain ⟨W_0, hW⟩ : ∃ W, W = (w.alloc (Obj.cells #[Value.bool b1, Value.slice A1 l1 c1, Value.bool b1', Value.slice A1' l1' c1'] 53)).alloc (Obj.cells #[Value.bool b2, Value.slice A2 l2 c2, Value.bool b2', Value.slice A2' l2' c2'] 53) := ⟨_, rfl⟩
  have bb_0 : Below w.heap.size w W_0 := by rw [hW]; exact bal (bal (Below.refl _ _) _) _
  have K0 : W_0.heap[w.heap.size]? = some (Obj.cells #[Value.bool b1, Value.slice A1 l1 c1, Value.bool b1', Value.slice A1' l1' c1'] 53) := by rw [hW]; rw [Below.heap_alloc _ _ _ (by simp <;> omega)]; exact new_at (by simp)
  have K1 : W_0.heap[w.heap.size + 1]? = some (Obj.cells #[Value.bool b2, Value.slice A2 l2 c2, Value.bool b2', Value.slice A2' l2' c2'] 53) := by rw [hW]; exact new_at (by simp)
  rw [← hW]
  obtain ⟨m1, n1, m1', n1', _, _, _, _⟩ := four_cells K0
  have f1 : AtR W_0 (w.heap.size) 0 19 (a.num) := ⟨A1, l1, c1, by rw [← H1.out.1]; exact m1, n1, A1, l1, c1, rfl, H1.out.2.2.1.below bb_0, H1.out.2.2.2.1⟩
  have f1' : AtR W_0 (w.heap.size) 2 19 ((a.den : Int)) := ⟨A1', l1', c1', by rw [← H1.out.2.1]; exact m1', n1', A1', l1', c1', rfl, H1.out.2.2.2.2.1.below bb_0, H1.out.2.2.2.2.2⟩
  obtain ⟨m2, n2, m2', n2', _, _, _, _⟩ := four_cells K1
  have f2 : AtR W_0 (w.heap.size + 1) 0 19 (b.num) := ⟨A2, l2, c2, by rw [← H2.out.1]; exact m2, n2, A2, l2, c2, rfl, H2.out.2.2.1.below bb_0, H2.out.2.2.2.1⟩
  have f2' : AtR W_0 (w.heap.size + 1) 2 19 ((b.den : Int)) := ⟨A2', l2', c2', by rw [← H2.out.2.1]; exact m2', n2', A2', l2', c2', rfl, H2.out.2.2.2.2.1.below bb_0, H2.out.2.2.2.2.2⟩
  clear hW K0 K1 m1 n1 m1' n1' m2 n2 m2' n2'
  refine name_frame (G := fun a => Code.wp _ _ _ a _) ?_
  intro a_0 ha
  have hN_0 : a_0.tmps.size = 22 := by subst ha; kernel_rfl
  have hD_0 : a_0.defers = [] := by subst ha; rfl
  have e2_0 : a_0.eval (.tmp 2) = .pointer (some ⟨w.heap.size, 0, none⟩) := by subst ha; kernel_rfl
  have e3_0 : a_0.eval (.tmp 3) = .pointer (some ⟨w.heap.size + 1, 0, none⟩) := by subst ha; kernel_rfl
  clear ha
  repeat (first | refine wp_seq ?_ | (refine wp_skip ?_; refine then_n ?_))
  refine wp_region_law hN_0 w.heap.size
    [kIs (.pointer (some ⟨w.heap.size, 0, none⟩)), kIs (.pointer (some ⟨w.heap.size, 0, none⟩)), kZ 19 (a.num), kIs (.pointer (some ⟨w.heap.size + 1, 0, none⟩)), kIs (.pointer (some ⟨w.heap.size + 1, 2, none⟩)), kZ 19 ((b.den : Int)), kZs [(19, (a.num)), (19, ((b.den : Int)))], kZ 38 ((a.num) * ((b.den : Int))), kIs (.pointer (some ⟨w.heap.size + 1, 0, none⟩)), kIs (.pointer (some ⟨w.heap.size + 1, 0, none⟩)), kZ 19 (b.num), kIs (.pointer (some ⟨w.heap.size, 0, none⟩)), kIs (.pointer (some ⟨w.heap.size, 2, none⟩)), kZ 19 ((a.den : Int)), kZs [(19, (b.num)), (19, ((a.den : Int)))], kZ 38 ((b.num) * ((a.den : Int))), kIs (.int .i64 (ordI ((a.num) * ((b.den : Int))) ((b.num) * ((a.den : Int))))), kIs (.int .i64 (ordI ((a.num) * ((b.den : Int))) ((b.num) * ((a.den : Int)))))]
    [ [], [(0, some 5)], [(1, some 6)], [], [(3, some 8)], [(4, some 9)], [(2, some 7), (5, some 10)], [(6, some 11)], [], [(8, some 13)], [(9, some 14)], [], [(11, some 16)], [(12, some 17)], [(10, some 15), (13, some 18)], [(14, some 19)], [(7, some 12), (15, some 20)], [(16, some 21)] ]
    [(0, some 5), (1, some 6), (2, some 7), (3, some 8), (4, some 9), (5, some 10), (6, some 11), (7, some 12), (8, some 13), (9, some 14), (10, some 15), (11, some 16), (12, some 17), (13, some 18), (14, some 19), (15, some 20), (16, some 21), (17, some 4)] [] [] (by kernel_rfl) (by kernel_rfl) (by kernel_rfl) (by kernel_rfl) (by kernel_rfl) (by kernel_rfl) (by kernel_rfl) bb_0.size ?_ ?_
  ·
    refine pk_cons rfl rfl (st_pure [] [(2, .pointer (some ⟨w.heap.size, 0, none⟩))] (.pointer (some ⟨w.heap.size, 0, none⟩)) rfl hN_0 (by kernel_rfl) (by kernel_rfl) (by kernel_rfl) (old1 e2_0) (by kernel_rfl) (by kernel_rfl) (by kernel_rfl) (fun _ => by kernel_rfl)) ?_
    refine pk_cons rfl rfl (st_pure [.pointer (some ⟨w.heap.size, 0, none⟩)] [] (.pointer (some ⟨w.heap.size, 0, none⟩)) rfl hN_0 (by kernel_rfl) (by kernel_rfl) (by kernel_rfl) old0 (by kernel_rfl) (by kernel_rfl) (by kernel_rfl) (fun _ => by kernel_rfl)) ?_
    refine pk_cons rfl rfl (st_loadA f1 (by simp) hN_0 (by kernel_rfl) (by kernel_rfl) rfl rfl) ?_
    refine pk_cons rfl rfl (st_pure [] [(3, .pointer (some ⟨w.heap.size + 1, 0, none⟩))] (.pointer (some ⟨w.heap.size + 1, 0, none⟩)) rfl hN_0 (by kernel_rfl) (by kernel_rfl) (by kernel_rfl) (old1 e3_0) (by kernel_rfl) (by kernel_rfl) (by kernel_rfl) (fun _ => by kernel_rfl)) ?_
    refine pk_cons rfl rfl (st_pure [.pointer (some ⟨w.heap.size + 1, 0, none⟩)] [] (.pointer (some ⟨w.heap.size + 1, 2, none⟩)) rfl hN_0 (by kernel_rfl) (by kernel_rfl) (by kernel_rfl) old0 (by kernel_rfl) (by kernel_rfl) (by kernel_rfl) (fun _ => by kernel_rfl)) ?_
    refine pk_cons rfl rfl (st_loadA f2' (by simp) hN_0 (by kernel_rfl) (by kernel_rfl) rfl rfl) ?_
    refine pk_cons rfl rfl (st_list2 hN_0 (by kernel_rfl) (by kernel_rfl) (by kernel_rfl) (by kernel_rfl) (Nat.le_refl _) asR asR rfl) ?_
    refine pk_cons rfl rfl (st_call1 hN_0 (by kernel_rfl) (by kernel_rfl) (by kernel_rfl) rfl rfl fun w x v1 hC h1 => tz (l_mul2 38 (lz h1) (by decide) (by decide) (by decide))) ?_
    refine pk_cons rfl rfl (st_pure [] [(3, .pointer (some ⟨w.heap.size + 1, 0, none⟩))] (.pointer (some ⟨w.heap.size + 1, 0, none⟩)) rfl hN_0 (by kernel_rfl) (by kernel_rfl) (by kernel_rfl) (old1 e3_0) (by kernel_rfl) (by kernel_rfl) (by kernel_rfl) (fun _ => by kernel_rfl)) ?_
    refine pk_cons rfl rfl (st_pure [.pointer (some ⟨w.heap.size + 1, 0, none⟩)] [] (.pointer (some ⟨w.heap.size + 1, 0, none⟩)) rfl hN_0 (by kernel_rfl) (by kernel_rfl) (by kernel_rfl) old0 (by kernel_rfl) (by kernel_rfl) (by kernel_rfl) (fun _ => by kernel_rfl)) ?_
    refine pk_cons rfl rfl (st_loadA f2 (by simp) hN_0 (by kernel_rfl) (by kernel_rfl) rfl rfl) ?_
    refine pk_cons rfl rfl (st_pure [] [(2, .pointer (some ⟨w.heap.size, 0, none⟩))] (.pointer (some ⟨w.heap.size, 0, none⟩)) rfl hN_0 (by kernel_rfl) (by kernel_rfl) (by kernel_rfl) (old1 e2_0) (by kernel_rfl) (by kernel_rfl) (by kernel_rfl) (fun _ => by kernel_rfl)) ?_
    refine pk_cons rfl rfl (st_pure [.pointer (some ⟨w.heap.size, 0, none⟩)] [] (.pointer (some ⟨w.heap.size, 2, none⟩)) rfl hN_0 (by kernel_rfl) (by kernel_rfl) (by kernel_rfl) old0 (by kernel_rfl) (by kernel_rfl) (by kernel_rfl) (fun _ => by kernel_rfl)) ?_
    refine pk_cons rfl rfl (st_loadA f1' (by simp) hN_0 (by kernel_rfl) (by kernel_rfl) rfl rfl) ?_
    refine pk_cons rfl rfl (st_list2 hN_0 (by kernel_rfl) (by kernel_rfl) (by kernel_rfl) (by kernel_rfl) (Nat.le_refl _) asR asR rfl) ?_
    refine pk_cons rfl rfl (st_call1 hN_0 (by kernel_rfl) (by kernel_rfl) (by kernel_rfl) rfl rfl fun w x v1 hC h1 => tz (l_mul2 38 (lz h1) (by decide) (by decide) (by decide))) ?_
    refine pk_cons rfl rfl (st_call2 hN_0 (by kernel_rfl) (by kernel_rfl) (by kernel_rfl) (by kernel_rfl) (by kernel_rfl) rfl rfl rfl fun w x v1 v2 hC h1 h2 => ti (z_cmp (rz h1) (rz h2) (by decide) (by decide))) ?_
    refine pk_cons rfl rfl (st_pure [.int .i64 (ordI ((a.num) * ((b.den : Int))) ((b.num) * ((a.den : Int))))] [] (.int .i64 (ordI ((a.num) * ((b.den : Int))) ((b.num) * ((a.den : Int))))) rfl hN_0 (by kernel_rfl) (by kernel_rfl) (by kernel_rfl) old0 (by kernel_rfl) (by kernel_rfl) (by kernel_rfl) (fun _ => by kernel_rfl)) ?_
    exact pk_nil rfl
  intro W x hC hall
  refine then_n ?_
  obtain ⟨a1, ha⟩ : ∃ a, a = putE x a_0 [(0, some 5), (1, some 6), (2, some 7), (3, some 8), (4, some 9), (5, some 10), (6, some 11), (7, some 12), (8, some 13), (9, some 14), (10, some 15), (11, some 16), (12, some 17), (13, some 18), (14, some 19), (15, some 20), (16, some 21), (17, some 4)] := ⟨_, rfl⟩
  rw [← ha]
  have hD1 := defers_behind ha hD_0
  have bb1 := bb_0.trans hC.below
  have e1 := (slot_new (t := 4) (i := 17) ha hN_0 (by kernel_rfl) (by kernel_rfl)).trans (show x 17 = .int .i64 (ordI ((a.num) * ((b.den : Int))) ((b.num) * ((a.den : Int)))) from hall 17 (of_decide_eq_true (by kernel_rfl)))
  repeat (first | refine wp_seq ?_ | (refine wp_skip ?_; refine then_n ?_))
  refine wp_ret ?_
  repeat (refine then_r ?_)
  exact ret_one (t := 4) rfl hD1 e1 ⟨rfl, bb1⟩
set_option maxRecDepth 100000 in
set_option maxHeartbeats 4000000 in
theorem compare_39 {w : World} {v1 v2 : Value} {a b : Rat} (h1 : Pr w v1 39 (a.num) ((a.den : Int))) (h2 : Pr w v2 39 (b.num) ((b.den : Int))) :
    Calls Tryz.prog 47 #[v1, v2] w (fun e w' => e = .returned (.int .i64 (ordI ((a.num) * ((b.den : Int))) ((b.num) * ((a.den : Int))))) ∧ Below w.heap.size w w') := by
  obtain ⟨A1, l1, c1, A1', l1', c1', rfl, ⟨r1, u1⟩, r1', u1'⟩ := h1
  obtain ⟨b1, hb1⟩ : ∃ s, s = decide (a.num < 0) := ⟨_, rfl⟩
  obtain ⟨b1', hb1'⟩ : ∃ s, s = decide ((a.den : Int) < 0) := ⟨_, rfl⟩
  rw [← hb1, ← hb1']
  obtain ⟨A2, l2, c2, A2', l2', c2', rfl, ⟨r2, u2⟩, r2', u2'⟩ := h2
  obtain ⟨b2, hb2⟩ : ∃ s, s = decide (b.num < 0) := ⟨_, rfl⟩
  obtain ⟨b2', hb2'⟩ : ∃ s, s = decide ((b.den : Int) < 0) := ⟨_, rfl⟩
  rw [← hb2, ← hb2']
  have H1 := Lib.hid (show _ ∧ _ ∧ _ ∧ _ ∧ _ ∧ _ from ⟨hb1, hb1', r1, u1, r1', u1'⟩)
  have H2 := Lib.hid (show _ ∧ _ ∧ _ ∧ _ ∧ _ ∧ _ from ⟨hb2, hb2', r2, u2, r2', u2'⟩)
  clear hb1 hb1' r1 u1 r1' u1' hb2 hb2' r2 u2 r2' u2'
  go_enter Tryz.func47, Tryz.ntmps47
  repeat (refine wp_seq ?_)
  refine region_k ?_
  intro K hK
  have HK := Lib.hid hK
  clear hK
  go_wp2
  refine HK.out _ _ ?_
  clear HK
  refine then_n ?_
  obtain ⟨W_0, hW⟩ : ∃ W, W = (w.alloc (Obj.cells #[Value.bool b1, Value.slice A1 l1 c1, Value.bool b1', Value.slice A1' l1' c1'] 53)).alloc (Obj.cells #[Value.bool b2, Value.slice A2 l2 c2, Value.bool b2', Value.slice A2' l2' c2'] 53) := ⟨_, rfl⟩
  have bb_0 : Below w.heap.size w W_0 := by rw [hW]; exact bal (bal (Below.refl _ _) _) _
  have K0 : W_0.heap[w.heap.size]? = some (Obj.cells #[Value.bool b1, Value.slice A1 l1 c1, Value.bool b1', Value.slice A1' l1' c1'] 53) := by rw [hW]; rw [Below.heap_alloc _ _ _ (by simp <;> omega)]; exact new_at (by simp)
  have K1 : W_0.heap[w.heap.size + 1]? = some (Obj.cells #[Value.bool b2, Value.slice A2 l2 c2, Value.bool b2', Value.slice A2' l2' c2'] 53) := by rw [hW]; exact new_at (by simp)
  rw [← hW]
  obtain ⟨m1, n1, m1', n1', _, _, _, _⟩ := four_cells K0
  have f1 : AtR W_0 (w.heap.size) 0 39 (a.num) := ⟨A1, l1, c1, by rw [← H1.out.1]; exact m1, n1, A1, l1, c1, rfl, H1.out.2.2.1.below bb_0, H1.out.2.2.2.1⟩
  have f1' : AtR W_0 (w.heap.size) 2 39 ((a.den : Int)) := ⟨A1', l1', c1', by rw [← H1.out.2.1]; exact m1', n1', A1', l1', c1', rfl, H1.out.2.2.2.2.1.below bb_0, H1.out.2.2.2.2.2⟩
  obtain ⟨m2, n2, m2', n2', _, _, _, _⟩ := four_cells K1
  have f2 : AtR W_0 (w.heap.size + 1) 0 39 (b.num) := ⟨A2, l2, c2, by rw [← H2.out.1]; exact m2, n2, A2, l2, c2, rfl, H2.out.2.2.1.below bb_0, H2.out.2.2.2.1⟩
  have f2' : AtR W_0 (w.heap.size + 1) 2 39 ((b.den : Int)) := ⟨A2', l2', c2', by rw [← H2.out.2.1]; exact m2', n2', A2', l2', c2', rfl, H2.out.2.2.2.2.1.below bb_0, H2.out.2.2.2.2.2⟩
  clear hW K0 K1 m1 n1 m1' n1' m2 n2 m2' n2'
  refine name_frame (G := fun a => Code.wp _ _ _ a _) ?_
  intro a_0 ha
  have hN_0 : a_0.tmps.size = 22 := by subst ha; kernel_rfl
  have hD_0 : a_0.defers = [] := by subst ha; rfl
  have e2_0 : a_0.eval (.tmp 2) = .pointer (some ⟨w.heap.size, 0, none⟩) := by subst ha; kernel_rfl
  have e3_0 : a_0.eval (.tmp 3) = .pointer (some ⟨w.heap.size + 1, 0, none⟩) := by subst ha; kernel_rfl
  clear ha
  repeat (first | refine wp_seq ?_ | (refine wp_skip ?_; refine then_n ?_))
  refine wp_region_law hN_0 w.heap.size
    [kIs (.pointer (some ⟨w.heap.size, 0, none⟩)), kIs (.pointer (some ⟨w.heap.size, 0, none⟩)), kZ 39 (a.num), kIs (.pointer (some ⟨w.heap.size + 1, 0, none⟩)), kIs (.pointer (some ⟨w.heap.size + 1, 2, none⟩)), kZ 39 ((b.den : Int)), kZs [(39, (a.num)), (39, ((b.den : Int)))], kZ 78 ((a.num) * ((b.den : Int))), kIs (.pointer (some ⟨w.heap.size + 1, 0, none⟩)), kIs (.pointer (some ⟨w.heap.size + 1, 0, none⟩)), kZ 39 (b.num), kIs (.pointer (some ⟨w.heap.size, 0, none⟩)), kIs (.pointer (some ⟨w.heap.size, 2, none⟩)), kZ 39 ((a.den : Int)), kZs [(39, (b.num)), (39, ((a.den : Int)))], kZ 78 ((b.num) * ((a.den : Int))), kIs (.int .i64 (ordI ((a.num) * ((b.den : Int))) ((b.num) * ((a.den : Int))))), kIs (.int .i64 (ordI ((a.num) * ((b.den : Int))) ((b.num) * ((a.den : Int)))))]
    [ [], [(0, some 5)], [(1, some 6)], [], [(3, some 8)], [(4, some 9)], [(2, some 7), (5, some 10)], [(6, some 11)], [], [(8, some 13)], [(9, some 14)], [], [(11, some 16)], [(12, some 17)], [(10, some 15), (13, some 18)], [(14, some 19)], [(7, some 12), (15, some 20)], [(16, some 21)] ]
    [(0, some 5), (1, some 6), (2, some 7), (3, some 8), (4, some 9), (5, some 10), (6, some 11), (7, some 12), (8, some 13), (9, some 14), (10, some 15), (11, some 16), (12, some 17), (13, some 18), (14, some 19), (15, some 20), (16, some 21), (17, some 4)] [] [] (by kernel_rfl) (by kernel_rfl) (by kernel_rfl) (by kernel_rfl) (by kernel_rfl) (by kernel_rfl) (by kernel_rfl) bb_0.size ?_ ?_
  ·
    refine pk_cons rfl rfl (st_pure [] [(2, .pointer (some ⟨w.heap.size, 0, none⟩))] (.pointer (some ⟨w.heap.size, 0, none⟩)) rfl hN_0 (by kernel_rfl) (by kernel_rfl) (by kernel_rfl) (old1 e2_0) (by kernel_rfl) (by kernel_rfl) (by kernel_rfl) (fun _ => by kernel_rfl)) ?_
    refine pk_cons rfl rfl (st_pure [.pointer (some ⟨w.heap.size, 0, none⟩)] [] (.pointer (some ⟨w.heap.size, 0, none⟩)) rfl hN_0 (by kernel_rfl) (by kernel_rfl) (by kernel_rfl) old0 (by kernel_rfl) (by kernel_rfl) (by kernel_rfl) (fun _ => by kernel_rfl)) ?_
    refine pk_cons rfl rfl (st_loadA f1 (by simp) hN_0 (by kernel_rfl) (by kernel_rfl) rfl rfl) ?_
    refine pk_cons rfl rfl (st_pure [] [(3, .pointer (some ⟨w.heap.size + 1, 0, none⟩))] (.pointer (some ⟨w.heap.size + 1, 0, none⟩)) rfl hN_0 (by kernel_rfl) (by kernel_rfl) (by kernel_rfl) (old1 e3_0) (by kernel_rfl) (by kernel_rfl) (by kernel_rfl) (fun _ => by kernel_rfl)) ?_
    refine pk_cons rfl rfl (st_pure [.pointer (some ⟨w.heap.size + 1, 0, none⟩)] [] (.pointer (some ⟨w.heap.size + 1, 2, none⟩)) rfl hN_0 (by kernel_rfl) (by kernel_rfl) (by kernel_rfl) old0 (by kernel_rfl) (by kernel_rfl) (by kernel_rfl) (fun _ => by kernel_rfl)) ?_
    refine pk_cons rfl rfl (st_loadA f2' (by simp) hN_0 (by kernel_rfl) (by kernel_rfl) rfl rfl) ?_
    refine pk_cons rfl rfl (st_list2 hN_0 (by kernel_rfl) (by kernel_rfl) (by kernel_rfl) (by kernel_rfl) (Nat.le_refl _) asR asR rfl) ?_
    refine pk_cons rfl rfl (st_call1 hN_0 (by kernel_rfl) (by kernel_rfl) (by kernel_rfl) rfl rfl fun w x v1 hC h1 => tz (l_mul2 78 (lz h1) (by decide) (by decide) (by decide))) ?_
    refine pk_cons rfl rfl (st_pure [] [(3, .pointer (some ⟨w.heap.size + 1, 0, none⟩))] (.pointer (some ⟨w.heap.size + 1, 0, none⟩)) rfl hN_0 (by kernel_rfl) (by kernel_rfl) (by kernel_rfl) (old1 e3_0) (by kernel_rfl) (by kernel_rfl) (by kernel_rfl) (fun _ => by kernel_rfl)) ?_
    refine pk_cons rfl rfl (st_pure [.pointer (some ⟨w.heap.size + 1, 0, none⟩)] [] (.pointer (some ⟨w.heap.size + 1, 0, none⟩)) rfl hN_0 (by kernel_rfl) (by kernel_rfl) (by kernel_rfl) old0 (by kernel_rfl) (by kernel_rfl) (by kernel_rfl) (fun _ => by kernel_rfl)) ?_
    refine pk_cons rfl rfl (st_loadA f2 (by simp) hN_0 (by kernel_rfl) (by kernel_rfl) rfl rfl) ?_
    refine pk_cons rfl rfl (st_pure [] [(2, .pointer (some ⟨w.heap.size, 0, none⟩))] (.pointer (some ⟨w.heap.size, 0, none⟩)) rfl hN_0 (by kernel_rfl) (by kernel_rfl) (by kernel_rfl) (old1 e2_0) (by kernel_rfl) (by kernel_rfl) (by kernel_rfl) (fun _ => by kernel_rfl)) ?_
    refine pk_cons rfl rfl (st_pure [.pointer (some ⟨w.heap.size, 0, none⟩)] [] (.pointer (some ⟨w.heap.size, 2, none⟩)) rfl hN_0 (by kernel_rfl) (by kernel_rfl) (by kernel_rfl) old0 (by kernel_rfl) (by kernel_rfl) (by kernel_rfl) (fun _ => by kernel_rfl)) ?_
    refine pk_cons rfl rfl (st_loadA f1' (by simp) hN_0 (by kernel_rfl) (by kernel_rfl) rfl rfl) ?_
    refine pk_cons rfl rfl (st_list2 hN_0 (by kernel_rfl) (by kernel_rfl) (by kernel_rfl) (by kernel_rfl) (Nat.le_refl _) asR asR rfl) ?_
    refine pk_cons rfl rfl (st_call1 hN_0 (by kernel_rfl) (by kernel_rfl) (by kernel_rfl) rfl rfl fun w x v1 hC h1 => tz (l_mul2 78 (lz h1) (by decide) (by decide) (by decide))) ?_
    refine pk_cons rfl rfl (st_call2 hN_0 (by kernel_rfl) (by kernel_rfl) (by kernel_rfl) (by kernel_rfl) (by kernel_rfl) rfl rfl rfl fun w x v1 v2 hC h1 h2 => ti (z_cmp (rz h1) (rz h2) (by decide) (by decide))) ?_
    refine pk_cons rfl rfl (st_pure [.int .i64 (ordI ((a.num) * ((b.den : Int))) ((b.num) * ((a.den : Int))))] [] (.int .i64 (ordI ((a.num) * ((b.den : Int))) ((b.num) * ((a.den : Int))))) rfl hN_0 (by kernel_rfl) (by kernel_rfl) (by kernel_rfl) old0 (by kernel_rfl) (by kernel_rfl) (by kernel_rfl) (fun _ => by kernel_rfl)) ?_
    exact pk_nil rfl
  intro W x hC hall
  refine then_n ?_
  obtain ⟨a1, ha⟩ : ∃ a, a = putE x a_0 [(0, some 5), (1, some 6), (2, some 7), (3, some 8), (4, some 9), (5, some 10), (6, some 11), (7, some 12), (8, some 13), (9, some 14), (10, some 15), (11, some 16), (12, some 17), (13, some 18), (14, some 19), (15, some 20), (16, some 21), (17, some 4)] := ⟨_, rfl⟩
  rw [← ha]
  have hD1 := defers_behind ha hD_0
  have bb1 := bb_0.trans hC.below
  have e1 := (slot_new (t := 4) (i := 17) ha hN_0 (by kernel_rfl) (by kernel_rfl)).trans (show x 17 = .int .i64 (ordI ((a.num) * ((b.den : Int))) ((b.num) * ((a.den : Int)))) from hall 17 (of_decide_eq_true (by kernel_rfl)))
  repeat (first | refine wp_seq ?_ | (refine wp_skip ?_; refine then_n ?_))
  refine wp_ret ?_
  repeat (refine then_r ?_)
  exact ret_one (t := 4) rfl hD1 e1 ⟨rfl, bb1⟩
end Go.Proofs.YthgclmkhmcfflaaGreatDoor
namespace Go.Proofs.YthgclmkhmcfflaaGreatDoor
open Go.RowKit
theorem Reg.at0 {B : Nat} {W0 w : World} (h : Reg B W0 [] w) {g o k : Nat} {z : Int} (hl : AtR W0 g o k z) : AtR w g o k z := h.atR (by simp) hl
theorem pm {S0 : Nat} {x : Nat → Value} {v : Value} {w : World} {j k : Nat} {z1 z2 : Int} (hk : j ≤ k) (h : (kP j z1 z2).sem S0 x v w) : Pr w v k z1 z2 := Pr.mono h hk
theorem den_ne (a : Rat) : (a.den : Int) ≠ 0 := Int.ne_of_gt (den_pos a)
theorem den_sign (a : Rat) : decide ((a.den : Int) < 0) = false := decide_eq_false (by have := den_pos a; omega)
theorem gcd_one (a : Rat) : ((zgcd [(a.num), ((a.den : Int))] : Nat) : Int) = 1 := by
  have h := a.reduced
  unfold Nat.Coprime at h
  rw [zgcd_eq, Int.gcd, Int.natAbs_natCast, Nat.gcd_comm, h]; rfl
theorem isNone_z {w : World} {v : Value} {k : Nat} {z : Int} (h : Zr w v k z) (hz : z ≠ 0) : Calls Tryz.prog 34 #[v] w fun e w' => e = .returned (.bool false) ∧ Below w.heap.size w w' := by
  obtain ⟨A, l, c, rfl, h1, _⟩ := h
  have hk := (rr_len h1).1
  have hl : ((l : Int) == 0) = false := by
    rw [beq_eq_false_iff_ne]; intro e
    have := hk.1 (by omega)
    omega
  obtain ⟨s, hs⟩ : ∃ s, s = decide (z < 0) := ⟨_, rfl⟩
  rw [← hs]
  clear hs hk h1 hz
  go_enter Tryz.func34, Tryz.ntmps34
  go_wp2
  go_ret
  exact ⟨rfl, bal (Below.refl _ _) _⟩
section
variable {G : List Nat} {S0 B : Nat} {ks : List PK} {a0 : Act} {i : Nat} {N : Nat} {W0 : World} {T : TypeId} {pos : String} {af : Array Edge} {gu : Option (Nat × Bool)}
theorem run_loadS {w : World} {g o : Nat} {s : Bool} (h0 : w.cell? ⟨g, o, none⟩ = some (.bool s)) : (Instr.loadAt 4 (.pointer (some ⟨g, o, none⟩))).run Tryz.prog w = .ok (.bool s) w := by go_simp
theorem run_load4P {w : World} {g : Nat} {u v u' v' : Value} (h0 : w.cell? ⟨g, 0, none⟩ = some u) (h1 : w.cell? ⟨g, 1, none⟩ = some v) (h2 : w.cell? ⟨g, 2, none⟩ = some u') (h3 : w.cell? ⟨g, 3, none⟩ = some v') : (Instr.loadAt 27 (.pointer (some ⟨g, 0, none⟩))).run Tryz.prog w = .ok (.agg #[u, v, u', v']) w := by go_simp
theorem run_load4F {w : World} {g : Nat} {u v u' v' : Value} (h0 : w.cell? ⟨g, 0, none⟩ = some u) (h1 : w.cell? ⟨g, 1, none⟩ = some v) (h2 : w.cell? ⟨g, 2, none⟩ = some u') (h3 : w.cell? ⟨g, 3, none⟩ = some v') : (Instr.loadAt 53 (.pointer (some ⟨g, 0, none⟩))).run Tryz.prog w = .ok (.agg #[u, v, u', v']) w := by go_simp
set_option maxRecDepth 100000 in
theorem st_loadS {d t j g o k : Nat} {z : Int} {s : Bool} (hl : AtR W0 g o k z) (hs : decide (z < 0) = s) (hG : g ∉ G) (hN : a0.tmps.size = N) (hd : decide (d < N) = true) (ht : decide (t < N) = true) (hj : at_ ks j = kIs (.pointer (some ⟨g, o, none⟩))) (hi : at_ ks i = kIs (.bool s)) :
    PkStep Tryz.prog (Reg B W0 G) S0 ks a0 i { dst := some d, op := .load 4 (.tmp t), type := T, pos := pos, after := af, guard := gu } [(j, some t)] := by
  intro w x hC
  refine deps_all _ fun hdeps K hK => ?_
  have g1 := hdeps (j, some t) (by simp)
  rw [hj] at g1
  have g2 : x j = .pointer (some ⟨g, o, none⟩) := g1
  have e1 : (putE x a0 [(j, some t)]).eval (.tmp t) = x j := putE_new _ _ (by rw [hN]; exact of_decide_eq_true ht) (by simp [slotAt])
  obtain ⟨A, m, c, h1, _, _⟩ := hC.atR hG hl
  rw [hs] at h1
  refine wp_val (v := .bool s) (w' := w) rfl (by rw [putE_size, hN]) hd (ex_load (e1.trans g2) (run_loadS h1)) (hK _ _ ?_ ?_)
  · rw [hi]; exact Below.refl _ _
  · rw [hi]; rfl
set_option maxRecDepth 100000 in
theorem st_load4P {d t g k : Nat} {z1 z2 : Int} (hl : AtR W0 g 0 k z1) (hl2 : AtR W0 g 2 k z2) (hG : g ∉ G) (hp : a0.eval (.tmp t) = .pointer (some ⟨g, 0, none⟩)) (hN : a0.tmps.size = N) (hd : decide (d < N) = true) (hi : at_ ks i = kP k z1 z2) :
    PkStep Tryz.prog (Reg B W0 G) S0 ks a0 i { dst := some d, op := .load 27 (.tmp t), type := T, pos := pos, after := af, guard := gu } [] := by
  intro w x hC K hK
  obtain ⟨A, m, c, h1, h2, A1, m1, c1, e1, h3⟩ := hC.atR hG hl
  obtain ⟨A', m', c', h4, h5, A2, m2, c2, e2, h6⟩ := hC.atR hG hl2
  injection e1 with e1; injection e1 with e1; injection e1 with _ e1; injection e1 with e1 _; injection e1 with a b c; subst a; subst b; subst c
  injection e2 with e2; injection e2 with e2; injection e2 with _ e2; injection e2 with e2 _; injection e2 with a b c; subst a; subst b; subst c
  refine wp_val (w' := w) rfl hN hd (ex_load hp (run_load4P h1 h2 h4 h5)) (hK _ _ ?_ ?_)
  · rw [hi]; exact Below.refl _ _
  · rw [hi]; exact ⟨_, _, _, _, _, _, rfl, h3, h6⟩
set_option maxRecDepth 100000 in
theorem st_load4F {d t g k : Nat} {z1 z2 : Int} (hl : AtR W0 g 0 k z1) (hl2 : AtR W0 g 2 k z2) (hG : g ∉ G) (hp : a0.eval (.tmp t) = .pointer (some ⟨g, 0, none⟩)) (hN : a0.tmps.size = N) (hd : decide (d < N) = true) (hi : at_ ks i = kP k z1 z2) :
    PkStep Tryz.prog (Reg B W0 G) S0 ks a0 i { dst := some d, op := .load 53 (.tmp t), type := T, pos := pos, after := af, guard := gu } [] := by
  intro w x hC K hK
  obtain ⟨A, m, c, h1, h2, A1, m1, c1, e1, h3⟩ := hC.atR hG hl
  obtain ⟨A', m', c', h4, h5, A2, m2, c2, e2, h6⟩ := hC.atR hG hl2
  injection e1 with e1; injection e1 with e1; injection e1 with _ e1; injection e1 with e1 _; injection e1 with a b c; subst a; subst b; subst c
  injection e2 with e2; injection e2 with e2; injection e2 with _ e2; injection e2 with e2 _; injection e2 with a b c; subst a; subst b; subst c
  refine wp_val (w' := w) rfl hN hd (ex_load hp (run_load4F h1 h2 h4 h5)) (hK _ _ ?_ ?_)
  · rw [hi]; exact Below.refl _ _
  · rw [hi]; exact ⟨_, _, _, _, _, _, rfl, h3, h6⟩
end
set_option maxRecDepth 100000 in
set_option maxHeartbeats 4000000 in
theorem isOne_z1 {w : World} {v1 : Value} {z : Int} (hz : z = 1) (h1 : Zr w v1 159 (z)) :
    Calls Tryz.prog 35 #[v1] w (fun e w' => e = .returned (.bool true) ∧ Below w.heap.size w w') := by
  obtain ⟨A1, l1, c1, rfl, r1, u1⟩ := h1
  obtain ⟨b1, hb1⟩ : ∃ s, s = decide (z < 0) := ⟨_, rfl⟩
  rw [← hb1]
  have H1 := Lib.hid (show _ ∧ _ ∧ _ from ⟨hb1, r1, u1⟩)
  clear hb1 r1 u1
  go_enter Tryz.func35, Tryz.ntmps35
  repeat (refine wp_seq ?_)
  refine region_k ?_
  intro K hK
  have HK := Lib.hid hK
  clear hK
  go_wp2
  refine HK.out _ _ ?_
  clear HK
  refine then_n ?_
  obtain ⟨W_0, hW⟩ : ∃ W, W = w.alloc (Obj.cells #[Value.bool b1, Value.slice A1 l1 c1] 25) := ⟨_, rfl⟩
  have bb_0 : Below w.heap.size w W_0 := by rw [hW]; exact bal (Below.refl _ _) _
  have K0 : W_0.heap[w.heap.size]? = some (Obj.cells #[Value.bool b1, Value.slice A1 l1 c1] 25) := by rw [hW]; exact new_at (by simp)
  rw [← hW]
  obtain ⟨m1, n1, _, _⟩ := cell_of_two K0
  have f1_0 : AtR W_0 (w.heap.size) 0 159 (z) := ⟨A1, l1, c1, by rw [← H1.out.1]; exact m1, n1, A1, l1, c1, rfl, H1.out.2.1.below bb_0, H1.out.2.2⟩
  clear m1 n1
  clear hW K0
  refine name_frame (G := fun a => Code.wp _ _ _ a _) ?_
  intro a_0 ha
  have hN_0 : a_0.tmps.size = 7 := by subst ha; kernel_rfl
  have hD_0 : a_0.defers = [] := by subst ha; rfl
  have e1_0 : a_0.eval (.tmp 1) = .pointer (some ⟨w.heap.size, 0, none⟩) := by subst ha; kernel_rfl
  clear ha
  repeat (first | refine wp_seq ?_ | (refine wp_skip ?_; refine then_n ?_))
  refine wp_region_law hN_0 w.heap.size
    [kZ 159 (z), kZ 1 ((1 : Int)), kIs (.int .i64 (0)), kIs (.bool true), kIs (.bool true)]
    [ [], [], [(0, some 3), (1, some 4)], [(2, some 5)], [(3, some 6)] ]
    [(0, some 3), (1, some 4), (2, some 5), (3, some 6), (4, some 2)] [] [] (by kernel_rfl) (by kernel_rfl) (by kernel_rfl) (by kernel_rfl) (by kernel_rfl) (by kernel_rfl) (by kernel_rfl) bb_0.size ?_ ?_
  ·
    refine pk_cons rfl rfl (st_loadB f1_0 (by simp) e1_0 hN_0 (by kernel_rfl) rfl) ?_
    refine pk_cons rfl rfl (st_call0 [.int .i64 (1)] hN_0 (by kernel_rfl) (by kernel_rfl) rfl rfl fun w x hC => tz (z_of (1) 1 (by decide) (by decide) (by decide))) ?_
    refine pk_cons rfl rfl (st_call2 hN_0 (by kernel_rfl) (by kernel_rfl) (by kernel_rfl) (by kernel_rfl) (by kernel_rfl) rfl rfl rfl fun w x v1 v2 hC h1 h2 => ti (cmp_is (ord_eq hz) (z_cmp (rz h1) (rz h2) (by decide) (by decide)))) ?_
    refine pk_cons rfl rfl (st_pure [.int .i64 (0)] [] (.bool true) rfl hN_0 (by kernel_rfl) (by kernel_rfl) (by kernel_rfl) old0 (by kernel_rfl) (by kernel_rfl) (by kernel_rfl) (fun _ => by kernel_rfl)) ?_
    refine pk_cons rfl rfl (st_pure [.bool true] [] (.bool true) rfl hN_0 (by kernel_rfl) (by kernel_rfl) (by kernel_rfl) old0 (by kernel_rfl) (by kernel_rfl) (by kernel_rfl) (fun _ => by kernel_rfl)) ?_
    exact pk_nil rfl
  intro W x hC hall
  refine then_n ?_
  obtain ⟨a1, ha⟩ : ∃ a, a = putE x a_0 [(0, some 3), (1, some 4), (2, some 5), (3, some 6), (4, some 2)] := ⟨_, rfl⟩
  rw [← ha]
  have hD1 := defers_behind ha hD_0
  have bb1 := bb_0.trans hC.below
  have e1 := (slot_new (t := 2) (i := 4) ha hN_0 (by kernel_rfl) (by kernel_rfl)).trans (show x 4 = .bool true from hall 4 (of_decide_eq_true (by kernel_rfl)))
  repeat (first | refine wp_seq ?_ | (refine wp_skip ?_; refine then_n ?_))
  refine wp_ret ?_
  repeat (refine then_r ?_)
  exact ret_one (t := 2) rfl hD1 e1 ⟨rfl, bb1⟩
set_option maxRecDepth 100000 in
set_option maxHeartbeats 4000000 in
theorem isOne_z0 {w : World} {v1 : Value} {z : Int} (hz : 1 < z) (h1 : Zr w v1 159 (z)) :
    Calls Tryz.prog 35 #[v1] w (fun e w' => e = .returned (.bool false) ∧ Below w.heap.size w w') := by
  obtain ⟨A1, l1, c1, rfl, r1, u1⟩ := h1
  obtain ⟨b1, hb1⟩ : ∃ s, s = decide (z < 0) := ⟨_, rfl⟩
  rw [← hb1]
  have H1 := Lib.hid (show _ ∧ _ ∧ _ from ⟨hb1, r1, u1⟩)
  clear hb1 r1 u1
  go_enter Tryz.func35, Tryz.ntmps35
  repeat (refine wp_seq ?_)
  refine region_k ?_
  intro K hK
  have HK := Lib.hid hK
  clear hK
  go_wp2
  refine HK.out _ _ ?_
  clear HK
  refine then_n ?_
  obtain ⟨W_0, hW⟩ : ∃ W, W = w.alloc (Obj.cells #[Value.bool b1, Value.slice A1 l1 c1] 25) := ⟨_, rfl⟩
  have bb_0 : Below w.heap.size w W_0 := by rw [hW]; exact bal (Below.refl _ _) _
  have K0 : W_0.heap[w.heap.size]? = some (Obj.cells #[Value.bool b1, Value.slice A1 l1 c1] 25) := by rw [hW]; exact new_at (by simp)
  rw [← hW]
  obtain ⟨m1, n1, _, _⟩ := cell_of_two K0
  have f1_0 : AtR W_0 (w.heap.size) 0 159 (z) := ⟨A1, l1, c1, by rw [← H1.out.1]; exact m1, n1, A1, l1, c1, rfl, H1.out.2.1.below bb_0, H1.out.2.2⟩
  clear m1 n1
  clear hW K0
  refine name_frame (G := fun a => Code.wp _ _ _ a _) ?_
  intro a_0 ha
  have hN_0 : a_0.tmps.size = 7 := by subst ha; kernel_rfl
  have hD_0 : a_0.defers = [] := by subst ha; rfl
  have e1_0 : a_0.eval (.tmp 1) = .pointer (some ⟨w.heap.size, 0, none⟩) := by subst ha; kernel_rfl
  clear ha
  repeat (first | refine wp_seq ?_ | (refine wp_skip ?_; refine then_n ?_))
  refine wp_region_law hN_0 w.heap.size
    [kZ 159 (z), kZ 1 ((1 : Int)), kIs (.int .i64 (1)), kIs (.bool false), kIs (.bool false)]
    [ [], [], [(0, some 3), (1, some 4)], [(2, some 5)], [(3, some 6)] ]
    [(0, some 3), (1, some 4), (2, some 5), (3, some 6), (4, some 2)] [] [] (by kernel_rfl) (by kernel_rfl) (by kernel_rfl) (by kernel_rfl) (by kernel_rfl) (by kernel_rfl) (by kernel_rfl) bb_0.size ?_ ?_
  ·
    refine pk_cons rfl rfl (st_loadB f1_0 (by simp) e1_0 hN_0 (by kernel_rfl) rfl) ?_
    refine pk_cons rfl rfl (st_call0 [.int .i64 (1)] hN_0 (by kernel_rfl) (by kernel_rfl) rfl rfl fun w x hC => tz (z_of (1) 1 (by decide) (by decide) (by decide))) ?_
    refine pk_cons rfl rfl (st_call2 hN_0 (by kernel_rfl) (by kernel_rfl) (by kernel_rfl) (by kernel_rfl) (by kernel_rfl) rfl rfl rfl fun w x v1 v2 hC h1 h2 => ti (cmp_is (ord_gt hz) (z_cmp (rz h1) (rz h2) (by decide) (by decide)))) ?_
    refine pk_cons rfl rfl (st_pure [.int .i64 (1)] [] (.bool false) rfl hN_0 (by kernel_rfl) (by kernel_rfl) (by kernel_rfl) old0 (by kernel_rfl) (by kernel_rfl) (by kernel_rfl) (fun _ => by kernel_rfl)) ?_
    refine pk_cons rfl rfl (st_pure [.bool false] [] (.bool false) rfl hN_0 (by kernel_rfl) (by kernel_rfl) (by kernel_rfl) old0 (by kernel_rfl) (by kernel_rfl) (by kernel_rfl) (fun _ => by kernel_rfl)) ?_
    exact pk_nil rfl
  intro W x hC hall
  refine then_n ?_
  obtain ⟨a1, ha⟩ : ∃ a, a = putE x a_0 [(0, some 3), (1, some 4), (2, some 5), (3, some 6), (4, some 2)] := ⟨_, rfl⟩
  rw [← ha]
  have hD1 := defers_behind ha hD_0
  have bb1 := bb_0.trans hC.below
  have e1 := (slot_new (t := 2) (i := 4) ha hN_0 (by kernel_rfl) (by kernel_rfl)).trans (show x 4 = .bool false from hall 4 (of_decide_eq_true (by kernel_rfl)))
  repeat (first | refine wp_seq ?_ | (refine wp_skip ?_; refine then_n ?_))
  refine wp_ret ?_
  repeat (refine then_r ?_)
  exact ret_one (t := 2) rfl hD1 e1 ⟨rfl, bb1⟩
set_option maxRecDepth 100000 in
set_option maxHeartbeats 4000000 in
theorem right_9 {w : World} {v1 : Value} {a : Rat} (h1 : Pr w v1 9 (a.num) ((a.den : Int))) :
    Calls Tryz.prog 11 #[v1] w (fun e w' => e = .returned (.bool true) ∧ Below w.heap.size w w') := by
  obtain ⟨A1, l1, c1, A1', l1', c1', rfl, ⟨r1, u1⟩, r1', u1'⟩ := h1
  obtain ⟨b1, hb1⟩ : ∃ s, s = decide (a.num < 0) := ⟨_, rfl⟩
  obtain ⟨b1', hb1'⟩ : ∃ s, s = decide ((a.den : Int) < 0) := ⟨_, rfl⟩
  rw [← hb1, ← hb1']
  have H1 := Lib.hid (show _ ∧ _ ∧ _ ∧ _ ∧ _ ∧ _ from ⟨hb1, hb1', r1, u1, r1', u1'⟩)
  clear hb1 hb1' r1 u1 r1' u1'
  go_enter Tryz.func11, Tryz.ntmps11
  repeat (refine wp_seq ?_)
  refine region_k ?_
  intro K hK
  have HK := Lib.hid hK
  clear hK
  go_wp2
  refine HK.out _ _ ?_
  clear HK
  refine then_n ?_
  obtain ⟨W_0, hW⟩ : ∃ W, W = w.alloc (Obj.cells #[Value.bool b1, Value.slice A1 l1 c1, Value.bool b1', Value.slice A1' l1' c1'] 27) := ⟨_, rfl⟩
  have bb_0 : Below w.heap.size w W_0 := by rw [hW]; exact bal (Below.refl _ _) _
  have K0 : W_0.heap[w.heap.size]? = some (Obj.cells #[Value.bool b1, Value.slice A1 l1 c1, Value.bool b1', Value.slice A1' l1' c1'] 27) := by rw [hW]; exact new_at (by simp)
  rw [← hW]
  obtain ⟨m1, n1, m1', n1', _, _, _, _⟩ := four_cells K0
  have f1_0 : AtR W_0 (w.heap.size) 0 9 (a.num) := ⟨A1, l1, c1, by rw [← H1.out.1]; exact m1, n1, A1, l1, c1, rfl, H1.out.2.2.1.below bb_0, H1.out.2.2.2.1⟩
  have f1'_0 : AtR W_0 (w.heap.size) 2 9 ((a.den : Int)) := ⟨A1', l1', c1', by rw [← H1.out.2.1]; exact m1', n1', A1', l1', c1', rfl, H1.out.2.2.2.2.1.below bb_0, H1.out.2.2.2.2.2⟩
  clear m1 n1 m1' n1'
  clear hW K0
  refine name_frame (G := fun a => Code.wp _ _ _ a _) ?_
  intro a_0 ha
  have hN_0 : a_0.tmps.size = 32 := by subst ha; kernel_rfl
  have hD_0 : a_0.defers = [] := by subst ha; rfl
  have e1_0 : a_0.eval (.tmp 1) = .pointer (some ⟨w.heap.size, 0, none⟩) := by subst ha; kernel_rfl
  clear ha
  repeat (first | refine wp_seq ?_ | (refine wp_skip ?_; refine then_n ?_))
  refine wp_region_law hN_0 w.heap.size
    [kIs (.pointer (some ⟨w.heap.size, 0, none⟩)), kZ 9 (a.num), kIs (.bool true), kIs (.bool false), kIs (.bool false), kIs (.pointer (some ⟨w.heap.size, 2, none⟩)), kZ 9 ((a.den : Int)), kIs (.bool true), kIs (.bool false), kIs (.bool false)]
    [ [], [(0, some 3)], [(1, some 4)], [(2, some 5)], [(3, some 6)], [], [(5, some 8)], [(6, some 9)], [(7, some 10)], [(4, some 7), (8, some 11)] ]
    [(0, some 3), (1, some 4), (2, some 5), (3, some 6), (4, some 7), (5, some 8), (6, some 9), (7, some 10), (8, some 11), (9, some 12)] [(4, false)] [] (by kernel_rfl) (by kernel_rfl) (by kernel_rfl) (by kernel_rfl) (by kernel_rfl) (by kernel_rfl) (by kernel_rfl) bb_0.size ?_ ?_
  ·
    refine pk_cons rfl rfl (st_pure [] [(1, .pointer (some ⟨w.heap.size, 0, none⟩))] (.pointer (some ⟨w.heap.size, 0, none⟩)) rfl hN_0 (by kernel_rfl) (by kernel_rfl) (by kernel_rfl) (old1 e1_0) (by kernel_rfl) (by kernel_rfl) (by kernel_rfl) (fun _ => by kernel_rfl)) ?_
    refine pk_cons rfl rfl (st_loadA f1_0 (by simp) hN_0 (by kernel_rfl) (by kernel_rfl) rfl rfl) ?_
    refine pk_cons rfl rfl (st_call1 hN_0 (by kernel_rfl) (by kernel_rfl) (by kernel_rfl) rfl rfl fun w x v1 hC h1 => ti (z_right (rr h1))) ?_
    refine pk_cons rfl rfl (st_pure [.bool true] [] (.bool false) rfl hN_0 (by kernel_rfl) (by kernel_rfl) (by kernel_rfl) old0 (by kernel_rfl) (by kernel_rfl) (by kernel_rfl) (fun _ => by kernel_rfl)) ?_
    refine pk_cons rfl rfl (st_pure [.bool false] [] (.bool false) rfl hN_0 (by kernel_rfl) (by kernel_rfl) (by kernel_rfl) old0 (by kernel_rfl) (by kernel_rfl) (by kernel_rfl) (fun _ => by kernel_rfl)) ?_
    refine pk_cons rfl rfl (st_pure [] [(1, .pointer (some ⟨w.heap.size, 0, none⟩))] (.pointer (some ⟨w.heap.size, 2, none⟩)) rfl hN_0 (by kernel_rfl) (by kernel_rfl) (by kernel_rfl) (old1 e1_0) (by kernel_rfl) (by kernel_rfl) (by kernel_rfl) (fun _ => by kernel_rfl)) ?_
    refine pk_cons rfl rfl (st_loadA f1'_0 (by simp) hN_0 (by kernel_rfl) (by kernel_rfl) rfl rfl) ?_
    refine pk_cons rfl rfl (st_call1 hN_0 (by kernel_rfl) (by kernel_rfl) (by kernel_rfl) rfl rfl fun w x v1 hC h1 => ti (z_right (rr h1))) ?_
    refine pk_cons rfl rfl (st_pure [.bool true] [] (.bool false) rfl hN_0 (by kernel_rfl) (by kernel_rfl) (by kernel_rfl) old0 (by kernel_rfl) (by kernel_rfl) (by kernel_rfl) (fun _ => by kernel_rfl)) ?_
    refine pk_cons rfl rfl (st_pure [.bool false, .bool false] [] (.bool false) rfl hN_0 (by kernel_rfl) (by kernel_rfl) (by kernel_rfl) old0 (by kernel_rfl) (by kernel_rfl) (by kernel_rfl) (fun _ => by kernel_rfl)) ?_
    exact pk_nil rfl
  intro W_1 x hC hall
  refine then_n ?_
  obtain ⟨a_1, ha⟩ : ∃ a, a = putE x a_0 [(0, some 3), (1, some 4), (2, some 5), (3, some 6), (4, some 7), (5, some 8), (6, some 9), (7, some 10), (8, some 11), (9, some 12)] := ⟨_, rfl⟩
  rw [← ha]
  have hN_1 := size_behind ha hN_0
  have hD_1 := defers_behind ha hD_0
  have bb_1 := bb_0.trans hC.below
  have e1_1 := slot_old ha (by kernel_rfl) e1_0
  have f1_1 := hC.at0 f1_0
  have f1'_1 := hC.at0 f1'_0
  have e12_1 := (slot_new (t := 12) (i := 9) ha hN_0 (by kernel_rfl) (by kernel_rfl)).trans (show x 9 = .bool false from hall 9 (of_decide_eq_true (by kernel_rfl)))
  clear hall hC ha bb_0 hD_0 e1_0 f1_0 f1'_0
  repeat (first | refine wp_seq ?_ | (refine wp_skip ?_; refine then_n ?_))
  refine wp_cond_false e12_1 ?_
  repeat (first | refine wp_seq ?_ | (refine wp_skip ?_; refine then_n ?_))
  refine wp_region_law hN_1 w.heap.size
    [kIs (.pointer (some ⟨w.heap.size, 2, none⟩)), kZ 9 ((a.den : Int)), kIs (.bool false), kIs (.bool true), kIs (.bool true), kIs (.pointer (some ⟨w.heap.size, 2, none⟩)), kIs (.pointer (some ⟨w.heap.size, 2, none⟩)), kIs (.bool false), kIs (.bool true), kIs (.bool true), kIs (.bool true), kIs (.pointer (some ⟨w.heap.size, 0, none⟩)), kZ 9 (a.num), kIs (.pointer (some ⟨w.heap.size, 2, none⟩)), kZ 9 ((a.den : Int)), kZs [(9, (a.num)), (9, ((a.den : Int)))], kZ 9 (((zgcd [(a.num), ((a.den : Int))] : Nat) : Int)), kIs (.bool true), kIs (.bool true), kIs (.bool true)]
    [ [], [(0, some 13)], [(1, some 14)], [(2, some 15)], [(3, some 16)], [], [(5, some 18)], [(6, some 19)], [(7, some 20)], [(4, some 17), (8, some 21)], [(9, some 22)], [], [(11, some 24)], [], [(13, some 26)], [(12, some 25), (14, some 27)], [(15, some 28)], [(16, some 29)], [(10, some 23), (17, some 30)], [(18, some 31)] ]
    [(0, some 13), (1, some 14), (2, some 15), (3, some 16), (4, some 17), (5, some 18), (6, some 19), (7, some 20), (8, some 21), (9, some 22), (10, some 23), (11, some 24), (12, some 25), (13, some 26), (14, some 27), (15, some 28), (16, some 29), (17, some 30), (18, some 31), (19, some 2)] [(4, true), (10, true)] [] (by kernel_rfl) (by kernel_rfl) (by kernel_rfl) (by kernel_rfl) (by kernel_rfl) (by kernel_rfl) (by kernel_rfl) bb_1.size ?_ ?_
  ·
    refine pk_cons rfl rfl (st_pure [] [(1, .pointer (some ⟨w.heap.size, 0, none⟩))] (.pointer (some ⟨w.heap.size, 2, none⟩)) rfl hN_1 (by kernel_rfl) (by kernel_rfl) (by kernel_rfl) (old1 e1_1) (by kernel_rfl) (by kernel_rfl) (by kernel_rfl) (fun _ => by kernel_rfl)) ?_
    refine pk_cons rfl rfl (st_loadA f1'_1 (by simp) hN_1 (by kernel_rfl) (by kernel_rfl) rfl rfl) ?_
    refine pk_cons rfl rfl (st_call1 hN_1 (by kernel_rfl) (by kernel_rfl) (by kernel_rfl) rfl rfl fun w x v1 hC h1 => ti (isNone_z (rr h1) (den_ne a))) ?_
    refine pk_cons rfl rfl (st_pure [.bool false] [] (.bool true) rfl hN_1 (by kernel_rfl) (by kernel_rfl) (by kernel_rfl) old0 (by kernel_rfl) (by kernel_rfl) (by kernel_rfl) (fun _ => by kernel_rfl)) ?_
    refine pk_cons rfl rfl (st_pure [.bool true] [] (.bool true) rfl hN_1 (by kernel_rfl) (by kernel_rfl) (by kernel_rfl) old0 (by kernel_rfl) (by kernel_rfl) (by kernel_rfl) (fun _ => by kernel_rfl)) ?_
    refine pk_cons rfl rfl (st_pure [] [(1, .pointer (some ⟨w.heap.size, 0, none⟩))] (.pointer (some ⟨w.heap.size, 2, none⟩)) rfl hN_1 (by kernel_rfl) (by kernel_rfl) (by kernel_rfl) (old1 e1_1) (by kernel_rfl) (by kernel_rfl) (by kernel_rfl) (fun _ => by kernel_rfl)) ?_
    refine pk_cons rfl rfl (st_pure [.pointer (some ⟨w.heap.size, 2, none⟩)] [] (.pointer (some ⟨w.heap.size, 2, none⟩)) rfl hN_1 (by kernel_rfl) (by kernel_rfl) (by kernel_rfl) old0 (by kernel_rfl) (by kernel_rfl) (by kernel_rfl) (fun _ => by kernel_rfl)) ?_
    refine pk_cons rfl rfl (st_loadS (s := false) f1'_1 (den_sign a) (by simp) hN_1 (by kernel_rfl) (by kernel_rfl) rfl rfl) ?_
    refine pk_cons rfl rfl (st_pure [.bool false] [] (.bool true) rfl hN_1 (by kernel_rfl) (by kernel_rfl) (by kernel_rfl) old0 (by kernel_rfl) (by kernel_rfl) (by kernel_rfl) (fun _ => by kernel_rfl)) ?_
    refine pk_cons rfl rfl (st_pure [.bool true, .bool true] [] (.bool true) rfl hN_1 (by kernel_rfl) (by kernel_rfl) (by kernel_rfl) old0 (by kernel_rfl) (by kernel_rfl) (by kernel_rfl) (fun _ => by kernel_rfl)) ?_
    refine pk_cons rfl rfl (st_pure [.bool true] [] (.bool true) rfl hN_1 (by kernel_rfl) (by kernel_rfl) (by kernel_rfl) old0 (by kernel_rfl) (by kernel_rfl) (by kernel_rfl) (fun _ => by kernel_rfl)) ?_
    refine pk_cons rfl rfl (st_pure [] [(1, .pointer (some ⟨w.heap.size, 0, none⟩))] (.pointer (some ⟨w.heap.size, 0, none⟩)) rfl hN_1 (by kernel_rfl) (by kernel_rfl) (by kernel_rfl) (old1 e1_1) (by kernel_rfl) (by kernel_rfl) (by kernel_rfl) (fun _ => by kernel_rfl)) ?_
    refine pk_cons rfl rfl (st_loadA f1_1 (by simp) hN_1 (by kernel_rfl) (by kernel_rfl) rfl rfl) ?_
    refine pk_cons rfl rfl (st_pure [] [(1, .pointer (some ⟨w.heap.size, 0, none⟩))] (.pointer (some ⟨w.heap.size, 2, none⟩)) rfl hN_1 (by kernel_rfl) (by kernel_rfl) (by kernel_rfl) (old1 e1_1) (by kernel_rfl) (by kernel_rfl) (by kernel_rfl) (fun _ => by kernel_rfl)) ?_
    refine pk_cons rfl rfl (st_loadA f1'_1 (by simp) hN_1 (by kernel_rfl) (by kernel_rfl) rfl rfl) ?_
    refine pk_cons rfl rfl (st_list2 hN_1 (by kernel_rfl) (by kernel_rfl) (by kernel_rfl) (by kernel_rfl) (Nat.le_refl _) asR asR rfl) ?_
    refine pk_cons rfl rfl (st_call1 hN_1 (by kernel_rfl) (by kernel_rfl) (by kernel_rfl) rfl rfl fun w x v1 hC h1 => tz (l_gcd 9 (lz h1) (by kernel_rfl) (by decide) (by simp))) ?_
    refine pk_cons rfl rfl (st_call1 hN_1 (by kernel_rfl) (by kernel_rfl) (by kernel_rfl) rfl rfl fun w x v1 hC h1 => ti (isOne_z1 (gcd_one a) ((rr h1).mono (by decide)))) ?_
    refine pk_cons rfl rfl (st_pure [.bool true, .bool true] [] (.bool true) rfl hN_1 (by kernel_rfl) (by kernel_rfl) (by kernel_rfl) old0 (by kernel_rfl) (by kernel_rfl) (by kernel_rfl) (fun _ => by kernel_rfl)) ?_
    refine pk_cons rfl rfl (st_pure [.bool true] [] (.bool true) rfl hN_1 (by kernel_rfl) (by kernel_rfl) (by kernel_rfl) old0 (by kernel_rfl) (by kernel_rfl) (by kernel_rfl) (fun _ => by kernel_rfl)) ?_
    exact pk_nil rfl
  intro W x hC hall
  refine then_n ?_
  obtain ⟨a1, ha⟩ : ∃ a, a = putE x a_1 [(0, some 13), (1, some 14), (2, some 15), (3, some 16), (4, some 17), (5, some 18), (6, some 19), (7, some 20), (8, some 21), (9, some 22), (10, some 23), (11, some 24), (12, some 25), (13, some 26), (14, some 27), (15, some 28), (16, some 29), (17, some 30), (18, some 31), (19, some 2)] := ⟨_, rfl⟩
  rw [← ha]
  have hD1 := defers_behind ha hD_1
  have bb1 := bb_1.trans hC.below
  have e1 := (slot_new (t := 2) (i := 19) ha hN_1 (by kernel_rfl) (by kernel_rfl)).trans (show x 19 = .bool true from hall 19 (of_decide_eq_true (by kernel_rfl)))
  repeat (first | refine wp_seq ?_ | (refine wp_skip ?_; refine then_n ?_))
  refine wp_ret ?_
  repeat (refine then_r ?_)
  exact ret_one (t := 2) rfl hD1 e1 ⟨rfl, bb1⟩
set_option maxRecDepth 100000 in
set_option maxHeartbeats 4000000 in
theorem of_9 {w : World} {v1 : Value} {a : Rat} (h1 : Pr w v1 9 (a.num) ((a.den : Int))) :
    Calls Tryz.prog 44 #[v1] w (TellsP w 9 ((a.num)) (((a.den : Int)))) := by
  obtain ⟨A1, l1, c1, A1', l1', c1', rfl, ⟨r1, u1⟩, r1', u1'⟩ := h1
  obtain ⟨b1, hb1⟩ : ∃ s, s = decide (a.num < 0) := ⟨_, rfl⟩
  obtain ⟨b1', hb1'⟩ : ∃ s, s = decide ((a.den : Int) < 0) := ⟨_, rfl⟩
  rw [← hb1, ← hb1']
  have H1 := Lib.hid (show _ ∧ _ ∧ _ ∧ _ ∧ _ ∧ _ from ⟨hb1, hb1', r1, u1, r1', u1'⟩)
  clear hb1 hb1' r1 u1 r1' u1'
  go_enter Tryz.func44, Tryz.ntmps44
  repeat (refine wp_seq ?_)
  refine region_k ?_
  intro K hK
  have HK := Lib.hid hK
  clear hK
  go_wp2
  refine HK.out _ _ ?_
  clear HK
  refine then_n ?_
  obtain ⟨W_0, hW⟩ : ∃ W, W = (w.alloc (Obj.cells #[Value.bool b1, Value.slice A1 l1 c1, Value.bool b1', Value.slice A1' l1' c1'] 27)).alloc (Obj.cells #[Value.bool false, Value.slice none 0 0, Value.bool false, Value.slice none 0 0] 53) := ⟨_, rfl⟩
  have bb_0 : Below w.heap.size w W_0 := by rw [hW]; exact bal (bal (Below.refl _ _) _) _
  have K0 : W_0.heap[w.heap.size]? = some (Obj.cells #[Value.bool b1, Value.slice A1 l1 c1, Value.bool b1', Value.slice A1' l1' c1'] 27) := by rw [hW]; rw [Below.heap_alloc _ _ _ (by simp <;> omega)]; exact new_at (by simp)
  have K1 : W_0.heap[w.heap.size + 1]? = some (Obj.cells #[Value.bool false, Value.slice none 0 0, Value.bool false, Value.slice none 0 0] 53) := by rw [hW]; exact new_at (by simp)
  rw [← hW]
  obtain ⟨m1, n1, m1', n1', _, _, _, _⟩ := four_cells K0
  have f1_0 : AtR W_0 (w.heap.size) 0 9 (a.num) := ⟨A1, l1, c1, by rw [← H1.out.1]; exact m1, n1, A1, l1, c1, rfl, H1.out.2.2.1.below bb_0, H1.out.2.2.2.1⟩
  have f1'_0 : AtR W_0 (w.heap.size) 2 9 ((a.den : Int)) := ⟨A1', l1', c1', by rw [← H1.out.2.1]; exact m1', n1', A1', l1', c1', rfl, H1.out.2.2.2.2.1.below bb_0, H1.out.2.2.2.2.2⟩
  clear m1 n1 m1' n1'
  have R_0 : Holds_ W_0 (w.heap.size + 1) #[Value.bool false, Value.slice none 0 0, Value.bool false, Value.slice none 0 0] := ⟨⟨_, K1⟩, by simp [noDig]⟩
  clear hW K0 K1
  refine name_frame (G := fun a => Code.wp _ _ _ a _) ?_
  intro a_0 ha
  have hN_0 : a_0.tmps.size = 17 := by subst ha; kernel_rfl
  have hD_0 : a_0.defers = [] := by subst ha; rfl
  have e1_0 : a_0.eval (.tmp 1) = .pointer (some ⟨w.heap.size, 0, none⟩) := by subst ha; kernel_rfl
  have e2_0 : a_0.eval (.tmp 2) = .pointer (some ⟨w.heap.size + 1, 0, none⟩) := by subst ha; kernel_rfl
  clear ha
  repeat (first | refine wp_seq ?_ | (refine wp_skip ?_; refine then_n ?_))
  refine wp_region_law hN_0 w.heap.size
    [kP 9 (a.num) ((a.den : Int)), kIs (.bool true), kIs (.bool false)]
    [ [], [(0, some 3)], [(1, some 4)] ]
    [(0, some 3), (1, some 4), (2, some 5)] [] [] (by kernel_rfl) (by kernel_rfl) (by kernel_rfl) (by kernel_rfl) (by kernel_rfl) (by kernel_rfl) (by kernel_rfl) bb_0.size ?_ ?_
  ·
    refine pk_cons rfl rfl (st_load4P f1_0 f1'_0 (by simp) e1_0 hN_0 (by kernel_rfl) rfl) ?_
    refine pk_cons rfl rfl (st_call1 hN_0 (by kernel_rfl) (by kernel_rfl) (by kernel_rfl) rfl rfl fun w x v1 hC h1 => ti (right_9 (pm (by decide) h1))) ?_
    refine pk_cons rfl rfl (st_pure [.bool true] [] (.bool false) rfl hN_0 (by kernel_rfl) (by kernel_rfl) (by kernel_rfl) old0 (by kernel_rfl) (by kernel_rfl) (by kernel_rfl) (fun _ => by kernel_rfl)) ?_
    exact pk_nil rfl
  intro W_1 x hC hall
  refine then_n ?_
  obtain ⟨a_1, ha⟩ : ∃ a, a = putE x a_0 [(0, some 3), (1, some 4), (2, some 5)] := ⟨_, rfl⟩
  rw [← ha]
  have hN_1 := size_behind ha hN_0
  have hD_1 := defers_behind ha hD_0
  have bb_1 := bb_0.trans hC.below
  have e1_1 := slot_old ha (by kernel_rfl) e1_0
  have e2_1 := slot_old ha (by kernel_rfl) e2_0
  have f1_1 := hC.at0 f1_0
  have f1'_1 := hC.at0 f1'_0
  have R_1 := hC.holds R_0
  have e5_1 := (slot_new (t := 5) (i := 2) ha hN_0 (by kernel_rfl) (by kernel_rfl)).trans (show x 2 = .bool false from hall 2 (of_decide_eq_true (by kernel_rfl)))
  clear hall hC ha bb_0 hD_0 e1_0 e2_0 f1_0 f1'_0 R_0
  repeat (first | refine wp_seq ?_ | (refine wp_skip ?_; refine then_n ?_))
  refine wp_cond_false e5_1 ?_
  repeat (first | refine wp_seq ?_ | (refine wp_skip ?_; refine then_n ?_))
  refine wp_region_res hN_1 w.heap.size (w.heap.size + 1) R_1 (by omega)
    [kIs (.pointer (some ⟨w.heap.size, 0, none⟩)), kZ 9 (a.num), kZs [(9, (a.num))], kZ 9 ((a.num)), kIs (.pointer (some ⟨w.heap.size, 2, none⟩)), kZ 9 ((a.den : Int)), kZs [(9, ((a.den : Int)))], kZ 9 (((a.den : Int))), kP 9 ((a.num)) (((a.den : Int))), kP 9 ((a.num)) (((a.den : Int))), kRes (w.heap.size + 1) 9 ((a.num)) (((a.den : Int)))]
    [ [], [(0, some 7)], [(1, some 8)], [(2, some 9)], [], [(4, some 11)], [(5, some 12)], [(6, some 13)], [(3, some 10), (7, some 14)], [(8, some 15)], [(9, some 16)] ]
    [(0, some 7), (1, some 8), (2, some 9), (3, some 10), (4, some 11), (5, some 12), (6, some 13), (7, some 14), (8, some 15), (9, some 16), (10, none)] [] [] (by kernel_rfl) (by kernel_rfl) (by kernel_rfl) (by kernel_rfl) (by kernel_rfl) (by kernel_rfl) (by kernel_rfl) bb_1.size ?_ ?_
  ·
    refine pk_cons rfl rfl (st_pure [] [(1, .pointer (some ⟨w.heap.size, 0, none⟩))] (.pointer (some ⟨w.heap.size, 0, none⟩)) rfl hN_1 (by kernel_rfl) (by kernel_rfl) (by kernel_rfl) (old1 e1_1) (by kernel_rfl) (by kernel_rfl) (by kernel_rfl) (fun _ => by kernel_rfl)) ?_
    refine pk_cons rfl rfl (st_loadA f1_1 (by simp only [List.mem_singleton]; omega) hN_1 (by kernel_rfl) (by kernel_rfl) rfl rfl) ?_
    refine pk_cons rfl rfl (st_list1 hN_1 (by kernel_rfl) (by kernel_rfl) (Nat.le_refl _) asR rfl) ?_
    refine pk_cons rfl rfl (st_call1 hN_1 (by kernel_rfl) (by kernel_rfl) (by kernel_rfl) rfl rfl fun w x v1 hC h1 => tz (l_add1 9 (lz h1) (by decide) (by decide))) ?_
    refine pk_cons rfl rfl (st_pure [] [(1, .pointer (some ⟨w.heap.size, 0, none⟩))] (.pointer (some ⟨w.heap.size, 2, none⟩)) rfl hN_1 (by kernel_rfl) (by kernel_rfl) (by kernel_rfl) (old1 e1_1) (by kernel_rfl) (by kernel_rfl) (by kernel_rfl) (fun _ => by kernel_rfl)) ?_
    refine pk_cons rfl rfl (st_loadA f1'_1 (by simp only [List.mem_singleton]; omega) hN_1 (by kernel_rfl) (by kernel_rfl) rfl rfl) ?_
    refine pk_cons rfl rfl (st_list1 hN_1 (by kernel_rfl) (by kernel_rfl) (Nat.le_refl _) asR rfl) ?_
    refine pk_cons rfl rfl (st_call1 hN_1 (by kernel_rfl) (by kernel_rfl) (by kernel_rfl) rfl rfl fun w x v1 hC h1 => tz (l_add1 9 (lz h1) (by decide) (by decide))) ?_
    refine pk_cons rfl rfl (st_buildP (k := 9) hN_1 (by kernel_rfl) (by kernel_rfl) (by kernel_rfl) (by kernel_rfl) (by kernel_rfl) (by kernel_rfl) rfl rfl rfl) ?_
    refine pk_cons rfl rfl (st_buildF hN_1 (by kernel_rfl) (by kernel_rfl) rfl rfl) ?_
    refine pk_cons rfl rfl (st_resF R_1 rfl (by simp) e2_1 hN_1 (by kernel_rfl) (by kernel_rfl) rfl rfl) ?_
    exact pk_nil rfl
  intro W x hC hall
  refine then_n ?_
  obtain ⟨a1, ha⟩ : ∃ a, a = putE x a_1 [(0, some 7), (1, some 8), (2, some 9), (3, some 10), (4, some 11), (5, some 12), (6, some 13), (7, some 14), (8, some 15), (9, some 16), (10, none)] := ⟨_, rfl⟩
  rw [← ha]
  have hD1 := defers_behind ha hD_1
  have bb1 := bb_1.trans hC.below
  obtain ⟨cs, hg, hP⟩ := (show (kRes (w.heap.size + 1) 9 ((a.num)) (((a.den : Int)))).sem _ _ _ _ from hall 10 (of_decide_eq_true (by kernel_rfl)))
  have e1 := slot_old (t := 2) ha (by kernel_rfl) e2_1
  repeat (first | refine wp_seq ?_ | (refine wp_skip ?_; refine then_n ?_))
  refine wp_ret ?_
  repeat (refine then_r ?_)
  exact ret_cellF (t := 2) rfl hD1 e1 hg hP fun v hv => ⟨v, rfl, hv, bb1⟩
set_option maxRecDepth 100000 in
set_option maxHeartbeats 4000000 in
theorem right_19 {w : World} {v1 : Value} {a : Rat} (h1 : Pr w v1 19 (a.num) ((a.den : Int))) :
    Calls Tryz.prog 11 #[v1] w (fun e w' => e = .returned (.bool true) ∧ Below w.heap.size w w') := by
  obtain ⟨A1, l1, c1, A1', l1', c1', rfl, ⟨r1, u1⟩, r1', u1'⟩ := h1
  obtain ⟨b1, hb1⟩ : ∃ s, s = decide (a.num < 0) := ⟨_, rfl⟩
  obtain ⟨b1', hb1'⟩ : ∃ s, s = decide ((a.den : Int) < 0) := ⟨_, rfl⟩
  rw [← hb1, ← hb1']
  have H1 := Lib.hid (show _ ∧ _ ∧ _ ∧ _ ∧ _ ∧ _ from ⟨hb1, hb1', r1, u1, r1', u1'⟩)
  clear hb1 hb1' r1 u1 r1' u1'
  go_enter Tryz.func11, Tryz.ntmps11
  repeat (refine wp_seq ?_)
  refine region_k ?_
  intro K hK
  have HK := Lib.hid hK
  clear hK
  go_wp2
  refine HK.out _ _ ?_
  clear HK
  refine then_n ?_
  obtain ⟨W_0, hW⟩ : ∃ W, W = w.alloc (Obj.cells #[Value.bool b1, Value.slice A1 l1 c1, Value.bool b1', Value.slice A1' l1' c1'] 27) := ⟨_, rfl⟩
  have bb_0 : Below w.heap.size w W_0 := by rw [hW]; exact bal (Below.refl _ _) _
  have K0 : W_0.heap[w.heap.size]? = some (Obj.cells #[Value.bool b1, Value.slice A1 l1 c1, Value.bool b1', Value.slice A1' l1' c1'] 27) := by rw [hW]; exact new_at (by simp)
  rw [← hW]
  obtain ⟨m1, n1, m1', n1', _, _, _, _⟩ := four_cells K0
  have f1_0 : AtR W_0 (w.heap.size) 0 19 (a.num) := ⟨A1, l1, c1, by rw [← H1.out.1]; exact m1, n1, A1, l1, c1, rfl, H1.out.2.2.1.below bb_0, H1.out.2.2.2.1⟩
  have f1'_0 : AtR W_0 (w.heap.size) 2 19 ((a.den : Int)) := ⟨A1', l1', c1', by rw [← H1.out.2.1]; exact m1', n1', A1', l1', c1', rfl, H1.out.2.2.2.2.1.below bb_0, H1.out.2.2.2.2.2⟩
  clear m1 n1 m1' n1'
  clear hW K0
  refine name_frame (G := fun a => Code.wp _ _ _ a _) ?_
  intro a_0 ha
  have hN_0 : a_0.tmps.size = 32 := by subst ha; kernel_rfl
  have hD_0 : a_0.defers = [] := by subst ha; rfl
  have e1_0 : a_0.eval (.tmp 1) = .pointer (some ⟨w.heap.size, 0, none⟩) := by subst ha; kernel_rfl
  clear ha
  repeat (first | refine wp_seq ?_ | (refine wp_skip ?_; refine then_n ?_))
  refine wp_region_law hN_0 w.heap.size
    [kIs (.pointer (some ⟨w.heap.size, 0, none⟩)), kZ 19 (a.num), kIs (.bool true), kIs (.bool false), kIs (.bool false), kIs (.pointer (some ⟨w.heap.size, 2, none⟩)), kZ 19 ((a.den : Int)), kIs (.bool true), kIs (.bool false), kIs (.bool false)]
    [ [], [(0, some 3)], [(1, some 4)], [(2, some 5)], [(3, some 6)], [], [(5, some 8)], [(6, some 9)], [(7, some 10)], [(4, some 7), (8, some 11)] ]
    [(0, some 3), (1, some 4), (2, some 5), (3, some 6), (4, some 7), (5, some 8), (6, some 9), (7, some 10), (8, some 11), (9, some 12)] [(4, false)] [] (by kernel_rfl) (by kernel_rfl) (by kernel_rfl) (by kernel_rfl) (by kernel_rfl) (by kernel_rfl) (by kernel_rfl) bb_0.size ?_ ?_
  ·
    refine pk_cons rfl rfl (st_pure [] [(1, .pointer (some ⟨w.heap.size, 0, none⟩))] (.pointer (some ⟨w.heap.size, 0, none⟩)) rfl hN_0 (by kernel_rfl) (by kernel_rfl) (by kernel_rfl) (old1 e1_0) (by kernel_rfl) (by kernel_rfl) (by kernel_rfl) (fun _ => by kernel_rfl)) ?_
    refine pk_cons rfl rfl (st_loadA f1_0 (by simp) hN_0 (by kernel_rfl) (by kernel_rfl) rfl rfl) ?_
    refine pk_cons rfl rfl (st_call1 hN_0 (by kernel_rfl) (by kernel_rfl) (by kernel_rfl) rfl rfl fun w x v1 hC h1 => ti (z_right (rr h1))) ?_
    refine pk_cons rfl rfl (st_pure [.bool true] [] (.bool false) rfl hN_0 (by kernel_rfl) (by kernel_rfl) (by kernel_rfl) old0 (by kernel_rfl) (by kernel_rfl) (by kernel_rfl) (fun _ => by kernel_rfl)) ?_
    refine pk_cons rfl rfl (st_pure [.bool false] [] (.bool false) rfl hN_0 (by kernel_rfl) (by kernel_rfl) (by kernel_rfl) old0 (by kernel_rfl) (by kernel_rfl) (by kernel_rfl) (fun _ => by kernel_rfl)) ?_
    refine pk_cons rfl rfl (st_pure [] [(1, .pointer (some ⟨w.heap.size, 0, none⟩))] (.pointer (some ⟨w.heap.size, 2, none⟩)) rfl hN_0 (by kernel_rfl) (by kernel_rfl) (by kernel_rfl) (old1 e1_0) (by kernel_rfl) (by kernel_rfl) (by kernel_rfl) (fun _ => by kernel_rfl)) ?_
    refine pk_cons rfl rfl (st_loadA f1'_0 (by simp) hN_0 (by kernel_rfl) (by kernel_rfl) rfl rfl) ?_
    refine pk_cons rfl rfl (st_call1 hN_0 (by kernel_rfl) (by kernel_rfl) (by kernel_rfl) rfl rfl fun w x v1 hC h1 => ti (z_right (rr h1))) ?_
    refine pk_cons rfl rfl (st_pure [.bool true] [] (.bool false) rfl hN_0 (by kernel_rfl) (by kernel_rfl) (by kernel_rfl) old0 (by kernel_rfl) (by kernel_rfl) (by kernel_rfl) (fun _ => by kernel_rfl)) ?_
    refine pk_cons rfl rfl (st_pure [.bool false, .bool false] [] (.bool false) rfl hN_0 (by kernel_rfl) (by kernel_rfl) (by kernel_rfl) old0 (by kernel_rfl) (by kernel_rfl) (by kernel_rfl) (fun _ => by kernel_rfl)) ?_
    exact pk_nil rfl
  intro W_1 x hC hall
  refine then_n ?_
  obtain ⟨a_1, ha⟩ : ∃ a, a = putE x a_0 [(0, some 3), (1, some 4), (2, some 5), (3, some 6), (4, some 7), (5, some 8), (6, some 9), (7, some 10), (8, some 11), (9, some 12)] := ⟨_, rfl⟩
  rw [← ha]
  have hN_1 := size_behind ha hN_0
  have hD_1 := defers_behind ha hD_0
  have bb_1 := bb_0.trans hC.below
  have e1_1 := slot_old ha (by kernel_rfl) e1_0
  have f1_1 := hC.at0 f1_0
  have f1'_1 := hC.at0 f1'_0
  have e12_1 := (slot_new (t := 12) (i := 9) ha hN_0 (by kernel_rfl) (by kernel_rfl)).trans (show x 9 = .bool false from hall 9 (of_decide_eq_true (by kernel_rfl)))
  clear hall hC ha bb_0 hD_0 e1_0 f1_0 f1'_0
  repeat (first | refine wp_seq ?_ | (refine wp_skip ?_; refine then_n ?_))
  refine wp_cond_false e12_1 ?_
  repeat (first | refine wp_seq ?_ | (refine wp_skip ?_; refine then_n ?_))
  refine wp_region_law hN_1 w.heap.size
    [kIs (.pointer (some ⟨w.heap.size, 2, none⟩)), kZ 19 ((a.den : Int)), kIs (.bool false), kIs (.bool true), kIs (.bool true), kIs (.pointer (some ⟨w.heap.size, 2, none⟩)), kIs (.pointer (some ⟨w.heap.size, 2, none⟩)), kIs (.bool false), kIs (.bool true), kIs (.bool true), kIs (.bool true), kIs (.pointer (some ⟨w.heap.size, 0, none⟩)), kZ 19 (a.num), kIs (.pointer (some ⟨w.heap.size, 2, none⟩)), kZ 19 ((a.den : Int)), kZs [(19, (a.num)), (19, ((a.den : Int)))], kZ 19 (((zgcd [(a.num), ((a.den : Int))] : Nat) : Int)), kIs (.bool true), kIs (.bool true), kIs (.bool true)]
    [ [], [(0, some 13)], [(1, some 14)], [(2, some 15)], [(3, some 16)], [], [(5, some 18)], [(6, some 19)], [(7, some 20)], [(4, some 17), (8, some 21)], [(9, some 22)], [], [(11, some 24)], [], [(13, some 26)], [(12, some 25), (14, some 27)], [(15, some 28)], [(16, some 29)], [(10, some 23), (17, some 30)], [(18, some 31)] ]
    [(0, some 13), (1, some 14), (2, some 15), (3, some 16), (4, some 17), (5, some 18), (6, some 19), (7, some 20), (8, some 21), (9, some 22), (10, some 23), (11, some 24), (12, some 25), (13, some 26), (14, some 27), (15, some 28), (16, some 29), (17, some 30), (18, some 31), (19, some 2)] [(4, true), (10, true)] [] (by kernel_rfl) (by kernel_rfl) (by kernel_rfl) (by kernel_rfl) (by kernel_rfl) (by kernel_rfl) (by kernel_rfl) bb_1.size ?_ ?_
  ·
    refine pk_cons rfl rfl (st_pure [] [(1, .pointer (some ⟨w.heap.size, 0, none⟩))] (.pointer (some ⟨w.heap.size, 2, none⟩)) rfl hN_1 (by kernel_rfl) (by kernel_rfl) (by kernel_rfl) (old1 e1_1) (by kernel_rfl) (by kernel_rfl) (by kernel_rfl) (fun _ => by kernel_rfl)) ?_
    refine pk_cons rfl rfl (st_loadA f1'_1 (by simp) hN_1 (by kernel_rfl) (by kernel_rfl) rfl rfl) ?_
    refine pk_cons rfl rfl (st_call1 hN_1 (by kernel_rfl) (by kernel_rfl) (by kernel_rfl) rfl rfl fun w x v1 hC h1 => ti (isNone_z (rr h1) (den_ne a))) ?_
    refine pk_cons rfl rfl (st_pure [.bool false] [] (.bool true) rfl hN_1 (by kernel_rfl) (by kernel_rfl) (by kernel_rfl) old0 (by kernel_rfl) (by kernel_rfl) (by kernel_rfl) (fun _ => by kernel_rfl)) ?_
    refine pk_cons rfl rfl (st_pure [.bool true] [] (.bool true) rfl hN_1 (by kernel_rfl) (by kernel_rfl) (by kernel_rfl) old0 (by kernel_rfl) (by kernel_rfl) (by kernel_rfl) (fun _ => by kernel_rfl)) ?_
    refine pk_cons rfl rfl (st_pure [] [(1, .pointer (some ⟨w.heap.size, 0, none⟩))] (.pointer (some ⟨w.heap.size, 2, none⟩)) rfl hN_1 (by kernel_rfl) (by kernel_rfl) (by kernel_rfl) (old1 e1_1) (by kernel_rfl) (by kernel_rfl) (by kernel_rfl) (fun _ => by kernel_rfl)) ?_
    refine pk_cons rfl rfl (st_pure [.pointer (some ⟨w.heap.size, 2, none⟩)] [] (.pointer (some ⟨w.heap.size, 2, none⟩)) rfl hN_1 (by kernel_rfl) (by kernel_rfl) (by kernel_rfl) old0 (by kernel_rfl) (by kernel_rfl) (by kernel_rfl) (fun _ => by kernel_rfl)) ?_
    refine pk_cons rfl rfl (st_loadS (s := false) f1'_1 (den_sign a) (by simp) hN_1 (by kernel_rfl) (by kernel_rfl) rfl rfl) ?_
    refine pk_cons rfl rfl (st_pure [.bool false] [] (.bool true) rfl hN_1 (by kernel_rfl) (by kernel_rfl) (by kernel_rfl) old0 (by kernel_rfl) (by kernel_rfl) (by kernel_rfl) (fun _ => by kernel_rfl)) ?_
    refine pk_cons rfl rfl (st_pure [.bool true, .bool true] [] (.bool true) rfl hN_1 (by kernel_rfl) (by kernel_rfl) (by kernel_rfl) old0 (by kernel_rfl) (by kernel_rfl) (by kernel_rfl) (fun _ => by kernel_rfl)) ?_
    refine pk_cons rfl rfl (st_pure [.bool true] [] (.bool true) rfl hN_1 (by kernel_rfl) (by kernel_rfl) (by kernel_rfl) old0 (by kernel_rfl) (by kernel_rfl) (by kernel_rfl) (fun _ => by kernel_rfl)) ?_
    refine pk_cons rfl rfl (st_pure [] [(1, .pointer (some ⟨w.heap.size, 0, none⟩))] (.pointer (some ⟨w.heap.size, 0, none⟩)) rfl hN_1 (by kernel_rfl) (by kernel_rfl) (by kernel_rfl) (old1 e1_1) (by kernel_rfl) (by kernel_rfl) (by kernel_rfl) (fun _ => by kernel_rfl)) ?_
    refine pk_cons rfl rfl (st_loadA f1_1 (by simp) hN_1 (by kernel_rfl) (by kernel_rfl) rfl rfl) ?_
    refine pk_cons rfl rfl (st_pure [] [(1, .pointer (some ⟨w.heap.size, 0, none⟩))] (.pointer (some ⟨w.heap.size, 2, none⟩)) rfl hN_1 (by kernel_rfl) (by kernel_rfl) (by kernel_rfl) (old1 e1_1) (by kernel_rfl) (by kernel_rfl) (by kernel_rfl) (fun _ => by kernel_rfl)) ?_
    refine pk_cons rfl rfl (st_loadA f1'_1 (by simp) hN_1 (by kernel_rfl) (by kernel_rfl) rfl rfl) ?_
    refine pk_cons rfl rfl (st_list2 hN_1 (by kernel_rfl) (by kernel_rfl) (by kernel_rfl) (by kernel_rfl) (Nat.le_refl _) asR asR rfl) ?_
    refine pk_cons rfl rfl (st_call1 hN_1 (by kernel_rfl) (by kernel_rfl) (by kernel_rfl) rfl rfl fun w x v1 hC h1 => tz (l_gcd 19 (lz h1) (by kernel_rfl) (by decide) (by simp))) ?_
    refine pk_cons rfl rfl (st_call1 hN_1 (by kernel_rfl) (by kernel_rfl) (by kernel_rfl) rfl rfl fun w x v1 hC h1 => ti (isOne_z1 (gcd_one a) ((rr h1).mono (by decide)))) ?_
    refine pk_cons rfl rfl (st_pure [.bool true, .bool true] [] (.bool true) rfl hN_1 (by kernel_rfl) (by kernel_rfl) (by kernel_rfl) old0 (by kernel_rfl) (by kernel_rfl) (by kernel_rfl) (fun _ => by kernel_rfl)) ?_
    refine pk_cons rfl rfl (st_pure [.bool true] [] (.bool true) rfl hN_1 (by kernel_rfl) (by kernel_rfl) (by kernel_rfl) old0 (by kernel_rfl) (by kernel_rfl) (by kernel_rfl) (fun _ => by kernel_rfl)) ?_
    exact pk_nil rfl
  intro W x hC hall
  refine then_n ?_
  obtain ⟨a1, ha⟩ : ∃ a, a = putE x a_1 [(0, some 13), (1, some 14), (2, some 15), (3, some 16), (4, some 17), (5, some 18), (6, some 19), (7, some 20), (8, some 21), (9, some 22), (10, some 23), (11, some 24), (12, some 25), (13, some 26), (14, some 27), (15, some 28), (16, some 29), (17, some 30), (18, some 31), (19, some 2)] := ⟨_, rfl⟩
  rw [← ha]
  have hD1 := defers_behind ha hD_1
  have bb1 := bb_1.trans hC.below
  have e1 := (slot_new (t := 2) (i := 19) ha hN_1 (by kernel_rfl) (by kernel_rfl)).trans (show x 19 = .bool true from hall 19 (of_decide_eq_true (by kernel_rfl)))
  repeat (first | refine wp_seq ?_ | (refine wp_skip ?_; refine then_n ?_))
  refine wp_ret ?_
  repeat (refine then_r ?_)
  exact ret_one (t := 2) rfl hD1 e1 ⟨rfl, bb1⟩
set_option maxRecDepth 100000 in
set_option maxHeartbeats 4000000 in
theorem of_19 {w : World} {v1 : Value} {a : Rat} (h1 : Pr w v1 19 (a.num) ((a.den : Int))) :
    Calls Tryz.prog 44 #[v1] w (TellsP w 19 ((a.num)) (((a.den : Int)))) := by
  obtain ⟨A1, l1, c1, A1', l1', c1', rfl, ⟨r1, u1⟩, r1', u1'⟩ := h1
  obtain ⟨b1, hb1⟩ : ∃ s, s = decide (a.num < 0) := ⟨_, rfl⟩
  obtain ⟨b1', hb1'⟩ : ∃ s, s = decide ((a.den : Int) < 0) := ⟨_, rfl⟩
  rw [← hb1, ← hb1']
  have H1 := Lib.hid (show _ ∧ _ ∧ _ ∧ _ ∧ _ ∧ _ from ⟨hb1, hb1', r1, u1, r1', u1'⟩)
  clear hb1 hb1' r1 u1 r1' u1'
  go_enter Tryz.func44, Tryz.ntmps44
  repeat (refine wp_seq ?_)
  refine region_k ?_
  intro K hK
  have HK := Lib.hid hK
  clear hK
  go_wp2
  refine HK.out _ _ ?_
  clear HK
  refine then_n ?_
  obtain ⟨W_0, hW⟩ : ∃ W, W = (w.alloc (Obj.cells #[Value.bool b1, Value.slice A1 l1 c1, Value.bool b1', Value.slice A1' l1' c1'] 27)).alloc (Obj.cells #[Value.bool false, Value.slice none 0 0, Value.bool false, Value.slice none 0 0] 53) := ⟨_, rfl⟩
  have bb_0 : Below w.heap.size w W_0 := by rw [hW]; exact bal (bal (Below.refl _ _) _) _
  have K0 : W_0.heap[w.heap.size]? = some (Obj.cells #[Value.bool b1, Value.slice A1 l1 c1, Value.bool b1', Value.slice A1' l1' c1'] 27) := by rw [hW]; rw [Below.heap_alloc _ _ _ (by simp <;> omega)]; exact new_at (by simp)
  have K1 : W_0.heap[w.heap.size + 1]? = some (Obj.cells #[Value.bool false, Value.slice none 0 0, Value.bool false, Value.slice none 0 0] 53) := by rw [hW]; exact new_at (by simp)
  rw [← hW]
  obtain ⟨m1, n1, m1', n1', _, _, _, _⟩ := four_cells K0
  have f1_0 : AtR W_0 (w.heap.size) 0 19 (a.num) := ⟨A1, l1, c1, by rw [← H1.out.1]; exact m1, n1, A1, l1, c1, rfl, H1.out.2.2.1.below bb_0, H1.out.2.2.2.1⟩
  have f1'_0 : AtR W_0 (w.heap.size) 2 19 ((a.den : Int)) := ⟨A1', l1', c1', by rw [← H1.out.2.1]; exact m1', n1', A1', l1', c1', rfl, H1.out.2.2.2.2.1.below bb_0, H1.out.2.2.2.2.2⟩
  clear m1 n1 m1' n1'
  have R_0 : Holds_ W_0 (w.heap.size + 1) #[Value.bool false, Value.slice none 0 0, Value.bool false, Value.slice none 0 0] := ⟨⟨_, K1⟩, by simp [noDig]⟩
  clear hW K0 K1
  refine name_frame (G := fun a => Code.wp _ _ _ a _) ?_
  intro a_0 ha
  have hN_0 : a_0.tmps.size = 17 := by subst ha; kernel_rfl
  have hD_0 : a_0.defers = [] := by subst ha; rfl
  have e1_0 : a_0.eval (.tmp 1) = .pointer (some ⟨w.heap.size, 0, none⟩) := by subst ha; kernel_rfl
  have e2_0 : a_0.eval (.tmp 2) = .pointer (some ⟨w.heap.size + 1, 0, none⟩) := by subst ha; kernel_rfl
  clear ha
  repeat (first | refine wp_seq ?_ | (refine wp_skip ?_; refine then_n ?_))
  refine wp_region_law hN_0 w.heap.size
    [kP 19 (a.num) ((a.den : Int)), kIs (.bool true), kIs (.bool false)]
    [ [], [(0, some 3)], [(1, some 4)] ]
    [(0, some 3), (1, some 4), (2, some 5)] [] [] (by kernel_rfl) (by kernel_rfl) (by kernel_rfl) (by kernel_rfl) (by kernel_rfl) (by kernel_rfl) (by kernel_rfl) bb_0.size ?_ ?_
  ·
    refine pk_cons rfl rfl (st_load4P f1_0 f1'_0 (by simp) e1_0 hN_0 (by kernel_rfl) rfl) ?_
    refine pk_cons rfl rfl (st_call1 hN_0 (by kernel_rfl) (by kernel_rfl) (by kernel_rfl) rfl rfl fun w x v1 hC h1 => ti (right_19 (pm (by decide) h1))) ?_
    refine pk_cons rfl rfl (st_pure [.bool true] [] (.bool false) rfl hN_0 (by kernel_rfl) (by kernel_rfl) (by kernel_rfl) old0 (by kernel_rfl) (by kernel_rfl) (by kernel_rfl) (fun _ => by kernel_rfl)) ?_
    exact pk_nil rfl
  intro W_1 x hC hall
  refine then_n ?_
  obtain ⟨a_1, ha⟩ : ∃ a, a = putE x a_0 [(0, some 3), (1, some 4), (2, some 5)] := ⟨_, rfl⟩
  rw [← ha]
  have hN_1 := size_behind ha hN_0
  have hD_1 := defers_behind ha hD_0
  have bb_1 := bb_0.trans hC.below
  have e1_1 := slot_old ha (by kernel_rfl) e1_0
  have e2_1 := slot_old ha (by kernel_rfl) e2_0
  have f1_1 := hC.at0 f1_0
  have f1'_1 := hC.at0 f1'_0
  have R_1 := hC.holds R_0
  have e5_1 := (slot_new (t := 5) (i := 2) ha hN_0 (by kernel_rfl) (by kernel_rfl)).trans (show x 2 = .bool false from hall 2 (of_decide_eq_true (by kernel_rfl)))
  clear hall hC ha bb_0 hD_0 e1_0 e2_0 f1_0 f1'_0 R_0
  repeat (first | refine wp_seq ?_ | (refine wp_skip ?_; refine then_n ?_))
  refine wp_cond_false e5_1 ?_
  repeat (first | refine wp_seq ?_ | (refine wp_skip ?_; refine then_n ?_))
  refine wp_region_res hN_1 w.heap.size (w.heap.size + 1) R_1 (by omega)
    [kIs (.pointer (some ⟨w.heap.size, 0, none⟩)), kZ 19 (a.num), kZs [(19, (a.num))], kZ 19 ((a.num)), kIs (.pointer (some ⟨w.heap.size, 2, none⟩)), kZ 19 ((a.den : Int)), kZs [(19, ((a.den : Int)))], kZ 19 (((a.den : Int))), kP 19 ((a.num)) (((a.den : Int))), kP 19 ((a.num)) (((a.den : Int))), kRes (w.heap.size + 1) 19 ((a.num)) (((a.den : Int)))]
    [ [], [(0, some 7)], [(1, some 8)], [(2, some 9)], [], [(4, some 11)], [(5, some 12)], [(6, some 13)], [(3, some 10), (7, some 14)], [(8, some 15)], [(9, some 16)] ]
    [(0, some 7), (1, some 8), (2, some 9), (3, some 10), (4, some 11), (5, some 12), (6, some 13), (7, some 14), (8, some 15), (9, some 16), (10, none)] [] [] (by kernel_rfl) (by kernel_rfl) (by kernel_rfl) (by kernel_rfl) (by kernel_rfl) (by kernel_rfl) (by kernel_rfl) bb_1.size ?_ ?_
  ·
    refine pk_cons rfl rfl (st_pure [] [(1, .pointer (some ⟨w.heap.size, 0, none⟩))] (.pointer (some ⟨w.heap.size, 0, none⟩)) rfl hN_1 (by kernel_rfl) (by kernel_rfl) (by kernel_rfl) (old1 e1_1) (by kernel_rfl) (by kernel_rfl) (by kernel_rfl) (fun _ => by kernel_rfl)) ?_
    refine pk_cons rfl rfl (st_loadA f1_1 (by simp only [List.mem_singleton]; omega) hN_1 (by kernel_rfl) (by kernel_rfl) rfl rfl) ?_
    refine pk_cons rfl rfl (st_list1 hN_1 (by kernel_rfl) (by kernel_rfl) (Nat.le_refl _) asR rfl) ?_
    refine pk_cons rfl rfl (st_call1 hN_1 (by kernel_rfl) (by kernel_rfl) (by kernel_rfl) rfl rfl fun w x v1 hC h1 => tz (l_add1 19 (lz h1) (by decide) (by decide))) ?_
    refine pk_cons rfl rfl (st_pure [] [(1, .pointer (some ⟨w.heap.size, 0, none⟩))] (.pointer (some ⟨w.heap.size, 2, none⟩)) rfl hN_1 (by kernel_rfl) (by kernel_rfl) (by kernel_rfl) (old1 e1_1) (by kernel_rfl) (by kernel_rfl) (by kernel_rfl) (fun _ => by kernel_rfl)) ?_
    refine pk_cons rfl rfl (st_loadA f1'_1 (by simp only [List.mem_singleton]; omega) hN_1 (by kernel_rfl) (by kernel_rfl) rfl rfl) ?_
    refine pk_cons rfl rfl (st_list1 hN_1 (by kernel_rfl) (by kernel_rfl) (Nat.le_refl _) asR rfl) ?_
    refine pk_cons rfl rfl (st_call1 hN_1 (by kernel_rfl) (by kernel_rfl) (by kernel_rfl) rfl rfl fun w x v1 hC h1 => tz (l_add1 19 (lz h1) (by decide) (by decide))) ?_
    refine pk_cons rfl rfl (st_buildP (k := 19) hN_1 (by kernel_rfl) (by kernel_rfl) (by kernel_rfl) (by kernel_rfl) (by kernel_rfl) (by kernel_rfl) rfl rfl rfl) ?_
    refine pk_cons rfl rfl (st_buildF hN_1 (by kernel_rfl) (by kernel_rfl) rfl rfl) ?_
    refine pk_cons rfl rfl (st_resF R_1 rfl (by simp) e2_1 hN_1 (by kernel_rfl) (by kernel_rfl) rfl rfl) ?_
    exact pk_nil rfl
  intro W x hC hall
  refine then_n ?_
  obtain ⟨a1, ha⟩ : ∃ a, a = putE x a_1 [(0, some 7), (1, some 8), (2, some 9), (3, some 10), (4, some 11), (5, some 12), (6, some 13), (7, some 14), (8, some 15), (9, some 16), (10, none)] := ⟨_, rfl⟩
  rw [← ha]
  have hD1 := defers_behind ha hD_1
  have bb1 := bb_1.trans hC.below
  obtain ⟨cs, hg, hP⟩ := (show (kRes (w.heap.size + 1) 19 ((a.num)) (((a.den : Int)))).sem _ _ _ _ from hall 10 (of_decide_eq_true (by kernel_rfl)))
  have e1 := slot_old (t := 2) ha (by kernel_rfl) e2_1
  repeat (first | refine wp_seq ?_ | (refine wp_skip ?_; refine then_n ?_))
  refine wp_ret ?_
  repeat (refine then_r ?_)
  exact ret_cellF (t := 2) rfl hD1 e1 hg hP fun v hv => ⟨v, rfl, hv, bb1⟩
set_option maxRecDepth 100000 in
set_option maxHeartbeats 4000000 in
theorem right_39 {w : World} {v1 : Value} {a : Rat} (h1 : Pr w v1 39 (a.num) ((a.den : Int))) :
    Calls Tryz.prog 11 #[v1] w (fun e w' => e = .returned (.bool true) ∧ Below w.heap.size w w') := by
  obtain ⟨A1, l1, c1, A1', l1', c1', rfl, ⟨r1, u1⟩, r1', u1'⟩ := h1
  obtain ⟨b1, hb1⟩ : ∃ s, s = decide (a.num < 0) := ⟨_, rfl⟩
  obtain ⟨b1', hb1'⟩ : ∃ s, s = decide ((a.den : Int) < 0) := ⟨_, rfl⟩
  rw [← hb1, ← hb1']
  have H1 := Lib.hid (show _ ∧ _ ∧ _ ∧ _ ∧ _ ∧ _ from ⟨hb1, hb1', r1, u1, r1', u1'⟩)
  clear hb1 hb1' r1 u1 r1' u1'
  go_enter Tryz.func11, Tryz.ntmps11
  repeat (refine wp_seq ?_)
  refine region_k ?_
  intro K hK
  have HK := Lib.hid hK
  clear hK
  go_wp2
  refine HK.out _ _ ?_
  clear HK
  refine then_n ?_
  obtain ⟨W_0, hW⟩ : ∃ W, W = w.alloc (Obj.cells #[Value.bool b1, Value.slice A1 l1 c1, Value.bool b1', Value.slice A1' l1' c1'] 27) := ⟨_, rfl⟩
  have bb_0 : Below w.heap.size w W_0 := by rw [hW]; exact bal (Below.refl _ _) _
  have K0 : W_0.heap[w.heap.size]? = some (Obj.cells #[Value.bool b1, Value.slice A1 l1 c1, Value.bool b1', Value.slice A1' l1' c1'] 27) := by rw [hW]; exact new_at (by simp)
  rw [← hW]
  obtain ⟨m1, n1, m1', n1', _, _, _, _⟩ := four_cells K0
  have f1_0 : AtR W_0 (w.heap.size) 0 39 (a.num) := ⟨A1, l1, c1, by rw [← H1.out.1]; exact m1, n1, A1, l1, c1, rfl, H1.out.2.2.1.below bb_0, H1.out.2.2.2.1⟩
  have f1'_0 : AtR W_0 (w.heap.size) 2 39 ((a.den : Int)) := ⟨A1', l1', c1', by rw [← H1.out.2.1]; exact m1', n1', A1', l1', c1', rfl, H1.out.2.2.2.2.1.below bb_0, H1.out.2.2.2.2.2⟩
  clear m1 n1 m1' n1'
  clear hW K0
  refine name_frame (G := fun a => Code.wp _ _ _ a _) ?_
  intro a_0 ha
  have hN_0 : a_0.tmps.size = 32 := by subst ha; kernel_rfl
  have hD_0 : a_0.defers = [] := by subst ha; rfl
  have e1_0 : a_0.eval (.tmp 1) = .pointer (some ⟨w.heap.size, 0, none⟩) := by subst ha; kernel_rfl
  clear ha
  repeat (first | refine wp_seq ?_ | (refine wp_skip ?_; refine then_n ?_))
  refine wp_region_law hN_0 w.heap.size
    [kIs (.pointer (some ⟨w.heap.size, 0, none⟩)), kZ 39 (a.num), kIs (.bool true), kIs (.bool false), kIs (.bool false), kIs (.pointer (some ⟨w.heap.size, 2, none⟩)), kZ 39 ((a.den : Int)), kIs (.bool true), kIs (.bool false), kIs (.bool false)]
    [ [], [(0, some 3)], [(1, some 4)], [(2, some 5)], [(3, some 6)], [], [(5, some 8)], [(6, some 9)], [(7, some 10)], [(4, some 7), (8, some 11)] ]
    [(0, some 3), (1, some 4), (2, some 5), (3, some 6), (4, some 7), (5, some 8), (6, some 9), (7, some 10), (8, some 11), (9, some 12)] [(4, false)] [] (by kernel_rfl) (by kernel_rfl) (by kernel_rfl) (by kernel_rfl) (by kernel_rfl) (by kernel_rfl) (by kernel_rfl) bb_0.size ?_ ?_
  ·
    refine pk_cons rfl rfl (st_pure [] [(1, .pointer (some ⟨w.heap.size, 0, none⟩))] (.pointer (some ⟨w.heap.size, 0, none⟩)) rfl hN_0 (by kernel_rfl) (by kernel_rfl) (by kernel_rfl) (old1 e1_0) (by kernel_rfl) (by kernel_rfl) (by kernel_rfl) (fun _ => by kernel_rfl)) ?_
    refine pk_cons rfl rfl (st_loadA f1_0 (by simp) hN_0 (by kernel_rfl) (by kernel_rfl) rfl rfl) ?_
    refine pk_cons rfl rfl (st_call1 hN_0 (by kernel_rfl) (by kernel_rfl) (by kernel_rfl) rfl rfl fun w x v1 hC h1 => ti (z_right (rr h1))) ?_
    refine pk_cons rfl rfl (st_pure [.bool true] [] (.bool false) rfl hN_0 (by kernel_rfl) (by kernel_rfl) (by kernel_rfl) old0 (by kernel_rfl) (by kernel_rfl) (by kernel_rfl) (fun _ => by kernel_rfl)) ?_
    refine pk_cons rfl rfl (st_pure [.bool false] [] (.bool false) rfl hN_0 (by kernel_rfl) (by kernel_rfl) (by kernel_rfl) old0 (by kernel_rfl) (by kernel_rfl) (by kernel_rfl) (fun _ => by kernel_rfl)) ?_
    refine pk_cons rfl rfl (st_pure [] [(1, .pointer (some ⟨w.heap.size, 0, none⟩))] (.pointer (some ⟨w.heap.size, 2, none⟩)) rfl hN_0 (by kernel_rfl) (by kernel_rfl) (by kernel_rfl) (old1 e1_0) (by kernel_rfl) (by kernel_rfl) (by kernel_rfl) (fun _ => by kernel_rfl)) ?_
    refine pk_cons rfl rfl (st_loadA f1'_0 (by simp) hN_0 (by kernel_rfl) (by kernel_rfl) rfl rfl) ?_
    refine pk_cons rfl rfl (st_call1 hN_0 (by kernel_rfl) (by kernel_rfl) (by kernel_rfl) rfl rfl fun w x v1 hC h1 => ti (z_right (rr h1))) ?_
    refine pk_cons rfl rfl (st_pure [.bool true] [] (.bool false) rfl hN_0 (by kernel_rfl) (by kernel_rfl) (by kernel_rfl) old0 (by kernel_rfl) (by kernel_rfl) (by kernel_rfl) (fun _ => by kernel_rfl)) ?_
    refine pk_cons rfl rfl (st_pure [.bool false, .bool false] [] (.bool false) rfl hN_0 (by kernel_rfl) (by kernel_rfl) (by kernel_rfl) old0 (by kernel_rfl) (by kernel_rfl) (by kernel_rfl) (fun _ => by kernel_rfl)) ?_
    exact pk_nil rfl
  intro W_1 x hC hall
  refine then_n ?_
  obtain ⟨a_1, ha⟩ : ∃ a, a = putE x a_0 [(0, some 3), (1, some 4), (2, some 5), (3, some 6), (4, some 7), (5, some 8), (6, some 9), (7, some 10), (8, some 11), (9, some 12)] := ⟨_, rfl⟩
  rw [← ha]
  have hN_1 := size_behind ha hN_0
  have hD_1 := defers_behind ha hD_0
  have bb_1 := bb_0.trans hC.below
  have e1_1 := slot_old ha (by kernel_rfl) e1_0
  have f1_1 := hC.at0 f1_0
  have f1'_1 := hC.at0 f1'_0
  have e12_1 := (slot_new (t := 12) (i := 9) ha hN_0 (by kernel_rfl) (by kernel_rfl)).trans (show x 9 = .bool false from hall 9 (of_decide_eq_true (by kernel_rfl)))
  clear hall hC ha bb_0 hD_0 e1_0 f1_0 f1'_0
  repeat (first | refine wp_seq ?_ | (refine wp_skip ?_; refine then_n ?_))
  refine wp_cond_false e12_1 ?_
  repeat (first | refine wp_seq ?_ | (refine wp_skip ?_; refine then_n ?_))
  refine wp_region_law hN_1 w.heap.size
    [kIs (.pointer (some ⟨w.heap.size, 2, none⟩)), kZ 39 ((a.den : Int)), kIs (.bool false), kIs (.bool true), kIs (.bool true), kIs (.pointer (some ⟨w.heap.size, 2, none⟩)), kIs (.pointer (some ⟨w.heap.size, 2, none⟩)), kIs (.bool false), kIs (.bool true), kIs (.bool true), kIs (.bool true), kIs (.pointer (some ⟨w.heap.size, 0, none⟩)), kZ 39 (a.num), kIs (.pointer (some ⟨w.heap.size, 2, none⟩)), kZ 39 ((a.den : Int)), kZs [(39, (a.num)), (39, ((a.den : Int)))], kZ 39 (((zgcd [(a.num), ((a.den : Int))] : Nat) : Int)), kIs (.bool true), kIs (.bool true), kIs (.bool true)]
    [ [], [(0, some 13)], [(1, some 14)], [(2, some 15)], [(3, some 16)], [], [(5, some 18)], [(6, some 19)], [(7, some 20)], [(4, some 17), (8, some 21)], [(9, some 22)], [], [(11, some 24)], [], [(13, some 26)], [(12, some 25), (14, some 27)], [(15, some 28)], [(16, some 29)], [(10, some 23), (17, some 30)], [(18, some 31)] ]
    [(0, some 13), (1, some 14), (2, some 15), (3, some 16), (4, some 17), (5, some 18), (6, some 19), (7, some 20), (8, some 21), (9, some 22), (10, some 23), (11, some 24), (12, some 25), (13, some 26), (14, some 27), (15, some 28), (16, some 29), (17, some 30), (18, some 31), (19, some 2)] [(4, true), (10, true)] [] (by kernel_rfl) (by kernel_rfl) (by kernel_rfl) (by kernel_rfl) (by kernel_rfl) (by kernel_rfl) (by kernel_rfl) bb_1.size ?_ ?_
  ·
    refine pk_cons rfl rfl (st_pure [] [(1, .pointer (some ⟨w.heap.size, 0, none⟩))] (.pointer (some ⟨w.heap.size, 2, none⟩)) rfl hN_1 (by kernel_rfl) (by kernel_rfl) (by kernel_rfl) (old1 e1_1) (by kernel_rfl) (by kernel_rfl) (by kernel_rfl) (fun _ => by kernel_rfl)) ?_
    refine pk_cons rfl rfl (st_loadA f1'_1 (by simp) hN_1 (by kernel_rfl) (by kernel_rfl) rfl rfl) ?_
    refine pk_cons rfl rfl (st_call1 hN_1 (by kernel_rfl) (by kernel_rfl) (by kernel_rfl) rfl rfl fun w x v1 hC h1 => ti (isNone_z (rr h1) (den_ne a))) ?_
    refine pk_cons rfl rfl (st_pure [.bool false] [] (.bool true) rfl hN_1 (by kernel_rfl) (by kernel_rfl) (by kernel_rfl) old0 (by kernel_rfl) (by kernel_rfl) (by kernel_rfl) (fun _ => by kernel_rfl)) ?_
    refine pk_cons rfl rfl (st_pure [.bool true] [] (.bool true) rfl hN_1 (by kernel_rfl) (by kernel_rfl) (by kernel_rfl) old0 (by kernel_rfl) (by kernel_rfl) (by kernel_rfl) (fun _ => by kernel_rfl)) ?_
    refine pk_cons rfl rfl (st_pure [] [(1, .pointer (some ⟨w.heap.size, 0, none⟩))] (.pointer (some ⟨w.heap.size, 2, none⟩)) rfl hN_1 (by kernel_rfl) (by kernel_rfl) (by kernel_rfl) (old1 e1_1) (by kernel_rfl) (by kernel_rfl) (by kernel_rfl) (fun _ => by kernel_rfl)) ?_
    refine pk_cons rfl rfl (st_pure [.pointer (some ⟨w.heap.size, 2, none⟩)] [] (.pointer (some ⟨w.heap.size, 2, none⟩)) rfl hN_1 (by kernel_rfl) (by kernel_rfl) (by kernel_rfl) old0 (by kernel_rfl) (by kernel_rfl) (by kernel_rfl) (fun _ => by kernel_rfl)) ?_
    refine pk_cons rfl rfl (st_loadS (s := false) f1'_1 (den_sign a) (by simp) hN_1 (by kernel_rfl) (by kernel_rfl) rfl rfl) ?_
    refine pk_cons rfl rfl (st_pure [.bool false] [] (.bool true) rfl hN_1 (by kernel_rfl) (by kernel_rfl) (by kernel_rfl) old0 (by kernel_rfl) (by kernel_rfl) (by kernel_rfl) (fun _ => by kernel_rfl)) ?_
    refine pk_cons rfl rfl (st_pure [.bool true, .bool true] [] (.bool true) rfl hN_1 (by kernel_rfl) (by kernel_rfl) (by kernel_rfl) old0 (by kernel_rfl) (by kernel_rfl) (by kernel_rfl) (fun _ => by kernel_rfl)) ?_
    refine pk_cons rfl rfl (st_pure [.bool true] [] (.bool true) rfl hN_1 (by kernel_rfl) (by kernel_rfl) (by kernel_rfl) old0 (by kernel_rfl) (by kernel_rfl) (by kernel_rfl) (fun _ => by kernel_rfl)) ?_
    refine pk_cons rfl rfl (st_pure [] [(1, .pointer (some ⟨w.heap.size, 0, none⟩))] (.pointer (some ⟨w.heap.size, 0, none⟩)) rfl hN_1 (by kernel_rfl) (by kernel_rfl) (by kernel_rfl) (old1 e1_1) (by kernel_rfl) (by kernel_rfl) (by kernel_rfl) (fun _ => by kernel_rfl)) ?_
    refine pk_cons rfl rfl (st_loadA f1_1 (by simp) hN_1 (by kernel_rfl) (by kernel_rfl) rfl rfl) ?_
    refine pk_cons rfl rfl (st_pure [] [(1, .pointer (some ⟨w.heap.size, 0, none⟩))] (.pointer (some ⟨w.heap.size, 2, none⟩)) rfl hN_1 (by kernel_rfl) (by kernel_rfl) (by kernel_rfl) (old1 e1_1) (by kernel_rfl) (by kernel_rfl) (by kernel_rfl) (fun _ => by kernel_rfl)) ?_
    refine pk_cons rfl rfl (st_loadA f1'_1 (by simp) hN_1 (by kernel_rfl) (by kernel_rfl) rfl rfl) ?_
    refine pk_cons rfl rfl (st_list2 hN_1 (by kernel_rfl) (by kernel_rfl) (by kernel_rfl) (by kernel_rfl) (Nat.le_refl _) asR asR rfl) ?_
    refine pk_cons rfl rfl (st_call1 hN_1 (by kernel_rfl) (by kernel_rfl) (by kernel_rfl) rfl rfl fun w x v1 hC h1 => tz (l_gcd 39 (lz h1) (by kernel_rfl) (by decide) (by simp))) ?_
    refine pk_cons rfl rfl (st_call1 hN_1 (by kernel_rfl) (by kernel_rfl) (by kernel_rfl) rfl rfl fun w x v1 hC h1 => ti (isOne_z1 (gcd_one a) ((rr h1).mono (by decide)))) ?_
    refine pk_cons rfl rfl (st_pure [.bool true, .bool true] [] (.bool true) rfl hN_1 (by kernel_rfl) (by kernel_rfl) (by kernel_rfl) old0 (by kernel_rfl) (by kernel_rfl) (by kernel_rfl) (fun _ => by kernel_rfl)) ?_
    refine pk_cons rfl rfl (st_pure [.bool true] [] (.bool true) rfl hN_1 (by kernel_rfl) (by kernel_rfl) (by kernel_rfl) old0 (by kernel_rfl) (by kernel_rfl) (by kernel_rfl) (fun _ => by kernel_rfl)) ?_
    exact pk_nil rfl
  intro W x hC hall
  refine then_n ?_
  obtain ⟨a1, ha⟩ : ∃ a, a = putE x a_1 [(0, some 13), (1, some 14), (2, some 15), (3, some 16), (4, some 17), (5, some 18), (6, some 19), (7, some 20), (8, some 21), (9, some 22), (10, some 23), (11, some 24), (12, some 25), (13, some 26), (14, some 27), (15, some 28), (16, some 29), (17, some 30), (18, some 31), (19, some 2)] := ⟨_, rfl⟩
  rw [← ha]
  have hD1 := defers_behind ha hD_1
  have bb1 := bb_1.trans hC.below
  have e1 := (slot_new (t := 2) (i := 19) ha hN_1 (by kernel_rfl) (by kernel_rfl)).trans (show x 19 = .bool true from hall 19 (of_decide_eq_true (by kernel_rfl)))
  repeat (first | refine wp_seq ?_ | (refine wp_skip ?_; refine then_n ?_))
  refine wp_ret ?_
  repeat (refine then_r ?_)
  exact ret_one (t := 2) rfl hD1 e1 ⟨rfl, bb1⟩
set_option maxRecDepth 100000 in
set_option maxHeartbeats 4000000 in
theorem of_39 {w : World} {v1 : Value} {a : Rat} (h1 : Pr w v1 39 (a.num) ((a.den : Int))) :
    Calls Tryz.prog 44 #[v1] w (TellsP w 39 ((a.num)) (((a.den : Int)))) := by
  obtain ⟨A1, l1, c1, A1', l1', c1', rfl, ⟨r1, u1⟩, r1', u1'⟩ := h1
  obtain ⟨b1, hb1⟩ : ∃ s, s = decide (a.num < 0) := ⟨_, rfl⟩
  obtain ⟨b1', hb1'⟩ : ∃ s, s = decide ((a.den : Int) < 0) := ⟨_, rfl⟩
  rw [← hb1, ← hb1']
  have H1 := Lib.hid (show _ ∧ _ ∧ _ ∧ _ ∧ _ ∧ _ from ⟨hb1, hb1', r1, u1, r1', u1'⟩)
  clear hb1 hb1' r1 u1 r1' u1'
  go_enter Tryz.func44, Tryz.ntmps44
  repeat (refine wp_seq ?_)
  refine region_k ?_
  intro K hK
  have HK := Lib.hid hK
  clear hK
  go_wp2
  refine HK.out _ _ ?_
  clear HK
  refine then_n ?_
  obtain ⟨W_0, hW⟩ : ∃ W, W = (w.alloc (Obj.cells #[Value.bool b1, Value.slice A1 l1 c1, Value.bool b1', Value.slice A1' l1' c1'] 27)).alloc (Obj.cells #[Value.bool false, Value.slice none 0 0, Value.bool false, Value.slice none 0 0] 53) := ⟨_, rfl⟩
  have bb_0 : Below w.heap.size w W_0 := by rw [hW]; exact bal (bal (Below.refl _ _) _) _
  have K0 : W_0.heap[w.heap.size]? = some (Obj.cells #[Value.bool b1, Value.slice A1 l1 c1, Value.bool b1', Value.slice A1' l1' c1'] 27) := by rw [hW]; rw [Below.heap_alloc _ _ _ (by simp <;> omega)]; exact new_at (by simp)
  have K1 : W_0.heap[w.heap.size + 1]? = some (Obj.cells #[Value.bool false, Value.slice none 0 0, Value.bool false, Value.slice none 0 0] 53) := by rw [hW]; exact new_at (by simp)
  rw [← hW]
  obtain ⟨m1, n1, m1', n1', _, _, _, _⟩ := four_cells K0
  have f1_0 : AtR W_0 (w.heap.size) 0 39 (a.num) := ⟨A1, l1, c1, by rw [← H1.out.1]; exact m1, n1, A1, l1, c1, rfl, H1.out.2.2.1.below bb_0, H1.out.2.2.2.1⟩
  have f1'_0 : AtR W_0 (w.heap.size) 2 39 ((a.den : Int)) := ⟨A1', l1', c1', by rw [← H1.out.2.1]; exact m1', n1', A1', l1', c1', rfl, H1.out.2.2.2.2.1.below bb_0, H1.out.2.2.2.2.2⟩
  clear m1 n1 m1' n1'
  have R_0 : Holds_ W_0 (w.heap.size + 1) #[Value.bool false, Value.slice none 0 0, Value.bool false, Value.slice none 0 0] := ⟨⟨_, K1⟩, by simp [noDig]⟩
  clear hW K0 K1
  refine name_frame (G := fun a => Code.wp _ _ _ a _) ?_
  intro a_0 ha
  have hN_0 : a_0.tmps.size = 17 := by subst ha; kernel_rfl
  have hD_0 : a_0.defers = [] := by subst ha; rfl
  have e1_0 : a_0.eval (.tmp 1) = .pointer (some ⟨w.heap.size, 0, none⟩) := by subst ha; kernel_rfl
  have e2_0 : a_0.eval (.tmp 2) = .pointer (some ⟨w.heap.size + 1, 0, none⟩) := by subst ha; kernel_rfl
  clear ha
  repeat (first | refine wp_seq ?_ | (refine wp_skip ?_; refine then_n ?_))
  refine wp_region_law hN_0 w.heap.size
    [kP 39 (a.num) ((a.den : Int)), kIs (.bool true), kIs (.bool false)]
    [ [], [(0, some 3)], [(1, some 4)] ]
    [(0, some 3), (1, some 4), (2, some 5)] [] [] (by kernel_rfl) (by kernel_rfl) (by kernel_rfl) (by kernel_rfl) (by kernel_rfl) (by kernel_rfl) (by kernel_rfl) bb_0.size ?_ ?_
  ·
    refine pk_cons rfl rfl (st_load4P f1_0 f1'_0 (by simp) e1_0 hN_0 (by kernel_rfl) rfl) ?_
    refine pk_cons rfl rfl (st_call1 hN_0 (by kernel_rfl) (by kernel_rfl) (by kernel_rfl) rfl rfl fun w x v1 hC h1 => ti (right_39 (pm (by decide) h1))) ?_
    refine pk_cons rfl rfl (st_pure [.bool true] [] (.bool false) rfl hN_0 (by kernel_rfl) (by kernel_rfl) (by kernel_rfl) old0 (by kernel_rfl) (by kernel_rfl) (by kernel_rfl) (fun _ => by kernel_rfl)) ?_
    exact pk_nil rfl
  intro W_1 x hC hall
  refine then_n ?_
  obtain ⟨a_1, ha⟩ : ∃ a, a = putE x a_0 [(0, some 3), (1, some 4), (2, some 5)] := ⟨_, rfl⟩
  rw [← ha]
  have hN_1 := size_behind ha hN_0
  have hD_1 := defers_behind ha hD_0
  have bb_1 := bb_0.trans hC.below
  have e1_1 := slot_old ha (by kernel_rfl) e1_0
  have e2_1 := slot_old ha (by kernel_rfl) e2_0
  have f1_1 := hC.at0 f1_0
  have f1'_1 := hC.at0 f1'_0
  have R_1 := hC.holds R_0
  have e5_1 := (slot_new (t := 5) (i := 2) ha hN_0 (by kernel_rfl) (by kernel_rfl)).trans (show x 2 = .bool false from hall 2 (of_decide_eq_true (by kernel_rfl)))
  clear hall hC ha bb_0 hD_0 e1_0 e2_0 f1_0 f1'_0 R_0
  repeat (first | refine wp_seq ?_ | (refine wp_skip ?_; refine then_n ?_))
  refine wp_cond_false e5_1 ?_
  repeat (first | refine wp_seq ?_ | (refine wp_skip ?_; refine then_n ?_))
  refine wp_region_res hN_1 w.heap.size (w.heap.size + 1) R_1 (by omega)
    [kIs (.pointer (some ⟨w.heap.size, 0, none⟩)), kZ 39 (a.num), kZs [(39, (a.num))], kZ 39 ((a.num)), kIs (.pointer (some ⟨w.heap.size, 2, none⟩)), kZ 39 ((a.den : Int)), kZs [(39, ((a.den : Int)))], kZ 39 (((a.den : Int))), kP 39 ((a.num)) (((a.den : Int))), kP 39 ((a.num)) (((a.den : Int))), kRes (w.heap.size + 1) 39 ((a.num)) (((a.den : Int)))]
    [ [], [(0, some 7)], [(1, some 8)], [(2, some 9)], [], [(4, some 11)], [(5, some 12)], [(6, some 13)], [(3, some 10), (7, some 14)], [(8, some 15)], [(9, some 16)] ]
    [(0, some 7), (1, some 8), (2, some 9), (3, some 10), (4, some 11), (5, some 12), (6, some 13), (7, some 14), (8, some 15), (9, some 16), (10, none)] [] [] (by kernel_rfl) (by kernel_rfl) (by kernel_rfl) (by kernel_rfl) (by kernel_rfl) (by kernel_rfl) (by kernel_rfl) bb_1.size ?_ ?_
  ·
    refine pk_cons rfl rfl (st_pure [] [(1, .pointer (some ⟨w.heap.size, 0, none⟩))] (.pointer (some ⟨w.heap.size, 0, none⟩)) rfl hN_1 (by kernel_rfl) (by kernel_rfl) (by kernel_rfl) (old1 e1_1) (by kernel_rfl) (by kernel_rfl) (by kernel_rfl) (fun _ => by kernel_rfl)) ?_
    refine pk_cons rfl rfl (st_loadA f1_1 (by simp only [List.mem_singleton]; omega) hN_1 (by kernel_rfl) (by kernel_rfl) rfl rfl) ?_
    refine pk_cons rfl rfl (st_list1 hN_1 (by kernel_rfl) (by kernel_rfl) (Nat.le_refl _) asR rfl) ?_
    refine pk_cons rfl rfl (st_call1 hN_1 (by kernel_rfl) (by kernel_rfl) (by kernel_rfl) rfl rfl fun w x v1 hC h1 => tz (l_add1 39 (lz h1) (by decide) (by decide))) ?_
    refine pk_cons rfl rfl (st_pure [] [(1, .pointer (some ⟨w.heap.size, 0, none⟩))] (.pointer (some ⟨w.heap.size, 2, none⟩)) rfl hN_1 (by kernel_rfl) (by kernel_rfl) (by kernel_rfl) (old1 e1_1) (by kernel_rfl) (by kernel_rfl) (by kernel_rfl) (fun _ => by kernel_rfl)) ?_
    refine pk_cons rfl rfl (st_loadA f1'_1 (by simp only [List.mem_singleton]; omega) hN_1 (by kernel_rfl) (by kernel_rfl) rfl rfl) ?_
    refine pk_cons rfl rfl (st_list1 hN_1 (by kernel_rfl) (by kernel_rfl) (Nat.le_refl _) asR rfl) ?_
    refine pk_cons rfl rfl (st_call1 hN_1 (by kernel_rfl) (by kernel_rfl) (by kernel_rfl) rfl rfl fun w x v1 hC h1 => tz (l_add1 39 (lz h1) (by decide) (by decide))) ?_
    refine pk_cons rfl rfl (st_buildP (k := 39) hN_1 (by kernel_rfl) (by kernel_rfl) (by kernel_rfl) (by kernel_rfl) (by kernel_rfl) (by kernel_rfl) rfl rfl rfl) ?_
    refine pk_cons rfl rfl (st_buildF hN_1 (by kernel_rfl) (by kernel_rfl) rfl rfl) ?_
    refine pk_cons rfl rfl (st_resF R_1 rfl (by simp) e2_1 hN_1 (by kernel_rfl) (by kernel_rfl) rfl rfl) ?_
    exact pk_nil rfl
  intro W x hC hall
  refine then_n ?_
  obtain ⟨a1, ha⟩ : ∃ a, a = putE x a_1 [(0, some 7), (1, some 8), (2, some 9), (3, some 10), (4, some 11), (5, some 12), (6, some 13), (7, some 14), (8, some 15), (9, some 16), (10, none)] := ⟨_, rfl⟩
  rw [← ha]
  have hD1 := defers_behind ha hD_1
  have bb1 := bb_1.trans hC.below
  obtain ⟨cs, hg, hP⟩ := (show (kRes (w.heap.size + 1) 39 ((a.num)) (((a.den : Int)))).sem _ _ _ _ from hall 10 (of_decide_eq_true (by kernel_rfl)))
  have e1 := slot_old (t := 2) ha (by kernel_rfl) e2_1
  repeat (first | refine wp_seq ?_ | (refine wp_skip ?_; refine then_n ?_))
  refine wp_ret ?_
  repeat (refine then_r ?_)
  exact ret_cellF (t := 2) rfl hD1 e1 hg hP fun v hv => ⟨v, rfl, hv, bb1⟩
end Go.Proofs.YthgclmkhmcfflaaGreatDoor
namespace Go.Proofs.YthgclmkhmcfflaaGreatDoor
open Go.RowKit
set_option maxRecDepth 100000 in
set_option maxHeartbeats 4000000 in
theorem whole_9 {w : World} {v1 : Value} {z : Int} (h1 : Zr w v1 9 (z)) :
    Calls Tryz.prog 39 #[v1] w (TellsP w 9 (z) ((1 : Int))) := by
  obtain ⟨A1, l1, c1, rfl, r1, u1⟩ := h1
  obtain ⟨b1, hb1⟩ : ∃ s, s = decide (z < 0) := ⟨_, rfl⟩
  rw [← hb1]
  have H1 := Lib.hid (show _ ∧ _ ∧ _ from ⟨hb1, r1, u1⟩)
  clear hb1 r1 u1
  go_enter Tryz.func39, Tryz.ntmps39
  repeat (refine wp_seq ?_)
  refine region_k ?_
  intro K hK
  have HK := Lib.hid hK
  clear hK
  go_wp2
  refine HK.out _ _ ?_
  clear HK
  refine then_n ?_
  obtain ⟨W_0, hW⟩ : ∃ W, W = (w.alloc (Obj.cells #[Value.bool b1, Value.slice A1 l1 c1] 25)).alloc (Obj.cells #[Value.bool false, Value.slice none 0 0, Value.bool false, Value.slice none 0 0] 53) := ⟨_, rfl⟩
  have bb_0 : Below w.heap.size w W_0 := by rw [hW]; exact bal (bal (Below.refl _ _) _) _
  have K0 : W_0.heap[w.heap.size]? = some (Obj.cells #[Value.bool b1, Value.slice A1 l1 c1] 25) := by rw [hW]; rw [Below.heap_alloc _ _ _ (by simp <;> omega)]; exact new_at (by simp)
  have K1 : W_0.heap[w.heap.size + 1]? = some (Obj.cells #[Value.bool false, Value.slice none 0 0, Value.bool false, Value.slice none 0 0] 53) := by rw [hW]; exact new_at (by simp)
  rw [← hW]
  obtain ⟨m1, n1, _, _⟩ := cell_of_two K0
  have f1_0 : AtR W_0 (w.heap.size) 0 9 (z) := ⟨A1, l1, c1, by rw [← H1.out.1]; exact m1, n1, A1, l1, c1, rfl, H1.out.2.1.below bb_0, H1.out.2.2⟩
  clear m1 n1
  have R_0 : Holds_ W_0 (w.heap.size + 1) #[Value.bool false, Value.slice none 0 0, Value.bool false, Value.slice none 0 0] := ⟨⟨_, K1⟩, by simp [noDig]⟩
  clear hW K0 K1
  refine name_frame (G := fun a => Code.wp _ _ _ a _) ?_
  intro a_0 ha
  have hN_0 : a_0.tmps.size = 7 := by subst ha; kernel_rfl
  have hD_0 : a_0.defers = [] := by subst ha; rfl
  have e1_0 : a_0.eval (.tmp 1) = .pointer (some ⟨w.heap.size, 0, none⟩) := by subst ha; kernel_rfl
  have e2_0 : a_0.eval (.tmp 2) = .pointer (some ⟨w.heap.size + 1, 0, none⟩) := by subst ha; kernel_rfl
  clear ha
  repeat (first | refine wp_seq ?_ | (refine wp_skip ?_; refine then_n ?_))
  refine wp_region_res hN_0 w.heap.size (w.heap.size + 1) R_0 (by omega)
    [kZ 9 (z), kZ 1 ((1 : Int)), kP 9 (z) ((1 : Int)), kP 9 (z) ((1 : Int)), kRes (w.heap.size + 1) 9 (z) ((1 : Int))]
    [ [], [], [(0, some 3), (1, some 4)], [(2, some 5)], [(3, some 6)] ]
    [(0, some 3), (1, some 4), (2, some 5), (3, some 6), (4, none)] [] [] (by kernel_rfl) (by kernel_rfl) (by kernel_rfl) (by kernel_rfl) (by kernel_rfl) (by kernel_rfl) (by kernel_rfl) bb_0.size ?_ ?_
  ·
    refine pk_cons rfl rfl (st_loadB f1_0 (by simp only [List.mem_singleton]; omega) e1_0 hN_0 (by kernel_rfl) rfl) ?_
    refine pk_cons rfl rfl (st_call0 [.int .i64 (1)] hN_0 (by kernel_rfl) (by kernel_rfl) rfl rfl fun w x hC => tz (z_of (1) 1 (by decide) (by decide) (by decide))) ?_
    refine pk_cons rfl rfl (st_buildP (k := 9) hN_0 (by kernel_rfl) (by kernel_rfl) (by kernel_rfl) (by kernel_rfl) (by kernel_rfl) (by kernel_rfl) rfl rfl rfl) ?_
    refine pk_cons rfl rfl (st_buildF hN_0 (by kernel_rfl) (by kernel_rfl) rfl rfl) ?_
    refine pk_cons rfl rfl (st_resF R_0 rfl (by simp) e2_0 hN_0 (by kernel_rfl) (by kernel_rfl) rfl rfl) ?_
    exact pk_nil rfl
  intro W x hC hall
  refine then_n ?_
  obtain ⟨a1, ha⟩ : ∃ a, a = putE x a_0 [(0, some 3), (1, some 4), (2, some 5), (3, some 6), (4, none)] := ⟨_, rfl⟩
  rw [← ha]
  have hD1 := defers_behind ha hD_0
  have bb1 := bb_0.trans hC.below
  obtain ⟨cs, hg, hP⟩ := (show (kRes (w.heap.size + 1) 9 (z) ((1 : Int))).sem _ _ _ _ from hall 4 (of_decide_eq_true (by kernel_rfl)))
  have e1 := slot_old (t := 2) ha (by kernel_rfl) e2_0
  repeat (first | refine wp_seq ?_ | (refine wp_skip ?_; refine then_n ?_))
  refine wp_ret ?_
  repeat (refine then_r ?_)
  exact ret_cellF (t := 2) rfl hD1 e1 hg hP fun v hv => ⟨v, rfl, hv, bb1⟩
set_option maxRecDepth 100000 in
set_option maxHeartbeats 4000000 in
theorem Cmp_9 {w : World} {v1 v2 : Value} {a b : Rat} (h1 : Pr w v1 9 (a.num) ((a.den : Int))) (h2 : Pr w v2 9 (b.num) ((b.den : Int))) :
    Calls Tryz.prog 19 #[v1, v2] w (fun e w' => e = .returned (.int .i64 (ordQ a b)) ∧ Below w.heap.size w w') := by
  obtain ⟨A1, l1, c1, A1', l1', c1', rfl, ⟨r1, u1⟩, r1', u1'⟩ := h1
  obtain ⟨b1, hb1⟩ : ∃ s, s = decide (a.num < 0) := ⟨_, rfl⟩
  obtain ⟨b1', hb1'⟩ : ∃ s, s = decide ((a.den : Int) < 0) := ⟨_, rfl⟩
  rw [← hb1, ← hb1']
  have H1 := Lib.hid (show _ ∧ _ ∧ _ ∧ _ ∧ _ ∧ _ from ⟨hb1, hb1', r1, u1, r1', u1'⟩)
  clear hb1 hb1' r1 u1 r1' u1'
  obtain ⟨A2, l2, c2, A2', l2', c2', rfl, ⟨r2, u2⟩, r2', u2'⟩ := h2
  obtain ⟨b2, hb2⟩ : ∃ s, s = decide (b.num < 0) := ⟨_, rfl⟩
  obtain ⟨b2', hb2'⟩ : ∃ s, s = decide ((b.den : Int) < 0) := ⟨_, rfl⟩
  rw [← hb2, ← hb2']
  have H2 := Lib.hid (show _ ∧ _ ∧ _ ∧ _ ∧ _ ∧ _ from ⟨hb2, hb2', r2, u2, r2', u2'⟩)
  clear hb2 hb2' r2 u2 r2' u2'
  go_enter Tryz.func19, Tryz.ntmps19
  repeat (refine wp_seq ?_)
  refine region_k ?_
  intro K hK
  have HK := Lib.hid hK
  clear hK
  go_wp2
  refine HK.out _ _ ?_
  clear HK
  refine then_n ?_
  obtain ⟨W_0, hW⟩ : ∃ W, W = (w.alloc (Obj.cells #[Value.bool b1, Value.slice A1 l1 c1, Value.bool b1', Value.slice A1' l1' c1'] 27)).alloc (Obj.cells #[Value.bool b2, Value.slice A2 l2 c2, Value.bool b2', Value.slice A2' l2' c2'] 27) := ⟨_, rfl⟩
  have bb_0 : Below w.heap.size w W_0 := by rw [hW]; exact bal (bal (Below.refl _ _) _) _
  have K0 : W_0.heap[w.heap.size]? = some (Obj.cells #[Value.bool b1, Value.slice A1 l1 c1, Value.bool b1', Value.slice A1' l1' c1'] 27) := by rw [hW]; rw [Below.heap_alloc _ _ _ (by simp <;> omega)]; exact new_at (by simp)
  have K1 : W_0.heap[w.heap.size + 1]? = some (Obj.cells #[Value.bool b2, Value.slice A2 l2 c2, Value.bool b2', Value.slice A2' l2' c2'] 27) := by rw [hW]; exact new_at (by simp)
  rw [← hW]
  obtain ⟨m1, n1, m1', n1', _, _, _, _⟩ := four_cells K0
  have f1_0 : AtR W_0 (w.heap.size) 0 9 (a.num) := ⟨A1, l1, c1, by rw [← H1.out.1]; exact m1, n1, A1, l1, c1, rfl, H1.out.2.2.1.below bb_0, H1.out.2.2.2.1⟩
  have f1'_0 : AtR W_0 (w.heap.size) 2 9 ((a.den : Int)) := ⟨A1', l1', c1', by rw [← H1.out.2.1]; exact m1', n1', A1', l1', c1', rfl, H1.out.2.2.2.2.1.below bb_0, H1.out.2.2.2.2.2⟩
  clear m1 n1 m1' n1'
  obtain ⟨m2, n2, m2', n2', _, _, _, _⟩ := four_cells K1
  have f2_0 : AtR W_0 (w.heap.size + 1) 0 9 (b.num) := ⟨A2, l2, c2, by rw [← H2.out.1]; exact m2, n2, A2, l2, c2, rfl, H2.out.2.2.1.below bb_0, H2.out.2.2.2.1⟩
  have f2'_0 : AtR W_0 (w.heap.size + 1) 2 9 ((b.den : Int)) := ⟨A2', l2', c2', by rw [← H2.out.2.1]; exact m2', n2', A2', l2', c2', rfl, H2.out.2.2.2.2.1.below bb_0, H2.out.2.2.2.2.2⟩
  clear m2 n2 m2' n2'
  clear hW K0 K1
  refine name_frame (G := fun a => Code.wp _ _ _ a _) ?_
  intro a_0 ha
  have hN_0 : a_0.tmps.size = 10 := by subst ha; kernel_rfl
  have hD_0 : a_0.defers = [] := by subst ha; rfl
  have e2_0 : a_0.eval (.tmp 2) = .pointer (some ⟨w.heap.size, 0, none⟩) := by subst ha; kernel_rfl
  have e3_0 : a_0.eval (.tmp 3) = .pointer (some ⟨w.heap.size + 1, 0, none⟩) := by subst ha; kernel_rfl
  clear ha
  repeat (first | refine wp_seq ?_ | (refine wp_skip ?_; refine then_n ?_))
  refine wp_region_law hN_0 w.heap.size
    [kP 9 (a.num) ((a.den : Int)), kP 9 (a.num) ((a.den : Int)), kP 9 (b.num) ((b.den : Int)), kP 9 (b.num) ((b.den : Int)), kIs (.int .i64 (ordQ a b)), kIs (.int .i64 (ordQ a b))]
    [ [], [(0, some 5)], [], [(2, some 7)], [(1, some 6), (3, some 8)], [(4, some 9)] ]
    [(0, some 5), (1, some 6), (2, some 7), (3, some 8), (4, some 9), (5, some 4)] [] [] (by kernel_rfl) (by kernel_rfl) (by kernel_rfl) (by kernel_rfl) (by kernel_rfl) (by kernel_rfl) (by kernel_rfl) bb_0.size ?_ ?_
  ·
    refine pk_cons rfl rfl (st_load4P f1_0 f1'_0 (by simp) e2_0 hN_0 (by kernel_rfl) rfl) ?_
    refine pk_cons rfl rfl (st_call1 hN_0 (by kernel_rfl) (by kernel_rfl) (by kernel_rfl) rfl rfl fun w x v1 hC h1 => tp (of_9 (pm (by decide) h1))) ?_
    refine pk_cons rfl rfl (st_load4P f2_0 f2'_0 (by simp) e3_0 hN_0 (by kernel_rfl) rfl) ?_
    refine pk_cons rfl rfl (st_call1 hN_0 (by kernel_rfl) (by kernel_rfl) (by kernel_rfl) rfl rfl fun w x v1 hC h1 => tp (of_9 (pm (by decide) h1))) ?_
    refine pk_cons rfl rfl (st_call2 hN_0 (by kernel_rfl) (by kernel_rfl) (by kernel_rfl) (by kernel_rfl) (by kernel_rfl) rfl rfl rfl fun w x v1 v2 hC h1 h2 => ti (compare_9 (pm (by decide) h1) (pm (by decide) h2))) ?_
    refine pk_cons rfl rfl (st_pure [.int .i64 (ordQ a b)] [] (.int .i64 (ordQ a b)) rfl hN_0 (by kernel_rfl) (by kernel_rfl) (by kernel_rfl) old0 (by kernel_rfl) (by kernel_rfl) (by kernel_rfl) (fun _ => by kernel_rfl)) ?_
    exact pk_nil rfl
  intro W x hC hall
  refine then_n ?_
  obtain ⟨a1, ha⟩ : ∃ a, a = putE x a_0 [(0, some 5), (1, some 6), (2, some 7), (3, some 8), (4, some 9), (5, some 4)] := ⟨_, rfl⟩
  rw [← ha]
  have hD1 := defers_behind ha hD_0
  have bb1 := bb_0.trans hC.below
  have e1 := (slot_new (t := 4) (i := 5) ha hN_0 (by kernel_rfl) (by kernel_rfl)).trans (show x 5 = .int .i64 (ordQ a b) from hall 5 (of_decide_eq_true (by kernel_rfl)))
  repeat (first | refine wp_seq ?_ | (refine wp_skip ?_; refine then_n ?_))
  refine wp_ret ?_
  repeat (refine then_r ?_)
  exact ret_one (t := 4) rfl hD1 e1 ⟨rfl, bb1⟩
set_option maxRecDepth 100000 in
set_option maxHeartbeats 4000000 in
theorem whole_19 {w : World} {v1 : Value} {z : Int} (h1 : Zr w v1 19 (z)) :
    Calls Tryz.prog 39 #[v1] w (TellsP w 19 (z) ((1 : Int))) := by
  obtain ⟨A1, l1, c1, rfl, r1, u1⟩ := h1
  obtain ⟨b1, hb1⟩ : ∃ s, s = decide (z < 0) := ⟨_, rfl⟩
  rw [← hb1]
  have H1 := Lib.hid (show _ ∧ _ ∧ _ from ⟨hb1, r1, u1⟩)
  clear hb1 r1 u1
  go_enter Tryz.func39, Tryz.ntmps39
  repeat (refine wp_seq ?_)
  refine region_k ?_
  intro K hK
  have HK := Lib.hid hK
  clear hK
  go_wp2
  refine HK.out _ _ ?_
  clear HK
  refine then_n ?_
  obtain ⟨W_0, hW⟩ : ∃ W, W = (w.alloc (Obj.cells #[Value.bool b1, Value.slice A1 l1 c1] 25)).alloc (Obj.cells #[Value.bool false, Value.slice none 0 0, Value.bool false, Value.slice none 0 0] 53) := ⟨_, rfl⟩
  have bb_0 : Below w.heap.size w W_0 := by rw [hW]; exact bal (bal (Below.refl _ _) _) _
  have K0 : W_0.heap[w.heap.size]? = some (Obj.cells #[Value.bool b1, Value.slice A1 l1 c1] 25) := by rw [hW]; rw [Below.heap_alloc _ _ _ (by simp <;> omega)]; exact new_at (by simp)
  have K1 : W_0.heap[w.heap.size + 1]? = some (Obj.cells #[Value.bool false, Value.slice none 0 0, Value.bool false, Value.slice none 0 0] 53) := by rw [hW]; exact new_at (by simp)
  rw [← hW]
  obtain ⟨m1, n1, _, _⟩ := cell_of_two K0
  have f1_0 : AtR W_0 (w.heap.size) 0 19 (z) := ⟨A1, l1, c1, by rw [← H1.out.1]; exact m1, n1, A1, l1, c1, rfl, H1.out.2.1.below bb_0, H1.out.2.2⟩
  clear m1 n1
  have R_0 : Holds_ W_0 (w.heap.size + 1) #[Value.bool false, Value.slice none 0 0, Value.bool false, Value.slice none 0 0] := ⟨⟨_, K1⟩, by simp [noDig]⟩
  clear hW K0 K1
  refine name_frame (G := fun a => Code.wp _ _ _ a _) ?_
  intro a_0 ha
  have hN_0 : a_0.tmps.size = 7 := by subst ha; kernel_rfl
  have hD_0 : a_0.defers = [] := by subst ha; rfl
  have e1_0 : a_0.eval (.tmp 1) = .pointer (some ⟨w.heap.size, 0, none⟩) := by subst ha; kernel_rfl
  have e2_0 : a_0.eval (.tmp 2) = .pointer (some ⟨w.heap.size + 1, 0, none⟩) := by subst ha; kernel_rfl
  clear ha
  repeat (first | refine wp_seq ?_ | (refine wp_skip ?_; refine then_n ?_))
  refine wp_region_res hN_0 w.heap.size (w.heap.size + 1) R_0 (by omega)
    [kZ 19 (z), kZ 1 ((1 : Int)), kP 19 (z) ((1 : Int)), kP 19 (z) ((1 : Int)), kRes (w.heap.size + 1) 19 (z) ((1 : Int))]
    [ [], [], [(0, some 3), (1, some 4)], [(2, some 5)], [(3, some 6)] ]
    [(0, some 3), (1, some 4), (2, some 5), (3, some 6), (4, none)] [] [] (by kernel_rfl) (by kernel_rfl) (by kernel_rfl) (by kernel_rfl) (by kernel_rfl) (by kernel_rfl) (by kernel_rfl) bb_0.size ?_ ?_
  ·
    refine pk_cons rfl rfl (st_loadB f1_0 (by simp only [List.mem_singleton]; omega) e1_0 hN_0 (by kernel_rfl) rfl) ?_
    refine pk_cons rfl rfl (st_call0 [.int .i64 (1)] hN_0 (by kernel_rfl) (by kernel_rfl) rfl rfl fun w x hC => tz (z_of (1) 1 (by decide) (by decide) (by decide))) ?_
    refine pk_cons rfl rfl (st_buildP (k := 19) hN_0 (by kernel_rfl) (by kernel_rfl) (by kernel_rfl) (by kernel_rfl) (by kernel_rfl) (by kernel_rfl) rfl rfl rfl) ?_
    refine pk_cons rfl rfl (st_buildF hN_0 (by kernel_rfl) (by kernel_rfl) rfl rfl) ?_
    refine pk_cons rfl rfl (st_resF R_0 rfl (by simp) e2_0 hN_0 (by kernel_rfl) (by kernel_rfl) rfl rfl) ?_
    exact pk_nil rfl
  intro W x hC hall
  refine then_n ?_
  obtain ⟨a1, ha⟩ : ∃ a, a = putE x a_0 [(0, some 3), (1, some 4), (2, some 5), (3, some 6), (4, none)] := ⟨_, rfl⟩
  rw [← ha]
  have hD1 := defers_behind ha hD_0
  have bb1 := bb_0.trans hC.below
  obtain ⟨cs, hg, hP⟩ := (show (kRes (w.heap.size + 1) 19 (z) ((1 : Int))).sem _ _ _ _ from hall 4 (of_decide_eq_true (by kernel_rfl)))
  have e1 := slot_old (t := 2) ha (by kernel_rfl) e2_0
  repeat (first | refine wp_seq ?_ | (refine wp_skip ?_; refine then_n ?_))
  refine wp_ret ?_
  repeat (refine then_r ?_)
  exact ret_cellF (t := 2) rfl hD1 e1 hg hP fun v hv => ⟨v, rfl, hv, bb1⟩
set_option maxRecDepth 100000 in
set_option maxHeartbeats 4000000 in
theorem Sub_19 {w : World} {v1 v2 : Value} {a b : Rat} (h1 : Pr w v1 19 (a.num) ((a.den : Int))) (h2 : Pr w v2 19 (b.num) ((b.den : Int))) :
    Calls Tryz.prog 16 #[v1, v2] w (TellsP w 39 ((a + (-b)).num) (((a + (-b)).den : Int))) := by
  obtain ⟨A1, l1, c1, A1', l1', c1', rfl, ⟨r1, u1⟩, r1', u1'⟩ := h1
  obtain ⟨b1, hb1⟩ : ∃ s, s = decide (a.num < 0) := ⟨_, rfl⟩
  obtain ⟨b1', hb1'⟩ : ∃ s, s = decide ((a.den : Int) < 0) := ⟨_, rfl⟩
  rw [← hb1, ← hb1']
  have H1 := Lib.hid (show _ ∧ _ ∧ _ ∧ _ ∧ _ ∧ _ from ⟨hb1, hb1', r1, u1, r1', u1'⟩)
  clear hb1 hb1' r1 u1 r1' u1'
  obtain ⟨A2, l2, c2, A2', l2', c2', rfl, ⟨r2, u2⟩, r2', u2'⟩ := h2
  obtain ⟨b2, hb2⟩ : ∃ s, s = decide (b.num < 0) := ⟨_, rfl⟩
  obtain ⟨b2', hb2'⟩ : ∃ s, s = decide ((b.den : Int) < 0) := ⟨_, rfl⟩
  rw [← hb2, ← hb2']
  have H2 := Lib.hid (show _ ∧ _ ∧ _ ∧ _ ∧ _ ∧ _ from ⟨hb2, hb2', r2, u2, r2', u2'⟩)
  clear hb2 hb2' r2 u2 r2' u2'
  go_enter Tryz.func16, Tryz.ntmps16
  repeat (refine wp_seq ?_)
  refine region_k ?_
  intro K hK
  have HK := Lib.hid hK
  clear hK
  go_wp2
  refine HK.out _ _ ?_
  clear HK
  refine then_n ?_
  obtain ⟨W_0, hW⟩ : ∃ W, W = ((w.alloc (Obj.cells #[Value.bool b1, Value.slice A1 l1 c1, Value.bool b1', Value.slice A1' l1' c1'] 27)).alloc (Obj.cells #[Value.bool b2, Value.slice A2 l2 c2, Value.bool b2', Value.slice A2' l2' c2'] 27)).alloc (Obj.cells #[Value.bool false, Value.slice none 0 0, Value.bool false, Value.slice none 0 0] 27) := ⟨_, rfl⟩
  have bb_0 : Below w.heap.size w W_0 := by rw [hW]; exact bal (bal (bal (Below.refl _ _) _) _) _
  have K0 : W_0.heap[w.heap.size]? = some (Obj.cells #[Value.bool b1, Value.slice A1 l1 c1, Value.bool b1', Value.slice A1' l1' c1'] 27) := by rw [hW]; rw [Below.heap_alloc _ _ _ (by simp <;> omega)]; rw [Below.heap_alloc _ _ _ (by simp <;> omega)]; exact new_at (by simp)
  have K1 : W_0.heap[w.heap.size + 1]? = some (Obj.cells #[Value.bool b2, Value.slice A2 l2 c2, Value.bool b2', Value.slice A2' l2' c2'] 27) := by rw [hW]; rw [Below.heap_alloc _ _ _ (by simp <;> omega)]; exact new_at (by simp)
  have K2 : W_0.heap[w.heap.size + 1 + 1]? = some (Obj.cells #[Value.bool false, Value.slice none 0 0, Value.bool false, Value.slice none 0 0] 27) := by rw [hW]; exact new_at (by simp)
  rw [← hW]
  obtain ⟨m1, n1, m1', n1', _, _, _, _⟩ := four_cells K0
  have f1_0 : AtR W_0 (w.heap.size) 0 19 (a.num) := ⟨A1, l1, c1, by rw [← H1.out.1]; exact m1, n1, A1, l1, c1, rfl, H1.out.2.2.1.below bb_0, H1.out.2.2.2.1⟩
  have f1'_0 : AtR W_0 (w.heap.size) 2 19 ((a.den : Int)) := ⟨A1', l1', c1', by rw [← H1.out.2.1]; exact m1', n1', A1', l1', c1', rfl, H1.out.2.2.2.2.1.below bb_0, H1.out.2.2.2.2.2⟩
  clear m1 n1 m1' n1'
  obtain ⟨m2, n2, m2', n2', _, _, _, _⟩ := four_cells K1
  have f2_0 : AtR W_0 (w.heap.size + 1) 0 19 (b.num) := ⟨A2, l2, c2, by rw [← H2.out.1]; exact m2, n2, A2, l2, c2, rfl, H2.out.2.2.1.below bb_0, H2.out.2.2.2.1⟩
  have f2'_0 : AtR W_0 (w.heap.size + 1) 2 19 ((b.den : Int)) := ⟨A2', l2', c2', by rw [← H2.out.2.1]; exact m2', n2', A2', l2', c2', rfl, H2.out.2.2.2.2.1.below bb_0, H2.out.2.2.2.2.2⟩
  clear m2 n2 m2' n2'
  have R_0 : Holds_ W_0 (w.heap.size + 1 + 1) #[Value.bool false, Value.slice none 0 0, Value.bool false, Value.slice none 0 0] := ⟨⟨_, K2⟩, by simp [noDig]⟩
  clear hW K0 K1 K2
  refine name_frame (G := fun a => Code.wp _ _ _ a _) ?_
  intro a_0 ha
  have hN_0 : a_0.tmps.size = 12 := by subst ha; kernel_rfl
  have hD_0 : a_0.defers = [] := by subst ha; rfl
  have e2_0 : a_0.eval (.tmp 2) = .pointer (some ⟨w.heap.size, 0, none⟩) := by subst ha; kernel_rfl
  have e3_0 : a_0.eval (.tmp 3) = .pointer (some ⟨w.heap.size + 1, 0, none⟩) := by subst ha; kernel_rfl
  have e4_0 : a_0.eval (.tmp 4) = .pointer (some ⟨w.heap.size + 1 + 1, 0, none⟩) := by subst ha; kernel_rfl
  clear ha
  repeat (first | refine wp_seq ?_ | (refine wp_skip ?_; refine then_n ?_))
  refine wp_region_res hN_0 w.heap.size (w.heap.size + 1 + 1) R_0 (by omega)
    [kP 19 (a.num) ((a.den : Int)), kP 19 (a.num) ((a.den : Int)), kP 19 (b.num) ((b.den : Int)), kP 19 (b.num) ((b.den : Int)), kP 19 ((-b).num) (((-b).den : Int)), kP 39 ((a + (-b)).num) (((a + (-b)).den : Int)), kP 39 ((a + (-b)).num) (((a + (-b)).den : Int)), kRes (w.heap.size + 1 + 1) 39 ((a + (-b)).num) (((a + (-b)).den : Int))]
    [ [], [(0, some 5)], [], [(2, some 7)], [(3, some 8)], [(1, some 6), (4, some 9)], [(5, some 10)], [(6, some 11)] ]
    [(0, some 5), (1, some 6), (2, some 7), (3, some 8), (4, some 9), (5, some 10), (6, some 11), (7, none)] [] [] (by kernel_rfl) (by kernel_rfl) (by kernel_rfl) (by kernel_rfl) (by kernel_rfl) (by kernel_rfl) (by kernel_rfl) bb_0.size ?_ ?_
  ·
    refine pk_cons rfl rfl (st_load4P f1_0 f1'_0 (by simp only [List.mem_singleton]; omega) e2_0 hN_0 (by kernel_rfl) rfl) ?_
    refine pk_cons rfl rfl (st_call1 hN_0 (by kernel_rfl) (by kernel_rfl) (by kernel_rfl) rfl rfl fun w x v1 hC h1 => tp (of_19 (pm (by decide) h1))) ?_
    refine pk_cons rfl rfl (st_load4P f2_0 f2'_0 (by simp only [List.mem_singleton]; omega) e3_0 hN_0 (by kernel_rfl) rfl) ?_
    refine pk_cons rfl rfl (st_call1 hN_0 (by kernel_rfl) (by kernel_rfl) (by kernel_rfl) rfl rfl fun w x v1 hC h1 => tp (of_19 (pm (by decide) h1))) ?_
    refine pk_cons rfl rfl (st_call1 hN_0 (by kernel_rfl) (by kernel_rfl) (by kernel_rfl) rfl rfl fun w x v1 hC h1 => tp (negated_19 (pm (by decide) h1))) ?_
    refine pk_cons rfl rfl (st_call2 hN_0 (by kernel_rfl) (by kernel_rfl) (by kernel_rfl) (by kernel_rfl) (by kernel_rfl) rfl rfl rfl fun w x v1 v2 hC h1 h2 => tp (plus_19 (pm (by decide) h1) (pm (by decide) h2))) ?_
    refine pk_cons rfl rfl (st_fieldF hN_0 (by kernel_rfl) (by kernel_rfl) rfl rfl) ?_
    refine pk_cons rfl rfl (st_resP R_0 rfl (by simp) e4_0 hN_0 (by kernel_rfl) (by kernel_rfl) rfl rfl) ?_
    exact pk_nil rfl
  intro W x hC hall
  refine then_n ?_
  obtain ⟨a1, ha⟩ : ∃ a, a = putE x a_0 [(0, some 5), (1, some 6), (2, some 7), (3, some 8), (4, some 9), (5, some 10), (6, some 11), (7, none)] := ⟨_, rfl⟩
  rw [← ha]
  have hD1 := defers_behind ha hD_0
  have bb1 := bb_0.trans hC.below
  obtain ⟨cs, hg, hP⟩ := (show (kRes (w.heap.size + 1 + 1) 39 ((a + (-b)).num) (((a + (-b)).den : Int))).sem _ _ _ _ from hall 7 (of_decide_eq_true (by kernel_rfl)))
  have e1 := slot_old (t := 4) ha (by kernel_rfl) e4_0
  repeat (first | refine wp_seq ?_ | (refine wp_skip ?_; refine then_n ?_))
  refine wp_ret ?_
  repeat (refine then_r ?_)
  exact ret_cellP (t := 4) rfl hD1 e1 hg hP fun v hv => ⟨v, rfl, hv, bb1⟩
set_option maxRecDepth 100000 in
set_option maxHeartbeats 4000000 in
theorem Cmp_19 {w : World} {v1 v2 : Value} {a b : Rat} (h1 : Pr w v1 19 (a.num) ((a.den : Int))) (h2 : Pr w v2 19 (b.num) ((b.den : Int))) :
    Calls Tryz.prog 19 #[v1, v2] w (fun e w' => e = .returned (.int .i64 (ordQ a b)) ∧ Below w.heap.size w w') := by
  obtain ⟨A1, l1, c1, A1', l1', c1', rfl, ⟨r1, u1⟩, r1', u1'⟩ := h1
  obtain ⟨b1, hb1⟩ : ∃ s, s = decide (a.num < 0) := ⟨_, rfl⟩
  obtain ⟨b1', hb1'⟩ : ∃ s, s = decide ((a.den : Int) < 0) := ⟨_, rfl⟩
  rw [← hb1, ← hb1']
  have H1 := Lib.hid (show _ ∧ _ ∧ _ ∧ _ ∧ _ ∧ _ from ⟨hb1, hb1', r1, u1, r1', u1'⟩)
  clear hb1 hb1' r1 u1 r1' u1'
  obtain ⟨A2, l2, c2, A2', l2', c2', rfl, ⟨r2, u2⟩, r2', u2'⟩ := h2
  obtain ⟨b2, hb2⟩ : ∃ s, s = decide (b.num < 0) := ⟨_, rfl⟩
  obtain ⟨b2', hb2'⟩ : ∃ s, s = decide ((b.den : Int) < 0) := ⟨_, rfl⟩
  rw [← hb2, ← hb2']
  have H2 := Lib.hid (show _ ∧ _ ∧ _ ∧ _ ∧ _ ∧ _ from ⟨hb2, hb2', r2, u2, r2', u2'⟩)
  clear hb2 hb2' r2 u2 r2' u2'
  go_enter Tryz.func19, Tryz.ntmps19
  repeat (refine wp_seq ?_)
  refine region_k ?_
  intro K hK
  have HK := Lib.hid hK
  clear hK
  go_wp2
  refine HK.out _ _ ?_
  clear HK
  refine then_n ?_
  obtain ⟨W_0, hW⟩ : ∃ W, W = (w.alloc (Obj.cells #[Value.bool b1, Value.slice A1 l1 c1, Value.bool b1', Value.slice A1' l1' c1'] 27)).alloc (Obj.cells #[Value.bool b2, Value.slice A2 l2 c2, Value.bool b2', Value.slice A2' l2' c2'] 27) := ⟨_, rfl⟩
  have bb_0 : Below w.heap.size w W_0 := by rw [hW]; exact bal (bal (Below.refl _ _) _) _
  have K0 : W_0.heap[w.heap.size]? = some (Obj.cells #[Value.bool b1, Value.slice A1 l1 c1, Value.bool b1', Value.slice A1' l1' c1'] 27) := by rw [hW]; rw [Below.heap_alloc _ _ _ (by simp <;> omega)]; exact new_at (by simp)
  have K1 : W_0.heap[w.heap.size + 1]? = some (Obj.cells #[Value.bool b2, Value.slice A2 l2 c2, Value.bool b2', Value.slice A2' l2' c2'] 27) := by rw [hW]; exact new_at (by simp)
  rw [← hW]
  obtain ⟨m1, n1, m1', n1', _, _, _, _⟩ := four_cells K0
  have f1_0 : AtR W_0 (w.heap.size) 0 19 (a.num) := ⟨A1, l1, c1, by rw [← H1.out.1]; exact m1, n1, A1, l1, c1, rfl, H1.out.2.2.1.below bb_0, H1.out.2.2.2.1⟩
  have f1'_0 : AtR W_0 (w.heap.size) 2 19 ((a.den : Int)) := ⟨A1', l1', c1', by rw [← H1.out.2.1]; exact m1', n1', A1', l1', c1', rfl, H1.out.2.2.2.2.1.below bb_0, H1.out.2.2.2.2.2⟩
  clear m1 n1 m1' n1'
  obtain ⟨m2, n2, m2', n2', _, _, _, _⟩ := four_cells K1
  have f2_0 : AtR W_0 (w.heap.size + 1) 0 19 (b.num) := ⟨A2, l2, c2, by rw [← H2.out.1]; exact m2, n2, A2, l2, c2, rfl, H2.out.2.2.1.below bb_0, H2.out.2.2.2.1⟩
  have f2'_0 : AtR W_0 (w.heap.size + 1) 2 19 ((b.den : Int)) := ⟨A2', l2', c2', by rw [← H2.out.2.1]; exact m2', n2', A2', l2', c2', rfl, H2.out.2.2.2.2.1.below bb_0, H2.out.2.2.2.2.2⟩
  clear m2 n2 m2' n2'
  clear hW K0 K1
  refine name_frame (G := fun a => Code.wp _ _ _ a _) ?_
  intro a_0 ha
  have hN_0 : a_0.tmps.size = 10 := by subst ha; kernel_rfl
  have hD_0 : a_0.defers = [] := by subst ha; rfl
  have e2_0 : a_0.eval (.tmp 2) = .pointer (some ⟨w.heap.size, 0, none⟩) := by subst ha; kernel_rfl
  have e3_0 : a_0.eval (.tmp 3) = .pointer (some ⟨w.heap.size + 1, 0, none⟩) := by subst ha; kernel_rfl
  clear ha
  repeat (first | refine wp_seq ?_ | (refine wp_skip ?_; refine then_n ?_))
  refine wp_region_law hN_0 w.heap.size
    [kP 19 (a.num) ((a.den : Int)), kP 19 (a.num) ((a.den : Int)), kP 19 (b.num) ((b.den : Int)), kP 19 (b.num) ((b.den : Int)), kIs (.int .i64 (ordQ a b)), kIs (.int .i64 (ordQ a b))]
    [ [], [(0, some 5)], [], [(2, some 7)], [(1, some 6), (3, some 8)], [(4, some 9)] ]
    [(0, some 5), (1, some 6), (2, some 7), (3, some 8), (4, some 9), (5, some 4)] [] [] (by kernel_rfl) (by kernel_rfl) (by kernel_rfl) (by kernel_rfl) (by kernel_rfl) (by kernel_rfl) (by kernel_rfl) bb_0.size ?_ ?_
  ·
    refine pk_cons rfl rfl (st_load4P f1_0 f1'_0 (by simp) e2_0 hN_0 (by kernel_rfl) rfl) ?_
    refine pk_cons rfl rfl (st_call1 hN_0 (by kernel_rfl) (by kernel_rfl) (by kernel_rfl) rfl rfl fun w x v1 hC h1 => tp (of_19 (pm (by decide) h1))) ?_
    refine pk_cons rfl rfl (st_load4P f2_0 f2'_0 (by simp) e3_0 hN_0 (by kernel_rfl) rfl) ?_
    refine pk_cons rfl rfl (st_call1 hN_0 (by kernel_rfl) (by kernel_rfl) (by kernel_rfl) rfl rfl fun w x v1 hC h1 => tp (of_19 (pm (by decide) h1))) ?_
    refine pk_cons rfl rfl (st_call2 hN_0 (by kernel_rfl) (by kernel_rfl) (by kernel_rfl) (by kernel_rfl) (by kernel_rfl) rfl rfl rfl fun w x v1 v2 hC h1 h2 => ti (compare_19 (pm (by decide) h1) (pm (by decide) h2))) ?_
    refine pk_cons rfl rfl (st_pure [.int .i64 (ordQ a b)] [] (.int .i64 (ordQ a b)) rfl hN_0 (by kernel_rfl) (by kernel_rfl) (by kernel_rfl) old0 (by kernel_rfl) (by kernel_rfl) (by kernel_rfl) (fun _ => by kernel_rfl)) ?_
    exact pk_nil rfl
  intro W x hC hall
  refine then_n ?_
  obtain ⟨a1, ha⟩ : ∃ a, a = putE x a_0 [(0, some 5), (1, some 6), (2, some 7), (3, some 8), (4, some 9), (5, some 4)] := ⟨_, rfl⟩
  rw [← ha]
  have hD1 := defers_behind ha hD_0
  have bb1 := bb_0.trans hC.below
  have e1 := (slot_new (t := 4) (i := 5) ha hN_0 (by kernel_rfl) (by kernel_rfl)).trans (show x 5 = .int .i64 (ordQ a b) from hall 5 (of_decide_eq_true (by kernel_rfl)))
  repeat (first | refine wp_seq ?_ | (refine wp_skip ?_; refine then_n ?_))
  refine wp_ret ?_
  repeat (refine then_r ?_)
  exact ret_one (t := 4) rfl hD1 e1 ⟨rfl, bb1⟩
set_option maxRecDepth 100000 in
set_option maxHeartbeats 4000000 in
theorem Cmp_39 {w : World} {v1 v2 : Value} {a b : Rat} (h1 : Pr w v1 39 (a.num) ((a.den : Int))) (h2 : Pr w v2 39 (b.num) ((b.den : Int))) :
    Calls Tryz.prog 19 #[v1, v2] w (fun e w' => e = .returned (.int .i64 (ordQ a b)) ∧ Below w.heap.size w w') := by
  obtain ⟨A1, l1, c1, A1', l1', c1', rfl, ⟨r1, u1⟩, r1', u1'⟩ := h1
  obtain ⟨b1, hb1⟩ : ∃ s, s = decide (a.num < 0) := ⟨_, rfl⟩
  obtain ⟨b1', hb1'⟩ : ∃ s, s = decide ((a.den : Int) < 0) := ⟨_, rfl⟩
  rw [← hb1, ← hb1']
  have H1 := Lib.hid (show _ ∧ _ ∧ _ ∧ _ ∧ _ ∧ _ from ⟨hb1, hb1', r1, u1, r1', u1'⟩)
  clear hb1 hb1' r1 u1 r1' u1'
  obtain ⟨A2, l2, c2, A2', l2', c2', rfl, ⟨r2, u2⟩, r2', u2'⟩ := h2
  obtain ⟨b2, hb2⟩ : ∃ s, s = decide (b.num < 0) := ⟨_, rfl⟩
  obtain ⟨b2', hb2'⟩ : ∃ s, s = decide ((b.den : Int) < 0) := ⟨_, rfl⟩
  rw [← hb2, ← hb2']
  have H2 := Lib.hid (show _ ∧ _ ∧ _ ∧ _ ∧ _ ∧ _ from ⟨hb2, hb2', r2, u2, r2', u2'⟩)
  clear hb2 hb2' r2 u2 r2' u2'
  go_enter Tryz.func19, Tryz.ntmps19
  repeat (refine wp_seq ?_)
  refine region_k ?_
  intro K hK
  have HK := Lib.hid hK
  clear hK
  go_wp2
  refine HK.out _ _ ?_
  clear HK
  refine then_n ?_
  obtain ⟨W_0, hW⟩ : ∃ W, W = (w.alloc (Obj.cells #[Value.bool b1, Value.slice A1 l1 c1, Value.bool b1', Value.slice A1' l1' c1'] 27)).alloc (Obj.cells #[Value.bool b2, Value.slice A2 l2 c2, Value.bool b2', Value.slice A2' l2' c2'] 27) := ⟨_, rfl⟩
  have bb_0 : Below w.heap.size w W_0 := by rw [hW]; exact bal (bal (Below.refl _ _) _) _
  have K0 : W_0.heap[w.heap.size]? = some (Obj.cells #[Value.bool b1, Value.slice A1 l1 c1, Value.bool b1', Value.slice A1' l1' c1'] 27) := by rw [hW]; rw [Below.heap_alloc _ _ _ (by simp <;> omega)]; exact new_at (by simp)
  have K1 : W_0.heap[w.heap.size + 1]? = some (Obj.cells #[Value.bool b2, Value.slice A2 l2 c2, Value.bool b2', Value.slice A2' l2' c2'] 27) := by rw [hW]; exact new_at (by simp)
  rw [← hW]
  obtain ⟨m1, n1, m1', n1', _, _, _, _⟩ := four_cells K0
  have f1_0 : AtR W_0 (w.heap.size) 0 39 (a.num) := ⟨A1, l1, c1, by rw [← H1.out.1]; exact m1, n1, A1, l1, c1, rfl, H1.out.2.2.1.below bb_0, H1.out.2.2.2.1⟩
  have f1'_0 : AtR W_0 (w.heap.size) 2 39 ((a.den : Int)) := ⟨A1', l1', c1', by rw [← H1.out.2.1]; exact m1', n1', A1', l1', c1', rfl, H1.out.2.2.2.2.1.below bb_0, H1.out.2.2.2.2.2⟩
  clear m1 n1 m1' n1'
  obtain ⟨m2, n2, m2', n2', _, _, _, _⟩ := four_cells K1
  have f2_0 : AtR W_0 (w.heap.size + 1) 0 39 (b.num) := ⟨A2, l2, c2, by rw [← H2.out.1]; exact m2, n2, A2, l2, c2, rfl, H2.out.2.2.1.below bb_0, H2.out.2.2.2.1⟩
  have f2'_0 : AtR W_0 (w.heap.size + 1) 2 39 ((b.den : Int)) := ⟨A2', l2', c2', by rw [← H2.out.2.1]; exact m2', n2', A2', l2', c2', rfl, H2.out.2.2.2.2.1.below bb_0, H2.out.2.2.2.2.2⟩
  clear m2 n2 m2' n2'
  clear hW K0 K1
  refine name_frame (G := fun a => Code.wp _ _ _ a _) ?_
  intro a_0 ha
  have hN_0 : a_0.tmps.size = 10 := by subst ha; kernel_rfl
  have hD_0 : a_0.defers = [] := by subst ha; rfl
  have e2_0 : a_0.eval (.tmp 2) = .pointer (some ⟨w.heap.size, 0, none⟩) := by subst ha; kernel_rfl
  have e3_0 : a_0.eval (.tmp 3) = .pointer (some ⟨w.heap.size + 1, 0, none⟩) := by subst ha; kernel_rfl
  clear ha
  repeat (first | refine wp_seq ?_ | (refine wp_skip ?_; refine then_n ?_))
  refine wp_region_law hN_0 w.heap.size
    [kP 39 (a.num) ((a.den : Int)), kP 39 (a.num) ((a.den : Int)), kP 39 (b.num) ((b.den : Int)), kP 39 (b.num) ((b.den : Int)), kIs (.int .i64 (ordQ a b)), kIs (.int .i64 (ordQ a b))]
    [ [], [(0, some 5)], [], [(2, some 7)], [(1, some 6), (3, some 8)], [(4, some 9)] ]
    [(0, some 5), (1, some 6), (2, some 7), (3, some 8), (4, some 9), (5, some 4)] [] [] (by kernel_rfl) (by kernel_rfl) (by kernel_rfl) (by kernel_rfl) (by kernel_rfl) (by kernel_rfl) (by kernel_rfl) bb_0.size ?_ ?_
  ·
    refine pk_cons rfl rfl (st_load4P f1_0 f1'_0 (by simp) e2_0 hN_0 (by kernel_rfl) rfl) ?_
    refine pk_cons rfl rfl (st_call1 hN_0 (by kernel_rfl) (by kernel_rfl) (by kernel_rfl) rfl rfl fun w x v1 hC h1 => tp (of_39 (pm (by decide) h1))) ?_
    refine pk_cons rfl rfl (st_load4P f2_0 f2'_0 (by simp) e3_0 hN_0 (by kernel_rfl) rfl) ?_
    refine pk_cons rfl rfl (st_call1 hN_0 (by kernel_rfl) (by kernel_rfl) (by kernel_rfl) rfl rfl fun w x v1 hC h1 => tp (of_39 (pm (by decide) h1))) ?_
    refine pk_cons rfl rfl (st_call2 hN_0 (by kernel_rfl) (by kernel_rfl) (by kernel_rfl) (by kernel_rfl) (by kernel_rfl) rfl rfl rfl fun w x v1 v2 hC h1 h2 => ti (compare_39 (pm (by decide) h1) (pm (by decide) h2))) ?_
    refine pk_cons rfl rfl (st_pure [.int .i64 (ordQ a b)] [] (.int .i64 (ordQ a b)) rfl hN_0 (by kernel_rfl) (by kernel_rfl) (by kernel_rfl) old0 (by kernel_rfl) (by kernel_rfl) (by kernel_rfl) (fun _ => by kernel_rfl)) ?_
    exact pk_nil rfl
  intro W x hC hall
  refine then_n ?_
  obtain ⟨a1, ha⟩ : ∃ a, a = putE x a_0 [(0, some 5), (1, some 6), (2, some 7), (3, some 8), (4, some 9), (5, some 4)] := ⟨_, rfl⟩
  rw [← ha]
  have hD1 := defers_behind ha hD_0
  have bb1 := bb_0.trans hC.below
  have e1 := (slot_new (t := 4) (i := 5) ha hN_0 (by kernel_rfl) (by kernel_rfl)).trans (show x 5 = .int .i64 (ordQ a b) from hall 5 (of_decide_eq_true (by kernel_rfl)))
  repeat (first | refine wp_seq ?_ | (refine wp_skip ?_; refine then_n ?_))
  refine wp_ret ?_
  repeat (refine then_r ?_)
  exact ret_one (t := 4) rfl hD1 e1 ⟨rfl, bb1⟩
end Go.Proofs.YthgclmkhmcfflaaGreatDoor
namespace Go.Proofs.YthgclmkhmcfflaaGreatDoor
open Go.RowKit
theorem zr_none {w : World} {v : Value} (h : v = .agg #[.bool false, .slice none 0 0]) : Zr w v 9 0 := ⟨none, 0, 0, h, rr_nil _, by simp⟩
theorem z_sameInt {w : World} {v1 v2 : Value} {j k : Nat} {x : Int} (h1 : Zr w v1 j x) (h2 : Zr w v2 k x) : Calls Tryz.prog 66 #[v1, v2] w fun e w' => e = .returned (.bool true) ∧ Below w.heap.size w w' := by
  obtain ⟨A1, l1, c1, rfl, r1, e1⟩ := h1
  obtain ⟨A2, l2, c2, rfl, r2, e2⟩ := h2
  exact sameInt_yes r1 r2
set_option maxRecDepth 100000 in
set_option maxHeartbeats 4000000 in
theorem none_9 {w : World}    :
    Calls Tryz.prog 26 #[] w (TellsP w 9 (0) (1)) := by
  go_enter Tryz.func26, Tryz.ntmps26
  repeat (refine wp_seq ?_)
  refine region_k ?_
  intro K hK
  have HK := Lib.hid hK
  clear hK
  go_wp2
  refine HK.out _ _ ?_
  clear HK
  refine then_n ?_
  obtain ⟨W_0, hW⟩ : ∃ W, W = w.alloc (Obj.cells #[Value.bool false, Value.slice none 0 0, Value.bool false, Value.slice none 0 0] 53) := ⟨_, rfl⟩
  have bb_0 : Below w.heap.size w W_0 := by rw [hW]; exact bal (Below.refl _ _) _
  have K0 : W_0.heap[w.heap.size]? = some (Obj.cells #[Value.bool false, Value.slice none 0 0, Value.bool false, Value.slice none 0 0] 53) := by rw [hW]; exact new_at (by simp)
  rw [← hW]
  have R_0 : Holds_ W_0 (w.heap.size) #[Value.bool false, Value.slice none 0 0, Value.bool false, Value.slice none 0 0] := ⟨⟨_, K0⟩, by simp [noDig]⟩
  clear hW K0
  refine name_frame (G := fun a => Code.wp _ _ _ a _) ?_
  intro a_0 ha
  have hN_0 : a_0.tmps.size = 3 := by subst ha; kernel_rfl
  have hD_0 : a_0.defers = [] := by subst ha; rfl
  have e0_0 : a_0.eval (.tmp 0) = .pointer (some ⟨w.heap.size, 0, none⟩) := by subst ha; kernel_rfl
  clear ha
  repeat (first | refine wp_seq ?_ | (refine wp_skip ?_; refine then_n ?_))
  refine wp_region_res hN_0 w.heap.size (w.heap.size) R_0 (by omega)
    [kIs (.agg #[.bool false, .slice none 0 0]), kP 9 (0) (1), kRes (w.heap.size) 9 (0) (1)]
    [ [], [(0, some 1)], [(1, some 2)] ]
    [(0, some 1), (1, some 2), (2, none)] [] [] (by kernel_rfl) (by kernel_rfl) (by kernel_rfl) (by kernel_rfl) (by kernel_rfl) (by kernel_rfl) (by kernel_rfl) bb_0.size ?_ ?_
  ·
    refine pk_cons rfl rfl (st_pure [] [] (.agg #[.bool false, .slice none 0 0]) rfl hN_0 (by kernel_rfl) (by kernel_rfl) (by kernel_rfl) old0 (by kernel_rfl) (by kernel_rfl) (by kernel_rfl) (fun _ => by kernel_rfl)) ?_
    refine pk_cons rfl rfl (st_call1 hN_0 (by kernel_rfl) (by kernel_rfl) (by kernel_rfl) rfl rfl fun w x v1 hC h1 => tp (whole_9 (zr_none h1))) ?_
    refine pk_cons rfl rfl (st_resF R_0 rfl (by simp) e0_0 hN_0 (by kernel_rfl) (by kernel_rfl) rfl rfl) ?_
    exact pk_nil rfl
  intro W x hC hall
  refine then_n ?_
  obtain ⟨a1, ha⟩ : ∃ a, a = putE x a_0 [(0, some 1), (1, some 2), (2, none)] := ⟨_, rfl⟩
  rw [← ha]
  have hD1 := defers_behind ha hD_0
  have bb1 := bb_0.trans hC.below
  obtain ⟨cs, hg, hP⟩ := (show (kRes (w.heap.size) 9 (0) (1)).sem _ _ _ _ from hall 2 (of_decide_eq_true (by kernel_rfl)))
  have e1 := slot_old (t := 0) ha (by kernel_rfl) e0_0
  repeat (first | refine wp_seq ?_ | (refine wp_skip ?_; refine then_n ?_))
  refine wp_ret ?_
  repeat (refine then_r ?_)
  exact ret_cellF (t := 0) rfl hD1 e1 hg hP fun v hv => ⟨v, rfl, hv, bb1⟩
set_option maxRecDepth 100000 in
set_option maxHeartbeats 4000000 in
theorem Whole_9 {w : World} {v1 : Value} {z : Int} (h1 : Zr w v1 9 (z)) :
    Calls Tryz.prog 14 #[v1] w (TellsP w 9 ((z)) (1)) := by
  obtain ⟨A1, l1, c1, rfl, r1, u1⟩ := h1
  obtain ⟨b1, hb1⟩ : ∃ s, s = decide (z < 0) := ⟨_, rfl⟩
  rw [← hb1]
  have H1 := Lib.hid (show _ ∧ _ ∧ _ from ⟨hb1, r1, u1⟩)
  clear hb1 r1 u1
  go_enter Tryz.func14, Tryz.ntmps14
  repeat (refine wp_seq ?_)
  refine region_k ?_
  intro K hK
  have HK := Lib.hid hK
  clear hK
  go_wp2
  refine HK.out _ _ ?_
  clear HK
  refine then_n ?_
  obtain ⟨W_0, hW⟩ : ∃ W, W = (w.alloc (Obj.cells #[Value.bool b1, Value.slice A1 l1 c1] 25)).alloc (Obj.cells #[Value.bool false, Value.slice none 0 0, Value.bool false, Value.slice none 0 0] 27) := ⟨_, rfl⟩
  have bb_0 : Below w.heap.size w W_0 := by rw [hW]; exact bal (bal (Below.refl _ _) _) _
  have K0 : W_0.heap[w.heap.size]? = some (Obj.cells #[Value.bool b1, Value.slice A1 l1 c1] 25) := by rw [hW]; rw [Below.heap_alloc _ _ _ (by simp <;> omega)]; exact new_at (by simp)
  have K1 : W_0.heap[w.heap.size + 1]? = some (Obj.cells #[Value.bool false, Value.slice none 0 0, Value.bool false, Value.slice none 0 0] 27) := by rw [hW]; exact new_at (by simp)
  rw [← hW]
  obtain ⟨m1, n1, _, _⟩ := cell_of_two K0
  have f1_0 : AtR W_0 (w.heap.size) 0 9 (z) := ⟨A1, l1, c1, by rw [← H1.out.1]; exact m1, n1, A1, l1, c1, rfl, H1.out.2.1.below bb_0, H1.out.2.2⟩
  clear m1 n1
  have R_0 : Holds_ W_0 (w.heap.size + 1) #[Value.bool false, Value.slice none 0 0, Value.bool false, Value.slice none 0 0] := ⟨⟨_, K1⟩, by simp [noDig]⟩
  clear hW K0 K1
  refine name_frame (G := fun a => Code.wp _ _ _ a _) ?_
  intro a_0 ha
  have hN_0 : a_0.tmps.size = 13 := by subst ha; kernel_rfl
  have hD_0 : a_0.defers = [] := by subst ha; rfl
  have e1_0 : a_0.eval (.tmp 1) = .pointer (some ⟨w.heap.size, 0, none⟩) := by subst ha; kernel_rfl
  have e2_0 : a_0.eval (.tmp 2) = .pointer (some ⟨w.heap.size + 1, 0, none⟩) := by subst ha; kernel_rfl
  clear ha
  repeat (first | refine wp_seq ?_ | (refine wp_skip ?_; refine then_n ?_))
  refine wp_region_law hN_0 w.heap.size
    [kZ 9 (z), kIs (.bool true), kIs (.bool false)]
    [ [], [(0, some 3)], [(1, some 4)] ]
    [(0, some 3), (1, some 4), (2, some 5)] [] [] (by kernel_rfl) (by kernel_rfl) (by kernel_rfl) (by kernel_rfl) (by kernel_rfl) (by kernel_rfl) (by kernel_rfl) bb_0.size ?_ ?_
  ·
    refine pk_cons rfl rfl (st_loadB f1_0 (by simp) e1_0 hN_0 (by kernel_rfl) rfl) ?_
    refine pk_cons rfl rfl (st_call1 hN_0 (by kernel_rfl) (by kernel_rfl) (by kernel_rfl) rfl rfl fun w x v1 hC h1 => ti (z_right (rr h1))) ?_
    refine pk_cons rfl rfl (st_pure [.bool true] [] (.bool false) rfl hN_0 (by kernel_rfl) (by kernel_rfl) (by kernel_rfl) old0 (by kernel_rfl) (by kernel_rfl) (by kernel_rfl) (fun _ => by kernel_rfl)) ?_
    exact pk_nil rfl
  intro W_1 x hC hall
  refine then_n ?_
  obtain ⟨a_1, ha⟩ : ∃ a, a = putE x a_0 [(0, some 3), (1, some 4), (2, some 5)] := ⟨_, rfl⟩
  rw [← ha]
  have hN_1 := size_behind ha hN_0
  have hD_1 := defers_behind ha hD_0
  have bb_1 := bb_0.trans hC.below
  have e1_1 := slot_old ha (by kernel_rfl) e1_0
  have e2_1 := slot_old ha (by kernel_rfl) e2_0
  have f1_1 := hC.at0 f1_0
  have R_1 := hC.holds R_0
  have e5_1 := (slot_new (t := 5) (i := 2) ha hN_0 (by kernel_rfl) (by kernel_rfl)).trans (show x 2 = .bool false from hall 2 (of_decide_eq_true (by kernel_rfl)))
  clear hall hC ha bb_0 hD_0 e1_0 e2_0 f1_0 R_0
  repeat (first | refine wp_seq ?_ | (refine wp_skip ?_; refine then_n ?_))
  refine wp_cond_false e5_1 ?_
  repeat (first | refine wp_seq ?_ | (refine wp_skip ?_; refine then_n ?_))
  refine wp_region_res hN_1 w.heap.size (w.heap.size + 1) R_1 (by omega)
    [kZ 9 (z), kZs [(9, (z))], kZ 9 ((z)), kP 9 ((z)) (1), kP 9 ((z)) (1), kRes (w.heap.size + 1) 9 ((z)) (1)]
    [ [], [(0, some 8)], [(1, some 9)], [(2, some 10)], [(3, some 11)], [(4, some 12)] ]
    [(0, some 8), (1, some 9), (2, some 10), (3, some 11), (4, some 12), (5, none)] [] [] (by kernel_rfl) (by kernel_rfl) (by kernel_rfl) (by kernel_rfl) (by kernel_rfl) (by kernel_rfl) (by kernel_rfl) bb_1.size ?_ ?_
  ·
    refine pk_cons rfl rfl (st_loadB f1_1 (by simp only [List.mem_singleton]; omega) e1_1 hN_1 (by kernel_rfl) rfl) ?_
    refine pk_cons rfl rfl (st_list1 hN_1 (by kernel_rfl) (by kernel_rfl) (Nat.le_refl _) asR rfl) ?_
    refine pk_cons rfl rfl (st_call1 hN_1 (by kernel_rfl) (by kernel_rfl) (by kernel_rfl) rfl rfl fun w x v1 hC h1 => tz (l_add1 9 (lz h1) (by decide) (by decide))) ?_
    refine pk_cons rfl rfl (st_call1 hN_1 (by kernel_rfl) (by kernel_rfl) (by kernel_rfl) rfl rfl fun w x v1 hC h1 => tp (whole_9 ((rr h1).mono (by decide)))) ?_
    refine pk_cons rfl rfl (st_fieldF hN_1 (by kernel_rfl) (by kernel_rfl) rfl rfl) ?_
    refine pk_cons rfl rfl (st_resP R_1 rfl (by simp) e2_1 hN_1 (by kernel_rfl) (by kernel_rfl) rfl rfl) ?_
    exact pk_nil rfl
  intro W x hC hall
  refine then_n ?_
  obtain ⟨a1, ha⟩ : ∃ a, a = putE x a_1 [(0, some 8), (1, some 9), (2, some 10), (3, some 11), (4, some 12), (5, none)] := ⟨_, rfl⟩
  rw [← ha]
  have hD1 := defers_behind ha hD_1
  have bb1 := bb_1.trans hC.below
  obtain ⟨cs, hg, hP⟩ := (show (kRes (w.heap.size + 1) 9 ((z)) (1)).sem _ _ _ _ from hall 5 (of_decide_eq_true (by kernel_rfl)))
  have e1 := slot_old (t := 2) ha (by kernel_rfl) e2_1
  repeat (first | refine wp_seq ?_ | (refine wp_skip ?_; refine then_n ?_))
  refine wp_ret ?_
  repeat (refine then_r ?_)
  exact ret_cellP (t := 2) rfl hD1 e1 hg hP fun v hv => ⟨v, rfl, hv, bb1⟩
set_option maxRecDepth 100000 in
set_option maxHeartbeats 4000000 in
theorem same_9 {w : World} {v1 v2 : Value} {x y : Int} (h1 : Pr w v1 9 (x) (y)) (h2 : Pr w v2 9 (x) (y)) :
    Calls Tryz.prog 32 #[v1, v2] w (fun e w' => e = .returned (.bool true) ∧ Below w.heap.size w w') := by
  obtain ⟨A1, l1, c1, A1', l1', c1', rfl, ⟨r1, u1⟩, r1', u1'⟩ := h1
  obtain ⟨b1, hb1⟩ : ∃ s, s = decide (x < 0) := ⟨_, rfl⟩
  obtain ⟨b1', hb1'⟩ : ∃ s, s = decide (y < 0) := ⟨_, rfl⟩
  rw [← hb1, ← hb1']
  have H1 := Lib.hid (show _ ∧ _ ∧ _ ∧ _ ∧ _ ∧ _ from ⟨hb1, hb1', r1, u1, r1', u1'⟩)
  clear hb1 hb1' r1 u1 r1' u1'
  obtain ⟨A2, l2, c2, A2', l2', c2', rfl, ⟨r2, u2⟩, r2', u2'⟩ := h2
  obtain ⟨b2, hb2⟩ : ∃ s, s = decide (x < 0) := ⟨_, rfl⟩
  obtain ⟨b2', hb2'⟩ : ∃ s, s = decide (y < 0) := ⟨_, rfl⟩
  rw [← hb2, ← hb2']
  have H2 := Lib.hid (show _ ∧ _ ∧ _ ∧ _ ∧ _ ∧ _ from ⟨hb2, hb2', r2, u2, r2', u2'⟩)
  clear hb2 hb2' r2 u2 r2' u2'
  go_enter Tryz.func32, Tryz.ntmps32
  repeat (refine wp_seq ?_)
  refine region_k ?_
  intro K hK
  have HK := Lib.hid hK
  clear hK
  go_wp2
  refine HK.out _ _ ?_
  clear HK
  refine then_n ?_
  obtain ⟨W_0, hW⟩ : ∃ W, W = (w.alloc (Obj.cells #[Value.bool b1, Value.slice A1 l1 c1, Value.bool b1', Value.slice A1' l1' c1'] 27)).alloc (Obj.cells #[Value.bool b2, Value.slice A2 l2 c2, Value.bool b2', Value.slice A2' l2' c2'] 27) := ⟨_, rfl⟩
  have bb_0 : Below w.heap.size w W_0 := by rw [hW]; exact bal (bal (Below.refl _ _) _) _
  have K0 : W_0.heap[w.heap.size]? = some (Obj.cells #[Value.bool b1, Value.slice A1 l1 c1, Value.bool b1', Value.slice A1' l1' c1'] 27) := by rw [hW]; rw [Below.heap_alloc _ _ _ (by simp <;> omega)]; exact new_at (by simp)
  have K1 : W_0.heap[w.heap.size + 1]? = some (Obj.cells #[Value.bool b2, Value.slice A2 l2 c2, Value.bool b2', Value.slice A2' l2' c2'] 27) := by rw [hW]; exact new_at (by simp)
  rw [← hW]
  obtain ⟨m1, n1, m1', n1', _, _, _, _⟩ := four_cells K0
  have f1_0 : AtR W_0 (w.heap.size) 0 9 (x) := ⟨A1, l1, c1, by rw [← H1.out.1]; exact m1, n1, A1, l1, c1, rfl, H1.out.2.2.1.below bb_0, H1.out.2.2.2.1⟩
  have f1'_0 : AtR W_0 (w.heap.size) 2 9 (y) := ⟨A1', l1', c1', by rw [← H1.out.2.1]; exact m1', n1', A1', l1', c1', rfl, H1.out.2.2.2.2.1.below bb_0, H1.out.2.2.2.2.2⟩
  clear m1 n1 m1' n1'
  obtain ⟨m2, n2, m2', n2', _, _, _, _⟩ := four_cells K1
  have f2_0 : AtR W_0 (w.heap.size + 1) 0 9 (x) := ⟨A2, l2, c2, by rw [← H2.out.1]; exact m2, n2, A2, l2, c2, rfl, H2.out.2.2.1.below bb_0, H2.out.2.2.2.1⟩
  have f2'_0 : AtR W_0 (w.heap.size + 1) 2 9 (y) := ⟨A2', l2', c2', by rw [← H2.out.2.1]; exact m2', n2', A2', l2', c2', rfl, H2.out.2.2.2.2.1.below bb_0, H2.out.2.2.2.2.2⟩
  clear m2 n2 m2' n2'
  clear hW K0 K1
  refine name_frame (G := fun a => Code.wp _ _ _ a _) ?_
  intro a_0 ha
  have hN_0 : a_0.tmps.size = 17 := by subst ha; kernel_rfl
  have hD_0 : a_0.defers = [] := by subst ha; rfl
  have e2_0 : a_0.eval (.tmp 2) = .pointer (some ⟨w.heap.size, 0, none⟩) := by subst ha; kernel_rfl
  have e3_0 : a_0.eval (.tmp 3) = .pointer (some ⟨w.heap.size + 1, 0, none⟩) := by subst ha; kernel_rfl
  clear ha
  repeat (first | refine wp_seq ?_ | (refine wp_skip ?_; refine then_n ?_))
  refine wp_region_law hN_0 w.heap.size
    [kIs (.pointer (some ⟨w.heap.size, 0, none⟩)), kZ 9 (x), kIs (.pointer (some ⟨w.heap.size + 1, 0, none⟩)), kZ 9 (x), kIs (.bool true), kIs (.bool true), kIs (.pointer (some ⟨w.heap.size, 2, none⟩)), kZ 9 (y), kIs (.pointer (some ⟨w.heap.size + 1, 2, none⟩)), kZ 9 (y), kIs (.bool true), kIs (.bool true), kIs (.bool true)]
    [ [], [(0, some 5)], [], [(2, some 7)], [(1, some 6), (3, some 8)], [(4, some 9)], [], [(6, some 11)], [], [(8, some 13)], [(7, some 12), (9, some 14)], [(5, some 10), (10, some 15)], [(11, some 16)] ]
    [(0, some 5), (1, some 6), (2, some 7), (3, some 8), (4, some 9), (5, some 10), (6, some 11), (7, some 12), (8, some 13), (9, some 14), (10, some 15), (11, some 16), (12, some 4)] [(5, true)] [] (by kernel_rfl) (by kernel_rfl) (by kernel_rfl) (by kernel_rfl) (by kernel_rfl) (by kernel_rfl) (by kernel_rfl) bb_0.size ?_ ?_
  ·
    refine pk_cons rfl rfl (st_pure [] [(2, .pointer (some ⟨w.heap.size, 0, none⟩))] (.pointer (some ⟨w.heap.size, 0, none⟩)) rfl hN_0 (by kernel_rfl) (by kernel_rfl) (by kernel_rfl) (old1 e2_0) (by kernel_rfl) (by kernel_rfl) (by kernel_rfl) (fun _ => by kernel_rfl)) ?_
    refine pk_cons rfl rfl (st_loadA f1_0 (by simp) hN_0 (by kernel_rfl) (by kernel_rfl) rfl rfl) ?_
    refine pk_cons rfl rfl (st_pure [] [(3, .pointer (some ⟨w.heap.size + 1, 0, none⟩))] (.pointer (some ⟨w.heap.size + 1, 0, none⟩)) rfl hN_0 (by kernel_rfl) (by kernel_rfl) (by kernel_rfl) (old1 e3_0) (by kernel_rfl) (by kernel_rfl) (by kernel_rfl) (fun _ => by kernel_rfl)) ?_
    refine pk_cons rfl rfl (st_loadA f2_0 (by simp) hN_0 (by kernel_rfl) (by kernel_rfl) rfl rfl) ?_
    refine pk_cons rfl rfl (st_call2 hN_0 (by kernel_rfl) (by kernel_rfl) (by kernel_rfl) (by kernel_rfl) (by kernel_rfl) rfl rfl rfl fun w x v1 v2 hC h1 h2 => ti (z_sameInt (rr h1) (rr h2))) ?_
    refine pk_cons rfl rfl (st_pure [.bool true] [] (.bool true) rfl hN_0 (by kernel_rfl) (by kernel_rfl) (by kernel_rfl) old0 (by kernel_rfl) (by kernel_rfl) (by kernel_rfl) (fun _ => by kernel_rfl)) ?_
    refine pk_cons rfl rfl (st_pure [] [(2, .pointer (some ⟨w.heap.size, 0, none⟩))] (.pointer (some ⟨w.heap.size, 2, none⟩)) rfl hN_0 (by kernel_rfl) (by kernel_rfl) (by kernel_rfl) (old1 e2_0) (by kernel_rfl) (by kernel_rfl) (by kernel_rfl) (fun _ => by kernel_rfl)) ?_
    refine pk_cons rfl rfl (st_loadA f1'_0 (by simp) hN_0 (by kernel_rfl) (by kernel_rfl) rfl rfl) ?_
    refine pk_cons rfl rfl (st_pure [] [(3, .pointer (some ⟨w.heap.size + 1, 0, none⟩))] (.pointer (some ⟨w.heap.size + 1, 2, none⟩)) rfl hN_0 (by kernel_rfl) (by kernel_rfl) (by kernel_rfl) (old1 e3_0) (by kernel_rfl) (by kernel_rfl) (by kernel_rfl) (fun _ => by kernel_rfl)) ?_
    refine pk_cons rfl rfl (st_loadA f2'_0 (by simp) hN_0 (by kernel_rfl) (by kernel_rfl) rfl rfl) ?_
    refine pk_cons rfl rfl (st_call2 hN_0 (by kernel_rfl) (by kernel_rfl) (by kernel_rfl) (by kernel_rfl) (by kernel_rfl) rfl rfl rfl fun w x v1 v2 hC h1 h2 => ti (z_sameInt (rr h1) (rr h2))) ?_
    refine pk_cons rfl rfl (st_pure [.bool true, .bool true] [] (.bool true) rfl hN_0 (by kernel_rfl) (by kernel_rfl) (by kernel_rfl) old0 (by kernel_rfl) (by kernel_rfl) (by kernel_rfl) (fun _ => by kernel_rfl)) ?_
    refine pk_cons rfl rfl (st_pure [.bool true] [] (.bool true) rfl hN_0 (by kernel_rfl) (by kernel_rfl) (by kernel_rfl) old0 (by kernel_rfl) (by kernel_rfl) (by kernel_rfl) (fun _ => by kernel_rfl)) ?_
    exact pk_nil rfl
  intro W x hC hall
  refine then_n ?_
  obtain ⟨a1, ha⟩ : ∃ a, a = putE x a_0 [(0, some 5), (1, some 6), (2, some 7), (3, some 8), (4, some 9), (5, some 10), (6, some 11), (7, some 12), (8, some 13), (9, some 14), (10, some 15), (11, some 16), (12, some 4)] := ⟨_, rfl⟩
  rw [← ha]
  have hD1 := defers_behind ha hD_0
  have bb1 := bb_0.trans hC.below
  have e1 := (slot_new (t := 4) (i := 12) ha hN_0 (by kernel_rfl) (by kernel_rfl)).trans (show x 12 = .bool true from hall 12 (of_decide_eq_true (by kernel_rfl)))
  repeat (first | refine wp_seq ?_ | (refine wp_skip ?_; refine then_n ?_))
  refine wp_ret ?_
  repeat (refine then_r ?_)
  exact ret_one (t := 4) rfl hD1 e1 ⟨rfl, bb1⟩
set_option maxRecDepth 100000 in
set_option maxHeartbeats 4000000 in
theorem lawSame_9 {w : World} {v1 v2 : Value} {x y : Int} (h1 : Pr w v1 9 (x) (y)) (h2 : Pr w v2 9 (x) (y)) :
    Calls Tryz.prog 9 #[v1, v2] w (fun e w' => e = .returned (.bool true) ∧ Below w.heap.size w w') := by
  obtain ⟨A1, l1, c1, A1', l1', c1', rfl, ⟨r1, u1⟩, r1', u1'⟩ := h1
  obtain ⟨b1, hb1⟩ : ∃ s, s = decide (x < 0) := ⟨_, rfl⟩
  obtain ⟨b1', hb1'⟩ : ∃ s, s = decide (y < 0) := ⟨_, rfl⟩
  rw [← hb1, ← hb1']
  have H1 := Lib.hid (show _ ∧ _ ∧ _ ∧ _ ∧ _ ∧ _ from ⟨hb1, hb1', r1, u1, r1', u1'⟩)
  clear hb1 hb1' r1 u1 r1' u1'
  obtain ⟨A2, l2, c2, A2', l2', c2', rfl, ⟨r2, u2⟩, r2', u2'⟩ := h2
  obtain ⟨b2, hb2⟩ : ∃ s, s = decide (x < 0) := ⟨_, rfl⟩
  obtain ⟨b2', hb2'⟩ : ∃ s, s = decide (y < 0) := ⟨_, rfl⟩
  rw [← hb2, ← hb2']
  have H2 := Lib.hid (show _ ∧ _ ∧ _ ∧ _ ∧ _ ∧ _ from ⟨hb2, hb2', r2, u2, r2', u2'⟩)
  clear hb2 hb2' r2 u2 r2' u2'
  go_enter Tryz.func9, Tryz.ntmps9
  repeat (refine wp_seq ?_)
  refine region_k ?_
  intro K hK
  have HK := Lib.hid hK
  clear hK
  go_wp2
  refine HK.out _ _ ?_
  clear HK
  refine then_n ?_
  obtain ⟨W_0, hW⟩ : ∃ W, W = (w.alloc (Obj.cells #[Value.bool b1, Value.slice A1 l1 c1, Value.bool b1', Value.slice A1' l1' c1'] 27)).alloc (Obj.cells #[Value.bool b2, Value.slice A2 l2 c2, Value.bool b2', Value.slice A2' l2' c2'] 27) := ⟨_, rfl⟩
  have bb_0 : Below w.heap.size w W_0 := by rw [hW]; exact bal (bal (Below.refl _ _) _) _
  have K0 : W_0.heap[w.heap.size]? = some (Obj.cells #[Value.bool b1, Value.slice A1 l1 c1, Value.bool b1', Value.slice A1' l1' c1'] 27) := by rw [hW]; rw [Below.heap_alloc _ _ _ (by simp <;> omega)]; exact new_at (by simp)
  have K1 : W_0.heap[w.heap.size + 1]? = some (Obj.cells #[Value.bool b2, Value.slice A2 l2 c2, Value.bool b2', Value.slice A2' l2' c2'] 27) := by rw [hW]; exact new_at (by simp)
  rw [← hW]
  obtain ⟨m1, n1, m1', n1', _, _, _, _⟩ := four_cells K0
  have f1_0 : AtR W_0 (w.heap.size) 0 9 (x) := ⟨A1, l1, c1, by rw [← H1.out.1]; exact m1, n1, A1, l1, c1, rfl, H1.out.2.2.1.below bb_0, H1.out.2.2.2.1⟩
  have f1'_0 : AtR W_0 (w.heap.size) 2 9 (y) := ⟨A1', l1', c1', by rw [← H1.out.2.1]; exact m1', n1', A1', l1', c1', rfl, H1.out.2.2.2.2.1.below bb_0, H1.out.2.2.2.2.2⟩
  clear m1 n1 m1' n1'
  obtain ⟨m2, n2, m2', n2', _, _, _, _⟩ := four_cells K1
  have f2_0 : AtR W_0 (w.heap.size + 1) 0 9 (x) := ⟨A2, l2, c2, by rw [← H2.out.1]; exact m2, n2, A2, l2, c2, rfl, H2.out.2.2.1.below bb_0, H2.out.2.2.2.1⟩
  have f2'_0 : AtR W_0 (w.heap.size + 1) 2 9 (y) := ⟨A2', l2', c2', by rw [← H2.out.2.1]; exact m2', n2', A2', l2', c2', rfl, H2.out.2.2.2.2.1.below bb_0, H2.out.2.2.2.2.2⟩
  clear m2 n2 m2' n2'
  clear hW K0 K1
  refine name_frame (G := fun a => Code.wp _ _ _ a _) ?_
  intro a_0 ha
  have hN_0 : a_0.tmps.size = 8 := by subst ha; kernel_rfl
  have hD_0 : a_0.defers = [] := by subst ha; rfl
  have e2_0 : a_0.eval (.tmp 2) = .pointer (some ⟨w.heap.size, 0, none⟩) := by subst ha; kernel_rfl
  have e3_0 : a_0.eval (.tmp 3) = .pointer (some ⟨w.heap.size + 1, 0, none⟩) := by subst ha; kernel_rfl
  clear ha
  repeat (first | refine wp_seq ?_ | (refine wp_skip ?_; refine then_n ?_))
  refine wp_region_law hN_0 w.heap.size
    [kP 9 (x) (y), kP 9 (x) (y), kIs (.bool true), kIs (.bool true)]
    [ [], [], [(0, some 5), (1, some 6)], [(2, some 7)] ]
    [(0, some 5), (1, some 6), (2, some 7), (3, some 4)] [] [] (by kernel_rfl) (by kernel_rfl) (by kernel_rfl) (by kernel_rfl) (by kernel_rfl) (by kernel_rfl) (by kernel_rfl) bb_0.size ?_ ?_
  ·
    refine pk_cons rfl rfl (st_load4P f1_0 f1'_0 (by simp) e2_0 hN_0 (by kernel_rfl) rfl) ?_
    refine pk_cons rfl rfl (st_load4P f2_0 f2'_0 (by simp) e3_0 hN_0 (by kernel_rfl) rfl) ?_
    refine pk_cons rfl rfl (st_call2 hN_0 (by kernel_rfl) (by kernel_rfl) (by kernel_rfl) (by kernel_rfl) (by kernel_rfl) rfl rfl rfl fun w x v1 v2 hC h1 h2 => ti (same_9 (pm (by decide) h1) (pm (by decide) h2))) ?_
    refine pk_cons rfl rfl (st_pure [.bool true] [] (.bool true) rfl hN_0 (by kernel_rfl) (by kernel_rfl) (by kernel_rfl) old0 (by kernel_rfl) (by kernel_rfl) (by kernel_rfl) (fun _ => by kernel_rfl)) ?_
    exact pk_nil rfl
  intro W x hC hall
  refine then_n ?_
  obtain ⟨a1, ha⟩ : ∃ a, a = putE x a_0 [(0, some 5), (1, some 6), (2, some 7), (3, some 4)] := ⟨_, rfl⟩
  rw [← ha]
  have hD1 := defers_behind ha hD_0
  have bb1 := bb_0.trans hC.below
  have e1 := (slot_new (t := 4) (i := 3) ha hN_0 (by kernel_rfl) (by kernel_rfl)).trans (show x 3 = .bool true from hall 3 (of_decide_eq_true (by kernel_rfl)))
  repeat (first | refine wp_seq ?_ | (refine wp_skip ?_; refine then_n ?_))
  refine wp_ret ?_
  repeat (refine then_r ?_)
  exact ret_one (t := 4) rfl hD1 e1 ⟨rfl, bb1⟩
set_option maxRecDepth 100000 in
set_option maxHeartbeats 4000000 in
theorem Whole_19 {w : World} {v1 : Value} {z : Int} (h1 : Zr w v1 19 (z)) :
    Calls Tryz.prog 14 #[v1] w (TellsP w 19 ((z)) (1)) := by
  obtain ⟨A1, l1, c1, rfl, r1, u1⟩ := h1
  obtain ⟨b1, hb1⟩ : ∃ s, s = decide (z < 0) := ⟨_, rfl⟩
  rw [← hb1]
  have H1 := Lib.hid (show _ ∧ _ ∧ _ from ⟨hb1, r1, u1⟩)
  clear hb1 r1 u1
  go_enter Tryz.func14, Tryz.ntmps14
  repeat (refine wp_seq ?_)
  refine region_k ?_
  intro K hK
  have HK := Lib.hid hK
  clear hK
  go_wp2
  refine HK.out _ _ ?_
  clear HK
  refine then_n ?_
  obtain ⟨W_0, hW⟩ : ∃ W, W = (w.alloc (Obj.cells #[Value.bool b1, Value.slice A1 l1 c1] 25)).alloc (Obj.cells #[Value.bool false, Value.slice none 0 0, Value.bool false, Value.slice none 0 0] 27) := ⟨_, rfl⟩
  have bb_0 : Below w.heap.size w W_0 := by rw [hW]; exact bal (bal (Below.refl _ _) _) _
  have K0 : W_0.heap[w.heap.size]? = some (Obj.cells #[Value.bool b1, Value.slice A1 l1 c1] 25) := by rw [hW]; rw [Below.heap_alloc _ _ _ (by simp <;> omega)]; exact new_at (by simp)
  have K1 : W_0.heap[w.heap.size + 1]? = some (Obj.cells #[Value.bool false, Value.slice none 0 0, Value.bool false, Value.slice none 0 0] 27) := by rw [hW]; exact new_at (by simp)
  rw [← hW]
  obtain ⟨m1, n1, _, _⟩ := cell_of_two K0
  have f1_0 : AtR W_0 (w.heap.size) 0 19 (z) := ⟨A1, l1, c1, by rw [← H1.out.1]; exact m1, n1, A1, l1, c1, rfl, H1.out.2.1.below bb_0, H1.out.2.2⟩
  clear m1 n1
  have R_0 : Holds_ W_0 (w.heap.size + 1) #[Value.bool false, Value.slice none 0 0, Value.bool false, Value.slice none 0 0] := ⟨⟨_, K1⟩, by simp [noDig]⟩
  clear hW K0 K1
  refine name_frame (G := fun a => Code.wp _ _ _ a _) ?_
  intro a_0 ha
  have hN_0 : a_0.tmps.size = 13 := by subst ha; kernel_rfl
  have hD_0 : a_0.defers = [] := by subst ha; rfl
  have e1_0 : a_0.eval (.tmp 1) = .pointer (some ⟨w.heap.size, 0, none⟩) := by subst ha; kernel_rfl
  have e2_0 : a_0.eval (.tmp 2) = .pointer (some ⟨w.heap.size + 1, 0, none⟩) := by subst ha; kernel_rfl
  clear ha
  repeat (first | refine wp_seq ?_ | (refine wp_skip ?_; refine then_n ?_))
  refine wp_region_law hN_0 w.heap.size
    [kZ 19 (z), kIs (.bool true), kIs (.bool false)]
    [ [], [(0, some 3)], [(1, some 4)] ]
    [(0, some 3), (1, some 4), (2, some 5)] [] [] (by kernel_rfl) (by kernel_rfl) (by kernel_rfl) (by kernel_rfl) (by kernel_rfl) (by kernel_rfl) (by kernel_rfl) bb_0.size ?_ ?_
  ·
    refine pk_cons rfl rfl (st_loadB f1_0 (by simp) e1_0 hN_0 (by kernel_rfl) rfl) ?_
    refine pk_cons rfl rfl (st_call1 hN_0 (by kernel_rfl) (by kernel_rfl) (by kernel_rfl) rfl rfl fun w x v1 hC h1 => ti (z_right (rr h1))) ?_
    refine pk_cons rfl rfl (st_pure [.bool true] [] (.bool false) rfl hN_0 (by kernel_rfl) (by kernel_rfl) (by kernel_rfl) old0 (by kernel_rfl) (by kernel_rfl) (by kernel_rfl) (fun _ => by kernel_rfl)) ?_
    exact pk_nil rfl
  intro W_1 x hC hall
  refine then_n ?_
  obtain ⟨a_1, ha⟩ : ∃ a, a = putE x a_0 [(0, some 3), (1, some 4), (2, some 5)] := ⟨_, rfl⟩
  rw [← ha]
  have hN_1 := size_behind ha hN_0
  have hD_1 := defers_behind ha hD_0
  have bb_1 := bb_0.trans hC.below
  have e1_1 := slot_old ha (by kernel_rfl) e1_0
  have e2_1 := slot_old ha (by kernel_rfl) e2_0
  have f1_1 := hC.at0 f1_0
  have R_1 := hC.holds R_0
  have e5_1 := (slot_new (t := 5) (i := 2) ha hN_0 (by kernel_rfl) (by kernel_rfl)).trans (show x 2 = .bool false from hall 2 (of_decide_eq_true (by kernel_rfl)))
  clear hall hC ha bb_0 hD_0 e1_0 e2_0 f1_0 R_0
  repeat (first | refine wp_seq ?_ | (refine wp_skip ?_; refine then_n ?_))
  refine wp_cond_false e5_1 ?_
  repeat (first | refine wp_seq ?_ | (refine wp_skip ?_; refine then_n ?_))
  refine wp_region_res hN_1 w.heap.size (w.heap.size + 1) R_1 (by omega)
    [kZ 19 (z), kZs [(19, (z))], kZ 19 ((z)), kP 19 ((z)) (1), kP 19 ((z)) (1), kRes (w.heap.size + 1) 19 ((z)) (1)]
    [ [], [(0, some 8)], [(1, some 9)], [(2, some 10)], [(3, some 11)], [(4, some 12)] ]
    [(0, some 8), (1, some 9), (2, some 10), (3, some 11), (4, some 12), (5, none)] [] [] (by kernel_rfl) (by kernel_rfl) (by kernel_rfl) (by kernel_rfl) (by kernel_rfl) (by kernel_rfl) (by kernel_rfl) bb_1.size ?_ ?_
  ·
    refine pk_cons rfl rfl (st_loadB f1_1 (by simp only [List.mem_singleton]; omega) e1_1 hN_1 (by kernel_rfl) rfl) ?_
    refine pk_cons rfl rfl (st_list1 hN_1 (by kernel_rfl) (by kernel_rfl) (Nat.le_refl _) asR rfl) ?_
    refine pk_cons rfl rfl (st_call1 hN_1 (by kernel_rfl) (by kernel_rfl) (by kernel_rfl) rfl rfl fun w x v1 hC h1 => tz (l_add1 19 (lz h1) (by decide) (by decide))) ?_
    refine pk_cons rfl rfl (st_call1 hN_1 (by kernel_rfl) (by kernel_rfl) (by kernel_rfl) rfl rfl fun w x v1 hC h1 => tp (whole_19 ((rr h1).mono (by decide)))) ?_
    refine pk_cons rfl rfl (st_fieldF hN_1 (by kernel_rfl) (by kernel_rfl) rfl rfl) ?_
    refine pk_cons rfl rfl (st_resP R_1 rfl (by simp) e2_1 hN_1 (by kernel_rfl) (by kernel_rfl) rfl rfl) ?_
    exact pk_nil rfl
  intro W x hC hall
  refine then_n ?_
  obtain ⟨a1, ha⟩ : ∃ a, a = putE x a_1 [(0, some 8), (1, some 9), (2, some 10), (3, some 11), (4, some 12), (5, none)] := ⟨_, rfl⟩
  rw [← ha]
  have hD1 := defers_behind ha hD_1
  have bb1 := bb_1.trans hC.below
  obtain ⟨cs, hg, hP⟩ := (show (kRes (w.heap.size + 1) 19 ((z)) (1)).sem _ _ _ _ from hall 5 (of_decide_eq_true (by kernel_rfl)))
  have e1 := slot_old (t := 2) ha (by kernel_rfl) e2_1
  repeat (first | refine wp_seq ?_ | (refine wp_skip ?_; refine then_n ?_))
  refine wp_ret ?_
  repeat (refine then_r ?_)
  exact ret_cellP (t := 2) rfl hD1 e1 hg hP fun v hv => ⟨v, rfl, hv, bb1⟩
set_option maxRecDepth 100000 in
set_option maxHeartbeats 4000000 in
theorem same_19 {w : World} {v1 v2 : Value} {x y : Int} (h1 : Pr w v1 19 (x) (y)) (h2 : Pr w v2 19 (x) (y)) :
    Calls Tryz.prog 32 #[v1, v2] w (fun e w' => e = .returned (.bool true) ∧ Below w.heap.size w w') := by
  obtain ⟨A1, l1, c1, A1', l1', c1', rfl, ⟨r1, u1⟩, r1', u1'⟩ := h1
  obtain ⟨b1, hb1⟩ : ∃ s, s = decide (x < 0) := ⟨_, rfl⟩
  obtain ⟨b1', hb1'⟩ : ∃ s, s = decide (y < 0) := ⟨_, rfl⟩
  rw [← hb1, ← hb1']
  have H1 := Lib.hid (show _ ∧ _ ∧ _ ∧ _ ∧ _ ∧ _ from ⟨hb1, hb1', r1, u1, r1', u1'⟩)
  clear hb1 hb1' r1 u1 r1' u1'
  obtain ⟨A2, l2, c2, A2', l2', c2', rfl, ⟨r2, u2⟩, r2', u2'⟩ := h2
  obtain ⟨b2, hb2⟩ : ∃ s, s = decide (x < 0) := ⟨_, rfl⟩
  obtain ⟨b2', hb2'⟩ : ∃ s, s = decide (y < 0) := ⟨_, rfl⟩
  rw [← hb2, ← hb2']
  have H2 := Lib.hid (show _ ∧ _ ∧ _ ∧ _ ∧ _ ∧ _ from ⟨hb2, hb2', r2, u2, r2', u2'⟩)
  clear hb2 hb2' r2 u2 r2' u2'
  go_enter Tryz.func32, Tryz.ntmps32
  repeat (refine wp_seq ?_)
  refine region_k ?_
  intro K hK
  have HK := Lib.hid hK
  clear hK
  go_wp2
  refine HK.out _ _ ?_
  clear HK
  refine then_n ?_
  obtain ⟨W_0, hW⟩ : ∃ W, W = (w.alloc (Obj.cells #[Value.bool b1, Value.slice A1 l1 c1, Value.bool b1', Value.slice A1' l1' c1'] 27)).alloc (Obj.cells #[Value.bool b2, Value.slice A2 l2 c2, Value.bool b2', Value.slice A2' l2' c2'] 27) := ⟨_, rfl⟩
  have bb_0 : Below w.heap.size w W_0 := by rw [hW]; exact bal (bal (Below.refl _ _) _) _
  have K0 : W_0.heap[w.heap.size]? = some (Obj.cells #[Value.bool b1, Value.slice A1 l1 c1, Value.bool b1', Value.slice A1' l1' c1'] 27) := by rw [hW]; rw [Below.heap_alloc _ _ _ (by simp <;> omega)]; exact new_at (by simp)
  have K1 : W_0.heap[w.heap.size + 1]? = some (Obj.cells #[Value.bool b2, Value.slice A2 l2 c2, Value.bool b2', Value.slice A2' l2' c2'] 27) := by rw [hW]; exact new_at (by simp)
  rw [← hW]
  obtain ⟨m1, n1, m1', n1', _, _, _, _⟩ := four_cells K0
  have f1_0 : AtR W_0 (w.heap.size) 0 19 (x) := ⟨A1, l1, c1, by rw [← H1.out.1]; exact m1, n1, A1, l1, c1, rfl, H1.out.2.2.1.below bb_0, H1.out.2.2.2.1⟩
  have f1'_0 : AtR W_0 (w.heap.size) 2 19 (y) := ⟨A1', l1', c1', by rw [← H1.out.2.1]; exact m1', n1', A1', l1', c1', rfl, H1.out.2.2.2.2.1.below bb_0, H1.out.2.2.2.2.2⟩
  clear m1 n1 m1' n1'
  obtain ⟨m2, n2, m2', n2', _, _, _, _⟩ := four_cells K1
  have f2_0 : AtR W_0 (w.heap.size + 1) 0 19 (x) := ⟨A2, l2, c2, by rw [← H2.out.1]; exact m2, n2, A2, l2, c2, rfl, H2.out.2.2.1.below bb_0, H2.out.2.2.2.1⟩
  have f2'_0 : AtR W_0 (w.heap.size + 1) 2 19 (y) := ⟨A2', l2', c2', by rw [← H2.out.2.1]; exact m2', n2', A2', l2', c2', rfl, H2.out.2.2.2.2.1.below bb_0, H2.out.2.2.2.2.2⟩
  clear m2 n2 m2' n2'
  clear hW K0 K1
  refine name_frame (G := fun a => Code.wp _ _ _ a _) ?_
  intro a_0 ha
  have hN_0 : a_0.tmps.size = 17 := by subst ha; kernel_rfl
  have hD_0 : a_0.defers = [] := by subst ha; rfl
  have e2_0 : a_0.eval (.tmp 2) = .pointer (some ⟨w.heap.size, 0, none⟩) := by subst ha; kernel_rfl
  have e3_0 : a_0.eval (.tmp 3) = .pointer (some ⟨w.heap.size + 1, 0, none⟩) := by subst ha; kernel_rfl
  clear ha
  repeat (first | refine wp_seq ?_ | (refine wp_skip ?_; refine then_n ?_))
  refine wp_region_law hN_0 w.heap.size
    [kIs (.pointer (some ⟨w.heap.size, 0, none⟩)), kZ 19 (x), kIs (.pointer (some ⟨w.heap.size + 1, 0, none⟩)), kZ 19 (x), kIs (.bool true), kIs (.bool true), kIs (.pointer (some ⟨w.heap.size, 2, none⟩)), kZ 19 (y), kIs (.pointer (some ⟨w.heap.size + 1, 2, none⟩)), kZ 19 (y), kIs (.bool true), kIs (.bool true), kIs (.bool true)]
    [ [], [(0, some 5)], [], [(2, some 7)], [(1, some 6), (3, some 8)], [(4, some 9)], [], [(6, some 11)], [], [(8, some 13)], [(7, some 12), (9, some 14)], [(5, some 10), (10, some 15)], [(11, some 16)] ]
    [(0, some 5), (1, some 6), (2, some 7), (3, some 8), (4, some 9), (5, some 10), (6, some 11), (7, some 12), (8, some 13), (9, some 14), (10, some 15), (11, some 16), (12, some 4)] [(5, true)] [] (by kernel_rfl) (by kernel_rfl) (by kernel_rfl) (by kernel_rfl) (by kernel_rfl) (by kernel_rfl) (by kernel_rfl) bb_0.size ?_ ?_
  ·
    refine pk_cons rfl rfl (st_pure [] [(2, .pointer (some ⟨w.heap.size, 0, none⟩))] (.pointer (some ⟨w.heap.size, 0, none⟩)) rfl hN_0 (by kernel_rfl) (by kernel_rfl) (by kernel_rfl) (old1 e2_0) (by kernel_rfl) (by kernel_rfl) (by kernel_rfl) (fun _ => by kernel_rfl)) ?_
    refine pk_cons rfl rfl (st_loadA f1_0 (by simp) hN_0 (by kernel_rfl) (by kernel_rfl) rfl rfl) ?_
    refine pk_cons rfl rfl (st_pure [] [(3, .pointer (some ⟨w.heap.size + 1, 0, none⟩))] (.pointer (some ⟨w.heap.size + 1, 0, none⟩)) rfl hN_0 (by kernel_rfl) (by kernel_rfl) (by kernel_rfl) (old1 e3_0) (by kernel_rfl) (by kernel_rfl) (by kernel_rfl) (fun _ => by kernel_rfl)) ?_
    refine pk_cons rfl rfl (st_loadA f2_0 (by simp) hN_0 (by kernel_rfl) (by kernel_rfl) rfl rfl) ?_
    refine pk_cons rfl rfl (st_call2 hN_0 (by kernel_rfl) (by kernel_rfl) (by kernel_rfl) (by kernel_rfl) (by kernel_rfl) rfl rfl rfl fun w x v1 v2 hC h1 h2 => ti (z_sameInt (rr h1) (rr h2))) ?_
    refine pk_cons rfl rfl (st_pure [.bool true] [] (.bool true) rfl hN_0 (by kernel_rfl) (by kernel_rfl) (by kernel_rfl) old0 (by kernel_rfl) (by kernel_rfl) (by kernel_rfl) (fun _ => by kernel_rfl)) ?_
    refine pk_cons rfl rfl (st_pure [] [(2, .pointer (some ⟨w.heap.size, 0, none⟩))] (.pointer (some ⟨w.heap.size, 2, none⟩)) rfl hN_0 (by kernel_rfl) (by kernel_rfl) (by kernel_rfl) (old1 e2_0) (by kernel_rfl) (by kernel_rfl) (by kernel_rfl) (fun _ => by kernel_rfl)) ?_
    refine pk_cons rfl rfl (st_loadA f1'_0 (by simp) hN_0 (by kernel_rfl) (by kernel_rfl) rfl rfl) ?_
    refine pk_cons rfl rfl (st_pure [] [(3, .pointer (some ⟨w.heap.size + 1, 0, none⟩))] (.pointer (some ⟨w.heap.size + 1, 2, none⟩)) rfl hN_0 (by kernel_rfl) (by kernel_rfl) (by kernel_rfl) (old1 e3_0) (by kernel_rfl) (by kernel_rfl) (by kernel_rfl) (fun _ => by kernel_rfl)) ?_
    refine pk_cons rfl rfl (st_loadA f2'_0 (by simp) hN_0 (by kernel_rfl) (by kernel_rfl) rfl rfl) ?_
    refine pk_cons rfl rfl (st_call2 hN_0 (by kernel_rfl) (by kernel_rfl) (by kernel_rfl) (by kernel_rfl) (by kernel_rfl) rfl rfl rfl fun w x v1 v2 hC h1 h2 => ti (z_sameInt (rr h1) (rr h2))) ?_
    refine pk_cons rfl rfl (st_pure [.bool true, .bool true] [] (.bool true) rfl hN_0 (by kernel_rfl) (by kernel_rfl) (by kernel_rfl) old0 (by kernel_rfl) (by kernel_rfl) (by kernel_rfl) (fun _ => by kernel_rfl)) ?_
    refine pk_cons rfl rfl (st_pure [.bool true] [] (.bool true) rfl hN_0 (by kernel_rfl) (by kernel_rfl) (by kernel_rfl) old0 (by kernel_rfl) (by kernel_rfl) (by kernel_rfl) (fun _ => by kernel_rfl)) ?_
    exact pk_nil rfl
  intro W x hC hall
  refine then_n ?_
  obtain ⟨a1, ha⟩ : ∃ a, a = putE x a_0 [(0, some 5), (1, some 6), (2, some 7), (3, some 8), (4, some 9), (5, some 10), (6, some 11), (7, some 12), (8, some 13), (9, some 14), (10, some 15), (11, some 16), (12, some 4)] := ⟨_, rfl⟩
  rw [← ha]
  have hD1 := defers_behind ha hD_0
  have bb1 := bb_0.trans hC.below
  have e1 := (slot_new (t := 4) (i := 12) ha hN_0 (by kernel_rfl) (by kernel_rfl)).trans (show x 12 = .bool true from hall 12 (of_decide_eq_true (by kernel_rfl)))
  repeat (first | refine wp_seq ?_ | (refine wp_skip ?_; refine then_n ?_))
  refine wp_ret ?_
  repeat (refine then_r ?_)
  exact ret_one (t := 4) rfl hD1 e1 ⟨rfl, bb1⟩
set_option maxRecDepth 100000 in
set_option maxHeartbeats 4000000 in
theorem lawSame_19 {w : World} {v1 v2 : Value} {x y : Int} (h1 : Pr w v1 19 (x) (y)) (h2 : Pr w v2 19 (x) (y)) :
    Calls Tryz.prog 9 #[v1, v2] w (fun e w' => e = .returned (.bool true) ∧ Below w.heap.size w w') := by
  obtain ⟨A1, l1, c1, A1', l1', c1', rfl, ⟨r1, u1⟩, r1', u1'⟩ := h1
  obtain ⟨b1, hb1⟩ : ∃ s, s = decide (x < 0) := ⟨_, rfl⟩
  obtain ⟨b1', hb1'⟩ : ∃ s, s = decide (y < 0) := ⟨_, rfl⟩
  rw [← hb1, ← hb1']
  have H1 := Lib.hid (show _ ∧ _ ∧ _ ∧ _ ∧ _ ∧ _ from ⟨hb1, hb1', r1, u1, r1', u1'⟩)
  clear hb1 hb1' r1 u1 r1' u1'
  obtain ⟨A2, l2, c2, A2', l2', c2', rfl, ⟨r2, u2⟩, r2', u2'⟩ := h2
  obtain ⟨b2, hb2⟩ : ∃ s, s = decide (x < 0) := ⟨_, rfl⟩
  obtain ⟨b2', hb2'⟩ : ∃ s, s = decide (y < 0) := ⟨_, rfl⟩
  rw [← hb2, ← hb2']
  have H2 := Lib.hid (show _ ∧ _ ∧ _ ∧ _ ∧ _ ∧ _ from ⟨hb2, hb2', r2, u2, r2', u2'⟩)
  clear hb2 hb2' r2 u2 r2' u2'
  go_enter Tryz.func9, Tryz.ntmps9
  repeat (refine wp_seq ?_)
  refine region_k ?_
  intro K hK
  have HK := Lib.hid hK
  clear hK
  go_wp2
  refine HK.out _ _ ?_
  clear HK
  refine then_n ?_
  obtain ⟨W_0, hW⟩ : ∃ W, W = (w.alloc (Obj.cells #[Value.bool b1, Value.slice A1 l1 c1, Value.bool b1', Value.slice A1' l1' c1'] 27)).alloc (Obj.cells #[Value.bool b2, Value.slice A2 l2 c2, Value.bool b2', Value.slice A2' l2' c2'] 27) := ⟨_, rfl⟩
  have bb_0 : Below w.heap.size w W_0 := by rw [hW]; exact bal (bal (Below.refl _ _) _) _
  have K0 : W_0.heap[w.heap.size]? = some (Obj.cells #[Value.bool b1, Value.slice A1 l1 c1, Value.bool b1', Value.slice A1' l1' c1'] 27) := by rw [hW]; rw [Below.heap_alloc _ _ _ (by simp <;> omega)]; exact new_at (by simp)
  have K1 : W_0.heap[w.heap.size + 1]? = some (Obj.cells #[Value.bool b2, Value.slice A2 l2 c2, Value.bool b2', Value.slice A2' l2' c2'] 27) := by rw [hW]; exact new_at (by simp)
  rw [← hW]
  obtain ⟨m1, n1, m1', n1', _, _, _, _⟩ := four_cells K0
  have f1_0 : AtR W_0 (w.heap.size) 0 19 (x) := ⟨A1, l1, c1, by rw [← H1.out.1]; exact m1, n1, A1, l1, c1, rfl, H1.out.2.2.1.below bb_0, H1.out.2.2.2.1⟩
  have f1'_0 : AtR W_0 (w.heap.size) 2 19 (y) := ⟨A1', l1', c1', by rw [← H1.out.2.1]; exact m1', n1', A1', l1', c1', rfl, H1.out.2.2.2.2.1.below bb_0, H1.out.2.2.2.2.2⟩
  clear m1 n1 m1' n1'
  obtain ⟨m2, n2, m2', n2', _, _, _, _⟩ := four_cells K1
  have f2_0 : AtR W_0 (w.heap.size + 1) 0 19 (x) := ⟨A2, l2, c2, by rw [← H2.out.1]; exact m2, n2, A2, l2, c2, rfl, H2.out.2.2.1.below bb_0, H2.out.2.2.2.1⟩
  have f2'_0 : AtR W_0 (w.heap.size + 1) 2 19 (y) := ⟨A2', l2', c2', by rw [← H2.out.2.1]; exact m2', n2', A2', l2', c2', rfl, H2.out.2.2.2.2.1.below bb_0, H2.out.2.2.2.2.2⟩
  clear m2 n2 m2' n2'
  clear hW K0 K1
  refine name_frame (G := fun a => Code.wp _ _ _ a _) ?_
  intro a_0 ha
  have hN_0 : a_0.tmps.size = 8 := by subst ha; kernel_rfl
  have hD_0 : a_0.defers = [] := by subst ha; rfl
  have e2_0 : a_0.eval (.tmp 2) = .pointer (some ⟨w.heap.size, 0, none⟩) := by subst ha; kernel_rfl
  have e3_0 : a_0.eval (.tmp 3) = .pointer (some ⟨w.heap.size + 1, 0, none⟩) := by subst ha; kernel_rfl
  clear ha
  repeat (first | refine wp_seq ?_ | (refine wp_skip ?_; refine then_n ?_))
  refine wp_region_law hN_0 w.heap.size
    [kP 19 (x) (y), kP 19 (x) (y), kIs (.bool true), kIs (.bool true)]
    [ [], [], [(0, some 5), (1, some 6)], [(2, some 7)] ]
    [(0, some 5), (1, some 6), (2, some 7), (3, some 4)] [] [] (by kernel_rfl) (by kernel_rfl) (by kernel_rfl) (by kernel_rfl) (by kernel_rfl) (by kernel_rfl) (by kernel_rfl) bb_0.size ?_ ?_
  ·
    refine pk_cons rfl rfl (st_load4P f1_0 f1'_0 (by simp) e2_0 hN_0 (by kernel_rfl) rfl) ?_
    refine pk_cons rfl rfl (st_load4P f2_0 f2'_0 (by simp) e3_0 hN_0 (by kernel_rfl) rfl) ?_
    refine pk_cons rfl rfl (st_call2 hN_0 (by kernel_rfl) (by kernel_rfl) (by kernel_rfl) (by kernel_rfl) (by kernel_rfl) rfl rfl rfl fun w x v1 v2 hC h1 h2 => ti (same_19 (pm (by decide) h1) (pm (by decide) h2))) ?_
    refine pk_cons rfl rfl (st_pure [.bool true] [] (.bool true) rfl hN_0 (by kernel_rfl) (by kernel_rfl) (by kernel_rfl) old0 (by kernel_rfl) (by kernel_rfl) (by kernel_rfl) (fun _ => by kernel_rfl)) ?_
    exact pk_nil rfl
  intro W x hC hall
  refine then_n ?_
  obtain ⟨a1, ha⟩ : ∃ a, a = putE x a_0 [(0, some 5), (1, some 6), (2, some 7), (3, some 4)] := ⟨_, rfl⟩
  rw [← ha]
  have hD1 := defers_behind ha hD_0
  have bb1 := bb_0.trans hC.below
  have e1 := (slot_new (t := 4) (i := 3) ha hN_0 (by kernel_rfl) (by kernel_rfl)).trans (show x 3 = .bool true from hall 3 (of_decide_eq_true (by kernel_rfl)))
  repeat (first | refine wp_seq ?_ | (refine wp_skip ?_; refine then_n ?_))
  refine wp_ret ?_
  repeat (refine then_r ?_)
  exact ret_one (t := 4) rfl hD1 e1 ⟨rfl, bb1⟩
end Go.Proofs.YthgclmkhmcfflaaGreatDoor
namespace Go.Proofs.YthgclmkhmcfflaaGreatDoor
open Go.RowKit
section
variable {C : World → Prop} {S0 : Nat} {ks : List PK} {a0 : Act} {i : Nat} {N : Nat} {P : Program} {T : TypeId} {pos : String} {af : Array Edge} {gu : Option (Nat × Bool)} {ats : Array TypeId}
set_option maxRecDepth 100000 in
theorem st_call2V {d F j0 t0 j1 t1 j2 t2 : Nat} {c1 c2 c : PK} (hN : a0.tmps.size = N) (hd : decide (d < N) = true) (ht0 : decide (t0 < N) = true) (ht1 : decide (t1 < N) = true) (ht2 : decide (t2 < N) = true)
    (hn01 : decide (t0 = t1) = false) (hn02 : decide (t0 = t2) = false) (hne : decide (t1 = t2) = false) (hF : enters P F = true) (h0 : at_ ks j0 = kIs (.func (.func F) #[] #[])) (h1 : at_ ks j1 = c1) (h2 : at_ ks j2 = c2) (hi : at_ ks i = c)
    (h : ∀ w x v1 v2, C w → c1.sem S0 x v1 w → c2.sem S0 x v2 w → Calls P F #[v1, v2] w (Told c S0 x w)) :
    PkStep P C S0 ks a0 i { dst := some d, op := .call { callee := .value (.tmp t0), args := #[.tmp t1, .tmp t2], argTypes := ats }, type := T, pos := pos, after := af, guard := gu } [(j0, some t0), (j1, some t1), (j2, some t2)] := by
  have n01 := of_decide_eq_false hn01
  have n02 := of_decide_eq_false hn02
  have n12 := of_decide_eq_false hne
  intro w x hC
  refine deps_all _ fun hdeps K hK => ?_
  have g0 := hdeps (j0, some t0) (by simp)
  have g1 := hdeps (j1, some t1) (by simp)
  have g2 := hdeps (j2, some t2) (by simp)
  rw [h0] at g0
  rw [h1] at g1
  rw [h2] at g2
  have g0' : x j0 = .func (.func F) #[] #[] := g0
  have he : esIn [(j0, some t0), (j1, some t1), (j2, some t2)] N = true := by simp [esIn]; exact ⟨of_decide_eq_true ht0, of_decide_eq_true ht1, of_decide_eq_true ht2⟩
  have e0 : (putE x a0 [(j0, some t0), (j1, some t1), (j2, some t2)]).eval (.tmp t0) = .func (.func F) #[] #[] := (putE_new _ _ (by rw [hN]; exact of_decide_eq_true ht0) (by simp [slotAt, Ne.symm n01, Ne.symm n02])).trans g0'
  have e1 : (putE x a0 [(j0, some t0), (j1, some t1), (j2, some t2)]).eval (.tmp t1) = x j1 := putE_new _ _ (by rw [hN]; exact of_decide_eq_true ht1) (by simp [slotAt, Ne.symm n12])
  have e2 : (putE x a0 [(j0, some t0), (j1, some t1), (j2, some t2)]).eval (.tmp t2) = x j2 := putE_new _ _ (by rw [hN]; exact of_decide_eq_true ht2) (by simp [slotAt])
  refine wp_ent (F := F) (args := #[x j1, x j2]) rfl (by rw [putE_size, hN]) hd ?_ ?_
  · obtain ⟨A, hA⟩ : ∃ A, A = putE x a0 [(j0, some t0), (j1, some t1), (j2, some t2)] := ⟨_, rfl⟩
    rw [← hA] at e0 e1 e2 ⊢
    have f0 : A.tmps[t0]?.getD undef = .func (.func F) #[] #[] := by simpa [go_sem] using e0
    have f1 : A.tmps[t1]?.getD undef = x j1 := by simpa [go_sem] using e1
    have f2 : A.tmps[t2]?.getD undef = x j2 := by simpa [go_sem] using e2
    simp [go_sem, f0, f1, f2, run_enters hF]
  · exact (h w x _ _ hC g1 g2).mono fun e w' hh => by
      obtain ⟨v, h1', h2', h3'⟩ := hh
      exact ⟨v, h1', hK v w' (by rw [hi]; exact h2') (by rw [hi]; exact h3')⟩
end
end Go.Proofs.YthgclmkhmcfflaaGreatDoor
namespace Go.Proofs.YthgclmkhmcfflaaGreatDoor
open Go.RowKit
theorem run_allocP {w : World} : (Instr.alloc 27 true (.tuple #[])).run Tryz.prog w = .ok (.pointer (some ⟨w.heap.size, 0, none⟩)) (w.alloc (.cells #[.bool false, .slice none 0 0, .bool false, .slice none 0 0] 27)) := by go_simp
theorem run_plist2 {w : World} {b1 b2 b3 b4 : Bool} {A1 A2 A3 A4 : Option Addr} {l1 c1 l2 c2 l3 c3 l4 c4 : Nat} : (Instr.buildSlice 56 2 #[(0, .agg #[.bool b1, .slice A1 l1 c1, .bool b2, .slice A2 l2 c2]), (1, .agg #[.bool b3, .slice A3 l3 c3, .bool b4, .slice A4 l4 c4])]).run Tryz.prog w = .ok (.slice (some ⟨w.heap.size, 0, none⟩) 2 2) (w.alloc (.cells #[.bool b1, .slice A1 l1 c1, .bool b2, .slice A2 l2 c2, .bool b3, .slice A3 l3 c3, .bool b4, .slice A4 l4 c4] 27)) := by go_simp
theorem run_plist3 {w : World} {b1 b2 b3 b4 b5 b6 : Bool} {A1 A2 A3 A4 A5 A6 : Option Addr} {l1 c1 l2 c2 l3 c3 l4 c4 l5 c5 l6 c6 : Nat} : (Instr.buildSlice 56 3 #[(0, .agg #[.bool b1, .slice A1 l1 c1, .bool b2, .slice A2 l2 c2]), (1, .agg #[.bool b3, .slice A3 l3 c3, .bool b4, .slice A4 l4 c4]), (2, .agg #[.bool b5, .slice A5 l5 c5, .bool b6, .slice A6 l6 c6])]).run Tryz.prog w = .ok (.slice (some ⟨w.heap.size, 0, none⟩) 3 3) (w.alloc (.cells #[.bool b1, .slice A1 l1 c1, .bool b2, .slice A2 l2 c2, .bool b3, .slice A3 l3 c3, .bool b4, .slice A4 l4 c4, .bool b5, .slice A5 l5 c5, .bool b6, .slice A6 l6 c6] 27)) := by go_simp
theorem run_loadPI {w : World} {g o : Nat} {u v u' v' : Value} (h0 : w.cell? ⟨g, o, none⟩ = some u) (h1 : w.cell? ⟨g, o + 1, none⟩ = some v) (h2 : w.cell? ⟨g, o + 2, none⟩ = some u') (h3 : w.cell? ⟨g, o + 3, none⟩ = some v') : (Instr.loadAt 27 (.pointer (some ⟨g, o, none⟩))).run Tryz.prog w = .ok (.agg #[u, v, u', v']) w := by go_simp
/-- A ratio that lies in memory from an offset on; a list of them. -/
def AtP (W : World) (g o k : Nat) (x y : Int) : Prop := ∃ A l c A' l' c', W.cell? ⟨g, o, none⟩ = some (.bool (decide (x < 0))) ∧ W.cell? ⟨g, o + 1, none⟩ = some (.slice A l c) ∧ W.cell? ⟨g, o + 2, none⟩ = some (.bool (decide (y < 0))) ∧ W.cell? ⟨g, o + 3, none⟩ = some (.slice A' l' c') ∧ Pr W (.agg #[.bool (decide (x < 0)), .slice A l c, .bool (decide (y < 0)), .slice A' l' c']) k x y
theorem AtP.below {W w' : World} {g o k : Nat} {x y : Int} (h : AtP W g o k x y) (hb : Below W.heap.size W w') : AtP w' g o k x y := by
  obtain ⟨A, l, c, A', l', c', h1, h2, h3, h4, h5⟩ := h
  exact ⟨A, l, c, A', l', c', (hb.cell (cell_lt h1)).trans h1, (hb.cell (cell_lt h2)).trans h2, (hb.cell (cell_lt h3)).trans h3, (hb.cell (cell_lt h4)).trans h4, h5.below hb⟩
theorem AtP.stored {W w' : World} {g j o k : Nat} {x y : Int} (h : AtP W g o k x y) (hs : Stored j W w') (hne : g ≠ j) : AtP w' g o k x y := by
  obtain ⟨A, l, c, A', l', c', h1, h2, h3, h4, h5⟩ := h
  exact ⟨A, l, c, A', l', c', (World.cell?_of_block (hs.other _ hne)).trans h1, (World.cell?_of_block (hs.other _ hne)).trans h2, (World.cell?_of_block (hs.other _ hne)).trans h3, (World.cell?_of_block (hs.other _ hne)).trans h4, h5.stored hs⟩
def PRs (W : World) (g : Nat) (l : List (Nat × Int × Int)) : Prop := ∀ j q, l[j]? = some q → AtP W g (j * 4) q.1 q.2.1 q.2.2
theorem PRs.below {W w' : World} {g : Nat} {l : List (Nat × Int × Int)} (h : PRs W g l) (hb : Below W.heap.size W w') : PRs w' g l := fun j q hj => (h j q hj).below hb
def kPRs (l : List (Nat × Int × Int)) : PK := .list l.length (fun g w => PRs w g l) (fun _ _ _ h hb => h.below hb) (fun _ _ _ _ h hs hne j q hj => (h j q hj).stored hs hne)
def kPutP (e k : Nat) (x y : Int) : PK := .put e (isP k x y) (fun _ _ _ ⟨A, l, c, A', l', c', e, h⟩ hb => ⟨A, l, c, A', l', c', e, h.below hb⟩) (fun _ _ _ _ ⟨A, l, c, A', l', c', e, h⟩ hs => ⟨A, l, c, A', l', c', e, h.stored hs⟩)
theorem Pr.parts {W : World} {v : Value} {k : Nat} {x y : Int} (h : Pr W v k x y) : ∃ A l c A' l' c', v = .agg #[.bool (decide (x < 0)), .slice A l c, .bool (decide (y < 0)), .slice A' l' c'] ∧ Pr W (.agg #[.bool (decide (x < 0)), .slice A l c, .bool (decide (y < 0)), .slice A' l' c']) k x y := by
  obtain ⟨A, l, c, A', l', c', rfl, h⟩ := h
  exact ⟨A, l, c, A', l', c', rfl, A, l, c, A', l', c', rfl, h⟩
theorem Pr.two {W : World} {A A' : Option Addr} {l c l' c' k : Nat} {x y : Int} (h : Pr W (.agg #[.bool (decide (x < 0)), .slice A l c, .bool (decide (y < 0)), .slice A' l' c']) k x y) : Zr W (.agg #[.bool (decide (x < 0)), .slice A l c]) k x ∧ Zr W (.agg #[.bool (decide (y < 0)), .slice A' l' c']) k y := by
  obtain ⟨B, m, d, B', m', d', e, h1, h2⟩ := h
  injection e with e; injection e with e
  injection e with _ e; injection e with e1 e; injection e with _ e; injection e with e2 _
  injection e1 with a b c; subst a; subst b; subst c
  injection e2 with a b c; subst a; subst b; subst c
  exact ⟨⟨_, _, _, rfl, h1⟩, ⟨_, _, _, rfl, h2⟩⟩
theorem AtP.two {W : World} {g k : Nat} {x y : Int} (h : AtP W g 0 k x y) : AtR W g 0 k x ∧ AtR W g 2 k y := by
  obtain ⟨A, l, c, A', l', c', h1, h2, h3, h4, h5⟩ := h
  exact ⟨⟨A, l, c, h1, h2, h5.two.1⟩, ⟨A', l', c', h3, h4, h5.two.2⟩⟩
theorem isP_at {W : World} {g k : Nat} {x y : Int} {cs : Array Value} (hg : Holds_ W g cs) (h : isP k x y cs W) : AtP W g 0 k x y := by
  obtain ⟨A, l, c, A', l', c', rfl, h⟩ := h
  obtain ⟨m1, m2, m3, m4, _, _, _, _⟩ := hg.four
  exact ⟨A, l, c, A', l', c', m1, m2, m3, m4, h⟩
theorem put_atP {S0 : Nat} {x : Nat → Value} {v : Value} {w : World} {e k : Nat} {z1 z2 : Int} (h : (kPutP e k z1 z2).sem S0 x v w) : ∃ g, x e = .pointer (some ⟨g, 0, none⟩) ∧ S0 ≤ g ∧ AtR w g 0 k z1 ∧ AtR w g 2 k z2 := by
  obtain ⟨g, cs, h1, hg, h2, h3⟩ := h
  exact ⟨g, h1, hg, (isP_at h2 h3).two⟩
theorem res_atP {S0 : Nat} {x : Nat → Value} {v : Value} {w : World} {g k : Nat} {z1 z2 : Int} (h : (kRes g k z1 z2).sem S0 x v w) : AtR w g 0 k z1 ∧ AtR w g 2 k z2 := by
  obtain ⟨cs, h2, h3⟩ := h
  exact (isP_at h2 h3).two
theorem holds_new4 (w : World) {a b c d : Value} (h1 : noDig a) (h2 : noDig b) (h3 : noDig c) (h4 : noDig d) (T : TypeId) : Holds_ (w.alloc (.cells #[a, b, c, d] T)) w.heap.size #[a, b, c, d] :=
  ⟨⟨T, heap_alloc_new _ _⟩, fun v hv => by simp at hv; rcases hv with rfl | rfl | rfl | rfl <;> assumption⟩
section
variable {G : List Nat} {S0 B : Nat} {ks : List PK} {a0 : Act} {i : Nat} {N : Nat} {W0 : World} {T : TypeId} {pos : String} {af : Array Edge} {gu : Option (Nat × Bool)}
set_option maxRecDepth 100000 in
theorem st_allocP {d : Nat} (hN : a0.tmps.size = N) (hd : decide (d < N) = true) (hS : S0 ≤ W0.heap.size) (hi : at_ ks i = .fresh 4) :
    PkStep Tryz.prog (Reg B W0 G) S0 ks a0 i { dst := some d, op := .alloc 27, type := T, pos := pos, after := af, guard := gu } [] := by
  intro w x hC K hK
  have hsz := hC.below.size
  refine wp_val (v := .pointer (some ⟨w.heap.size, 0, none⟩)) rfl hN hd (ex_alloc run_allocP) (hK _ _ ?_ ?_)
  · rw [hi]; exact ⟨(Below.refl _ _).alloc (Nat.le_refl _) _, _, rfl, Nat.le_refl _⟩
  · rw [hi]; exact ⟨_, _, rfl, Nat.le_trans hS hsz, holds_new4 _ (noDig_bool _) (noDig_slice _ _ _) (noDig_bool _) (noDig_slice _ _ _) _, rfl⟩
set_option maxRecDepth 100000 in
theorem st_putP {t u e j k : Nat} {z1 z2 : Int} (hN : a0.tmps.size = N) (ht : decide (t < N) = true) (hu : decide (u < N) = true) (htu : decide (t = u) = false) (he : at_ ks e = .fresh 4) (hj : at_ ks j = kP k z1 z2) (hi : at_ ks i = kPutP e k z1 z2) :
    PkStep Tryz.prog (Reg B W0 G) S0 ks a0 i { dst := none, op := .store 27 (.tmp t) (.tmp u), type := T, pos := pos, after := af, guard := gu } [(e, some t), (j, some u)] := by
  intro w x hC
  refine deps_all _ fun hdeps K hK => ?_
  have h1 := hdeps (e, some t) (by simp)
  have h2 := hdeps (j, some u) (by simp)
  have htu' : t ≠ u := of_decide_eq_false htu
  have e1 : (putE x a0 [(e, some t), (j, some u)]).eval (.tmp t) = x e := putE_new _ _ (by rw [hN]; exact of_decide_eq_true ht) (by simp [slotAt, Ne.symm htu'])
  have e2 : (putE x a0 [(e, some t), (j, some u)]).eval (.tmp u) = x j := putE_new _ _ (by rw [hN]; exact of_decide_eq_true hu) (by simp [slotAt])
  simp only [he, hj] at h1 h2
  obtain ⟨g, cs, hx, hg0, hg, hsz⟩ := h1
  obtain ⟨a, b, c0, d0, rfl⟩ := size_four hsz
  obtain ⟨A, l, c, A', l', c', hy, hr⟩ := (show Pr w (x j) k z1 z2 from h2).parts
  obtain ⟨m1, m2, m3, m4, f1, f2, f3, f4⟩ := hg.four
  have hst := stored_put4 hg (noDig_bool (decide (z1 < 0))) (noDig_slice A l c) (noDig_bool (decide (z2 < 0))) (noDig_slice A' l' c')
  refine wp_skp (w' := put4 w g (.bool (decide (z1 < 0))) (.slice A l c) (.bool (decide (z2 < 0))) (.slice A' l' c')) rfl ?_ (hK _ _ ?_ ?_)
  · exact ex_store (e1.trans hx) (e2.trans hy) (run_storeP m1 m2 m3 m4 f1 f2 f3 f4)
  · rw [hi]; exact ⟨g, hx, hg0, hst⟩
  · rw [hi]; exact ⟨g, _, hx, hg0, holds_put4 hg (noDig_bool _) (noDig_slice _ _ _) (noDig_bool _) (noDig_slice _ _ _), A, l, c, A', l', c', rfl, hr.stored hst⟩
set_option maxRecDepth 100000 in
theorem st_plist2 {d j1 t1 k1 j2 t2 k2 : Nat} {x1 y1 x2 y2 : Int} (hN : a0.tmps.size = N) (hd : decide (d < N) = true) (ht1 : decide (t1 < N) = true) (ht2 : decide (t2 < N) = true) (hne12 : decide (t1 = t2) = false) (hS : S0 ≤ W0.heap.size) (h1 : at_ ks j1 = kP k1 x1 y1) (h2 : at_ ks j2 = kP k2 x2 y2) (hi : at_ ks i = kPRs [(k1, x1, y1), (k2, x2, y2)]) :
    PkStep Tryz.prog (Reg B W0 G) S0 ks a0 i { dst := some d, op := .buildSlice 56 2 #[(0, .tmp t1), (1, .tmp t2)], type := T, pos := pos, after := af, guard := gu } [(j1, some t1), (j2, some t2)] := by
  intro w x hC
  refine deps_all _ fun hdeps K hK => ?_
  have g1 := hdeps (j1, some t1) (by simp)
  rw [h1] at g1
  have g2 := hdeps (j2, some t2) (by simp)
  rw [h2] at g2
  have n12 := of_decide_eq_false hne12
  have e1 : (putE x a0 [(j1, some t1), (j2, some t2)]).eval (.tmp t1) = x j1 := putE_new _ _ (by rw [hN]; exact of_decide_eq_true ht1) (by simp [slotAt, Ne.symm n12])
  have e2 : (putE x a0 [(j1, some t1), (j2, some t2)]).eval (.tmp t2) = x j2 := putE_new _ _ (by rw [hN]; exact of_decide_eq_true ht2) (by simp [slotAt])
  obtain ⟨A1, l1, c1, A1', l1', c1', z1, r1⟩ := (show Pr w (x j1) k1 x1 y1 from g1).parts
  obtain ⟨A2, l2, c2, A2', l2', c2', z2, r2⟩ := (show Pr w (x j2) k2 x2 y2 from g2).parts
  have hsz := hC.below.size
  refine wp_val rfl (by rw [putE_size, hN]) hd (ex_slice2 (e1.trans z1) (e2.trans z2) run_plist2) (hK _ _ ?_ ?_)
  · rw [hi]; exact ⟨(Below.refl _ _).alloc (Nat.le_refl _) _, _, rfl, Nat.le_refl _⟩
  · rw [hi]
    have ba := fun (o : Obj) => (Below.refl w.heap.size w).alloc (Nat.le_refl _) o
    refine ⟨_, rfl, Nat.le_trans hS hsz, lt_alloc _ _, fun j q hj => ?_⟩
    match j, hj with
    | 0, hj => simp at hj; subst hj; exact ⟨A1, l1, c1, A1', l1', c1', by simp, by simp, by simp, by simp, r1.below (ba _)⟩
    | 1, hj => simp at hj; subst hj; exact ⟨A2, l2, c2, A2', l2', c2', by simp, by simp, by simp, by simp, r2.below (ba _)⟩
set_option maxRecDepth 100000 in
/-- A load of a ratio out of a list that lies there, at a pointer made in the region. -/
theorem st_loadPI {d t j g o n k : Nat} {z1 z2 : Int} {l : List (Nat × Int × Int)} (hl : PRs W0 g l) (hn : l[n]? = some (k, z1, z2)) (ho : o = n * 4) (hG : g ∉ G) (hN : a0.tmps.size = N) (hd : decide (d < N) = true) (ht : decide (t < N) = true) (hj : at_ ks j = kIs (.pointer (some ⟨g, o, none⟩))) (hi : at_ ks i = kP k z1 z2) :
    PkStep Tryz.prog (Reg B W0 G) S0 ks a0 i { dst := some d, op := .load 27 (.tmp t), type := T, pos := pos, after := af, guard := gu } [(j, some t)] := by
  subst ho
  intro w x hC
  refine deps_all _ fun hdeps K hK => ?_
  have g1 := hdeps (j, some t) (by simp)
  rw [hj] at g1
  have g2 : x j = .pointer (some ⟨g, n * 4, none⟩) := g1
  have e1 : (putE x a0 [(j, some t)]).eval (.tmp t) = x j := putE_new _ _ (by rw [hN]; exact of_decide_eq_true ht) (by simp [slotAt])
  obtain ⟨A, m, c, A', m', c', h1, h2, h3, h4, A1, m1, c1, A2, m2, c2, e, h5⟩ := hl n _ hn
  injection e with e; injection e with e
  injection e with _ e; injection e with q1 e; injection e with _ e; injection e with q2 _
  injection q1 with a b c; subst a; subst b; subst c
  injection q2 with a b c; subst a; subst b; subst c
  refine wp_val (w' := w) rfl (by rw [putE_size, hN]) hd (ex_load (e1.trans g2) (run_loadPI (((hC.cell (cell_lt h1) hG _).1).trans h1) (((hC.cell (cell_lt h2) hG _).1).trans h2) (((hC.cell (cell_lt h3) hG _).1).trans h3) (((hC.cell (cell_lt h4) hG _).1).trans h4))) (hK _ _ ?_ ?_)
  · rw [hi]; exact Below.refl _ _
  · rw [hi]; exact ⟨_, _, _, _, _, _, rfl, ⟨hC.rr h5.1.1, h5.1.2⟩, hC.rr h5.2.1, h5.2.2⟩
end
end Go.Proofs.YthgclmkhmcfflaaGreatDoor
namespace Go.Proofs.YthgclmkhmcfflaaGreatDoor
open Go.RowKit
theorem wpOps_one {P : Program} {ops : Array Oper} {Q : Exit → Act → World → Prop} {i : Nat} {rest : List Nat} {o : Oper} {a : Act} {w : World} {v : Value} (ho : ops[i]? = some o) (hg : o.guard = none) (h : (execOp a.eval o).run P w = .ok (.value v) w) (hk : wpOps P ops Q rest (a.put o.dst v) w) : wpOps P ops Q (i :: rest) a w := by
  rw [wpOps_cons]
  unfold wpOp
  rw [ho]
  have hw : Region.wanted o (yielded ops a.tmps) = true := by simp [Region.wanted, hg]
  show if Region.wanted o _ = true then _ else _
  rw [if_pos hw]
  left
  unfold Oper.wp
  rw [h]
  exact hk
theorem wp_incr2 {P : Program} {id : Nat} {Q : Exit → Act → World → Prop} {a : Act} {w : World} {B I N : Nat} {n m : Int} {E E2 T2 T3 : TypeId} {p2 p3 : String} {f2 f3 : Array Edge} (hN : a.tmps.size = N) (hB : decide (B < N) = true) (hI : a.eval (.tmp I) = .int .i64 n) (hadd : ∀ w, (binOp .add E (.int .i64 n) (.int .i64 1)).run P w = .ok (.int .i64 m) w)
    (hend : ∀ x : Nat → Value, x 1 = .int .i64 m → Q .normal (putE x a [(0, some B), (1, some I)]) w) :
    (Code.region id #[{ dst := some B, op := .binOp .add E (.tmp I) (.const (.int .i64 1)) E2, type := T2, pos := p2, after := f2, guard := none }, { dst := some I, op := .move (.tmp B), type := T3, pos := p3, after := f3, guard := none }] false).wp P Q a w := by
  refine wp_region ?_
  have e : List.range (#[({ dst := some B, op := .binOp .add E (.tmp I) (.const (.int .i64 1)) E2, type := T2, pos := p2, after := f2, guard := none } : Oper), { dst := some I, op := .move (.tmp B), type := T3, pos := p3, after := f3, guard := none }]).size = [0, 1] := rfl
  rw [e]
  refine wpOps_one (v := .int .i64 m) rfl rfl ?_ ?_
  · show (((do eqGuard .add E (.tmp I) (.const (.int .i64 1)) (a.eval (.tmp I)) (.int .i64 1); binOp .add E (a.eval (.tmp I)) (.int .i64 1)) : Sem Value) >>= fun v => pure (Next.value v)).run P w = _
    rw [hI]
    have e2 : ((do eqGuard .add E (.tmp I) (.const (.int .i64 1)) (.int .i64 n) (.int .i64 1); binOp .add E (.int .i64 n) (.int .i64 1)) : Sem Value).run P w = .ok (.int .i64 m) w := by
      rw [run_then (v := ()) (w' := w) rfl]; exact hadd w
    rw [run_then e2]; rfl
  refine wpOps_one (v := .int .i64 m) rfl rfl ?_ ?_
  · have e1 : (a.put (some B) (.int .i64 m)).eval (.tmp B) = .int .i64 m := put_eval _ _ _ (by rw [hN]; exact of_decide_eq_true hB)
    show (pure (Next.value ((a.put (some B) (.int .i64 m)).eval (.tmp B))) : Sem Next).run P w = _
    rw [e1]; rfl
  exact hend (fun _ => .int .i64 m) rfl
end Go.Proofs.YthgclmkhmcfflaaGreatDoor
namespace Go.Proofs.YthgclmkhmcfflaaGreatDoor
open Go.RowKit
def kResZ (g k : Nat) (z : Int) : PK := .cell g (isZ k z) (fun _ _ _ ⟨A, l, c, h1, h2⟩ hb => ⟨A, l, c, h1, h2.below hb⟩) (fun _ _ _ _ ⟨A, l, c, h1, h2⟩ hs => ⟨A, l, c, h1, h2.stored hs⟩)
theorem Holds_.two' {w : World} {g : Nat} {a b : Value} (h : Holds_ w g #[a, b]) : w.cell? ⟨g, 0, none⟩ = some a ∧ w.cell? ⟨g, 1, none⟩ = some b ∧ w.frozen? ⟨g, 0, none⟩ = false ∧ w.frozen? ⟨g, 1, none⟩ = false := h.two
theorem LocR.atR {W : World} {g k : Nat} {z : Int} (h : LocR W g k z) : AtR W g 0 k z := by
  obtain ⟨A, l, c, h1, h2⟩ := h
  obtain ⟨m1, m2, _, _⟩ := h1.two
  exact ⟨A, l, c, m1, m2, h2⟩
theorem put_locG {S0 : Nat} {x : Nat → Value} {v : Value} {w : World} {e k : Nat} {z : Int} (h : (kPutZ e k z).sem S0 x v w) : ∃ g, x e = .pointer (some ⟨g, 0, none⟩) ∧ S0 ≤ g ∧ LocR w g k z := by
  obtain ⟨g, cs, h1, hg, h2, A, l, c, rfl, h3⟩ := h
  exact ⟨g, h1, hg, A, l, c, h2, h3⟩
section
variable {G : List Nat} {S0 B : Nat} {ks : List PK} {a0 : Act} {i : Nat} {N : Nat} {W0 : World} {T : TypeId} {pos : String} {af : Array Edge} {gu : Option (Nat × Bool)}
set_option maxRecDepth 100000 in
theorem st_resZ {t u j g k : Nat} {z : Int} {a b : Value} (h0 : Holds_ W0 g #[a, b]) (hG : g ∈ G) (hp : a0.eval (.tmp t) = .pointer (some ⟨g, 0, none⟩)) (hN : a0.tmps.size = N) (hu : decide (u < N) = true) (htu : decide (t = u) = false) (hj : at_ ks j = kZ k z) (hi : at_ ks i = kResZ g k z) :
    PkStep Tryz.prog (Reg B W0 G) S0 ks a0 i { dst := none, op := .store 25 (.tmp t) (.tmp u), type := T, pos := pos, after := af, guard := gu } [(j, some u)] := by
  intro w x hC
  refine deps_all _ fun hdeps K hK => ?_
  have g1 := hdeps (j, some u) (by simp)
  rw [hj] at g1
  obtain ⟨A, l, c, hx, hr, hlt⟩ := (show Zr w (x j) k z from g1)
  have htu' : t ≠ u := of_decide_eq_false htu
  have e1 : (putE x a0 [(j, some u)]).eval (.tmp t) = .pointer (some ⟨g, 0, none⟩) := (putE_old _ _ (by simp [slotAt, Ne.symm htu'])).trans hp
  have e2 : (putE x a0 [(j, some u)]).eval (.tmp u) = x j := putE_new _ _ (by rw [hN]; exact of_decide_eq_true hu) (by simp [slotAt])
  obtain ⟨u0, v0, hg⟩ := hC.two hG h0
  obtain ⟨m1, m2, m3, m4⟩ := hg.two
  have hst := stored_put2 hg (noDig_bool (decide (z < 0))) (noDig_slice A l c)
  refine wp_skp (w' := put2 w g (.bool (decide (z < 0))) (.slice A l c)) rfl ?_ (hK _ _ ?_ ?_)
  · exact ex_store e1 (e2.trans hx) (run_store2 m3 m4 m1 m2)
  · rw [hi]; exact hst
  · rw [hi]; exact ⟨_, holds_put2 hg (noDig_bool _) (noDig_slice _ _ _), A, l, c, rfl, A, l, c, rfl, hst.rr hr, hlt⟩
end
theorem ret_cellZ {fn : Func} {R : Ending → World → Prop} {a : Act} {w : World} {t g k : Nat} {z : Int} {cs : Array Value} (hres : fn.results = #[.cell t 25 ]) (hd : a.defers = []) (hp : a.eval (.tmp t) = .pointer (some ⟨g, 0, none⟩)) (hg : Holds_ w g cs) (hP : isZ k z cs w) (hR : ∀ v, Zr w v k z → R (.returned v) w) : bodyPost Tryz.prog fn R .ret a w := by
  obtain ⟨A, l, c, rfl, h⟩ := hP
  obtain ⟨m1, m2, m3, m4⟩ := hg.two'
  refine bodyPost_ret (v := .agg #[.bool (decide (z < 0)), .slice A l c]) ?_ hd (hR _ h)
  have hp' : a.tmps[t]?.getD undef = .pointer (some ⟨g, 0, none⟩) := by
    rw [← Array.getD_eq_getD_getElem?]; exact hp
  simp [results, hres, go_sem, hp', m1, m2]
end Go.Proofs.YthgclmkhmcfflaaGreatDoor

/- Contracts over right ratios: fold over lists of two and of three. Contracts over right ratios: Add, Mul of two and of three. -/
import Derived.Test.YthgclmkhmcfflaaGreatDoorF1
import Derived.Test.YthgclmkhmcfflaaGreatDoorF2
import Derived.Test.YthgclmkhmcfflaaGreatDoorF3
import Derived.Test.YthgclmkhmcfflaaGreatDoorF4
import Derived.Test.YthgclmkhmcfflaaGreatDoorF5
namespace Go.Proofs.YthgclmkhmcfflaaGreatDoor
open Go.RowKit
theorem res_four {S0 : Nat} {x : Nat → Value} {v : Value} {w : World} {g k : Nat} {z1 z2 : Int} (h : (kRes g k z1 z2).sem S0 x v w) : ∃ q1 q2 q3 q4, Holds_ w g #[q1, q2, q3, q4] := by
  obtain ⟨cs, h2, A, l, c, A', l', c', rfl, _⟩ := h
  exact ⟨_, _, _, _, h2⟩
theorem in_block8 {id : Nat} {Q : Exit → Act → World → Prop} {a : Act} {w : World} (h : Q .normal a w) : Exit.inBlock id Q .normal a w := h
theorem then_x8 {next : Act → World → Prop} {id : Nat} {Q : Exit → Act → World → Prop} {a : Act} {w : World} (h : Q (.exit id) a w) : Exit.then next Q (.exit id) a w := h
theorem out_block8 {id : Nat} {Q : Exit → Act → World → Prop} {a : Act} {w : World} (h : Q .normal a w) : Exit.inBlock id Q (.exit id) a w := by
  show (if id = id then Q .normal a w else _)
  rw [if_pos rfl]; exact h
set_option maxRecDepth 100000 in
set_option maxHeartbeats 8000000 in
theorem fold2_plus_9 {w : World} {v0 v2 : Value} {a b : Rat} (h0 : Pr w v0 9 ((0 : Rat)).num (((0 : Rat)).den : Int)) (hl : PL w v2 [(9, a.num, (a.den : Int)), (9, b.num, (b.den : Int))]) :
    Calls Tryz.prog 37 #[v0, .func (.func 38) #[] #[], v2] w (TellsP w 19 ((a + b).num) (((a + b).den : Int))) := by
  obtain ⟨A1, l1, c1, A1', l1', c1', rfl, ⟨r1, u1⟩, r1', u1'⟩ := h0
  obtain ⟨b1, hb1⟩ : ∃ s, s = decide (((0 : Rat)).num < 0) := ⟨_, rfl⟩
  obtain ⟨b1', hb1'⟩ : ∃ s, s = decide ((((0 : Rat)).den : Int) < 0) := ⟨_, rfl⟩
  rw [← hb1, ← hb1']
  have H1 := Lib.hid (show _ ∧ _ ∧ _ ∧ _ ∧ _ ∧ _ from ⟨hb1, hb1', r1, u1, r1', u1'⟩)
  clear hb1 hb1' r1 u1 r1' u1'
  obtain ⟨g2, rfl, hg2, hl2⟩ := hl
  have HL := Lib.hid hl2
  clear hl2
  have HB0 := Lib.hid (HL.out.lt (j := 0) rfl)
  have HB1 := Lib.hid (HL.out.lt (j := 1) rfl)
  show Calls _ _ #[_, _, .slice (some ⟨g2, 0, none⟩) 2 2] _ _
  go_enter Tryz.func37, Tryz.ntmps37
  repeat (refine wp_seq ?_)
  refine region_k ?_
  intro K hK
  have HK := Lib.hid hK
  clear hK
  go_wp2
  refine HK.out _ _ ?_
  clear HK
  refine then_n ?_
  obtain ⟨W_0, hW⟩ : ∃ W, W = (w.alloc (Obj.cells #[Value.bool b1, Value.slice A1 l1 c1, Value.bool b1', Value.slice A1' l1' c1'] 53)).alloc (Obj.cells #[Value.bool false, Value.slice none 0 0, Value.bool false, Value.slice none 0 0] 53) := ⟨_, rfl⟩
  have bb_0 : Below w.heap.size w W_0 := by rw [hW]; exact bal (bal (Below.refl _ _) _) _
  have K0 : W_0.heap[w.heap.size]? = some (Obj.cells #[Value.bool b1, Value.slice A1 l1 c1, Value.bool b1', Value.slice A1' l1' c1'] 53) := by rw [hW]; rw [Below.heap_alloc _ _ _ (by simp <;> omega)]; exact new_at (by simp)
  have K1 : W_0.heap[w.heap.size + 1]? = some (Obj.cells #[Value.bool false, Value.slice none 0 0, Value.bool false, Value.slice none 0 0] 53) := by rw [hW]; exact new_at (by simp)
  rw [← hW]
  obtain ⟨m1, n1, m1', n1', _, _, _, _⟩ := four_cells K0
  have f1_0 : AtR W_0 (w.heap.size) 0 9 (((0 : Rat)).num) := ⟨A1, l1, c1, by rw [← H1.out.1]; exact m1, n1, A1, l1, c1, rfl, H1.out.2.2.1.below bb_0, H1.out.2.2.2.1⟩
  have f1'_0 : AtR W_0 (w.heap.size) 2 9 ((((0 : Rat)).den : Int)) := ⟨A1', l1', c1', by rw [← H1.out.2.1]; exact m1', n1', A1', l1', c1', rfl, H1.out.2.2.2.2.1.below bb_0, H1.out.2.2.2.2.2⟩
  have S_0 : Holds_ W_0 (w.heap.size) #[Value.bool b1, Value.slice A1 l1 c1, Value.bool b1', Value.slice A1' l1' c1'] := ⟨⟨_, K0⟩, by simp [noDig]⟩
  have R_0 : Holds_ W_0 (w.heap.size + 1) #[Value.bool false, Value.slice none 0 0, Value.bool false, Value.slice none 0 0] := ⟨⟨_, K1⟩, by simp [noDig]⟩
  have LL_0 := HL.out.below bb_0
  clear hW K0 K1 m1 n1 m1' n1'
  refine name_frame (G := fun a => Code.wp _ _ _ a _) ?_
  intro a_0 ha
  have hN_0 : a_0.tmps.size = 22 := by subst ha; kernel_rfl
  have hD_0 : a_0.defers = [] := by subst ha; rfl
  have e1_0 : a_0.eval (.tmp 1) = .func (.func 38) #[] #[] := by subst ha; kernel_rfl
  have e2_0 : a_0.eval (.tmp 2) = .slice (some ⟨g2, 0, none⟩) 2 2 := by subst ha; kernel_rfl
  have e3_0 : a_0.eval (.tmp 3) = .pointer (some ⟨w.heap.size, 0, none⟩) := by subst ha; kernel_rfl
  have e6_0 : a_0.eval (.tmp 6) = .pointer (some ⟨w.heap.size + 1, 0, none⟩) := by subst ha; kernel_rfl
  clear ha
  repeat (first | refine wp_seq ?_ | (refine wp_skip ?_; refine then_n ?_))
  refine wp_region_law hN_0 w.heap.size
    [kIs (.slice (some ⟨g2, 0, none⟩) 2 2), kIs (.int .i64 (2)), kIs (.int .i64 (0))]
    [ [], [(0, some 9)], [] ]
    [(0, some 9), (1, some 10), (2, some 11)] [] [] (by kernel_rfl) (by kernel_rfl) (by kernel_rfl) (by kernel_rfl) (by kernel_rfl) (by kernel_rfl) (by kernel_rfl) bb_0.size ?_ ?_
  ·
    refine pk_cons rfl rfl (st_pure [] [(2, .slice (some ⟨g2, 0, none⟩) 2 2)] (.slice (some ⟨g2, 0, none⟩) 2 2) rfl hN_0 (by kernel_rfl) (by kernel_rfl) (by kernel_rfl) (old1 e2_0) (by kernel_rfl) (by kernel_rfl) (by kernel_rfl) (fun _ => by kernel_rfl)) ?_
    refine pk_cons rfl rfl (st_pure [.slice (some ⟨g2, 0, none⟩) 2 2] [] (.int .i64 (2)) rfl hN_0 (by kernel_rfl) (by kernel_rfl) (by kernel_rfl) old0 (by kernel_rfl) (by kernel_rfl) (by kernel_rfl) (fun _ => by kernel_rfl)) ?_
    refine pk_cons rfl rfl (st_pure [] [] (.int .i64 (0)) rfl hN_0 (by kernel_rfl) (by kernel_rfl) (by kernel_rfl) old0 (by kernel_rfl) (by kernel_rfl) (by kernel_rfl) (fun _ => by kernel_rfl)) ?_
    exact pk_nil rfl
  intro W_1 x hC hall
  refine then_n ?_
  obtain ⟨a_1, ha⟩ : ∃ a, a = putE x a_0 [(0, some 9), (1, some 10), (2, some 11)] := ⟨_, rfl⟩
  rw [← ha]
  have hN_1 := size_behind ha hN_0
  have hD_1 := defers_behind ha hD_0
  have bb_1 := bb_0.trans hC.below
  have e1_1 := slot_old ha (by kernel_rfl) e1_0
  have e2_1 := slot_old ha (by kernel_rfl) e2_0
  have e3_1 := slot_old ha (by kernel_rfl) e3_0
  have e6_1 := slot_old ha (by kernel_rfl) e6_0
  have f1_1 := hC.at0 f1_0
  have f1'_1 := hC.at0 f1'_0
  have S_1 := hC.holds S_0
  have R_1 := hC.holds R_0
  have LL_1 := hC.prs (by simp) LL_0
  have e9_1 := (slot_new (t := 9) (i := 0) ha hN_0 (by kernel_rfl) (by kernel_rfl)).trans (show x 0 = .slice (some ⟨g2, 0, none⟩) 2 2 from hall 0 (of_decide_eq_true (by kernel_rfl)))
  have e10_1 := (slot_new (t := 10) (i := 1) ha hN_0 (by kernel_rfl) (by kernel_rfl)).trans (show x 1 = .int .i64 (2) from hall 1 (of_decide_eq_true (by kernel_rfl)))
  have e11_1 := (slot_new (t := 11) (i := 2) ha hN_0 (by kernel_rfl) (by kernel_rfl)).trans (show x 2 = .int .i64 (0) from hall 2 (of_decide_eq_true (by kernel_rfl)))
  clear hall hC ha bb_0 hD_0 e1_0 e2_0 e3_0 e6_0 f1_0 f1'_0 S_0 R_0 LL_0
  repeat (first | refine wp_seq ?_ | (refine wp_skip ?_; refine then_n ?_))
  refine wp_block ?_
  refine wp_loop (fun ac W => ac.tmps.size = 22 ∧ ac.defers = [] ∧ ac.eval (.tmp 1) = .func (.func 38) #[] #[] ∧ ac.eval (.tmp 3) = .pointer (some ⟨w.heap.size, 0, none⟩) ∧ ac.eval (.tmp 6) = .pointer (some ⟨w.heap.size + 1, 0, none⟩) ∧ ac.eval (.tmp 9) = .slice (some ⟨g2, 0, none⟩) 2 2 ∧ ac.eval (.tmp 10) = .int .i64 (2) ∧ Below w.heap.size w W ∧ (∃ q1 q2 q3 q4, Holds_ W w.heap.size #[q1, q2, q3, q4]) ∧ Holds_ W (w.heap.size + 1) #[Value.bool false, Value.slice none 0 0, Value.bool false, Value.slice none 0 0] ∧ PRs W g2 [(9, a.num, (a.den : Int)), (9, b.num, (b.den : Int))] ∧ ((ac.eval (.tmp 11) = .int .i64 (0) ∧ AtR W w.heap.size 0 9 (((0 : Rat)).num) ∧ AtR W w.heap.size 2 9 ((((0 : Rat)).den : Int))) ∨ (ac.eval (.tmp 11) = .int .i64 (1) ∧ AtR W w.heap.size 0 9 (a.num) ∧ AtR W w.heap.size 2 9 ((a.den : Int))) ∨ (ac.eval (.tmp 11) = .int .i64 (2) ∧ AtR W w.heap.size 0 19 ((a + b).num) ∧ AtR W w.heap.size 2 19 (((a + b).den : Int))))) (fun ac _ => 2 - (intOf (ac.eval (.tmp 11))).toNat) ?_ ?_
  · exact ⟨hN_1, hD_1, e1_1, e3_1, e6_1, e9_1, e10_1, bb_1, ⟨_, _, _, _, S_1⟩, R_1, LL_1, .inl ⟨e11_1, f1_1, f1'_1⟩⟩
  clear hN_1 hD_1 e1_1 e3_1 e6_1 e9_1 e10_1 e11_1 bb_1 S_1 R_1 LL_1 f1_1 f1'_1
  rintro a_1 W_1 ⟨hN_1, hD_1, e1_1, e3_1, e6_1, e9_1, e10_1, bb_1, ⟨_, _, _, _, S_1⟩, R_1, LL_1, hor⟩
  rcases hor with ⟨e11_1, f1_1, f1'_1⟩ | ⟨e11_1, f1_1, f1'_1⟩ | ⟨e11_1, f1_1, f1'_1⟩
  ·
    have hm : intOf (a_1.eval (.tmp 11)) = 0 := by rw [e11_1]; rfl
    rw [hm]
    clear hm
    repeat (first | refine wp_seq ?_ | (refine wp_skip ?_; refine then_n ?_))
    refine wp_region_law hN_1 w.heap.size
      [kIs (.bool true)]
      [ [] ]
      [(0, some 12)] [] [] (by kernel_rfl) (by kernel_rfl) (by kernel_rfl) (by kernel_rfl) (by kernel_rfl) (by kernel_rfl) (by kernel_rfl) bb_1.size ?_ ?_
    ·
      refine pk_cons rfl rfl (st_pure [] [(11, .int .i64 (0)), (10, .int .i64 (2))] (.bool true) rfl hN_1 (by kernel_rfl) (by kernel_rfl) (by kernel_rfl) (old2 e11_1 e10_1) (by kernel_rfl) (by kernel_rfl) (by kernel_rfl) (fun _ => by kernel_rfl)) ?_
      exact pk_nil rfl
    intro W_2 x hC hall
    refine then_n ?_
    obtain ⟨a_2, ha⟩ : ∃ a, a = putE x a_1 [(0, some 12)] := ⟨_, rfl⟩
    rw [← ha]
    have hN_2 := size_behind ha hN_1
    have hD_2 := defers_behind ha hD_1
    have bb_2 := bb_1.trans hC.below
    have e1_2 := slot_old ha (by kernel_rfl) e1_1
    have e3_2 := slot_old ha (by kernel_rfl) e3_1
    have e6_2 := slot_old ha (by kernel_rfl) e6_1
    have e9_2 := slot_old ha (by kernel_rfl) e9_1
    have e10_2 := slot_old ha (by kernel_rfl) e10_1
    have e11_2 := slot_old ha (by kernel_rfl) e11_1
    have f1_2 := hC.at0 f1_1
    have f1'_2 := hC.at0 f1'_1
    have S_2 := hC.holds S_1
    have R_2 := hC.holds R_1
    have LL_2 := hC.prs (by simp) LL_1
    have e12_2 := (slot_new (t := 12) (i := 0) ha hN_1 (by kernel_rfl) (by kernel_rfl)).trans (show x 0 = .bool true from hall 0 (of_decide_eq_true (by kernel_rfl)))
    clear hall hC ha bb_1 hD_1 e1_1 e3_1 e6_1 e9_1 e10_1 e11_1 f1_1 f1'_1 S_1 R_1 LL_1
    repeat (first | refine wp_seq ?_ | (refine wp_skip ?_; refine then_n ?_))
    refine wp_cond_true e12_2 ?_
    repeat (first | refine wp_seq ?_ | (refine wp_skip ?_; refine then_n ?_))
    refine wp_block ?_
    repeat (first | refine wp_seq ?_ | (refine wp_skip ?_; refine then_n ?_))
    refine wp_region_law hN_2 w.heap.size
      [kIs (.pointer (some ⟨g2, 0, none⟩)), kP 9 (a.num) ((a.den : Int)), PK.fresh 4, kPutP 2 9 (a.num) ((a.den : Int))]
      [ [], [(0, some 13)], [], [(2, some 8), (1, some 14)] ]
      [(0, some 13), (1, some 14), (2, some 8), (3, none)] [] [] (by kernel_rfl) (by kernel_rfl) (by kernel_rfl) (by kernel_rfl) (by kernel_rfl) (by kernel_rfl) (by kernel_rfl) bb_2.size ?_ ?_
    ·
      refine pk_cons rfl rfl (st_pure [] [(9, .slice (some ⟨g2, 0, none⟩) 2 2), (11, .int .i64 (0))] (.pointer (some ⟨g2, 0, none⟩)) rfl hN_2 (by kernel_rfl) (by kernel_rfl) (by kernel_rfl) (old2 e9_2 e11_2) (by kernel_rfl) (by kernel_rfl) (by kernel_rfl) (fun _ => by kernel_rfl)) ?_
      refine pk_cons rfl rfl (st_loadPI LL_2 (n := 0) rfl rfl (by simp) hN_2 (by kernel_rfl) (by kernel_rfl) rfl rfl) ?_
      refine pk_cons rfl rfl (st_allocP hN_2 (by kernel_rfl) (Nat.le_refl _) rfl) ?_
      refine pk_cons rfl rfl (st_putP hN_2 (by kernel_rfl) (by kernel_rfl) (by kernel_rfl) rfl rfl rfl) ?_
      exact pk_nil rfl
    intro W_3 x hC hall
    refine then_n ?_
    obtain ⟨a_3, ha⟩ : ∃ a, a = putE x a_2 [(0, some 13), (1, some 14), (2, some 8), (3, none)] := ⟨_, rfl⟩
    rw [← ha]
    have hN_3 := size_behind ha hN_2
    have hD_3 := defers_behind ha hD_2
    have bb_3 := bb_2.trans hC.below
    have e1_3 := slot_old ha (by kernel_rfl) e1_2
    have e3_3 := slot_old ha (by kernel_rfl) e3_2
    have e6_3 := slot_old ha (by kernel_rfl) e6_2
    have e9_3 := slot_old ha (by kernel_rfl) e9_2
    have e10_3 := slot_old ha (by kernel_rfl) e10_2
    have e11_3 := slot_old ha (by kernel_rfl) e11_2
    have e12_3 := slot_old ha (by kernel_rfl) e12_2
    have f1_3 := hC.at0 f1_2
    have f1'_3 := hC.at0 f1'_2
    have S_3 := hC.holds S_2
    have R_3 := hC.holds R_2
    have LL_3 := hC.prs (by simp) LL_2
    obtain ⟨g8, hx, hge, p8_3, p8'_3⟩ := put_atP (show (kPutP 2 9 (a.num) ((a.den : Int))).sem _ _ _ _ from hall 3 (of_decide_eq_true (by kernel_rfl)))
    have e8_3 := (slot_new (t := 8) (i := 2) ha hN_2 (by kernel_rfl) (by kernel_rfl)).trans hx
    have d8 := Nat.lt_of_lt_of_le R_2.lt hge
    clear hx hge
    clear hall hC ha bb_2 hD_2 e1_2 e3_2 e6_2 e9_2 e10_2 e11_2 e12_2 f1_2 f1'_2 S_2 R_2 LL_2
    repeat (first | refine wp_seq ?_ | (refine wp_skip ?_; refine then_n ?_))
    refine wp_region_keep hN_3 w.heap.size (w.heap.size) S_3 (by omega) 5 [1]
      [kIs (.func (.func 38) #[] #[]), kP 9 (((0 : Rat)).num) ((((0 : Rat)).den : Int)), kP 9 (a.num) ((a.den : Int)), kP 9 (a.num) ((a.den : Int)), kP 19 ((((0 : Rat)) + a).num) (((((0 : Rat)) + a).den : Int)), kRes (w.heap.size) 19 ((((0 : Rat)) + a).num) (((((0 : Rat)) + a).den : Int))]
      [ [], [], [], [(2, some 17)], [(0, some 15), (1, some 16), (3, some 18)], [(4, some 19)] ]
      [(0, some 15), (1, some 16), (2, some 17), (3, some 18), (4, some 19), (5, none)] [] [] (by kernel_rfl) (by kernel_rfl) (by kernel_rfl) (by kernel_rfl) (by kernel_rfl) (by kernel_rfl) (by kernel_rfl) rfl (by kernel_rfl) bb_3.size ?_ ?_
    ·
      refine pkl_cons rfl rfl (st_pure [] [(1, .func (.func 38) #[] #[])] (.func (.func 38) #[] #[]) rfl hN_3 (by kernel_rfl) (by kernel_rfl) (by kernel_rfl) (old1 e1_3) (by kernel_rfl) (by kernel_rfl) (by kernel_rfl) (fun _ => by kernel_rfl)) ?_
      refine pkl_keep rfl rfl rfl ?_ ?_
      · exact st_loadKF f1_3 f1'_3 e3_3 hN_3 (by kernel_rfl) rfl
      refine pkl_cons rfl rfl (st_load4P p8_3 p8'_3 (by simp only [List.mem_singleton]; omega) e8_3 hN_3 (by kernel_rfl) rfl) ?_
      refine pkl_cons rfl rfl (st_call1 hN_3 (by kernel_rfl) (by kernel_rfl) (by kernel_rfl) rfl rfl fun w x v1 hC h1 => tp (of_9 (pm (by decide) h1))) ?_
      refine pkl_cons rfl rfl (st_call2V hN_3 (by kernel_rfl) (by kernel_rfl) (by kernel_rfl) (by kernel_rfl) (by kernel_rfl) (by kernel_rfl) (by kernel_rfl) (by kernel_rfl) rfl rfl rfl rfl fun w x v1 v2 hC h1 h2 => tp (plus_9 (pm (by decide) h1) (pm (by decide) h2))) ?_
      refine pkl_cons rfl rfl (st_resF S_3 rfl (by simp) e3_3 hN_3 (by kernel_rfl) (by kernel_rfl) rfl rfl) ?_
      exact pkl_nil rfl
    intro W_4 x hC hall
    obtain ⟨a_4, ha⟩ : ∃ a, a = putE x a_3 [(0, some 15), (1, some 16), (2, some 17), (3, some 18), (4, some 19), (5, none)] := ⟨_, rfl⟩
    rw [← ha]
    have hN_4 := size_behind ha hN_3
    have hD_4 := defers_behind ha hD_3
    have bb_4 := bb_3.trans hC.below
    have e1_4 := slot_old ha (by kernel_rfl) e1_3
    have e3_4 := slot_old ha (by kernel_rfl) e3_3
    have e6_4 := slot_old ha (by kernel_rfl) e6_3
    have e9_4 := slot_old ha (by kernel_rfl) e9_3
    have e10_4 := slot_old ha (by kernel_rfl) e10_3
    have e11_4 := slot_old ha (by kernel_rfl) e11_3
    have e12_4 := slot_old ha (by kernel_rfl) e12_3
    have e8_4 := slot_old ha (by kernel_rfl) e8_3
    have R_4 := hC.holdsG (by simp only [List.mem_singleton]; omega) R_3
    have LL_4 := hC.prs (by simp only [List.mem_singleton]; omega) LL_3
    have hres := show (kRes (w.heap.size) 19 ((((0 : Rat)) + a).num) (((((0 : Rat)) + a).den : Int))).sem _ _ _ _ from hall 5 (of_decide_eq_true (by kernel_rfl))
    obtain ⟨f1_4, f1'_4⟩ := res_atP hres
    obtain ⟨_, _, _, _, S_4⟩ := res_four hres
    clear hall hC ha hres
    refine in_block8 ?_
    refine then_n ?_
    refine wp_incr2 (n := 0) (m := 1) hN_4 (by kernel_rfl) e11_4 (fun _ => by kernel_rfl) ?_
    intro x hx
    obtain ⟨a_5, ha⟩ : ∃ a, a = putE x a_4 [(0, some 20), (1, some 11)] := ⟨_, rfl⟩
    rw [← ha]
    have hN_5 := size_behind ha hN_4
    have hD_5 := defers_behind ha hD_4
    have bb_5 := bb_4
    have e1_5 := slot_old ha (by kernel_rfl) e1_4
    have e3_5 := slot_old ha (by kernel_rfl) e3_4
    have e6_5 := slot_old ha (by kernel_rfl) e6_4
    have e9_5 := slot_old ha (by kernel_rfl) e9_4
    have e10_5 := slot_old ha (by kernel_rfl) e10_4
    have e12_5 := slot_old ha (by kernel_rfl) e12_4
    have e8_5 := slot_old ha (by kernel_rfl) e8_4
    have f1_5 := f1_4
    have f1'_5 := f1'_4
    have S_5 := S_4
    have R_5 := R_4
    have LL_5 := LL_4
    have e11_5 := (slot_new (t := 11) (i := 1) ha hN_4 (by kernel_rfl) (by kernel_rfl)).trans hx
    clear ha hx
    have hq : (0 : Rat) + a = a := Rat.zero_add a
    rw [hq] at f1_5 f1'_5
    refine ⟨⟨hN_5, hD_5, e1_5, e3_5, e6_5, e9_5, e10_5, bb_5, ⟨_, _, _, _, S_5⟩, R_5, LL_5, .inr (.inl ⟨e11_5, f1_5.tight HB0.out.1, f1'_5.tight HB0.out.2⟩)⟩, ?_⟩
    rw [e11_5]; decide
  ·
    have hm : intOf (a_1.eval (.tmp 11)) = 1 := by rw [e11_1]; rfl
    rw [hm]
    clear hm
    repeat (first | refine wp_seq ?_ | (refine wp_skip ?_; refine then_n ?_))
    refine wp_region_law hN_1 w.heap.size
      [kIs (.bool true)]
      [ [] ]
      [(0, some 12)] [] [] (by kernel_rfl) (by kernel_rfl) (by kernel_rfl) (by kernel_rfl) (by kernel_rfl) (by kernel_rfl) (by kernel_rfl) bb_1.size ?_ ?_
    ·
      refine pk_cons rfl rfl (st_pure [] [(11, .int .i64 (1)), (10, .int .i64 (2))] (.bool true) rfl hN_1 (by kernel_rfl) (by kernel_rfl) (by kernel_rfl) (old2 e11_1 e10_1) (by kernel_rfl) (by kernel_rfl) (by kernel_rfl) (fun _ => by kernel_rfl)) ?_
      exact pk_nil rfl
    intro W_2 x hC hall
    refine then_n ?_
    obtain ⟨a_2, ha⟩ : ∃ a, a = putE x a_1 [(0, some 12)] := ⟨_, rfl⟩
    rw [← ha]
    have hN_2 := size_behind ha hN_1
    have hD_2 := defers_behind ha hD_1
    have bb_2 := bb_1.trans hC.below
    have e1_2 := slot_old ha (by kernel_rfl) e1_1
    have e3_2 := slot_old ha (by kernel_rfl) e3_1
    have e6_2 := slot_old ha (by kernel_rfl) e6_1
    have e9_2 := slot_old ha (by kernel_rfl) e9_1
    have e10_2 := slot_old ha (by kernel_rfl) e10_1
    have e11_2 := slot_old ha (by kernel_rfl) e11_1
    have f1_2 := hC.at0 f1_1
    have f1'_2 := hC.at0 f1'_1
    have S_2 := hC.holds S_1
    have R_2 := hC.holds R_1
    have LL_2 := hC.prs (by simp) LL_1
    have e12_2 := (slot_new (t := 12) (i := 0) ha hN_1 (by kernel_rfl) (by kernel_rfl)).trans (show x 0 = .bool true from hall 0 (of_decide_eq_true (by kernel_rfl)))
    clear hall hC ha bb_1 hD_1 e1_1 e3_1 e6_1 e9_1 e10_1 e11_1 f1_1 f1'_1 S_1 R_1 LL_1
    repeat (first | refine wp_seq ?_ | (refine wp_skip ?_; refine then_n ?_))
    refine wp_cond_true e12_2 ?_
    repeat (first | refine wp_seq ?_ | (refine wp_skip ?_; refine then_n ?_))
    refine wp_block ?_
    repeat (first | refine wp_seq ?_ | (refine wp_skip ?_; refine then_n ?_))
    refine wp_region_law hN_2 w.heap.size
      [kIs (.pointer (some ⟨g2, 4, none⟩)), kP 9 (b.num) ((b.den : Int)), PK.fresh 4, kPutP 2 9 (b.num) ((b.den : Int))]
      [ [], [(0, some 13)], [], [(2, some 8), (1, some 14)] ]
      [(0, some 13), (1, some 14), (2, some 8), (3, none)] [] [] (by kernel_rfl) (by kernel_rfl) (by kernel_rfl) (by kernel_rfl) (by kernel_rfl) (by kernel_rfl) (by kernel_rfl) bb_2.size ?_ ?_
    ·
      refine pk_cons rfl rfl (st_pure [] [(9, .slice (some ⟨g2, 0, none⟩) 2 2), (11, .int .i64 (1))] (.pointer (some ⟨g2, 4, none⟩)) rfl hN_2 (by kernel_rfl) (by kernel_rfl) (by kernel_rfl) (old2 e9_2 e11_2) (by kernel_rfl) (by kernel_rfl) (by kernel_rfl) (fun _ => by kernel_rfl)) ?_
      refine pk_cons rfl rfl (st_loadPI LL_2 (n := 1) rfl rfl (by simp) hN_2 (by kernel_rfl) (by kernel_rfl) rfl rfl) ?_
      refine pk_cons rfl rfl (st_allocP hN_2 (by kernel_rfl) (Nat.le_refl _) rfl) ?_
      refine pk_cons rfl rfl (st_putP hN_2 (by kernel_rfl) (by kernel_rfl) (by kernel_rfl) rfl rfl rfl) ?_
      exact pk_nil rfl
    intro W_3 x hC hall
    refine then_n ?_
    obtain ⟨a_3, ha⟩ : ∃ a, a = putE x a_2 [(0, some 13), (1, some 14), (2, some 8), (3, none)] := ⟨_, rfl⟩
    rw [← ha]
    have hN_3 := size_behind ha hN_2
    have hD_3 := defers_behind ha hD_2
    have bb_3 := bb_2.trans hC.below
    have e1_3 := slot_old ha (by kernel_rfl) e1_2
    have e3_3 := slot_old ha (by kernel_rfl) e3_2
    have e6_3 := slot_old ha (by kernel_rfl) e6_2
    have e9_3 := slot_old ha (by kernel_rfl) e9_2
    have e10_3 := slot_old ha (by kernel_rfl) e10_2
    have e11_3 := slot_old ha (by kernel_rfl) e11_2
    have e12_3 := slot_old ha (by kernel_rfl) e12_2
    have f1_3 := hC.at0 f1_2
    have f1'_3 := hC.at0 f1'_2
    have S_3 := hC.holds S_2
    have R_3 := hC.holds R_2
    have LL_3 := hC.prs (by simp) LL_2
    obtain ⟨g8, hx, hge, p8_3, p8'_3⟩ := put_atP (show (kPutP 2 9 (b.num) ((b.den : Int))).sem _ _ _ _ from hall 3 (of_decide_eq_true (by kernel_rfl)))
    have e8_3 := (slot_new (t := 8) (i := 2) ha hN_2 (by kernel_rfl) (by kernel_rfl)).trans hx
    have d8 := Nat.lt_of_lt_of_le R_2.lt hge
    clear hx hge
    clear hall hC ha bb_2 hD_2 e1_2 e3_2 e6_2 e9_2 e10_2 e11_2 e12_2 f1_2 f1'_2 S_2 R_2 LL_2
    repeat (first | refine wp_seq ?_ | (refine wp_skip ?_; refine then_n ?_))
    refine wp_region_keep hN_3 w.heap.size (w.heap.size) S_3 (by omega) 5 [1]
      [kIs (.func (.func 38) #[] #[]), kP 9 (a.num) ((a.den : Int)), kP 9 (b.num) ((b.den : Int)), kP 9 (b.num) ((b.den : Int)), kP 19 ((a + b).num) (((a + b).den : Int)), kRes (w.heap.size) 19 ((a + b).num) (((a + b).den : Int))]
      [ [], [], [], [(2, some 17)], [(0, some 15), (1, some 16), (3, some 18)], [(4, some 19)] ]
      [(0, some 15), (1, some 16), (2, some 17), (3, some 18), (4, some 19), (5, none)] [] [] (by kernel_rfl) (by kernel_rfl) (by kernel_rfl) (by kernel_rfl) (by kernel_rfl) (by kernel_rfl) (by kernel_rfl) rfl (by kernel_rfl) bb_3.size ?_ ?_
    ·
      refine pkl_cons rfl rfl (st_pure [] [(1, .func (.func 38) #[] #[])] (.func (.func 38) #[] #[]) rfl hN_3 (by kernel_rfl) (by kernel_rfl) (by kernel_rfl) (old1 e1_3) (by kernel_rfl) (by kernel_rfl) (by kernel_rfl) (fun _ => by kernel_rfl)) ?_
      refine pkl_keep rfl rfl rfl ?_ ?_
      · exact st_loadKF f1_3 f1'_3 e3_3 hN_3 (by kernel_rfl) rfl
      refine pkl_cons rfl rfl (st_load4P p8_3 p8'_3 (by simp only [List.mem_singleton]; omega) e8_3 hN_3 (by kernel_rfl) rfl) ?_
      refine pkl_cons rfl rfl (st_call1 hN_3 (by kernel_rfl) (by kernel_rfl) (by kernel_rfl) rfl rfl fun w x v1 hC h1 => tp (of_9 (pm (by decide) h1))) ?_
      refine pkl_cons rfl rfl (st_call2V hN_3 (by kernel_rfl) (by kernel_rfl) (by kernel_rfl) (by kernel_rfl) (by kernel_rfl) (by kernel_rfl) (by kernel_rfl) (by kernel_rfl) rfl rfl rfl rfl fun w x v1 v2 hC h1 h2 => tp (plus_9 (pm (by decide) h1) (pm (by decide) h2))) ?_
      refine pkl_cons rfl rfl (st_resF S_3 rfl (by simp) e3_3 hN_3 (by kernel_rfl) (by kernel_rfl) rfl rfl) ?_
      exact pkl_nil rfl
    intro W_4 x hC hall
    obtain ⟨a_4, ha⟩ : ∃ a, a = putE x a_3 [(0, some 15), (1, some 16), (2, some 17), (3, some 18), (4, some 19), (5, none)] := ⟨_, rfl⟩
    rw [← ha]
    have hN_4 := size_behind ha hN_3
    have hD_4 := defers_behind ha hD_3
    have bb_4 := bb_3.trans hC.below
    have e1_4 := slot_old ha (by kernel_rfl) e1_3
    have e3_4 := slot_old ha (by kernel_rfl) e3_3
    have e6_4 := slot_old ha (by kernel_rfl) e6_3
    have e9_4 := slot_old ha (by kernel_rfl) e9_3
    have e10_4 := slot_old ha (by kernel_rfl) e10_3
    have e11_4 := slot_old ha (by kernel_rfl) e11_3
    have e12_4 := slot_old ha (by kernel_rfl) e12_3
    have e8_4 := slot_old ha (by kernel_rfl) e8_3
    have R_4 := hC.holdsG (by simp only [List.mem_singleton]; omega) R_3
    have LL_4 := hC.prs (by simp only [List.mem_singleton]; omega) LL_3
    have hres := show (kRes (w.heap.size) 19 ((a + b).num) (((a + b).den : Int))).sem _ _ _ _ from hall 5 (of_decide_eq_true (by kernel_rfl))
    obtain ⟨f1_4, f1'_4⟩ := res_atP hres
    obtain ⟨_, _, _, _, S_4⟩ := res_four hres
    clear hall hC ha hres
    refine in_block8 ?_
    refine then_n ?_
    refine wp_incr2 (n := 1) (m := 2) hN_4 (by kernel_rfl) e11_4 (fun _ => by kernel_rfl) ?_
    intro x hx
    obtain ⟨a_5, ha⟩ : ∃ a, a = putE x a_4 [(0, some 20), (1, some 11)] := ⟨_, rfl⟩
    rw [← ha]
    have hN_5 := size_behind ha hN_4
    have hD_5 := defers_behind ha hD_4
    have bb_5 := bb_4
    have e1_5 := slot_old ha (by kernel_rfl) e1_4
    have e3_5 := slot_old ha (by kernel_rfl) e3_4
    have e6_5 := slot_old ha (by kernel_rfl) e6_4
    have e9_5 := slot_old ha (by kernel_rfl) e9_4
    have e10_5 := slot_old ha (by kernel_rfl) e10_4
    have e12_5 := slot_old ha (by kernel_rfl) e12_4
    have e8_5 := slot_old ha (by kernel_rfl) e8_4
    have f1_5 := f1_4
    have f1'_5 := f1'_4
    have S_5 := S_4
    have R_5 := R_4
    have LL_5 := LL_4
    have e11_5 := (slot_new (t := 11) (i := 1) ha hN_4 (by kernel_rfl) (by kernel_rfl)).trans hx
    clear ha hx
    refine ⟨⟨hN_5, hD_5, e1_5, e3_5, e6_5, e9_5, e10_5, bb_5, ⟨_, _, _, _, S_5⟩, R_5, LL_5, .inr (.inr (⟨e11_5, f1_5, f1'_5⟩))⟩, ?_⟩
    rw [e11_5]; decide
  ·
    have hm : intOf (a_1.eval (.tmp 11)) = 2 := by rw [e11_1]; rfl
    rw [hm]
    clear hm
    repeat (first | refine wp_seq ?_ | (refine wp_skip ?_; refine then_n ?_))
    refine wp_region_law hN_1 w.heap.size
      [kIs (.bool false)]
      [ [] ]
      [(0, some 12)] [] [] (by kernel_rfl) (by kernel_rfl) (by kernel_rfl) (by kernel_rfl) (by kernel_rfl) (by kernel_rfl) (by kernel_rfl) bb_1.size ?_ ?_
    ·
      refine pk_cons rfl rfl (st_pure [] [(11, .int .i64 (2)), (10, .int .i64 (2))] (.bool false) rfl hN_1 (by kernel_rfl) (by kernel_rfl) (by kernel_rfl) (old2 e11_1 e10_1) (by kernel_rfl) (by kernel_rfl) (by kernel_rfl) (fun _ => by kernel_rfl)) ?_
      exact pk_nil rfl
    intro W_2 x hC hall
    refine then_n ?_
    obtain ⟨a_2, ha⟩ : ∃ a, a = putE x a_1 [(0, some 12)] := ⟨_, rfl⟩
    rw [← ha]
    have hN_2 := size_behind ha hN_1
    have hD_2 := defers_behind ha hD_1
    have bb_2 := bb_1.trans hC.below
    have e1_2 := slot_old ha (by kernel_rfl) e1_1
    have e3_2 := slot_old ha (by kernel_rfl) e3_1
    have e6_2 := slot_old ha (by kernel_rfl) e6_1
    have e9_2 := slot_old ha (by kernel_rfl) e9_1
    have e10_2 := slot_old ha (by kernel_rfl) e10_1
    have e11_2 := slot_old ha (by kernel_rfl) e11_1
    have f1_2 := hC.at0 f1_1
    have f1'_2 := hC.at0 f1'_1
    have S_2 := hC.holds S_1
    have R_2 := hC.holds R_1
    have LL_2 := hC.prs (by simp) LL_1
    have e12_2 := (slot_new (t := 12) (i := 0) ha hN_1 (by kernel_rfl) (by kernel_rfl)).trans (show x 0 = .bool false from hall 0 (of_decide_eq_true (by kernel_rfl)))
    clear hall hC ha bb_1 hD_1 e1_1 e3_1 e6_1 e9_1 e10_1 e11_1 f1_1 f1'_1 S_1 R_1 LL_1
    repeat (first | refine wp_seq ?_ | (refine wp_skip ?_; refine then_n ?_))
    refine wp_cond_false e12_2 ?_
    repeat (first | refine wp_seq ?_ | (refine wp_skip ?_; refine then_n ?_))
    refine wp_exit ?_
    repeat (refine then_x8 ?_)
    refine out_block8 ?_
    refine then_n ?_
    repeat (first | refine wp_seq ?_ | (refine wp_skip ?_; refine then_n ?_))
    refine wp_region_res hN_2 w.heap.size (w.heap.size + 1) R_2 (by omega)
      [kP 19 ((a + b).num) (((a + b).den : Int)), kRes (w.heap.size + 1) 19 ((a + b).num) (((a + b).den : Int))]
      [ [], [(0, some 21)] ]
      [(0, some 21), (1, none)] [] [] (by kernel_rfl) (by kernel_rfl) (by kernel_rfl) (by kernel_rfl) (by kernel_rfl) (by kernel_rfl) (by kernel_rfl) bb_2.size ?_ ?_
    ·
      refine pk_cons rfl rfl (st_load4F f1_2 f1'_2 (by simp only [List.mem_singleton]; omega) e3_2 hN_2 (by kernel_rfl) rfl) ?_
      refine pk_cons rfl rfl (st_resF R_2 rfl (by simp) e6_2 hN_2 (by kernel_rfl) (by kernel_rfl) rfl rfl) ?_
      exact pk_nil rfl
    intro W x hC hall
    refine then_n ?_
    obtain ⟨a1, ha⟩ : ∃ a, a = putE x a_2 [(0, some 21), (1, none)] := ⟨_, rfl⟩
    rw [← ha]
    have hD1 := defers_behind ha hD_2
    have bb1 := bb_2.trans hC.below
    obtain ⟨cs, hg, hP⟩ := (show (kRes (w.heap.size + 1) 19 ((a + b).num) (((a + b).den : Int))).sem _ _ _ _ from hall 1 (of_decide_eq_true (by kernel_rfl)))
    have e1 := slot_old (t := 6) ha (by kernel_rfl) e6_2
    repeat (first | refine wp_seq ?_ | (refine wp_skip ?_; refine then_n ?_))
    refine wp_ret ?_
    repeat (refine then_r ?_)
    exact ret_cellF (t := 6) rfl hD1 e1 hg hP fun v hv => ⟨v, rfl, hv, bb1⟩
set_option maxRecDepth 100000 in
set_option maxHeartbeats 8000000 in
theorem fold3_plus_9 {w : World} {v0 v2 : Value} {a b c : Rat} (h0 : Pr w v0 9 ((0 : Rat)).num (((0 : Rat)).den : Int)) (hl : PL w v2 [(9, a.num, (a.den : Int)), (9, b.num, (b.den : Int)), (9, c.num, (c.den : Int))]) :
    Calls Tryz.prog 37 #[v0, .func (.func 38) #[] #[], v2] w (TellsP w 39 (((a + b) + c).num) ((((a + b) + c).den : Int))) := by
  obtain ⟨A1, l1, c1, A1', l1', c1', rfl, ⟨r1, u1⟩, r1', u1'⟩ := h0
  obtain ⟨b1, hb1⟩ : ∃ s, s = decide (((0 : Rat)).num < 0) := ⟨_, rfl⟩
  obtain ⟨b1', hb1'⟩ : ∃ s, s = decide ((((0 : Rat)).den : Int) < 0) := ⟨_, rfl⟩
  rw [← hb1, ← hb1']
  have H1 := Lib.hid (show _ ∧ _ ∧ _ ∧ _ ∧ _ ∧ _ from ⟨hb1, hb1', r1, u1, r1', u1'⟩)
  clear hb1 hb1' r1 u1 r1' u1'
  obtain ⟨g2, rfl, hg2, hl2⟩ := hl
  have HL := Lib.hid hl2
  clear hl2
  have HB0 := Lib.hid (HL.out.lt (j := 0) rfl)
  have HB1 := Lib.hid (HL.out.lt (j := 1) rfl)
  have HB2 := Lib.hid (HL.out.lt (j := 2) rfl)
  show Calls _ _ #[_, _, .slice (some ⟨g2, 0, none⟩) 3 3] _ _
  go_enter Tryz.func37, Tryz.ntmps37
  repeat (refine wp_seq ?_)
  refine region_k ?_
  intro K hK
  have HK := Lib.hid hK
  clear hK
  go_wp2
  refine HK.out _ _ ?_
  clear HK
  refine then_n ?_
  obtain ⟨W_0, hW⟩ : ∃ W, W = (w.alloc (Obj.cells #[Value.bool b1, Value.slice A1 l1 c1, Value.bool b1', Value.slice A1' l1' c1'] 53)).alloc (Obj.cells #[Value.bool false, Value.slice none 0 0, Value.bool false, Value.slice none 0 0] 53) := ⟨_, rfl⟩
  have bb_0 : Below w.heap.size w W_0 := by rw [hW]; exact bal (bal (Below.refl _ _) _) _
  have K0 : W_0.heap[w.heap.size]? = some (Obj.cells #[Value.bool b1, Value.slice A1 l1 c1, Value.bool b1', Value.slice A1' l1' c1'] 53) := by rw [hW]; rw [Below.heap_alloc _ _ _ (by simp <;> omega)]; exact new_at (by simp)
  have K1 : W_0.heap[w.heap.size + 1]? = some (Obj.cells #[Value.bool false, Value.slice none 0 0, Value.bool false, Value.slice none 0 0] 53) := by rw [hW]; exact new_at (by simp)
  rw [← hW]
  obtain ⟨m1, n1, m1', n1', _, _, _, _⟩ := four_cells K0
  have f1_0 : AtR W_0 (w.heap.size) 0 9 (((0 : Rat)).num) := ⟨A1, l1, c1, by rw [← H1.out.1]; exact m1, n1, A1, l1, c1, rfl, H1.out.2.2.1.below bb_0, H1.out.2.2.2.1⟩
  have f1'_0 : AtR W_0 (w.heap.size) 2 9 ((((0 : Rat)).den : Int)) := ⟨A1', l1', c1', by rw [← H1.out.2.1]; exact m1', n1', A1', l1', c1', rfl, H1.out.2.2.2.2.1.below bb_0, H1.out.2.2.2.2.2⟩
  have S_0 : Holds_ W_0 (w.heap.size) #[Value.bool b1, Value.slice A1 l1 c1, Value.bool b1', Value.slice A1' l1' c1'] := ⟨⟨_, K0⟩, by simp [noDig]⟩
  have R_0 : Holds_ W_0 (w.heap.size + 1) #[Value.bool false, Value.slice none 0 0, Value.bool false, Value.slice none 0 0] := ⟨⟨_, K1⟩, by simp [noDig]⟩
  have LL_0 := HL.out.below bb_0
  clear hW K0 K1 m1 n1 m1' n1'
  refine name_frame (G := fun a => Code.wp _ _ _ a _) ?_
  intro a_0 ha
  have hN_0 : a_0.tmps.size = 22 := by subst ha; kernel_rfl
  have hD_0 : a_0.defers = [] := by subst ha; rfl
  have e1_0 : a_0.eval (.tmp 1) = .func (.func 38) #[] #[] := by subst ha; kernel_rfl
  have e2_0 : a_0.eval (.tmp 2) = .slice (some ⟨g2, 0, none⟩) 3 3 := by subst ha; kernel_rfl
  have e3_0 : a_0.eval (.tmp 3) = .pointer (some ⟨w.heap.size, 0, none⟩) := by subst ha; kernel_rfl
  have e6_0 : a_0.eval (.tmp 6) = .pointer (some ⟨w.heap.size + 1, 0, none⟩) := by subst ha; kernel_rfl
  clear ha
  repeat (first | refine wp_seq ?_ | (refine wp_skip ?_; refine then_n ?_))
  refine wp_region_law hN_0 w.heap.size
    [kIs (.slice (some ⟨g2, 0, none⟩) 3 3), kIs (.int .i64 (3)), kIs (.int .i64 (0))]
    [ [], [(0, some 9)], [] ]
    [(0, some 9), (1, some 10), (2, some 11)] [] [] (by kernel_rfl) (by kernel_rfl) (by kernel_rfl) (by kernel_rfl) (by kernel_rfl) (by kernel_rfl) (by kernel_rfl) bb_0.size ?_ ?_
  ·
    refine pk_cons rfl rfl (st_pure [] [(2, .slice (some ⟨g2, 0, none⟩) 3 3)] (.slice (some ⟨g2, 0, none⟩) 3 3) rfl hN_0 (by kernel_rfl) (by kernel_rfl) (by kernel_rfl) (old1 e2_0) (by kernel_rfl) (by kernel_rfl) (by kernel_rfl) (fun _ => by kernel_rfl)) ?_
    refine pk_cons rfl rfl (st_pure [.slice (some ⟨g2, 0, none⟩) 3 3] [] (.int .i64 (3)) rfl hN_0 (by kernel_rfl) (by kernel_rfl) (by kernel_rfl) old0 (by kernel_rfl) (by kernel_rfl) (by kernel_rfl) (fun _ => by kernel_rfl)) ?_
    refine pk_cons rfl rfl (st_pure [] [] (.int .i64 (0)) rfl hN_0 (by kernel_rfl) (by kernel_rfl) (by kernel_rfl) old0 (by kernel_rfl) (by kernel_rfl) (by kernel_rfl) (fun _ => by kernel_rfl)) ?_
    exact pk_nil rfl
  intro W_1 x hC hall
  refine then_n ?_
  obtain ⟨a_1, ha⟩ : ∃ a, a = putE x a_0 [(0, some 9), (1, some 10), (2, some 11)] := ⟨_, rfl⟩
  rw [← ha]
  have hN_1 := size_behind ha hN_0
  have hD_1 := defers_behind ha hD_0
  have bb_1 := bb_0.trans hC.below
  have e1_1 := slot_old ha (by kernel_rfl) e1_0
  have e2_1 := slot_old ha (by kernel_rfl) e2_0
  have e3_1 := slot_old ha (by kernel_rfl) e3_0
  have e6_1 := slot_old ha (by kernel_rfl) e6_0
  have f1_1 := hC.at0 f1_0
  have f1'_1 := hC.at0 f1'_0
  have S_1 := hC.holds S_0
  have R_1 := hC.holds R_0
  have LL_1 := hC.prs (by simp) LL_0
  have e9_1 := (slot_new (t := 9) (i := 0) ha hN_0 (by kernel_rfl) (by kernel_rfl)).trans (show x 0 = .slice (some ⟨g2, 0, none⟩) 3 3 from hall 0 (of_decide_eq_true (by kernel_rfl)))
  have e10_1 := (slot_new (t := 10) (i := 1) ha hN_0 (by kernel_rfl) (by kernel_rfl)).trans (show x 1 = .int .i64 (3) from hall 1 (of_decide_eq_true (by kernel_rfl)))
  have e11_1 := (slot_new (t := 11) (i := 2) ha hN_0 (by kernel_rfl) (by kernel_rfl)).trans (show x 2 = .int .i64 (0) from hall 2 (of_decide_eq_true (by kernel_rfl)))
  clear hall hC ha bb_0 hD_0 e1_0 e2_0 e3_0 e6_0 f1_0 f1'_0 S_0 R_0 LL_0
  repeat (first | refine wp_seq ?_ | (refine wp_skip ?_; refine then_n ?_))
  refine wp_block ?_
  refine wp_loop (fun ac W => ac.tmps.size = 22 ∧ ac.defers = [] ∧ ac.eval (.tmp 1) = .func (.func 38) #[] #[] ∧ ac.eval (.tmp 3) = .pointer (some ⟨w.heap.size, 0, none⟩) ∧ ac.eval (.tmp 6) = .pointer (some ⟨w.heap.size + 1, 0, none⟩) ∧ ac.eval (.tmp 9) = .slice (some ⟨g2, 0, none⟩) 3 3 ∧ ac.eval (.tmp 10) = .int .i64 (3) ∧ Below w.heap.size w W ∧ (∃ q1 q2 q3 q4, Holds_ W w.heap.size #[q1, q2, q3, q4]) ∧ Holds_ W (w.heap.size + 1) #[Value.bool false, Value.slice none 0 0, Value.bool false, Value.slice none 0 0] ∧ PRs W g2 [(9, a.num, (a.den : Int)), (9, b.num, (b.den : Int)), (9, c.num, (c.den : Int))] ∧ ((ac.eval (.tmp 11) = .int .i64 (0) ∧ AtR W w.heap.size 0 9 (((0 : Rat)).num) ∧ AtR W w.heap.size 2 9 ((((0 : Rat)).den : Int))) ∨ (ac.eval (.tmp 11) = .int .i64 (1) ∧ AtR W w.heap.size 0 9 (a.num) ∧ AtR W w.heap.size 2 9 ((a.den : Int))) ∨ (ac.eval (.tmp 11) = .int .i64 (2) ∧ AtR W w.heap.size 0 19 ((a + b).num) ∧ AtR W w.heap.size 2 19 (((a + b).den : Int))) ∨ (ac.eval (.tmp 11) = .int .i64 (3) ∧ AtR W w.heap.size 0 39 (((a + b) + c).num) ∧ AtR W w.heap.size 2 39 ((((a + b) + c).den : Int))))) (fun ac _ => 3 - (intOf (ac.eval (.tmp 11))).toNat) ?_ ?_
  · exact ⟨hN_1, hD_1, e1_1, e3_1, e6_1, e9_1, e10_1, bb_1, ⟨_, _, _, _, S_1⟩, R_1, LL_1, .inl ⟨e11_1, f1_1, f1'_1⟩⟩
  clear hN_1 hD_1 e1_1 e3_1 e6_1 e9_1 e10_1 e11_1 bb_1 S_1 R_1 LL_1 f1_1 f1'_1
  rintro a_1 W_1 ⟨hN_1, hD_1, e1_1, e3_1, e6_1, e9_1, e10_1, bb_1, ⟨_, _, _, _, S_1⟩, R_1, LL_1, hor⟩
  rcases hor with ⟨e11_1, f1_1, f1'_1⟩ | ⟨e11_1, f1_1, f1'_1⟩ | ⟨e11_1, f1_1, f1'_1⟩ | ⟨e11_1, f1_1, f1'_1⟩
  ·
    have hm : intOf (a_1.eval (.tmp 11)) = 0 := by rw [e11_1]; rfl
    rw [hm]
    clear hm
    repeat (first | refine wp_seq ?_ | (refine wp_skip ?_; refine then_n ?_))
    refine wp_region_law hN_1 w.heap.size
      [kIs (.bool true)]
      [ [] ]
      [(0, some 12)] [] [] (by kernel_rfl) (by kernel_rfl) (by kernel_rfl) (by kernel_rfl) (by kernel_rfl) (by kernel_rfl) (by kernel_rfl) bb_1.size ?_ ?_
    ·
      refine pk_cons rfl rfl (st_pure [] [(11, .int .i64 (0)), (10, .int .i64 (3))] (.bool true) rfl hN_1 (by kernel_rfl) (by kernel_rfl) (by kernel_rfl) (old2 e11_1 e10_1) (by kernel_rfl) (by kernel_rfl) (by kernel_rfl) (fun _ => by kernel_rfl)) ?_
      exact pk_nil rfl
    intro W_2 x hC hall
    refine then_n ?_
    obtain ⟨a_2, ha⟩ : ∃ a, a = putE x a_1 [(0, some 12)] := ⟨_, rfl⟩
    rw [← ha]
    have hN_2 := size_behind ha hN_1
    have hD_2 := defers_behind ha hD_1
    have bb_2 := bb_1.trans hC.below
    have e1_2 := slot_old ha (by kernel_rfl) e1_1
    have e3_2 := slot_old ha (by kernel_rfl) e3_1
    have e6_2 := slot_old ha (by kernel_rfl) e6_1
    have e9_2 := slot_old ha (by kernel_rfl) e9_1
    have e10_2 := slot_old ha (by kernel_rfl) e10_1
    have e11_2 := slot_old ha (by kernel_rfl) e11_1
    have f1_2 := hC.at0 f1_1
    have f1'_2 := hC.at0 f1'_1
    have S_2 := hC.holds S_1
    have R_2 := hC.holds R_1
    have LL_2 := hC.prs (by simp) LL_1
    have e12_2 := (slot_new (t := 12) (i := 0) ha hN_1 (by kernel_rfl) (by kernel_rfl)).trans (show x 0 = .bool true from hall 0 (of_decide_eq_true (by kernel_rfl)))
    clear hall hC ha bb_1 hD_1 e1_1 e3_1 e6_1 e9_1 e10_1 e11_1 f1_1 f1'_1 S_1 R_1 LL_1
    repeat (first | refine wp_seq ?_ | (refine wp_skip ?_; refine then_n ?_))
    refine wp_cond_true e12_2 ?_
    repeat (first | refine wp_seq ?_ | (refine wp_skip ?_; refine then_n ?_))
    refine wp_block ?_
    repeat (first | refine wp_seq ?_ | (refine wp_skip ?_; refine then_n ?_))
    refine wp_region_law hN_2 w.heap.size
      [kIs (.pointer (some ⟨g2, 0, none⟩)), kP 9 (a.num) ((a.den : Int)), PK.fresh 4, kPutP 2 9 (a.num) ((a.den : Int))]
      [ [], [(0, some 13)], [], [(2, some 8), (1, some 14)] ]
      [(0, some 13), (1, some 14), (2, some 8), (3, none)] [] [] (by kernel_rfl) (by kernel_rfl) (by kernel_rfl) (by kernel_rfl) (by kernel_rfl) (by kernel_rfl) (by kernel_rfl) bb_2.size ?_ ?_
    ·
      refine pk_cons rfl rfl (st_pure [] [(9, .slice (some ⟨g2, 0, none⟩) 3 3), (11, .int .i64 (0))] (.pointer (some ⟨g2, 0, none⟩)) rfl hN_2 (by kernel_rfl) (by kernel_rfl) (by kernel_rfl) (old2 e9_2 e11_2) (by kernel_rfl) (by kernel_rfl) (by kernel_rfl) (fun _ => by kernel_rfl)) ?_
      refine pk_cons rfl rfl (st_loadPI LL_2 (n := 0) rfl rfl (by simp) hN_2 (by kernel_rfl) (by kernel_rfl) rfl rfl) ?_
      refine pk_cons rfl rfl (st_allocP hN_2 (by kernel_rfl) (Nat.le_refl _) rfl) ?_
      refine pk_cons rfl rfl (st_putP hN_2 (by kernel_rfl) (by kernel_rfl) (by kernel_rfl) rfl rfl rfl) ?_
      exact pk_nil rfl
    intro W_3 x hC hall
    refine then_n ?_
    obtain ⟨a_3, ha⟩ : ∃ a, a = putE x a_2 [(0, some 13), (1, some 14), (2, some 8), (3, none)] := ⟨_, rfl⟩
    rw [← ha]
    have hN_3 := size_behind ha hN_2
    have hD_3 := defers_behind ha hD_2
    have bb_3 := bb_2.trans hC.below
    have e1_3 := slot_old ha (by kernel_rfl) e1_2
    have e3_3 := slot_old ha (by kernel_rfl) e3_2
    have e6_3 := slot_old ha (by kernel_rfl) e6_2
    have e9_3 := slot_old ha (by kernel_rfl) e9_2
    have e10_3 := slot_old ha (by kernel_rfl) e10_2
    have e11_3 := slot_old ha (by kernel_rfl) e11_2
    have e12_3 := slot_old ha (by kernel_rfl) e12_2
    have f1_3 := hC.at0 f1_2
    have f1'_3 := hC.at0 f1'_2
    have S_3 := hC.holds S_2
    have R_3 := hC.holds R_2
    have LL_3 := hC.prs (by simp) LL_2
    obtain ⟨g8, hx, hge, p8_3, p8'_3⟩ := put_atP (show (kPutP 2 9 (a.num) ((a.den : Int))).sem _ _ _ _ from hall 3 (of_decide_eq_true (by kernel_rfl)))
    have e8_3 := (slot_new (t := 8) (i := 2) ha hN_2 (by kernel_rfl) (by kernel_rfl)).trans hx
    have d8 := Nat.lt_of_lt_of_le R_2.lt hge
    clear hx hge
    clear hall hC ha bb_2 hD_2 e1_2 e3_2 e6_2 e9_2 e10_2 e11_2 e12_2 f1_2 f1'_2 S_2 R_2 LL_2
    repeat (first | refine wp_seq ?_ | (refine wp_skip ?_; refine then_n ?_))
    refine wp_region_keep hN_3 w.heap.size (w.heap.size) S_3 (by omega) 5 [1]
      [kIs (.func (.func 38) #[] #[]), kP 9 (((0 : Rat)).num) ((((0 : Rat)).den : Int)), kP 9 (a.num) ((a.den : Int)), kP 9 (a.num) ((a.den : Int)), kP 19 ((((0 : Rat)) + a).num) (((((0 : Rat)) + a).den : Int)), kRes (w.heap.size) 19 ((((0 : Rat)) + a).num) (((((0 : Rat)) + a).den : Int))]
      [ [], [], [], [(2, some 17)], [(0, some 15), (1, some 16), (3, some 18)], [(4, some 19)] ]
      [(0, some 15), (1, some 16), (2, some 17), (3, some 18), (4, some 19), (5, none)] [] [] (by kernel_rfl) (by kernel_rfl) (by kernel_rfl) (by kernel_rfl) (by kernel_rfl) (by kernel_rfl) (by kernel_rfl) rfl (by kernel_rfl) bb_3.size ?_ ?_
    ·
      refine pkl_cons rfl rfl (st_pure [] [(1, .func (.func 38) #[] #[])] (.func (.func 38) #[] #[]) rfl hN_3 (by kernel_rfl) (by kernel_rfl) (by kernel_rfl) (old1 e1_3) (by kernel_rfl) (by kernel_rfl) (by kernel_rfl) (fun _ => by kernel_rfl)) ?_
      refine pkl_keep rfl rfl rfl ?_ ?_
      · exact st_loadKF f1_3 f1'_3 e3_3 hN_3 (by kernel_rfl) rfl
      refine pkl_cons rfl rfl (st_load4P p8_3 p8'_3 (by simp only [List.mem_singleton]; omega) e8_3 hN_3 (by kernel_rfl) rfl) ?_
      refine pkl_cons rfl rfl (st_call1 hN_3 (by kernel_rfl) (by kernel_rfl) (by kernel_rfl) rfl rfl fun w x v1 hC h1 => tp (of_9 (pm (by decide) h1))) ?_
      refine pkl_cons rfl rfl (st_call2V hN_3 (by kernel_rfl) (by kernel_rfl) (by kernel_rfl) (by kernel_rfl) (by kernel_rfl) (by kernel_rfl) (by kernel_rfl) (by kernel_rfl) rfl rfl rfl rfl fun w x v1 v2 hC h1 h2 => tp (plus_9 (pm (by decide) h1) (pm (by decide) h2))) ?_
      refine pkl_cons rfl rfl (st_resF S_3 rfl (by simp) e3_3 hN_3 (by kernel_rfl) (by kernel_rfl) rfl rfl) ?_
      exact pkl_nil rfl
    intro W_4 x hC hall
    obtain ⟨a_4, ha⟩ : ∃ a, a = putE x a_3 [(0, some 15), (1, some 16), (2, some 17), (3, some 18), (4, some 19), (5, none)] := ⟨_, rfl⟩
    rw [← ha]
    have hN_4 := size_behind ha hN_3
    have hD_4 := defers_behind ha hD_3
    have bb_4 := bb_3.trans hC.below
    have e1_4 := slot_old ha (by kernel_rfl) e1_3
    have e3_4 := slot_old ha (by kernel_rfl) e3_3
    have e6_4 := slot_old ha (by kernel_rfl) e6_3
    have e9_4 := slot_old ha (by kernel_rfl) e9_3
    have e10_4 := slot_old ha (by kernel_rfl) e10_3
    have e11_4 := slot_old ha (by kernel_rfl) e11_3
    have e12_4 := slot_old ha (by kernel_rfl) e12_3
    have e8_4 := slot_old ha (by kernel_rfl) e8_3
    have R_4 := hC.holdsG (by simp only [List.mem_singleton]; omega) R_3
    have LL_4 := hC.prs (by simp only [List.mem_singleton]; omega) LL_3
    have hres := show (kRes (w.heap.size) 19 ((((0 : Rat)) + a).num) (((((0 : Rat)) + a).den : Int))).sem _ _ _ _ from hall 5 (of_decide_eq_true (by kernel_rfl))
    obtain ⟨f1_4, f1'_4⟩ := res_atP hres
    obtain ⟨_, _, _, _, S_4⟩ := res_four hres
    clear hall hC ha hres
    refine in_block8 ?_
    refine then_n ?_
    refine wp_incr2 (n := 0) (m := 1) hN_4 (by kernel_rfl) e11_4 (fun _ => by kernel_rfl) ?_
    intro x hx
    obtain ⟨a_5, ha⟩ : ∃ a, a = putE x a_4 [(0, some 20), (1, some 11)] := ⟨_, rfl⟩
    rw [← ha]
    have hN_5 := size_behind ha hN_4
    have hD_5 := defers_behind ha hD_4
    have bb_5 := bb_4
    have e1_5 := slot_old ha (by kernel_rfl) e1_4
    have e3_5 := slot_old ha (by kernel_rfl) e3_4
    have e6_5 := slot_old ha (by kernel_rfl) e6_4
    have e9_5 := slot_old ha (by kernel_rfl) e9_4
    have e10_5 := slot_old ha (by kernel_rfl) e10_4
    have e12_5 := slot_old ha (by kernel_rfl) e12_4
    have e8_5 := slot_old ha (by kernel_rfl) e8_4
    have f1_5 := f1_4
    have f1'_5 := f1'_4
    have S_5 := S_4
    have R_5 := R_4
    have LL_5 := LL_4
    have e11_5 := (slot_new (t := 11) (i := 1) ha hN_4 (by kernel_rfl) (by kernel_rfl)).trans hx
    clear ha hx
    have hq : (0 : Rat) + a = a := Rat.zero_add a
    rw [hq] at f1_5 f1'_5
    refine ⟨⟨hN_5, hD_5, e1_5, e3_5, e6_5, e9_5, e10_5, bb_5, ⟨_, _, _, _, S_5⟩, R_5, LL_5, .inr (.inl ⟨e11_5, f1_5.tight HB0.out.1, f1'_5.tight HB0.out.2⟩)⟩, ?_⟩
    rw [e11_5]; decide
  ·
    have hm : intOf (a_1.eval (.tmp 11)) = 1 := by rw [e11_1]; rfl
    rw [hm]
    clear hm
    repeat (first | refine wp_seq ?_ | (refine wp_skip ?_; refine then_n ?_))
    refine wp_region_law hN_1 w.heap.size
      [kIs (.bool true)]
      [ [] ]
      [(0, some 12)] [] [] (by kernel_rfl) (by kernel_rfl) (by kernel_rfl) (by kernel_rfl) (by kernel_rfl) (by kernel_rfl) (by kernel_rfl) bb_1.size ?_ ?_
    ·
      refine pk_cons rfl rfl (st_pure [] [(11, .int .i64 (1)), (10, .int .i64 (3))] (.bool true) rfl hN_1 (by kernel_rfl) (by kernel_rfl) (by kernel_rfl) (old2 e11_1 e10_1) (by kernel_rfl) (by kernel_rfl) (by kernel_rfl) (fun _ => by kernel_rfl)) ?_
      exact pk_nil rfl
    intro W_2 x hC hall
    refine then_n ?_
    obtain ⟨a_2, ha⟩ : ∃ a, a = putE x a_1 [(0, some 12)] := ⟨_, rfl⟩
    rw [← ha]
    have hN_2 := size_behind ha hN_1
    have hD_2 := defers_behind ha hD_1
    have bb_2 := bb_1.trans hC.below
    have e1_2 := slot_old ha (by kernel_rfl) e1_1
    have e3_2 := slot_old ha (by kernel_rfl) e3_1
    have e6_2 := slot_old ha (by kernel_rfl) e6_1
    have e9_2 := slot_old ha (by kernel_rfl) e9_1
    have e10_2 := slot_old ha (by kernel_rfl) e10_1
    have e11_2 := slot_old ha (by kernel_rfl) e11_1
    have f1_2 := hC.at0 f1_1
    have f1'_2 := hC.at0 f1'_1
    have S_2 := hC.holds S_1
    have R_2 := hC.holds R_1
    have LL_2 := hC.prs (by simp) LL_1
    have e12_2 := (slot_new (t := 12) (i := 0) ha hN_1 (by kernel_rfl) (by kernel_rfl)).trans (show x 0 = .bool true from hall 0 (of_decide_eq_true (by kernel_rfl)))
    clear hall hC ha bb_1 hD_1 e1_1 e3_1 e6_1 e9_1 e10_1 e11_1 f1_1 f1'_1 S_1 R_1 LL_1
    repeat (first | refine wp_seq ?_ | (refine wp_skip ?_; refine then_n ?_))
    refine wp_cond_true e12_2 ?_
    repeat (first | refine wp_seq ?_ | (refine wp_skip ?_; refine then_n ?_))
    refine wp_block ?_
    repeat (first | refine wp_seq ?_ | (refine wp_skip ?_; refine then_n ?_))
    refine wp_region_law hN_2 w.heap.size
      [kIs (.pointer (some ⟨g2, 4, none⟩)), kP 9 (b.num) ((b.den : Int)), PK.fresh 4, kPutP 2 9 (b.num) ((b.den : Int))]
      [ [], [(0, some 13)], [], [(2, some 8), (1, some 14)] ]
      [(0, some 13), (1, some 14), (2, some 8), (3, none)] [] [] (by kernel_rfl) (by kernel_rfl) (by kernel_rfl) (by kernel_rfl) (by kernel_rfl) (by kernel_rfl) (by kernel_rfl) bb_2.size ?_ ?_
    ·
      refine pk_cons rfl rfl (st_pure [] [(9, .slice (some ⟨g2, 0, none⟩) 3 3), (11, .int .i64 (1))] (.pointer (some ⟨g2, 4, none⟩)) rfl hN_2 (by kernel_rfl) (by kernel_rfl) (by kernel_rfl) (old2 e9_2 e11_2) (by kernel_rfl) (by kernel_rfl) (by kernel_rfl) (fun _ => by kernel_rfl)) ?_
      refine pk_cons rfl rfl (st_loadPI LL_2 (n := 1) rfl rfl (by simp) hN_2 (by kernel_rfl) (by kernel_rfl) rfl rfl) ?_
      refine pk_cons rfl rfl (st_allocP hN_2 (by kernel_rfl) (Nat.le_refl _) rfl) ?_
      refine pk_cons rfl rfl (st_putP hN_2 (by kernel_rfl) (by kernel_rfl) (by kernel_rfl) rfl rfl rfl) ?_
      exact pk_nil rfl
    intro W_3 x hC hall
    refine then_n ?_
    obtain ⟨a_3, ha⟩ : ∃ a, a = putE x a_2 [(0, some 13), (1, some 14), (2, some 8), (3, none)] := ⟨_, rfl⟩
    rw [← ha]
    have hN_3 := size_behind ha hN_2
    have hD_3 := defers_behind ha hD_2
    have bb_3 := bb_2.trans hC.below
    have e1_3 := slot_old ha (by kernel_rfl) e1_2
    have e3_3 := slot_old ha (by kernel_rfl) e3_2
    have e6_3 := slot_old ha (by kernel_rfl) e6_2
    have e9_3 := slot_old ha (by kernel_rfl) e9_2
    have e10_3 := slot_old ha (by kernel_rfl) e10_2
    have e11_3 := slot_old ha (by kernel_rfl) e11_2
    have e12_3 := slot_old ha (by kernel_rfl) e12_2
    have f1_3 := hC.at0 f1_2
    have f1'_3 := hC.at0 f1'_2
    have S_3 := hC.holds S_2
    have R_3 := hC.holds R_2
    have LL_3 := hC.prs (by simp) LL_2
    obtain ⟨g8, hx, hge, p8_3, p8'_3⟩ := put_atP (show (kPutP 2 9 (b.num) ((b.den : Int))).sem _ _ _ _ from hall 3 (of_decide_eq_true (by kernel_rfl)))
    have e8_3 := (slot_new (t := 8) (i := 2) ha hN_2 (by kernel_rfl) (by kernel_rfl)).trans hx
    have d8 := Nat.lt_of_lt_of_le R_2.lt hge
    clear hx hge
    clear hall hC ha bb_2 hD_2 e1_2 e3_2 e6_2 e9_2 e10_2 e11_2 e12_2 f1_2 f1'_2 S_2 R_2 LL_2
    repeat (first | refine wp_seq ?_ | (refine wp_skip ?_; refine then_n ?_))
    refine wp_region_keep hN_3 w.heap.size (w.heap.size) S_3 (by omega) 5 [1]
      [kIs (.func (.func 38) #[] #[]), kP 9 (a.num) ((a.den : Int)), kP 9 (b.num) ((b.den : Int)), kP 9 (b.num) ((b.den : Int)), kP 19 ((a + b).num) (((a + b).den : Int)), kRes (w.heap.size) 19 ((a + b).num) (((a + b).den : Int))]
      [ [], [], [], [(2, some 17)], [(0, some 15), (1, some 16), (3, some 18)], [(4, some 19)] ]
      [(0, some 15), (1, some 16), (2, some 17), (3, some 18), (4, some 19), (5, none)] [] [] (by kernel_rfl) (by kernel_rfl) (by kernel_rfl) (by kernel_rfl) (by kernel_rfl) (by kernel_rfl) (by kernel_rfl) rfl (by kernel_rfl) bb_3.size ?_ ?_
    ·
      refine pkl_cons rfl rfl (st_pure [] [(1, .func (.func 38) #[] #[])] (.func (.func 38) #[] #[]) rfl hN_3 (by kernel_rfl) (by kernel_rfl) (by kernel_rfl) (old1 e1_3) (by kernel_rfl) (by kernel_rfl) (by kernel_rfl) (fun _ => by kernel_rfl)) ?_
      refine pkl_keep rfl rfl rfl ?_ ?_
      · exact st_loadKF f1_3 f1'_3 e3_3 hN_3 (by kernel_rfl) rfl
      refine pkl_cons rfl rfl (st_load4P p8_3 p8'_3 (by simp only [List.mem_singleton]; omega) e8_3 hN_3 (by kernel_rfl) rfl) ?_
      refine pkl_cons rfl rfl (st_call1 hN_3 (by kernel_rfl) (by kernel_rfl) (by kernel_rfl) rfl rfl fun w x v1 hC h1 => tp (of_9 (pm (by decide) h1))) ?_
      refine pkl_cons rfl rfl (st_call2V hN_3 (by kernel_rfl) (by kernel_rfl) (by kernel_rfl) (by kernel_rfl) (by kernel_rfl) (by kernel_rfl) (by kernel_rfl) (by kernel_rfl) rfl rfl rfl rfl fun w x v1 v2 hC h1 h2 => tp (plus_9 (pm (by decide) h1) (pm (by decide) h2))) ?_
      refine pkl_cons rfl rfl (st_resF S_3 rfl (by simp) e3_3 hN_3 (by kernel_rfl) (by kernel_rfl) rfl rfl) ?_
      exact pkl_nil rfl
    intro W_4 x hC hall
    obtain ⟨a_4, ha⟩ : ∃ a, a = putE x a_3 [(0, some 15), (1, some 16), (2, some 17), (3, some 18), (4, some 19), (5, none)] := ⟨_, rfl⟩
    rw [← ha]
    have hN_4 := size_behind ha hN_3
    have hD_4 := defers_behind ha hD_3
    have bb_4 := bb_3.trans hC.below
    have e1_4 := slot_old ha (by kernel_rfl) e1_3
    have e3_4 := slot_old ha (by kernel_rfl) e3_3
    have e6_4 := slot_old ha (by kernel_rfl) e6_3
    have e9_4 := slot_old ha (by kernel_rfl) e9_3
    have e10_4 := slot_old ha (by kernel_rfl) e10_3
    have e11_4 := slot_old ha (by kernel_rfl) e11_3
    have e12_4 := slot_old ha (by kernel_rfl) e12_3
    have e8_4 := slot_old ha (by kernel_rfl) e8_3
    have R_4 := hC.holdsG (by simp only [List.mem_singleton]; omega) R_3
    have LL_4 := hC.prs (by simp only [List.mem_singleton]; omega) LL_3
    have hres := show (kRes (w.heap.size) 19 ((a + b).num) (((a + b).den : Int))).sem _ _ _ _ from hall 5 (of_decide_eq_true (by kernel_rfl))
    obtain ⟨f1_4, f1'_4⟩ := res_atP hres
    obtain ⟨_, _, _, _, S_4⟩ := res_four hres
    clear hall hC ha hres
    refine in_block8 ?_
    refine then_n ?_
    refine wp_incr2 (n := 1) (m := 2) hN_4 (by kernel_rfl) e11_4 (fun _ => by kernel_rfl) ?_
    intro x hx
    obtain ⟨a_5, ha⟩ : ∃ a, a = putE x a_4 [(0, some 20), (1, some 11)] := ⟨_, rfl⟩
    rw [← ha]
    have hN_5 := size_behind ha hN_4
    have hD_5 := defers_behind ha hD_4
    have bb_5 := bb_4
    have e1_5 := slot_old ha (by kernel_rfl) e1_4
    have e3_5 := slot_old ha (by kernel_rfl) e3_4
    have e6_5 := slot_old ha (by kernel_rfl) e6_4
    have e9_5 := slot_old ha (by kernel_rfl) e9_4
    have e10_5 := slot_old ha (by kernel_rfl) e10_4
    have e12_5 := slot_old ha (by kernel_rfl) e12_4
    have e8_5 := slot_old ha (by kernel_rfl) e8_4
    have f1_5 := f1_4
    have f1'_5 := f1'_4
    have S_5 := S_4
    have R_5 := R_4
    have LL_5 := LL_4
    have e11_5 := (slot_new (t := 11) (i := 1) ha hN_4 (by kernel_rfl) (by kernel_rfl)).trans hx
    clear ha hx
    refine ⟨⟨hN_5, hD_5, e1_5, e3_5, e6_5, e9_5, e10_5, bb_5, ⟨_, _, _, _, S_5⟩, R_5, LL_5, .inr (.inr (.inl ⟨e11_5, f1_5, f1'_5⟩))⟩, ?_⟩
    rw [e11_5]; decide
  ·
    have hm : intOf (a_1.eval (.tmp 11)) = 2 := by rw [e11_1]; rfl
    rw [hm]
    clear hm
    repeat (first | refine wp_seq ?_ | (refine wp_skip ?_; refine then_n ?_))
    refine wp_region_law hN_1 w.heap.size
      [kIs (.bool true)]
      [ [] ]
      [(0, some 12)] [] [] (by kernel_rfl) (by kernel_rfl) (by kernel_rfl) (by kernel_rfl) (by kernel_rfl) (by kernel_rfl) (by kernel_rfl) bb_1.size ?_ ?_
    ·
      refine pk_cons rfl rfl (st_pure [] [(11, .int .i64 (2)), (10, .int .i64 (3))] (.bool true) rfl hN_1 (by kernel_rfl) (by kernel_rfl) (by kernel_rfl) (old2 e11_1 e10_1) (by kernel_rfl) (by kernel_rfl) (by kernel_rfl) (fun _ => by kernel_rfl)) ?_
      exact pk_nil rfl
    intro W_2 x hC hall
    refine then_n ?_
    obtain ⟨a_2, ha⟩ : ∃ a, a = putE x a_1 [(0, some 12)] := ⟨_, rfl⟩
    rw [← ha]
    have hN_2 := size_behind ha hN_1
    have hD_2 := defers_behind ha hD_1
    have bb_2 := bb_1.trans hC.below
    have e1_2 := slot_old ha (by kernel_rfl) e1_1
    have e3_2 := slot_old ha (by kernel_rfl) e3_1
    have e6_2 := slot_old ha (by kernel_rfl) e6_1
    have e9_2 := slot_old ha (by kernel_rfl) e9_1
    have e10_2 := slot_old ha (by kernel_rfl) e10_1
    have e11_2 := slot_old ha (by kernel_rfl) e11_1
    have f1_2 := hC.at0 f1_1
    have f1'_2 := hC.at0 f1'_1
    have S_2 := hC.holds S_1
    have R_2 := hC.holds R_1
    have LL_2 := hC.prs (by simp) LL_1
    have e12_2 := (slot_new (t := 12) (i := 0) ha hN_1 (by kernel_rfl) (by kernel_rfl)).trans (show x 0 = .bool true from hall 0 (of_decide_eq_true (by kernel_rfl)))
    clear hall hC ha bb_1 hD_1 e1_1 e3_1 e6_1 e9_1 e10_1 e11_1 f1_1 f1'_1 S_1 R_1 LL_1
    repeat (first | refine wp_seq ?_ | (refine wp_skip ?_; refine then_n ?_))
    refine wp_cond_true e12_2 ?_
    repeat (first | refine wp_seq ?_ | (refine wp_skip ?_; refine then_n ?_))
    refine wp_block ?_
    repeat (first | refine wp_seq ?_ | (refine wp_skip ?_; refine then_n ?_))
    refine wp_region_law hN_2 w.heap.size
      [kIs (.pointer (some ⟨g2, 8, none⟩)), kP 9 (c.num) ((c.den : Int)), PK.fresh 4, kPutP 2 9 (c.num) ((c.den : Int))]
      [ [], [(0, some 13)], [], [(2, some 8), (1, some 14)] ]
      [(0, some 13), (1, some 14), (2, some 8), (3, none)] [] [] (by kernel_rfl) (by kernel_rfl) (by kernel_rfl) (by kernel_rfl) (by kernel_rfl) (by kernel_rfl) (by kernel_rfl) bb_2.size ?_ ?_
    ·
      refine pk_cons rfl rfl (st_pure [] [(9, .slice (some ⟨g2, 0, none⟩) 3 3), (11, .int .i64 (2))] (.pointer (some ⟨g2, 8, none⟩)) rfl hN_2 (by kernel_rfl) (by kernel_rfl) (by kernel_rfl) (old2 e9_2 e11_2) (by kernel_rfl) (by kernel_rfl) (by kernel_rfl) (fun _ => by kernel_rfl)) ?_
      refine pk_cons rfl rfl (st_loadPI LL_2 (n := 2) rfl rfl (by simp) hN_2 (by kernel_rfl) (by kernel_rfl) rfl rfl) ?_
      refine pk_cons rfl rfl (st_allocP hN_2 (by kernel_rfl) (Nat.le_refl _) rfl) ?_
      refine pk_cons rfl rfl (st_putP hN_2 (by kernel_rfl) (by kernel_rfl) (by kernel_rfl) rfl rfl rfl) ?_
      exact pk_nil rfl
    intro W_3 x hC hall
    refine then_n ?_
    obtain ⟨a_3, ha⟩ : ∃ a, a = putE x a_2 [(0, some 13), (1, some 14), (2, some 8), (3, none)] := ⟨_, rfl⟩
    rw [← ha]
    have hN_3 := size_behind ha hN_2
    have hD_3 := defers_behind ha hD_2
    have bb_3 := bb_2.trans hC.below
    have e1_3 := slot_old ha (by kernel_rfl) e1_2
    have e3_3 := slot_old ha (by kernel_rfl) e3_2
    have e6_3 := slot_old ha (by kernel_rfl) e6_2
    have e9_3 := slot_old ha (by kernel_rfl) e9_2
    have e10_3 := slot_old ha (by kernel_rfl) e10_2
    have e11_3 := slot_old ha (by kernel_rfl) e11_2
    have e12_3 := slot_old ha (by kernel_rfl) e12_2
    have f1_3 := hC.at0 f1_2
    have f1'_3 := hC.at0 f1'_2
    have S_3 := hC.holds S_2
    have R_3 := hC.holds R_2
    have LL_3 := hC.prs (by simp) LL_2
    obtain ⟨g8, hx, hge, p8_3, p8'_3⟩ := put_atP (show (kPutP 2 9 (c.num) ((c.den : Int))).sem _ _ _ _ from hall 3 (of_decide_eq_true (by kernel_rfl)))
    have e8_3 := (slot_new (t := 8) (i := 2) ha hN_2 (by kernel_rfl) (by kernel_rfl)).trans hx
    have d8 := Nat.lt_of_lt_of_le R_2.lt hge
    clear hx hge
    clear hall hC ha bb_2 hD_2 e1_2 e3_2 e6_2 e9_2 e10_2 e11_2 e12_2 f1_2 f1'_2 S_2 R_2 LL_2
    repeat (first | refine wp_seq ?_ | (refine wp_skip ?_; refine then_n ?_))
    refine wp_region_keep hN_3 w.heap.size (w.heap.size) S_3 (by omega) 5 [1]
      [kIs (.func (.func 38) #[] #[]), kP 19 ((a + b).num) (((a + b).den : Int)), kP 9 (c.num) ((c.den : Int)), kP 9 (c.num) ((c.den : Int)), kP 39 (((a + b) + c).num) ((((a + b) + c).den : Int)), kRes (w.heap.size) 39 (((a + b) + c).num) ((((a + b) + c).den : Int))]
      [ [], [], [], [(2, some 17)], [(0, some 15), (1, some 16), (3, some 18)], [(4, some 19)] ]
      [(0, some 15), (1, some 16), (2, some 17), (3, some 18), (4, some 19), (5, none)] [] [] (by kernel_rfl) (by kernel_rfl) (by kernel_rfl) (by kernel_rfl) (by kernel_rfl) (by kernel_rfl) (by kernel_rfl) rfl (by kernel_rfl) bb_3.size ?_ ?_
    ·
      refine pkl_cons rfl rfl (st_pure [] [(1, .func (.func 38) #[] #[])] (.func (.func 38) #[] #[]) rfl hN_3 (by kernel_rfl) (by kernel_rfl) (by kernel_rfl) (old1 e1_3) (by kernel_rfl) (by kernel_rfl) (by kernel_rfl) (fun _ => by kernel_rfl)) ?_
      refine pkl_keep rfl rfl rfl ?_ ?_
      · exact st_loadKF f1_3 f1'_3 e3_3 hN_3 (by kernel_rfl) rfl
      refine pkl_cons rfl rfl (st_load4P p8_3 p8'_3 (by simp only [List.mem_singleton]; omega) e8_3 hN_3 (by kernel_rfl) rfl) ?_
      refine pkl_cons rfl rfl (st_call1 hN_3 (by kernel_rfl) (by kernel_rfl) (by kernel_rfl) rfl rfl fun w x v1 hC h1 => tp (of_9 (pm (by decide) h1))) ?_
      refine pkl_cons rfl rfl (st_call2V hN_3 (by kernel_rfl) (by kernel_rfl) (by kernel_rfl) (by kernel_rfl) (by kernel_rfl) (by kernel_rfl) (by kernel_rfl) (by kernel_rfl) rfl rfl rfl rfl fun w x v1 v2 hC h1 h2 => tp (plus_19 (pm (by decide) h1) (pm (by decide) h2))) ?_
      refine pkl_cons rfl rfl (st_resF S_3 rfl (by simp) e3_3 hN_3 (by kernel_rfl) (by kernel_rfl) rfl rfl) ?_
      exact pkl_nil rfl
    intro W_4 x hC hall
    obtain ⟨a_4, ha⟩ : ∃ a, a = putE x a_3 [(0, some 15), (1, some 16), (2, some 17), (3, some 18), (4, some 19), (5, none)] := ⟨_, rfl⟩
    rw [← ha]
    have hN_4 := size_behind ha hN_3
    have hD_4 := defers_behind ha hD_3
    have bb_4 := bb_3.trans hC.below
    have e1_4 := slot_old ha (by kernel_rfl) e1_3
    have e3_4 := slot_old ha (by kernel_rfl) e3_3
    have e6_4 := slot_old ha (by kernel_rfl) e6_3
    have e9_4 := slot_old ha (by kernel_rfl) e9_3
    have e10_4 := slot_old ha (by kernel_rfl) e10_3
    have e11_4 := slot_old ha (by kernel_rfl) e11_3
    have e12_4 := slot_old ha (by kernel_rfl) e12_3
    have e8_4 := slot_old ha (by kernel_rfl) e8_3
    have R_4 := hC.holdsG (by simp only [List.mem_singleton]; omega) R_3
    have LL_4 := hC.prs (by simp only [List.mem_singleton]; omega) LL_3
    have hres := show (kRes (w.heap.size) 39 (((a + b) + c).num) ((((a + b) + c).den : Int))).sem _ _ _ _ from hall 5 (of_decide_eq_true (by kernel_rfl))
    obtain ⟨f1_4, f1'_4⟩ := res_atP hres
    obtain ⟨_, _, _, _, S_4⟩ := res_four hres
    clear hall hC ha hres
    refine in_block8 ?_
    refine then_n ?_
    refine wp_incr2 (n := 2) (m := 3) hN_4 (by kernel_rfl) e11_4 (fun _ => by kernel_rfl) ?_
    intro x hx
    obtain ⟨a_5, ha⟩ : ∃ a, a = putE x a_4 [(0, some 20), (1, some 11)] := ⟨_, rfl⟩
    rw [← ha]
    have hN_5 := size_behind ha hN_4
    have hD_5 := defers_behind ha hD_4
    have bb_5 := bb_4
    have e1_5 := slot_old ha (by kernel_rfl) e1_4
    have e3_5 := slot_old ha (by kernel_rfl) e3_4
    have e6_5 := slot_old ha (by kernel_rfl) e6_4
    have e9_5 := slot_old ha (by kernel_rfl) e9_4
    have e10_5 := slot_old ha (by kernel_rfl) e10_4
    have e12_5 := slot_old ha (by kernel_rfl) e12_4
    have e8_5 := slot_old ha (by kernel_rfl) e8_4
    have f1_5 := f1_4
    have f1'_5 := f1'_4
    have S_5 := S_4
    have R_5 := R_4
    have LL_5 := LL_4
    have e11_5 := (slot_new (t := 11) (i := 1) ha hN_4 (by kernel_rfl) (by kernel_rfl)).trans hx
    clear ha hx
    refine ⟨⟨hN_5, hD_5, e1_5, e3_5, e6_5, e9_5, e10_5, bb_5, ⟨_, _, _, _, S_5⟩, R_5, LL_5, .inr (.inr (.inr (⟨e11_5, f1_5, f1'_5⟩)))⟩, ?_⟩
    rw [e11_5]; decide
  ·
    have hm : intOf (a_1.eval (.tmp 11)) = 3 := by rw [e11_1]; rfl
    rw [hm]
    clear hm
    repeat (first | refine wp_seq ?_ | (refine wp_skip ?_; refine then_n ?_))
    refine wp_region_law hN_1 w.heap.size
      [kIs (.bool false)]
      [ [] ]
      [(0, some 12)] [] [] (by kernel_rfl) (by kernel_rfl) (by kernel_rfl) (by kernel_rfl) (by kernel_rfl) (by kernel_rfl) (by kernel_rfl) bb_1.size ?_ ?_
    ·
      refine pk_cons rfl rfl (st_pure [] [(11, .int .i64 (3)), (10, .int .i64 (3))] (.bool false) rfl hN_1 (by kernel_rfl) (by kernel_rfl) (by kernel_rfl) (old2 e11_1 e10_1) (by kernel_rfl) (by kernel_rfl) (by kernel_rfl) (fun _ => by kernel_rfl)) ?_
      exact pk_nil rfl
    intro W_2 x hC hall
    refine then_n ?_
    obtain ⟨a_2, ha⟩ : ∃ a, a = putE x a_1 [(0, some 12)] := ⟨_, rfl⟩
    rw [← ha]
    have hN_2 := size_behind ha hN_1
    have hD_2 := defers_behind ha hD_1
    have bb_2 := bb_1.trans hC.below
    have e1_2 := slot_old ha (by kernel_rfl) e1_1
    have e3_2 := slot_old ha (by kernel_rfl) e3_1
    have e6_2 := slot_old ha (by kernel_rfl) e6_1
    have e9_2 := slot_old ha (by kernel_rfl) e9_1
    have e10_2 := slot_old ha (by kernel_rfl) e10_1
    have e11_2 := slot_old ha (by kernel_rfl) e11_1
    have f1_2 := hC.at0 f1_1
    have f1'_2 := hC.at0 f1'_1
    have S_2 := hC.holds S_1
    have R_2 := hC.holds R_1
    have LL_2 := hC.prs (by simp) LL_1
    have e12_2 := (slot_new (t := 12) (i := 0) ha hN_1 (by kernel_rfl) (by kernel_rfl)).trans (show x 0 = .bool false from hall 0 (of_decide_eq_true (by kernel_rfl)))
    clear hall hC ha bb_1 hD_1 e1_1 e3_1 e6_1 e9_1 e10_1 e11_1 f1_1 f1'_1 S_1 R_1 LL_1
    repeat (first | refine wp_seq ?_ | (refine wp_skip ?_; refine then_n ?_))
    refine wp_cond_false e12_2 ?_
    repeat (first | refine wp_seq ?_ | (refine wp_skip ?_; refine then_n ?_))
    refine wp_exit ?_
    repeat (refine then_x8 ?_)
    refine out_block8 ?_
    refine then_n ?_
    repeat (first | refine wp_seq ?_ | (refine wp_skip ?_; refine then_n ?_))
    refine wp_region_res hN_2 w.heap.size (w.heap.size + 1) R_2 (by omega)
      [kP 39 (((a + b) + c).num) ((((a + b) + c).den : Int)), kRes (w.heap.size + 1) 39 (((a + b) + c).num) ((((a + b) + c).den : Int))]
      [ [], [(0, some 21)] ]
      [(0, some 21), (1, none)] [] [] (by kernel_rfl) (by kernel_rfl) (by kernel_rfl) (by kernel_rfl) (by kernel_rfl) (by kernel_rfl) (by kernel_rfl) bb_2.size ?_ ?_
    ·
      refine pk_cons rfl rfl (st_load4F f1_2 f1'_2 (by simp only [List.mem_singleton]; omega) e3_2 hN_2 (by kernel_rfl) rfl) ?_
      refine pk_cons rfl rfl (st_resF R_2 rfl (by simp) e6_2 hN_2 (by kernel_rfl) (by kernel_rfl) rfl rfl) ?_
      exact pk_nil rfl
    intro W x hC hall
    refine then_n ?_
    obtain ⟨a1, ha⟩ : ∃ a, a = putE x a_2 [(0, some 21), (1, none)] := ⟨_, rfl⟩
    rw [← ha]
    have hD1 := defers_behind ha hD_2
    have bb1 := bb_2.trans hC.below
    obtain ⟨cs, hg, hP⟩ := (show (kRes (w.heap.size + 1) 39 (((a + b) + c).num) ((((a + b) + c).den : Int))).sem _ _ _ _ from hall 1 (of_decide_eq_true (by kernel_rfl)))
    have e1 := slot_old (t := 6) ha (by kernel_rfl) e6_2
    repeat (first | refine wp_seq ?_ | (refine wp_skip ?_; refine then_n ?_))
    refine wp_ret ?_
    repeat (refine then_r ?_)
    exact ret_cellF (t := 6) rfl hD1 e1 hg hP fun v hv => ⟨v, rfl, hv, bb1⟩
set_option maxRecDepth 100000 in
set_option maxHeartbeats 8000000 in
theorem fold2_plus_19 {w : World} {v0 v2 : Value} {a b : Rat} (h0 : Pr w v0 9 ((0 : Rat)).num (((0 : Rat)).den : Int)) (hl : PL w v2 [(19, a.num, (a.den : Int)), (19, b.num, (b.den : Int))]) :
    Calls Tryz.prog 37 #[v0, .func (.func 38) #[] #[], v2] w (TellsP w 39 ((a + b).num) (((a + b).den : Int))) := by
  obtain ⟨A1, l1, c1, A1', l1', c1', rfl, ⟨r1, u1⟩, r1', u1'⟩ := h0
  obtain ⟨b1, hb1⟩ : ∃ s, s = decide (((0 : Rat)).num < 0) := ⟨_, rfl⟩
  obtain ⟨b1', hb1'⟩ : ∃ s, s = decide ((((0 : Rat)).den : Int) < 0) := ⟨_, rfl⟩
  rw [← hb1, ← hb1']
  have H1 := Lib.hid (show _ ∧ _ ∧ _ ∧ _ ∧ _ ∧ _ from ⟨hb1, hb1', r1, u1, r1', u1'⟩)
  clear hb1 hb1' r1 u1 r1' u1'
  obtain ⟨g2, rfl, hg2, hl2⟩ := hl
  have HL := Lib.hid hl2
  clear hl2
  have HB0 := Lib.hid (HL.out.lt (j := 0) rfl)
  have HB1 := Lib.hid (HL.out.lt (j := 1) rfl)
  show Calls _ _ #[_, _, .slice (some ⟨g2, 0, none⟩) 2 2] _ _
  go_enter Tryz.func37, Tryz.ntmps37
  repeat (refine wp_seq ?_)
  refine region_k ?_
  intro K hK
  have HK := Lib.hid hK
  clear hK
  go_wp2
  refine HK.out _ _ ?_
  clear HK
  refine then_n ?_
  obtain ⟨W_0, hW⟩ : ∃ W, W = (w.alloc (Obj.cells #[Value.bool b1, Value.slice A1 l1 c1, Value.bool b1', Value.slice A1' l1' c1'] 53)).alloc (Obj.cells #[Value.bool false, Value.slice none 0 0, Value.bool false, Value.slice none 0 0] 53) := ⟨_, rfl⟩
  have bb_0 : Below w.heap.size w W_0 := by rw [hW]; exact bal (bal (Below.refl _ _) _) _
  have K0 : W_0.heap[w.heap.size]? = some (Obj.cells #[Value.bool b1, Value.slice A1 l1 c1, Value.bool b1', Value.slice A1' l1' c1'] 53) := by rw [hW]; rw [Below.heap_alloc _ _ _ (by simp <;> omega)]; exact new_at (by simp)
  have K1 : W_0.heap[w.heap.size + 1]? = some (Obj.cells #[Value.bool false, Value.slice none 0 0, Value.bool false, Value.slice none 0 0] 53) := by rw [hW]; exact new_at (by simp)
  rw [← hW]
  obtain ⟨m1, n1, m1', n1', _, _, _, _⟩ := four_cells K0
  have f1_0 : AtR W_0 (w.heap.size) 0 9 (((0 : Rat)).num) := ⟨A1, l1, c1, by rw [← H1.out.1]; exact m1, n1, A1, l1, c1, rfl, H1.out.2.2.1.below bb_0, H1.out.2.2.2.1⟩
  have f1'_0 : AtR W_0 (w.heap.size) 2 9 ((((0 : Rat)).den : Int)) := ⟨A1', l1', c1', by rw [← H1.out.2.1]; exact m1', n1', A1', l1', c1', rfl, H1.out.2.2.2.2.1.below bb_0, H1.out.2.2.2.2.2⟩
  have S_0 : Holds_ W_0 (w.heap.size) #[Value.bool b1, Value.slice A1 l1 c1, Value.bool b1', Value.slice A1' l1' c1'] := ⟨⟨_, K0⟩, by simp [noDig]⟩
  have R_0 : Holds_ W_0 (w.heap.size + 1) #[Value.bool false, Value.slice none 0 0, Value.bool false, Value.slice none 0 0] := ⟨⟨_, K1⟩, by simp [noDig]⟩
  have LL_0 := HL.out.below bb_0
  clear hW K0 K1 m1 n1 m1' n1'
  refine name_frame (G := fun a => Code.wp _ _ _ a _) ?_
  intro a_0 ha
  have hN_0 : a_0.tmps.size = 22 := by subst ha; kernel_rfl
  have hD_0 : a_0.defers = [] := by subst ha; rfl
  have e1_0 : a_0.eval (.tmp 1) = .func (.func 38) #[] #[] := by subst ha; kernel_rfl
  have e2_0 : a_0.eval (.tmp 2) = .slice (some ⟨g2, 0, none⟩) 2 2 := by subst ha; kernel_rfl
  have e3_0 : a_0.eval (.tmp 3) = .pointer (some ⟨w.heap.size, 0, none⟩) := by subst ha; kernel_rfl
  have e6_0 : a_0.eval (.tmp 6) = .pointer (some ⟨w.heap.size + 1, 0, none⟩) := by subst ha; kernel_rfl
  clear ha
  repeat (first | refine wp_seq ?_ | (refine wp_skip ?_; refine then_n ?_))
  refine wp_region_law hN_0 w.heap.size
    [kIs (.slice (some ⟨g2, 0, none⟩) 2 2), kIs (.int .i64 (2)), kIs (.int .i64 (0))]
    [ [], [(0, some 9)], [] ]
    [(0, some 9), (1, some 10), (2, some 11)] [] [] (by kernel_rfl) (by kernel_rfl) (by kernel_rfl) (by kernel_rfl) (by kernel_rfl) (by kernel_rfl) (by kernel_rfl) bb_0.size ?_ ?_
  ·
    refine pk_cons rfl rfl (st_pure [] [(2, .slice (some ⟨g2, 0, none⟩) 2 2)] (.slice (some ⟨g2, 0, none⟩) 2 2) rfl hN_0 (by kernel_rfl) (by kernel_rfl) (by kernel_rfl) (old1 e2_0) (by kernel_rfl) (by kernel_rfl) (by kernel_rfl) (fun _ => by kernel_rfl)) ?_
    refine pk_cons rfl rfl (st_pure [.slice (some ⟨g2, 0, none⟩) 2 2] [] (.int .i64 (2)) rfl hN_0 (by kernel_rfl) (by kernel_rfl) (by kernel_rfl) old0 (by kernel_rfl) (by kernel_rfl) (by kernel_rfl) (fun _ => by kernel_rfl)) ?_
    refine pk_cons rfl rfl (st_pure [] [] (.int .i64 (0)) rfl hN_0 (by kernel_rfl) (by kernel_rfl) (by kernel_rfl) old0 (by kernel_rfl) (by kernel_rfl) (by kernel_rfl) (fun _ => by kernel_rfl)) ?_
    exact pk_nil rfl
  intro W_1 x hC hall
  refine then_n ?_
  obtain ⟨a_1, ha⟩ : ∃ a, a = putE x a_0 [(0, some 9), (1, some 10), (2, some 11)] := ⟨_, rfl⟩
  rw [← ha]
  have hN_1 := size_behind ha hN_0
  have hD_1 := defers_behind ha hD_0
  have bb_1 := bb_0.trans hC.below
  have e1_1 := slot_old ha (by kernel_rfl) e1_0
  have e2_1 := slot_old ha (by kernel_rfl) e2_0
  have e3_1 := slot_old ha (by kernel_rfl) e3_0
  have e6_1 := slot_old ha (by kernel_rfl) e6_0
  have f1_1 := hC.at0 f1_0
  have f1'_1 := hC.at0 f1'_0
  have S_1 := hC.holds S_0
  have R_1 := hC.holds R_0
  have LL_1 := hC.prs (by simp) LL_0
  have e9_1 := (slot_new (t := 9) (i := 0) ha hN_0 (by kernel_rfl) (by kernel_rfl)).trans (show x 0 = .slice (some ⟨g2, 0, none⟩) 2 2 from hall 0 (of_decide_eq_true (by kernel_rfl)))
  have e10_1 := (slot_new (t := 10) (i := 1) ha hN_0 (by kernel_rfl) (by kernel_rfl)).trans (show x 1 = .int .i64 (2) from hall 1 (of_decide_eq_true (by kernel_rfl)))
  have e11_1 := (slot_new (t := 11) (i := 2) ha hN_0 (by kernel_rfl) (by kernel_rfl)).trans (show x 2 = .int .i64 (0) from hall 2 (of_decide_eq_true (by kernel_rfl)))
  clear hall hC ha bb_0 hD_0 e1_0 e2_0 e3_0 e6_0 f1_0 f1'_0 S_0 R_0 LL_0
  repeat (first | refine wp_seq ?_ | (refine wp_skip ?_; refine then_n ?_))
  refine wp_block ?_
  refine wp_loop (fun ac W => ac.tmps.size = 22 ∧ ac.defers = [] ∧ ac.eval (.tmp 1) = .func (.func 38) #[] #[] ∧ ac.eval (.tmp 3) = .pointer (some ⟨w.heap.size, 0, none⟩) ∧ ac.eval (.tmp 6) = .pointer (some ⟨w.heap.size + 1, 0, none⟩) ∧ ac.eval (.tmp 9) = .slice (some ⟨g2, 0, none⟩) 2 2 ∧ ac.eval (.tmp 10) = .int .i64 (2) ∧ Below w.heap.size w W ∧ (∃ q1 q2 q3 q4, Holds_ W w.heap.size #[q1, q2, q3, q4]) ∧ Holds_ W (w.heap.size + 1) #[Value.bool false, Value.slice none 0 0, Value.bool false, Value.slice none 0 0] ∧ PRs W g2 [(19, a.num, (a.den : Int)), (19, b.num, (b.den : Int))] ∧ ((ac.eval (.tmp 11) = .int .i64 (0) ∧ AtR W w.heap.size 0 9 (((0 : Rat)).num) ∧ AtR W w.heap.size 2 9 ((((0 : Rat)).den : Int))) ∨ (ac.eval (.tmp 11) = .int .i64 (1) ∧ AtR W w.heap.size 0 19 (a.num) ∧ AtR W w.heap.size 2 19 ((a.den : Int))) ∨ (ac.eval (.tmp 11) = .int .i64 (2) ∧ AtR W w.heap.size 0 39 ((a + b).num) ∧ AtR W w.heap.size 2 39 (((a + b).den : Int))))) (fun ac _ => 2 - (intOf (ac.eval (.tmp 11))).toNat) ?_ ?_
  · exact ⟨hN_1, hD_1, e1_1, e3_1, e6_1, e9_1, e10_1, bb_1, ⟨_, _, _, _, S_1⟩, R_1, LL_1, .inl ⟨e11_1, f1_1, f1'_1⟩⟩
  clear hN_1 hD_1 e1_1 e3_1 e6_1 e9_1 e10_1 e11_1 bb_1 S_1 R_1 LL_1 f1_1 f1'_1
  rintro a_1 W_1 ⟨hN_1, hD_1, e1_1, e3_1, e6_1, e9_1, e10_1, bb_1, ⟨_, _, _, _, S_1⟩, R_1, LL_1, hor⟩
  rcases hor with ⟨e11_1, f1_1, f1'_1⟩ | ⟨e11_1, f1_1, f1'_1⟩ | ⟨e11_1, f1_1, f1'_1⟩
  ·
    have hm : intOf (a_1.eval (.tmp 11)) = 0 := by rw [e11_1]; rfl
    rw [hm]
    clear hm
    repeat (first | refine wp_seq ?_ | (refine wp_skip ?_; refine then_n ?_))
    refine wp_region_law hN_1 w.heap.size
      [kIs (.bool true)]
      [ [] ]
      [(0, some 12)] [] [] (by kernel_rfl) (by kernel_rfl) (by kernel_rfl) (by kernel_rfl) (by kernel_rfl) (by kernel_rfl) (by kernel_rfl) bb_1.size ?_ ?_
    ·
      refine pk_cons rfl rfl (st_pure [] [(11, .int .i64 (0)), (10, .int .i64 (2))] (.bool true) rfl hN_1 (by kernel_rfl) (by kernel_rfl) (by kernel_rfl) (old2 e11_1 e10_1) (by kernel_rfl) (by kernel_rfl) (by kernel_rfl) (fun _ => by kernel_rfl)) ?_
      exact pk_nil rfl
    intro W_2 x hC hall
    refine then_n ?_
    obtain ⟨a_2, ha⟩ : ∃ a, a = putE x a_1 [(0, some 12)] := ⟨_, rfl⟩
    rw [← ha]
    have hN_2 := size_behind ha hN_1
    have hD_2 := defers_behind ha hD_1
    have bb_2 := bb_1.trans hC.below
    have e1_2 := slot_old ha (by kernel_rfl) e1_1
    have e3_2 := slot_old ha (by kernel_rfl) e3_1
    have e6_2 := slot_old ha (by kernel_rfl) e6_1
    have e9_2 := slot_old ha (by kernel_rfl) e9_1
    have e10_2 := slot_old ha (by kernel_rfl) e10_1
    have e11_2 := slot_old ha (by kernel_rfl) e11_1
    have f1_2 := hC.at0 f1_1
    have f1'_2 := hC.at0 f1'_1
    have S_2 := hC.holds S_1
    have R_2 := hC.holds R_1
    have LL_2 := hC.prs (by simp) LL_1
    have e12_2 := (slot_new (t := 12) (i := 0) ha hN_1 (by kernel_rfl) (by kernel_rfl)).trans (show x 0 = .bool true from hall 0 (of_decide_eq_true (by kernel_rfl)))
    clear hall hC ha bb_1 hD_1 e1_1 e3_1 e6_1 e9_1 e10_1 e11_1 f1_1 f1'_1 S_1 R_1 LL_1
    repeat (first | refine wp_seq ?_ | (refine wp_skip ?_; refine then_n ?_))
    refine wp_cond_true e12_2 ?_
    repeat (first | refine wp_seq ?_ | (refine wp_skip ?_; refine then_n ?_))
    refine wp_block ?_
    repeat (first | refine wp_seq ?_ | (refine wp_skip ?_; refine then_n ?_))
    refine wp_region_law hN_2 w.heap.size
      [kIs (.pointer (some ⟨g2, 0, none⟩)), kP 19 (a.num) ((a.den : Int)), PK.fresh 4, kPutP 2 19 (a.num) ((a.den : Int))]
      [ [], [(0, some 13)], [], [(2, some 8), (1, some 14)] ]
      [(0, some 13), (1, some 14), (2, some 8), (3, none)] [] [] (by kernel_rfl) (by kernel_rfl) (by kernel_rfl) (by kernel_rfl) (by kernel_rfl) (by kernel_rfl) (by kernel_rfl) bb_2.size ?_ ?_
    ·
      refine pk_cons rfl rfl (st_pure [] [(9, .slice (some ⟨g2, 0, none⟩) 2 2), (11, .int .i64 (0))] (.pointer (some ⟨g2, 0, none⟩)) rfl hN_2 (by kernel_rfl) (by kernel_rfl) (by kernel_rfl) (old2 e9_2 e11_2) (by kernel_rfl) (by kernel_rfl) (by kernel_rfl) (fun _ => by kernel_rfl)) ?_
      refine pk_cons rfl rfl (st_loadPI LL_2 (n := 0) rfl rfl (by simp) hN_2 (by kernel_rfl) (by kernel_rfl) rfl rfl) ?_
      refine pk_cons rfl rfl (st_allocP hN_2 (by kernel_rfl) (Nat.le_refl _) rfl) ?_
      refine pk_cons rfl rfl (st_putP hN_2 (by kernel_rfl) (by kernel_rfl) (by kernel_rfl) rfl rfl rfl) ?_
      exact pk_nil rfl
    intro W_3 x hC hall
    refine then_n ?_
    obtain ⟨a_3, ha⟩ : ∃ a, a = putE x a_2 [(0, some 13), (1, some 14), (2, some 8), (3, none)] := ⟨_, rfl⟩
    rw [← ha]
    have hN_3 := size_behind ha hN_2
    have hD_3 := defers_behind ha hD_2
    have bb_3 := bb_2.trans hC.below
    have e1_3 := slot_old ha (by kernel_rfl) e1_2
    have e3_3 := slot_old ha (by kernel_rfl) e3_2
    have e6_3 := slot_old ha (by kernel_rfl) e6_2
    have e9_3 := slot_old ha (by kernel_rfl) e9_2
    have e10_3 := slot_old ha (by kernel_rfl) e10_2
    have e11_3 := slot_old ha (by kernel_rfl) e11_2
    have e12_3 := slot_old ha (by kernel_rfl) e12_2
    have f1_3 := hC.at0 f1_2
    have f1'_3 := hC.at0 f1'_2
    have S_3 := hC.holds S_2
    have R_3 := hC.holds R_2
    have LL_3 := hC.prs (by simp) LL_2
    obtain ⟨g8, hx, hge, p8_3, p8'_3⟩ := put_atP (show (kPutP 2 19 (a.num) ((a.den : Int))).sem _ _ _ _ from hall 3 (of_decide_eq_true (by kernel_rfl)))
    have e8_3 := (slot_new (t := 8) (i := 2) ha hN_2 (by kernel_rfl) (by kernel_rfl)).trans hx
    have d8 := Nat.lt_of_lt_of_le R_2.lt hge
    clear hx hge
    clear hall hC ha bb_2 hD_2 e1_2 e3_2 e6_2 e9_2 e10_2 e11_2 e12_2 f1_2 f1'_2 S_2 R_2 LL_2
    repeat (first | refine wp_seq ?_ | (refine wp_skip ?_; refine then_n ?_))
    refine wp_region_keep hN_3 w.heap.size (w.heap.size) S_3 (by omega) 5 [1]
      [kIs (.func (.func 38) #[] #[]), kP 9 (((0 : Rat)).num) ((((0 : Rat)).den : Int)), kP 19 (a.num) ((a.den : Int)), kP 19 (a.num) ((a.den : Int)), kP 39 ((((0 : Rat)) + a).num) (((((0 : Rat)) + a).den : Int)), kRes (w.heap.size) 39 ((((0 : Rat)) + a).num) (((((0 : Rat)) + a).den : Int))]
      [ [], [], [], [(2, some 17)], [(0, some 15), (1, some 16), (3, some 18)], [(4, some 19)] ]
      [(0, some 15), (1, some 16), (2, some 17), (3, some 18), (4, some 19), (5, none)] [] [] (by kernel_rfl) (by kernel_rfl) (by kernel_rfl) (by kernel_rfl) (by kernel_rfl) (by kernel_rfl) (by kernel_rfl) rfl (by kernel_rfl) bb_3.size ?_ ?_
    ·
      refine pkl_cons rfl rfl (st_pure [] [(1, .func (.func 38) #[] #[])] (.func (.func 38) #[] #[]) rfl hN_3 (by kernel_rfl) (by kernel_rfl) (by kernel_rfl) (old1 e1_3) (by kernel_rfl) (by kernel_rfl) (by kernel_rfl) (fun _ => by kernel_rfl)) ?_
      refine pkl_keep rfl rfl rfl ?_ ?_
      · exact st_loadKF f1_3 f1'_3 e3_3 hN_3 (by kernel_rfl) rfl
      refine pkl_cons rfl rfl (st_load4P p8_3 p8'_3 (by simp only [List.mem_singleton]; omega) e8_3 hN_3 (by kernel_rfl) rfl) ?_
      refine pkl_cons rfl rfl (st_call1 hN_3 (by kernel_rfl) (by kernel_rfl) (by kernel_rfl) rfl rfl fun w x v1 hC h1 => tp (of_19 (pm (by decide) h1))) ?_
      refine pkl_cons rfl rfl (st_call2V hN_3 (by kernel_rfl) (by kernel_rfl) (by kernel_rfl) (by kernel_rfl) (by kernel_rfl) (by kernel_rfl) (by kernel_rfl) (by kernel_rfl) rfl rfl rfl rfl fun w x v1 v2 hC h1 h2 => tp (plus_19 (pm (by decide) h1) (pm (by decide) h2))) ?_
      refine pkl_cons rfl rfl (st_resF S_3 rfl (by simp) e3_3 hN_3 (by kernel_rfl) (by kernel_rfl) rfl rfl) ?_
      exact pkl_nil rfl
    intro W_4 x hC hall
    obtain ⟨a_4, ha⟩ : ∃ a, a = putE x a_3 [(0, some 15), (1, some 16), (2, some 17), (3, some 18), (4, some 19), (5, none)] := ⟨_, rfl⟩
    rw [← ha]
    have hN_4 := size_behind ha hN_3
    have hD_4 := defers_behind ha hD_3
    have bb_4 := bb_3.trans hC.below
    have e1_4 := slot_old ha (by kernel_rfl) e1_3
    have e3_4 := slot_old ha (by kernel_rfl) e3_3
    have e6_4 := slot_old ha (by kernel_rfl) e6_3
    have e9_4 := slot_old ha (by kernel_rfl) e9_3
    have e10_4 := slot_old ha (by kernel_rfl) e10_3
    have e11_4 := slot_old ha (by kernel_rfl) e11_3
    have e12_4 := slot_old ha (by kernel_rfl) e12_3
    have e8_4 := slot_old ha (by kernel_rfl) e8_3
    have R_4 := hC.holdsG (by simp only [List.mem_singleton]; omega) R_3
    have LL_4 := hC.prs (by simp only [List.mem_singleton]; omega) LL_3
    have hres := show (kRes (w.heap.size) 39 ((((0 : Rat)) + a).num) (((((0 : Rat)) + a).den : Int))).sem _ _ _ _ from hall 5 (of_decide_eq_true (by kernel_rfl))
    obtain ⟨f1_4, f1'_4⟩ := res_atP hres
    obtain ⟨_, _, _, _, S_4⟩ := res_four hres
    clear hall hC ha hres
    refine in_block8 ?_
    refine then_n ?_
    refine wp_incr2 (n := 0) (m := 1) hN_4 (by kernel_rfl) e11_4 (fun _ => by kernel_rfl) ?_
    intro x hx
    obtain ⟨a_5, ha⟩ : ∃ a, a = putE x a_4 [(0, some 20), (1, some 11)] := ⟨_, rfl⟩
    rw [← ha]
    have hN_5 := size_behind ha hN_4
    have hD_5 := defers_behind ha hD_4
    have bb_5 := bb_4
    have e1_5 := slot_old ha (by kernel_rfl) e1_4
    have e3_5 := slot_old ha (by kernel_rfl) e3_4
    have e6_5 := slot_old ha (by kernel_rfl) e6_4
    have e9_5 := slot_old ha (by kernel_rfl) e9_4
    have e10_5 := slot_old ha (by kernel_rfl) e10_4
    have e12_5 := slot_old ha (by kernel_rfl) e12_4
    have e8_5 := slot_old ha (by kernel_rfl) e8_4
    have f1_5 := f1_4
    have f1'_5 := f1'_4
    have S_5 := S_4
    have R_5 := R_4
    have LL_5 := LL_4
    have e11_5 := (slot_new (t := 11) (i := 1) ha hN_4 (by kernel_rfl) (by kernel_rfl)).trans hx
    clear ha hx
    have hq : (0 : Rat) + a = a := Rat.zero_add a
    rw [hq] at f1_5 f1'_5
    refine ⟨⟨hN_5, hD_5, e1_5, e3_5, e6_5, e9_5, e10_5, bb_5, ⟨_, _, _, _, S_5⟩, R_5, LL_5, .inr (.inl ⟨e11_5, f1_5.tight HB0.out.1, f1'_5.tight HB0.out.2⟩)⟩, ?_⟩
    rw [e11_5]; decide
  ·
    have hm : intOf (a_1.eval (.tmp 11)) = 1 := by rw [e11_1]; rfl
    rw [hm]
    clear hm
    repeat (first | refine wp_seq ?_ | (refine wp_skip ?_; refine then_n ?_))
    refine wp_region_law hN_1 w.heap.size
      [kIs (.bool true)]
      [ [] ]
      [(0, some 12)] [] [] (by kernel_rfl) (by kernel_rfl) (by kernel_rfl) (by kernel_rfl) (by kernel_rfl) (by kernel_rfl) (by kernel_rfl) bb_1.size ?_ ?_
    ·
      refine pk_cons rfl rfl (st_pure [] [(11, .int .i64 (1)), (10, .int .i64 (2))] (.bool true) rfl hN_1 (by kernel_rfl) (by kernel_rfl) (by kernel_rfl) (old2 e11_1 e10_1) (by kernel_rfl) (by kernel_rfl) (by kernel_rfl) (fun _ => by kernel_rfl)) ?_
      exact pk_nil rfl
    intro W_2 x hC hall
    refine then_n ?_
    obtain ⟨a_2, ha⟩ : ∃ a, a = putE x a_1 [(0, some 12)] := ⟨_, rfl⟩
    rw [← ha]
    have hN_2 := size_behind ha hN_1
    have hD_2 := defers_behind ha hD_1
    have bb_2 := bb_1.trans hC.below
    have e1_2 := slot_old ha (by kernel_rfl) e1_1
    have e3_2 := slot_old ha (by kernel_rfl) e3_1
    have e6_2 := slot_old ha (by kernel_rfl) e6_1
    have e9_2 := slot_old ha (by kernel_rfl) e9_1
    have e10_2 := slot_old ha (by kernel_rfl) e10_1
    have e11_2 := slot_old ha (by kernel_rfl) e11_1
    have f1_2 := hC.at0 f1_1
    have f1'_2 := hC.at0 f1'_1
    have S_2 := hC.holds S_1
    have R_2 := hC.holds R_1
    have LL_2 := hC.prs (by simp) LL_1
    have e12_2 := (slot_new (t := 12) (i := 0) ha hN_1 (by kernel_rfl) (by kernel_rfl)).trans (show x 0 = .bool true from hall 0 (of_decide_eq_true (by kernel_rfl)))
    clear hall hC ha bb_1 hD_1 e1_1 e3_1 e6_1 e9_1 e10_1 e11_1 f1_1 f1'_1 S_1 R_1 LL_1
    repeat (first | refine wp_seq ?_ | (refine wp_skip ?_; refine then_n ?_))
    refine wp_cond_true e12_2 ?_
    repeat (first | refine wp_seq ?_ | (refine wp_skip ?_; refine then_n ?_))
    refine wp_block ?_
    repeat (first | refine wp_seq ?_ | (refine wp_skip ?_; refine then_n ?_))
    refine wp_region_law hN_2 w.heap.size
      [kIs (.pointer (some ⟨g2, 4, none⟩)), kP 19 (b.num) ((b.den : Int)), PK.fresh 4, kPutP 2 19 (b.num) ((b.den : Int))]
      [ [], [(0, some 13)], [], [(2, some 8), (1, some 14)] ]
      [(0, some 13), (1, some 14), (2, some 8), (3, none)] [] [] (by kernel_rfl) (by kernel_rfl) (by kernel_rfl) (by kernel_rfl) (by kernel_rfl) (by kernel_rfl) (by kernel_rfl) bb_2.size ?_ ?_
    ·
      refine pk_cons rfl rfl (st_pure [] [(9, .slice (some ⟨g2, 0, none⟩) 2 2), (11, .int .i64 (1))] (.pointer (some ⟨g2, 4, none⟩)) rfl hN_2 (by kernel_rfl) (by kernel_rfl) (by kernel_rfl) (old2 e9_2 e11_2) (by kernel_rfl) (by kernel_rfl) (by kernel_rfl) (fun _ => by kernel_rfl)) ?_
      refine pk_cons rfl rfl (st_loadPI LL_2 (n := 1) rfl rfl (by simp) hN_2 (by kernel_rfl) (by kernel_rfl) rfl rfl) ?_
      refine pk_cons rfl rfl (st_allocP hN_2 (by kernel_rfl) (Nat.le_refl _) rfl) ?_
      refine pk_cons rfl rfl (st_putP hN_2 (by kernel_rfl) (by kernel_rfl) (by kernel_rfl) rfl rfl rfl) ?_
      exact pk_nil rfl
    intro W_3 x hC hall
    refine then_n ?_
    obtain ⟨a_3, ha⟩ : ∃ a, a = putE x a_2 [(0, some 13), (1, some 14), (2, some 8), (3, none)] := ⟨_, rfl⟩
    rw [← ha]
    have hN_3 := size_behind ha hN_2
    have hD_3 := defers_behind ha hD_2
    have bb_3 := bb_2.trans hC.below
    have e1_3 := slot_old ha (by kernel_rfl) e1_2
    have e3_3 := slot_old ha (by kernel_rfl) e3_2
    have e6_3 := slot_old ha (by kernel_rfl) e6_2
    have e9_3 := slot_old ha (by kernel_rfl) e9_2
    have e10_3 := slot_old ha (by kernel_rfl) e10_2
    have e11_3 := slot_old ha (by kernel_rfl) e11_2
    have e12_3 := slot_old ha (by kernel_rfl) e12_2
    have f1_3 := hC.at0 f1_2
    have f1'_3 := hC.at0 f1'_2
    have S_3 := hC.holds S_2
    have R_3 := hC.holds R_2
    have LL_3 := hC.prs (by simp) LL_2
    obtain ⟨g8, hx, hge, p8_3, p8'_3⟩ := put_atP (show (kPutP 2 19 (b.num) ((b.den : Int))).sem _ _ _ _ from hall 3 (of_decide_eq_true (by kernel_rfl)))
    have e8_3 := (slot_new (t := 8) (i := 2) ha hN_2 (by kernel_rfl) (by kernel_rfl)).trans hx
    have d8 := Nat.lt_of_lt_of_le R_2.lt hge
    clear hx hge
    clear hall hC ha bb_2 hD_2 e1_2 e3_2 e6_2 e9_2 e10_2 e11_2 e12_2 f1_2 f1'_2 S_2 R_2 LL_2
    repeat (first | refine wp_seq ?_ | (refine wp_skip ?_; refine then_n ?_))
    refine wp_region_keep hN_3 w.heap.size (w.heap.size) S_3 (by omega) 5 [1]
      [kIs (.func (.func 38) #[] #[]), kP 19 (a.num) ((a.den : Int)), kP 19 (b.num) ((b.den : Int)), kP 19 (b.num) ((b.den : Int)), kP 39 ((a + b).num) (((a + b).den : Int)), kRes (w.heap.size) 39 ((a + b).num) (((a + b).den : Int))]
      [ [], [], [], [(2, some 17)], [(0, some 15), (1, some 16), (3, some 18)], [(4, some 19)] ]
      [(0, some 15), (1, some 16), (2, some 17), (3, some 18), (4, some 19), (5, none)] [] [] (by kernel_rfl) (by kernel_rfl) (by kernel_rfl) (by kernel_rfl) (by kernel_rfl) (by kernel_rfl) (by kernel_rfl) rfl (by kernel_rfl) bb_3.size ?_ ?_
    ·
      refine pkl_cons rfl rfl (st_pure [] [(1, .func (.func 38) #[] #[])] (.func (.func 38) #[] #[]) rfl hN_3 (by kernel_rfl) (by kernel_rfl) (by kernel_rfl) (old1 e1_3) (by kernel_rfl) (by kernel_rfl) (by kernel_rfl) (fun _ => by kernel_rfl)) ?_
      refine pkl_keep rfl rfl rfl ?_ ?_
      · exact st_loadKF f1_3 f1'_3 e3_3 hN_3 (by kernel_rfl) rfl
      refine pkl_cons rfl rfl (st_load4P p8_3 p8'_3 (by simp only [List.mem_singleton]; omega) e8_3 hN_3 (by kernel_rfl) rfl) ?_
      refine pkl_cons rfl rfl (st_call1 hN_3 (by kernel_rfl) (by kernel_rfl) (by kernel_rfl) rfl rfl fun w x v1 hC h1 => tp (of_19 (pm (by decide) h1))) ?_
      refine pkl_cons rfl rfl (st_call2V hN_3 (by kernel_rfl) (by kernel_rfl) (by kernel_rfl) (by kernel_rfl) (by kernel_rfl) (by kernel_rfl) (by kernel_rfl) (by kernel_rfl) rfl rfl rfl rfl fun w x v1 v2 hC h1 h2 => tp (plus_19 (pm (by decide) h1) (pm (by decide) h2))) ?_
      refine pkl_cons rfl rfl (st_resF S_3 rfl (by simp) e3_3 hN_3 (by kernel_rfl) (by kernel_rfl) rfl rfl) ?_
      exact pkl_nil rfl
    intro W_4 x hC hall
    obtain ⟨a_4, ha⟩ : ∃ a, a = putE x a_3 [(0, some 15), (1, some 16), (2, some 17), (3, some 18), (4, some 19), (5, none)] := ⟨_, rfl⟩
    rw [← ha]
    have hN_4 := size_behind ha hN_3
    have hD_4 := defers_behind ha hD_3
    have bb_4 := bb_3.trans hC.below
    have e1_4 := slot_old ha (by kernel_rfl) e1_3
    have e3_4 := slot_old ha (by kernel_rfl) e3_3
    have e6_4 := slot_old ha (by kernel_rfl) e6_3
    have e9_4 := slot_old ha (by kernel_rfl) e9_3
    have e10_4 := slot_old ha (by kernel_rfl) e10_3
    have e11_4 := slot_old ha (by kernel_rfl) e11_3
    have e12_4 := slot_old ha (by kernel_rfl) e12_3
    have e8_4 := slot_old ha (by kernel_rfl) e8_3
    have R_4 := hC.holdsG (by simp only [List.mem_singleton]; omega) R_3
    have LL_4 := hC.prs (by simp only [List.mem_singleton]; omega) LL_3
    have hres := show (kRes (w.heap.size) 39 ((a + b).num) (((a + b).den : Int))).sem _ _ _ _ from hall 5 (of_decide_eq_true (by kernel_rfl))
    obtain ⟨f1_4, f1'_4⟩ := res_atP hres
    obtain ⟨_, _, _, _, S_4⟩ := res_four hres
    clear hall hC ha hres
    refine in_block8 ?_
    refine then_n ?_
    refine wp_incr2 (n := 1) (m := 2) hN_4 (by kernel_rfl) e11_4 (fun _ => by kernel_rfl) ?_
    intro x hx
    obtain ⟨a_5, ha⟩ : ∃ a, a = putE x a_4 [(0, some 20), (1, some 11)] := ⟨_, rfl⟩
    rw [← ha]
    have hN_5 := size_behind ha hN_4
    have hD_5 := defers_behind ha hD_4
    have bb_5 := bb_4
    have e1_5 := slot_old ha (by kernel_rfl) e1_4
    have e3_5 := slot_old ha (by kernel_rfl) e3_4
    have e6_5 := slot_old ha (by kernel_rfl) e6_4
    have e9_5 := slot_old ha (by kernel_rfl) e9_4
    have e10_5 := slot_old ha (by kernel_rfl) e10_4
    have e12_5 := slot_old ha (by kernel_rfl) e12_4
    have e8_5 := slot_old ha (by kernel_rfl) e8_4
    have f1_5 := f1_4
    have f1'_5 := f1'_4
    have S_5 := S_4
    have R_5 := R_4
    have LL_5 := LL_4
    have e11_5 := (slot_new (t := 11) (i := 1) ha hN_4 (by kernel_rfl) (by kernel_rfl)).trans hx
    clear ha hx
    refine ⟨⟨hN_5, hD_5, e1_5, e3_5, e6_5, e9_5, e10_5, bb_5, ⟨_, _, _, _, S_5⟩, R_5, LL_5, .inr (.inr (⟨e11_5, f1_5, f1'_5⟩))⟩, ?_⟩
    rw [e11_5]; decide
  ·
    have hm : intOf (a_1.eval (.tmp 11)) = 2 := by rw [e11_1]; rfl
    rw [hm]
    clear hm
    repeat (first | refine wp_seq ?_ | (refine wp_skip ?_; refine then_n ?_))
    refine wp_region_law hN_1 w.heap.size
      [kIs (.bool false)]
      [ [] ]
      [(0, some 12)] [] [] (by kernel_rfl) (by kernel_rfl) (by kernel_rfl) (by kernel_rfl) (by kernel_rfl) (by kernel_rfl) (by kernel_rfl) bb_1.size ?_ ?_
    ·
      refine pk_cons rfl rfl (st_pure [] [(11, .int .i64 (2)), (10, .int .i64 (2))] (.bool false) rfl hN_1 (by kernel_rfl) (by kernel_rfl) (by kernel_rfl) (old2 e11_1 e10_1) (by kernel_rfl) (by kernel_rfl) (by kernel_rfl) (fun _ => by kernel_rfl)) ?_
      exact pk_nil rfl
    intro W_2 x hC hall
    refine then_n ?_
    obtain ⟨a_2, ha⟩ : ∃ a, a = putE x a_1 [(0, some 12)] := ⟨_, rfl⟩
    rw [← ha]
    have hN_2 := size_behind ha hN_1
    have hD_2 := defers_behind ha hD_1
    have bb_2 := bb_1.trans hC.below
    have e1_2 := slot_old ha (by kernel_rfl) e1_1
    have e3_2 := slot_old ha (by kernel_rfl) e3_1
    have e6_2 := slot_old ha (by kernel_rfl) e6_1
    have e9_2 := slot_old ha (by kernel_rfl) e9_1
    have e10_2 := slot_old ha (by kernel_rfl) e10_1
    have e11_2 := slot_old ha (by kernel_rfl) e11_1
    have f1_2 := hC.at0 f1_1
    have f1'_2 := hC.at0 f1'_1
    have S_2 := hC.holds S_1
    have R_2 := hC.holds R_1
    have LL_2 := hC.prs (by simp) LL_1
    have e12_2 := (slot_new (t := 12) (i := 0) ha hN_1 (by kernel_rfl) (by kernel_rfl)).trans (show x 0 = .bool false from hall 0 (of_decide_eq_true (by kernel_rfl)))
    clear hall hC ha bb_1 hD_1 e1_1 e3_1 e6_1 e9_1 e10_1 e11_1 f1_1 f1'_1 S_1 R_1 LL_1
    repeat (first | refine wp_seq ?_ | (refine wp_skip ?_; refine then_n ?_))
    refine wp_cond_false e12_2 ?_
    repeat (first | refine wp_seq ?_ | (refine wp_skip ?_; refine then_n ?_))
    refine wp_exit ?_
    repeat (refine then_x8 ?_)
    refine out_block8 ?_
    refine then_n ?_
    repeat (first | refine wp_seq ?_ | (refine wp_skip ?_; refine then_n ?_))
    refine wp_region_res hN_2 w.heap.size (w.heap.size + 1) R_2 (by omega)
      [kP 39 ((a + b).num) (((a + b).den : Int)), kRes (w.heap.size + 1) 39 ((a + b).num) (((a + b).den : Int))]
      [ [], [(0, some 21)] ]
      [(0, some 21), (1, none)] [] [] (by kernel_rfl) (by kernel_rfl) (by kernel_rfl) (by kernel_rfl) (by kernel_rfl) (by kernel_rfl) (by kernel_rfl) bb_2.size ?_ ?_
    ·
      refine pk_cons rfl rfl (st_load4F f1_2 f1'_2 (by simp only [List.mem_singleton]; omega) e3_2 hN_2 (by kernel_rfl) rfl) ?_
      refine pk_cons rfl rfl (st_resF R_2 rfl (by simp) e6_2 hN_2 (by kernel_rfl) (by kernel_rfl) rfl rfl) ?_
      exact pk_nil rfl
    intro W x hC hall
    refine then_n ?_
    obtain ⟨a1, ha⟩ : ∃ a, a = putE x a_2 [(0, some 21), (1, none)] := ⟨_, rfl⟩
    rw [← ha]
    have hD1 := defers_behind ha hD_2
    have bb1 := bb_2.trans hC.below
    obtain ⟨cs, hg, hP⟩ := (show (kRes (w.heap.size + 1) 39 ((a + b).num) (((a + b).den : Int))).sem _ _ _ _ from hall 1 (of_decide_eq_true (by kernel_rfl)))
    have e1 := slot_old (t := 6) ha (by kernel_rfl) e6_2
    repeat (first | refine wp_seq ?_ | (refine wp_skip ?_; refine then_n ?_))
    refine wp_ret ?_
    repeat (refine then_r ?_)
    exact ret_cellF (t := 6) rfl hD1 e1 hg hP fun v hv => ⟨v, rfl, hv, bb1⟩
set_option maxRecDepth 100000 in
set_option maxHeartbeats 8000000 in
theorem fold2_times_9 {w : World} {v0 v2 : Value} {a b : Rat} (h0 : Pr w v0 9 ((1 : Rat)).num (((1 : Rat)).den : Int)) (hl : PL w v2 [(9, a.num, (a.den : Int)), (9, b.num, (b.den : Int))]) :
    Calls Tryz.prog 37 #[v0, .func (.func 40) #[] #[], v2] w (TellsP w 18 ((a * b).num) (((a * b).den : Int))) := by
  obtain ⟨A1, l1, c1, A1', l1', c1', rfl, ⟨r1, u1⟩, r1', u1'⟩ := h0
  obtain ⟨b1, hb1⟩ : ∃ s, s = decide (((1 : Rat)).num < 0) := ⟨_, rfl⟩
  obtain ⟨b1', hb1'⟩ : ∃ s, s = decide ((((1 : Rat)).den : Int) < 0) := ⟨_, rfl⟩
  rw [← hb1, ← hb1']
  have H1 := Lib.hid (show _ ∧ _ ∧ _ ∧ _ ∧ _ ∧ _ from ⟨hb1, hb1', r1, u1, r1', u1'⟩)
  clear hb1 hb1' r1 u1 r1' u1'
  obtain ⟨g2, rfl, hg2, hl2⟩ := hl
  have HL := Lib.hid hl2
  clear hl2
  have HB0 := Lib.hid (HL.out.lt (j := 0) rfl)
  have HB1 := Lib.hid (HL.out.lt (j := 1) rfl)
  show Calls _ _ #[_, _, .slice (some ⟨g2, 0, none⟩) 2 2] _ _
  go_enter Tryz.func37, Tryz.ntmps37
  repeat (refine wp_seq ?_)
  refine region_k ?_
  intro K hK
  have HK := Lib.hid hK
  clear hK
  go_wp2
  refine HK.out _ _ ?_
  clear HK
  refine then_n ?_
  obtain ⟨W_0, hW⟩ : ∃ W, W = (w.alloc (Obj.cells #[Value.bool b1, Value.slice A1 l1 c1, Value.bool b1', Value.slice A1' l1' c1'] 53)).alloc (Obj.cells #[Value.bool false, Value.slice none 0 0, Value.bool false, Value.slice none 0 0] 53) := ⟨_, rfl⟩
  have bb_0 : Below w.heap.size w W_0 := by rw [hW]; exact bal (bal (Below.refl _ _) _) _
  have K0 : W_0.heap[w.heap.size]? = some (Obj.cells #[Value.bool b1, Value.slice A1 l1 c1, Value.bool b1', Value.slice A1' l1' c1'] 53) := by rw [hW]; rw [Below.heap_alloc _ _ _ (by simp <;> omega)]; exact new_at (by simp)
  have K1 : W_0.heap[w.heap.size + 1]? = some (Obj.cells #[Value.bool false, Value.slice none 0 0, Value.bool false, Value.slice none 0 0] 53) := by rw [hW]; exact new_at (by simp)
  rw [← hW]
  obtain ⟨m1, n1, m1', n1', _, _, _, _⟩ := four_cells K0
  have f1_0 : AtR W_0 (w.heap.size) 0 9 (((1 : Rat)).num) := ⟨A1, l1, c1, by rw [← H1.out.1]; exact m1, n1, A1, l1, c1, rfl, H1.out.2.2.1.below bb_0, H1.out.2.2.2.1⟩
  have f1'_0 : AtR W_0 (w.heap.size) 2 9 ((((1 : Rat)).den : Int)) := ⟨A1', l1', c1', by rw [← H1.out.2.1]; exact m1', n1', A1', l1', c1', rfl, H1.out.2.2.2.2.1.below bb_0, H1.out.2.2.2.2.2⟩
  have S_0 : Holds_ W_0 (w.heap.size) #[Value.bool b1, Value.slice A1 l1 c1, Value.bool b1', Value.slice A1' l1' c1'] := ⟨⟨_, K0⟩, by simp [noDig]⟩
  have R_0 : Holds_ W_0 (w.heap.size + 1) #[Value.bool false, Value.slice none 0 0, Value.bool false, Value.slice none 0 0] := ⟨⟨_, K1⟩, by simp [noDig]⟩
  have LL_0 := HL.out.below bb_0
  clear hW K0 K1 m1 n1 m1' n1'
  refine name_frame (G := fun a => Code.wp _ _ _ a _) ?_
  intro a_0 ha
  have hN_0 : a_0.tmps.size = 22 := by subst ha; kernel_rfl
  have hD_0 : a_0.defers = [] := by subst ha; rfl
  have e1_0 : a_0.eval (.tmp 1) = .func (.func 40) #[] #[] := by subst ha; kernel_rfl
  have e2_0 : a_0.eval (.tmp 2) = .slice (some ⟨g2, 0, none⟩) 2 2 := by subst ha; kernel_rfl
  have e3_0 : a_0.eval (.tmp 3) = .pointer (some ⟨w.heap.size, 0, none⟩) := by subst ha; kernel_rfl
  have e6_0 : a_0.eval (.tmp 6) = .pointer (some ⟨w.heap.size + 1, 0, none⟩) := by subst ha; kernel_rfl
  clear ha
  repeat (first | refine wp_seq ?_ | (refine wp_skip ?_; refine then_n ?_))
  refine wp_region_law hN_0 w.heap.size
    [kIs (.slice (some ⟨g2, 0, none⟩) 2 2), kIs (.int .i64 (2)), kIs (.int .i64 (0))]
    [ [], [(0, some 9)], [] ]
    [(0, some 9), (1, some 10), (2, some 11)] [] [] (by kernel_rfl) (by kernel_rfl) (by kernel_rfl) (by kernel_rfl) (by kernel_rfl) (by kernel_rfl) (by kernel_rfl) bb_0.size ?_ ?_
  ·
    refine pk_cons rfl rfl (st_pure [] [(2, .slice (some ⟨g2, 0, none⟩) 2 2)] (.slice (some ⟨g2, 0, none⟩) 2 2) rfl hN_0 (by kernel_rfl) (by kernel_rfl) (by kernel_rfl) (old1 e2_0) (by kernel_rfl) (by kernel_rfl) (by kernel_rfl) (fun _ => by kernel_rfl)) ?_
    refine pk_cons rfl rfl (st_pure [.slice (some ⟨g2, 0, none⟩) 2 2] [] (.int .i64 (2)) rfl hN_0 (by kernel_rfl) (by kernel_rfl) (by kernel_rfl) old0 (by kernel_rfl) (by kernel_rfl) (by kernel_rfl) (fun _ => by kernel_rfl)) ?_
    refine pk_cons rfl rfl (st_pure [] [] (.int .i64 (0)) rfl hN_0 (by kernel_rfl) (by kernel_rfl) (by kernel_rfl) old0 (by kernel_rfl) (by kernel_rfl) (by kernel_rfl) (fun _ => by kernel_rfl)) ?_
    exact pk_nil rfl
  intro W_1 x hC hall
  refine then_n ?_
  obtain ⟨a_1, ha⟩ : ∃ a, a = putE x a_0 [(0, some 9), (1, some 10), (2, some 11)] := ⟨_, rfl⟩
  rw [← ha]
  have hN_1 := size_behind ha hN_0
  have hD_1 := defers_behind ha hD_0
  have bb_1 := bb_0.trans hC.below
  have e1_1 := slot_old ha (by kernel_rfl) e1_0
  have e2_1 := slot_old ha (by kernel_rfl) e2_0
  have e3_1 := slot_old ha (by kernel_rfl) e3_0
  have e6_1 := slot_old ha (by kernel_rfl) e6_0
  have f1_1 := hC.at0 f1_0
  have f1'_1 := hC.at0 f1'_0
  have S_1 := hC.holds S_0
  have R_1 := hC.holds R_0
  have LL_1 := hC.prs (by simp) LL_0
  have e9_1 := (slot_new (t := 9) (i := 0) ha hN_0 (by kernel_rfl) (by kernel_rfl)).trans (show x 0 = .slice (some ⟨g2, 0, none⟩) 2 2 from hall 0 (of_decide_eq_true (by kernel_rfl)))
  have e10_1 := (slot_new (t := 10) (i := 1) ha hN_0 (by kernel_rfl) (by kernel_rfl)).trans (show x 1 = .int .i64 (2) from hall 1 (of_decide_eq_true (by kernel_rfl)))
  have e11_1 := (slot_new (t := 11) (i := 2) ha hN_0 (by kernel_rfl) (by kernel_rfl)).trans (show x 2 = .int .i64 (0) from hall 2 (of_decide_eq_true (by kernel_rfl)))
  clear hall hC ha bb_0 hD_0 e1_0 e2_0 e3_0 e6_0 f1_0 f1'_0 S_0 R_0 LL_0
  repeat (first | refine wp_seq ?_ | (refine wp_skip ?_; refine then_n ?_))
  refine wp_block ?_
  refine wp_loop (fun ac W => ac.tmps.size = 22 ∧ ac.defers = [] ∧ ac.eval (.tmp 1) = .func (.func 40) #[] #[] ∧ ac.eval (.tmp 3) = .pointer (some ⟨w.heap.size, 0, none⟩) ∧ ac.eval (.tmp 6) = .pointer (some ⟨w.heap.size + 1, 0, none⟩) ∧ ac.eval (.tmp 9) = .slice (some ⟨g2, 0, none⟩) 2 2 ∧ ac.eval (.tmp 10) = .int .i64 (2) ∧ Below w.heap.size w W ∧ (∃ q1 q2 q3 q4, Holds_ W w.heap.size #[q1, q2, q3, q4]) ∧ Holds_ W (w.heap.size + 1) #[Value.bool false, Value.slice none 0 0, Value.bool false, Value.slice none 0 0] ∧ PRs W g2 [(9, a.num, (a.den : Int)), (9, b.num, (b.den : Int))] ∧ ((ac.eval (.tmp 11) = .int .i64 (0) ∧ AtR W w.heap.size 0 9 (((1 : Rat)).num) ∧ AtR W w.heap.size 2 9 ((((1 : Rat)).den : Int))) ∨ (ac.eval (.tmp 11) = .int .i64 (1) ∧ AtR W w.heap.size 0 9 (a.num) ∧ AtR W w.heap.size 2 9 ((a.den : Int))) ∨ (ac.eval (.tmp 11) = .int .i64 (2) ∧ AtR W w.heap.size 0 18 ((a * b).num) ∧ AtR W w.heap.size 2 18 (((a * b).den : Int))))) (fun ac _ => 2 - (intOf (ac.eval (.tmp 11))).toNat) ?_ ?_
  · exact ⟨hN_1, hD_1, e1_1, e3_1, e6_1, e9_1, e10_1, bb_1, ⟨_, _, _, _, S_1⟩, R_1, LL_1, .inl ⟨e11_1, f1_1, f1'_1⟩⟩
  clear hN_1 hD_1 e1_1 e3_1 e6_1 e9_1 e10_1 e11_1 bb_1 S_1 R_1 LL_1 f1_1 f1'_1
  rintro a_1 W_1 ⟨hN_1, hD_1, e1_1, e3_1, e6_1, e9_1, e10_1, bb_1, ⟨_, _, _, _, S_1⟩, R_1, LL_1, hor⟩
  rcases hor with ⟨e11_1, f1_1, f1'_1⟩ | ⟨e11_1, f1_1, f1'_1⟩ | ⟨e11_1, f1_1, f1'_1⟩
  ·
    have hm : intOf (a_1.eval (.tmp 11)) = 0 := by rw [e11_1]; rfl
    rw [hm]
    clear hm
    repeat (first | refine wp_seq ?_ | (refine wp_skip ?_; refine then_n ?_))
    refine wp_region_law hN_1 w.heap.size
      [kIs (.bool true)]
      [ [] ]
      [(0, some 12)] [] [] (by kernel_rfl) (by kernel_rfl) (by kernel_rfl) (by kernel_rfl) (by kernel_rfl) (by kernel_rfl) (by kernel_rfl) bb_1.size ?_ ?_
    ·
      refine pk_cons rfl rfl (st_pure [] [(11, .int .i64 (0)), (10, .int .i64 (2))] (.bool true) rfl hN_1 (by kernel_rfl) (by kernel_rfl) (by kernel_rfl) (old2 e11_1 e10_1) (by kernel_rfl) (by kernel_rfl) (by kernel_rfl) (fun _ => by kernel_rfl)) ?_
      exact pk_nil rfl
    intro W_2 x hC hall
    refine then_n ?_
    obtain ⟨a_2, ha⟩ : ∃ a, a = putE x a_1 [(0, some 12)] := ⟨_, rfl⟩
    rw [← ha]
    have hN_2 := size_behind ha hN_1
    have hD_2 := defers_behind ha hD_1
    have bb_2 := bb_1.trans hC.below
    have e1_2 := slot_old ha (by kernel_rfl) e1_1
    have e3_2 := slot_old ha (by kernel_rfl) e3_1
    have e6_2 := slot_old ha (by kernel_rfl) e6_1
    have e9_2 := slot_old ha (by kernel_rfl) e9_1
    have e10_2 := slot_old ha (by kernel_rfl) e10_1
    have e11_2 := slot_old ha (by kernel_rfl) e11_1
    have f1_2 := hC.at0 f1_1
    have f1'_2 := hC.at0 f1'_1
    have S_2 := hC.holds S_1
    have R_2 := hC.holds R_1
    have LL_2 := hC.prs (by simp) LL_1
    have e12_2 := (slot_new (t := 12) (i := 0) ha hN_1 (by kernel_rfl) (by kernel_rfl)).trans (show x 0 = .bool true from hall 0 (of_decide_eq_true (by kernel_rfl)))
    clear hall hC ha bb_1 hD_1 e1_1 e3_1 e6_1 e9_1 e10_1 e11_1 f1_1 f1'_1 S_1 R_1 LL_1
    repeat (first | refine wp_seq ?_ | (refine wp_skip ?_; refine then_n ?_))
    refine wp_cond_true e12_2 ?_
    repeat (first | refine wp_seq ?_ | (refine wp_skip ?_; refine then_n ?_))
    refine wp_block ?_
    repeat (first | refine wp_seq ?_ | (refine wp_skip ?_; refine then_n ?_))
    refine wp_region_law hN_2 w.heap.size
      [kIs (.pointer (some ⟨g2, 0, none⟩)), kP 9 (a.num) ((a.den : Int)), PK.fresh 4, kPutP 2 9 (a.num) ((a.den : Int))]
      [ [], [(0, some 13)], [], [(2, some 8), (1, some 14)] ]
      [(0, some 13), (1, some 14), (2, some 8), (3, none)] [] [] (by kernel_rfl) (by kernel_rfl) (by kernel_rfl) (by kernel_rfl) (by kernel_rfl) (by kernel_rfl) (by kernel_rfl) bb_2.size ?_ ?_
    ·
      refine pk_cons rfl rfl (st_pure [] [(9, .slice (some ⟨g2, 0, none⟩) 2 2), (11, .int .i64 (0))] (.pointer (some ⟨g2, 0, none⟩)) rfl hN_2 (by kernel_rfl) (by kernel_rfl) (by kernel_rfl) (old2 e9_2 e11_2) (by kernel_rfl) (by kernel_rfl) (by kernel_rfl) (fun _ => by kernel_rfl)) ?_
      refine pk_cons rfl rfl (st_loadPI LL_2 (n := 0) rfl rfl (by simp) hN_2 (by kernel_rfl) (by kernel_rfl) rfl rfl) ?_
      refine pk_cons rfl rfl (st_allocP hN_2 (by kernel_rfl) (Nat.le_refl _) rfl) ?_
      refine pk_cons rfl rfl (st_putP hN_2 (by kernel_rfl) (by kernel_rfl) (by kernel_rfl) rfl rfl rfl) ?_
      exact pk_nil rfl
    intro W_3 x hC hall
    refine then_n ?_
    obtain ⟨a_3, ha⟩ : ∃ a, a = putE x a_2 [(0, some 13), (1, some 14), (2, some 8), (3, none)] := ⟨_, rfl⟩
    rw [← ha]
    have hN_3 := size_behind ha hN_2
    have hD_3 := defers_behind ha hD_2
    have bb_3 := bb_2.trans hC.below
    have e1_3 := slot_old ha (by kernel_rfl) e1_2
    have e3_3 := slot_old ha (by kernel_rfl) e3_2
    have e6_3 := slot_old ha (by kernel_rfl) e6_2
    have e9_3 := slot_old ha (by kernel_rfl) e9_2
    have e10_3 := slot_old ha (by kernel_rfl) e10_2
    have e11_3 := slot_old ha (by kernel_rfl) e11_2
    have e12_3 := slot_old ha (by kernel_rfl) e12_2
    have f1_3 := hC.at0 f1_2
    have f1'_3 := hC.at0 f1'_2
    have S_3 := hC.holds S_2
    have R_3 := hC.holds R_2
    have LL_3 := hC.prs (by simp) LL_2
    obtain ⟨g8, hx, hge, p8_3, p8'_3⟩ := put_atP (show (kPutP 2 9 (a.num) ((a.den : Int))).sem _ _ _ _ from hall 3 (of_decide_eq_true (by kernel_rfl)))
    have e8_3 := (slot_new (t := 8) (i := 2) ha hN_2 (by kernel_rfl) (by kernel_rfl)).trans hx
    have d8 := Nat.lt_of_lt_of_le R_2.lt hge
    clear hx hge
    clear hall hC ha bb_2 hD_2 e1_2 e3_2 e6_2 e9_2 e10_2 e11_2 e12_2 f1_2 f1'_2 S_2 R_2 LL_2
    repeat (first | refine wp_seq ?_ | (refine wp_skip ?_; refine then_n ?_))
    refine wp_region_keep hN_3 w.heap.size (w.heap.size) S_3 (by omega) 5 [1]
      [kIs (.func (.func 40) #[] #[]), kP 9 (((1 : Rat)).num) ((((1 : Rat)).den : Int)), kP 9 (a.num) ((a.den : Int)), kP 9 (a.num) ((a.den : Int)), kP 18 ((((1 : Rat)) * a).num) (((((1 : Rat)) * a).den : Int)), kRes (w.heap.size) 18 ((((1 : Rat)) * a).num) (((((1 : Rat)) * a).den : Int))]
      [ [], [], [], [(2, some 17)], [(0, some 15), (1, some 16), (3, some 18)], [(4, some 19)] ]
      [(0, some 15), (1, some 16), (2, some 17), (3, some 18), (4, some 19), (5, none)] [] [] (by kernel_rfl) (by kernel_rfl) (by kernel_rfl) (by kernel_rfl) (by kernel_rfl) (by kernel_rfl) (by kernel_rfl) rfl (by kernel_rfl) bb_3.size ?_ ?_
    ·
      refine pkl_cons rfl rfl (st_pure [] [(1, .func (.func 40) #[] #[])] (.func (.func 40) #[] #[]) rfl hN_3 (by kernel_rfl) (by kernel_rfl) (by kernel_rfl) (old1 e1_3) (by kernel_rfl) (by kernel_rfl) (by kernel_rfl) (fun _ => by kernel_rfl)) ?_
      refine pkl_keep rfl rfl rfl ?_ ?_
      · exact st_loadKF f1_3 f1'_3 e3_3 hN_3 (by kernel_rfl) rfl
      refine pkl_cons rfl rfl (st_load4P p8_3 p8'_3 (by simp only [List.mem_singleton]; omega) e8_3 hN_3 (by kernel_rfl) rfl) ?_
      refine pkl_cons rfl rfl (st_call1 hN_3 (by kernel_rfl) (by kernel_rfl) (by kernel_rfl) rfl rfl fun w x v1 hC h1 => tp (of_9 (pm (by decide) h1))) ?_
      refine pkl_cons rfl rfl (st_call2V hN_3 (by kernel_rfl) (by kernel_rfl) (by kernel_rfl) (by kernel_rfl) (by kernel_rfl) (by kernel_rfl) (by kernel_rfl) (by kernel_rfl) rfl rfl rfl rfl fun w x v1 v2 hC h1 h2 => tp (times_9 (pm (by decide) h1) (pm (by decide) h2))) ?_
      refine pkl_cons rfl rfl (st_resF S_3 rfl (by simp) e3_3 hN_3 (by kernel_rfl) (by kernel_rfl) rfl rfl) ?_
      exact pkl_nil rfl
    intro W_4 x hC hall
    obtain ⟨a_4, ha⟩ : ∃ a, a = putE x a_3 [(0, some 15), (1, some 16), (2, some 17), (3, some 18), (4, some 19), (5, none)] := ⟨_, rfl⟩
    rw [← ha]
    have hN_4 := size_behind ha hN_3
    have hD_4 := defers_behind ha hD_3
    have bb_4 := bb_3.trans hC.below
    have e1_4 := slot_old ha (by kernel_rfl) e1_3
    have e3_4 := slot_old ha (by kernel_rfl) e3_3
    have e6_4 := slot_old ha (by kernel_rfl) e6_3
    have e9_4 := slot_old ha (by kernel_rfl) e9_3
    have e10_4 := slot_old ha (by kernel_rfl) e10_3
    have e11_4 := slot_old ha (by kernel_rfl) e11_3
    have e12_4 := slot_old ha (by kernel_rfl) e12_3
    have e8_4 := slot_old ha (by kernel_rfl) e8_3
    have R_4 := hC.holdsG (by simp only [List.mem_singleton]; omega) R_3
    have LL_4 := hC.prs (by simp only [List.mem_singleton]; omega) LL_3
    have hres := show (kRes (w.heap.size) 18 ((((1 : Rat)) * a).num) (((((1 : Rat)) * a).den : Int))).sem _ _ _ _ from hall 5 (of_decide_eq_true (by kernel_rfl))
    obtain ⟨f1_4, f1'_4⟩ := res_atP hres
    obtain ⟨_, _, _, _, S_4⟩ := res_four hres
    clear hall hC ha hres
    refine in_block8 ?_
    refine then_n ?_
    refine wp_incr2 (n := 0) (m := 1) hN_4 (by kernel_rfl) e11_4 (fun _ => by kernel_rfl) ?_
    intro x hx
    obtain ⟨a_5, ha⟩ : ∃ a, a = putE x a_4 [(0, some 20), (1, some 11)] := ⟨_, rfl⟩
    rw [← ha]
    have hN_5 := size_behind ha hN_4
    have hD_5 := defers_behind ha hD_4
    have bb_5 := bb_4
    have e1_5 := slot_old ha (by kernel_rfl) e1_4
    have e3_5 := slot_old ha (by kernel_rfl) e3_4
    have e6_5 := slot_old ha (by kernel_rfl) e6_4
    have e9_5 := slot_old ha (by kernel_rfl) e9_4
    have e10_5 := slot_old ha (by kernel_rfl) e10_4
    have e12_5 := slot_old ha (by kernel_rfl) e12_4
    have e8_5 := slot_old ha (by kernel_rfl) e8_4
    have f1_5 := f1_4
    have f1'_5 := f1'_4
    have S_5 := S_4
    have R_5 := R_4
    have LL_5 := LL_4
    have e11_5 := (slot_new (t := 11) (i := 1) ha hN_4 (by kernel_rfl) (by kernel_rfl)).trans hx
    clear ha hx
    have hq : (1 : Rat) * a = a := Rat.one_mul a
    rw [hq] at f1_5 f1'_5
    refine ⟨⟨hN_5, hD_5, e1_5, e3_5, e6_5, e9_5, e10_5, bb_5, ⟨_, _, _, _, S_5⟩, R_5, LL_5, .inr (.inl ⟨e11_5, f1_5.tight HB0.out.1, f1'_5.tight HB0.out.2⟩)⟩, ?_⟩
    rw [e11_5]; decide
  ·
    have hm : intOf (a_1.eval (.tmp 11)) = 1 := by rw [e11_1]; rfl
    rw [hm]
    clear hm
    repeat (first | refine wp_seq ?_ | (refine wp_skip ?_; refine then_n ?_))
    refine wp_region_law hN_1 w.heap.size
      [kIs (.bool true)]
      [ [] ]
      [(0, some 12)] [] [] (by kernel_rfl) (by kernel_rfl) (by kernel_rfl) (by kernel_rfl) (by kernel_rfl) (by kernel_rfl) (by kernel_rfl) bb_1.size ?_ ?_
    ·
      refine pk_cons rfl rfl (st_pure [] [(11, .int .i64 (1)), (10, .int .i64 (2))] (.bool true) rfl hN_1 (by kernel_rfl) (by kernel_rfl) (by kernel_rfl) (old2 e11_1 e10_1) (by kernel_rfl) (by kernel_rfl) (by kernel_rfl) (fun _ => by kernel_rfl)) ?_
      exact pk_nil rfl
    intro W_2 x hC hall
    refine then_n ?_
    obtain ⟨a_2, ha⟩ : ∃ a, a = putE x a_1 [(0, some 12)] := ⟨_, rfl⟩
    rw [← ha]
    have hN_2 := size_behind ha hN_1
    have hD_2 := defers_behind ha hD_1
    have bb_2 := bb_1.trans hC.below
    have e1_2 := slot_old ha (by kernel_rfl) e1_1
    have e3_2 := slot_old ha (by kernel_rfl) e3_1
    have e6_2 := slot_old ha (by kernel_rfl) e6_1
    have e9_2 := slot_old ha (by kernel_rfl) e9_1
    have e10_2 := slot_old ha (by kernel_rfl) e10_1
    have e11_2 := slot_old ha (by kernel_rfl) e11_1
    have f1_2 := hC.at0 f1_1
    have f1'_2 := hC.at0 f1'_1
    have S_2 := hC.holds S_1
    have R_2 := hC.holds R_1
    have LL_2 := hC.prs (by simp) LL_1
    have e12_2 := (slot_new (t := 12) (i := 0) ha hN_1 (by kernel_rfl) (by kernel_rfl)).trans (show x 0 = .bool true from hall 0 (of_decide_eq_true (by kernel_rfl)))
    clear hall hC ha bb_1 hD_1 e1_1 e3_1 e6_1 e9_1 e10_1 e11_1 f1_1 f1'_1 S_1 R_1 LL_1
    repeat (first | refine wp_seq ?_ | (refine wp_skip ?_; refine then_n ?_))
    refine wp_cond_true e12_2 ?_
    repeat (first | refine wp_seq ?_ | (refine wp_skip ?_; refine then_n ?_))
    refine wp_block ?_
    repeat (first | refine wp_seq ?_ | (refine wp_skip ?_; refine then_n ?_))
    refine wp_region_law hN_2 w.heap.size
      [kIs (.pointer (some ⟨g2, 4, none⟩)), kP 9 (b.num) ((b.den : Int)), PK.fresh 4, kPutP 2 9 (b.num) ((b.den : Int))]
      [ [], [(0, some 13)], [], [(2, some 8), (1, some 14)] ]
      [(0, some 13), (1, some 14), (2, some 8), (3, none)] [] [] (by kernel_rfl) (by kernel_rfl) (by kernel_rfl) (by kernel_rfl) (by kernel_rfl) (by kernel_rfl) (by kernel_rfl) bb_2.size ?_ ?_
    ·
      refine pk_cons rfl rfl (st_pure [] [(9, .slice (some ⟨g2, 0, none⟩) 2 2), (11, .int .i64 (1))] (.pointer (some ⟨g2, 4, none⟩)) rfl hN_2 (by kernel_rfl) (by kernel_rfl) (by kernel_rfl) (old2 e9_2 e11_2) (by kernel_rfl) (by kernel_rfl) (by kernel_rfl) (fun _ => by kernel_rfl)) ?_
      refine pk_cons rfl rfl (st_loadPI LL_2 (n := 1) rfl rfl (by simp) hN_2 (by kernel_rfl) (by kernel_rfl) rfl rfl) ?_
      refine pk_cons rfl rfl (st_allocP hN_2 (by kernel_rfl) (Nat.le_refl _) rfl) ?_
      refine pk_cons rfl rfl (st_putP hN_2 (by kernel_rfl) (by kernel_rfl) (by kernel_rfl) rfl rfl rfl) ?_
      exact pk_nil rfl
    intro W_3 x hC hall
    refine then_n ?_
    obtain ⟨a_3, ha⟩ : ∃ a, a = putE x a_2 [(0, some 13), (1, some 14), (2, some 8), (3, none)] := ⟨_, rfl⟩
    rw [← ha]
    have hN_3 := size_behind ha hN_2
    have hD_3 := defers_behind ha hD_2
    have bb_3 := bb_2.trans hC.below
    have e1_3 := slot_old ha (by kernel_rfl) e1_2
    have e3_3 := slot_old ha (by kernel_rfl) e3_2
    have e6_3 := slot_old ha (by kernel_rfl) e6_2
    have e9_3 := slot_old ha (by kernel_rfl) e9_2
    have e10_3 := slot_old ha (by kernel_rfl) e10_2
    have e11_3 := slot_old ha (by kernel_rfl) e11_2
    have e12_3 := slot_old ha (by kernel_rfl) e12_2
    have f1_3 := hC.at0 f1_2
    have f1'_3 := hC.at0 f1'_2
    have S_3 := hC.holds S_2
    have R_3 := hC.holds R_2
    have LL_3 := hC.prs (by simp) LL_2
    obtain ⟨g8, hx, hge, p8_3, p8'_3⟩ := put_atP (show (kPutP 2 9 (b.num) ((b.den : Int))).sem _ _ _ _ from hall 3 (of_decide_eq_true (by kernel_rfl)))
    have e8_3 := (slot_new (t := 8) (i := 2) ha hN_2 (by kernel_rfl) (by kernel_rfl)).trans hx
    have d8 := Nat.lt_of_lt_of_le R_2.lt hge
    clear hx hge
    clear hall hC ha bb_2 hD_2 e1_2 e3_2 e6_2 e9_2 e10_2 e11_2 e12_2 f1_2 f1'_2 S_2 R_2 LL_2
    repeat (first | refine wp_seq ?_ | (refine wp_skip ?_; refine then_n ?_))
    refine wp_region_keep hN_3 w.heap.size (w.heap.size) S_3 (by omega) 5 [1]
      [kIs (.func (.func 40) #[] #[]), kP 9 (a.num) ((a.den : Int)), kP 9 (b.num) ((b.den : Int)), kP 9 (b.num) ((b.den : Int)), kP 18 ((a * b).num) (((a * b).den : Int)), kRes (w.heap.size) 18 ((a * b).num) (((a * b).den : Int))]
      [ [], [], [], [(2, some 17)], [(0, some 15), (1, some 16), (3, some 18)], [(4, some 19)] ]
      [(0, some 15), (1, some 16), (2, some 17), (3, some 18), (4, some 19), (5, none)] [] [] (by kernel_rfl) (by kernel_rfl) (by kernel_rfl) (by kernel_rfl) (by kernel_rfl) (by kernel_rfl) (by kernel_rfl) rfl (by kernel_rfl) bb_3.size ?_ ?_
    ·
      refine pkl_cons rfl rfl (st_pure [] [(1, .func (.func 40) #[] #[])] (.func (.func 40) #[] #[]) rfl hN_3 (by kernel_rfl) (by kernel_rfl) (by kernel_rfl) (old1 e1_3) (by kernel_rfl) (by kernel_rfl) (by kernel_rfl) (fun _ => by kernel_rfl)) ?_
      refine pkl_keep rfl rfl rfl ?_ ?_
      · exact st_loadKF f1_3 f1'_3 e3_3 hN_3 (by kernel_rfl) rfl
      refine pkl_cons rfl rfl (st_load4P p8_3 p8'_3 (by simp only [List.mem_singleton]; omega) e8_3 hN_3 (by kernel_rfl) rfl) ?_
      refine pkl_cons rfl rfl (st_call1 hN_3 (by kernel_rfl) (by kernel_rfl) (by kernel_rfl) rfl rfl fun w x v1 hC h1 => tp (of_9 (pm (by decide) h1))) ?_
      refine pkl_cons rfl rfl (st_call2V hN_3 (by kernel_rfl) (by kernel_rfl) (by kernel_rfl) (by kernel_rfl) (by kernel_rfl) (by kernel_rfl) (by kernel_rfl) (by kernel_rfl) rfl rfl rfl rfl fun w x v1 v2 hC h1 h2 => tp (times_9 (pm (by decide) h1) (pm (by decide) h2))) ?_
      refine pkl_cons rfl rfl (st_resF S_3 rfl (by simp) e3_3 hN_3 (by kernel_rfl) (by kernel_rfl) rfl rfl) ?_
      exact pkl_nil rfl
    intro W_4 x hC hall
    obtain ⟨a_4, ha⟩ : ∃ a, a = putE x a_3 [(0, some 15), (1, some 16), (2, some 17), (3, some 18), (4, some 19), (5, none)] := ⟨_, rfl⟩
    rw [← ha]
    have hN_4 := size_behind ha hN_3
    have hD_4 := defers_behind ha hD_3
    have bb_4 := bb_3.trans hC.below
    have e1_4 := slot_old ha (by kernel_rfl) e1_3
    have e3_4 := slot_old ha (by kernel_rfl) e3_3
    have e6_4 := slot_old ha (by kernel_rfl) e6_3
    have e9_4 := slot_old ha (by kernel_rfl) e9_3
    have e10_4 := slot_old ha (by kernel_rfl) e10_3
    have e11_4 := slot_old ha (by kernel_rfl) e11_3
    have e12_4 := slot_old ha (by kernel_rfl) e12_3
    have e8_4 := slot_old ha (by kernel_rfl) e8_3
    have R_4 := hC.holdsG (by simp only [List.mem_singleton]; omega) R_3
    have LL_4 := hC.prs (by simp only [List.mem_singleton]; omega) LL_3
    have hres := show (kRes (w.heap.size) 18 ((a * b).num) (((a * b).den : Int))).sem _ _ _ _ from hall 5 (of_decide_eq_true (by kernel_rfl))
    obtain ⟨f1_4, f1'_4⟩ := res_atP hres
    obtain ⟨_, _, _, _, S_4⟩ := res_four hres
    clear hall hC ha hres
    refine in_block8 ?_
    refine then_n ?_
    refine wp_incr2 (n := 1) (m := 2) hN_4 (by kernel_rfl) e11_4 (fun _ => by kernel_rfl) ?_
    intro x hx
    obtain ⟨a_5, ha⟩ : ∃ a, a = putE x a_4 [(0, some 20), (1, some 11)] := ⟨_, rfl⟩
    rw [← ha]
    have hN_5 := size_behind ha hN_4
    have hD_5 := defers_behind ha hD_4
    have bb_5 := bb_4
    have e1_5 := slot_old ha (by kernel_rfl) e1_4
    have e3_5 := slot_old ha (by kernel_rfl) e3_4
    have e6_5 := slot_old ha (by kernel_rfl) e6_4
    have e9_5 := slot_old ha (by kernel_rfl) e9_4
    have e10_5 := slot_old ha (by kernel_rfl) e10_4
    have e12_5 := slot_old ha (by kernel_rfl) e12_4
    have e8_5 := slot_old ha (by kernel_rfl) e8_4
    have f1_5 := f1_4
    have f1'_5 := f1'_4
    have S_5 := S_4
    have R_5 := R_4
    have LL_5 := LL_4
    have e11_5 := (slot_new (t := 11) (i := 1) ha hN_4 (by kernel_rfl) (by kernel_rfl)).trans hx
    clear ha hx
    refine ⟨⟨hN_5, hD_5, e1_5, e3_5, e6_5, e9_5, e10_5, bb_5, ⟨_, _, _, _, S_5⟩, R_5, LL_5, .inr (.inr (⟨e11_5, f1_5, f1'_5⟩))⟩, ?_⟩
    rw [e11_5]; decide
  ·
    have hm : intOf (a_1.eval (.tmp 11)) = 2 := by rw [e11_1]; rfl
    rw [hm]
    clear hm
    repeat (first | refine wp_seq ?_ | (refine wp_skip ?_; refine then_n ?_))
    refine wp_region_law hN_1 w.heap.size
      [kIs (.bool false)]
      [ [] ]
      [(0, some 12)] [] [] (by kernel_rfl) (by kernel_rfl) (by kernel_rfl) (by kernel_rfl) (by kernel_rfl) (by kernel_rfl) (by kernel_rfl) bb_1.size ?_ ?_
    ·
      refine pk_cons rfl rfl (st_pure [] [(11, .int .i64 (2)), (10, .int .i64 (2))] (.bool false) rfl hN_1 (by kernel_rfl) (by kernel_rfl) (by kernel_rfl) (old2 e11_1 e10_1) (by kernel_rfl) (by kernel_rfl) (by kernel_rfl) (fun _ => by kernel_rfl)) ?_
      exact pk_nil rfl
    intro W_2 x hC hall
    refine then_n ?_
    obtain ⟨a_2, ha⟩ : ∃ a, a = putE x a_1 [(0, some 12)] := ⟨_, rfl⟩
    rw [← ha]
    have hN_2 := size_behind ha hN_1
    have hD_2 := defers_behind ha hD_1
    have bb_2 := bb_1.trans hC.below
    have e1_2 := slot_old ha (by kernel_rfl) e1_1
    have e3_2 := slot_old ha (by kernel_rfl) e3_1
    have e6_2 := slot_old ha (by kernel_rfl) e6_1
    have e9_2 := slot_old ha (by kernel_rfl) e9_1
    have e10_2 := slot_old ha (by kernel_rfl) e10_1
    have e11_2 := slot_old ha (by kernel_rfl) e11_1
    have f1_2 := hC.at0 f1_1
    have f1'_2 := hC.at0 f1'_1
    have S_2 := hC.holds S_1
    have R_2 := hC.holds R_1
    have LL_2 := hC.prs (by simp) LL_1
    have e12_2 := (slot_new (t := 12) (i := 0) ha hN_1 (by kernel_rfl) (by kernel_rfl)).trans (show x 0 = .bool false from hall 0 (of_decide_eq_true (by kernel_rfl)))
    clear hall hC ha bb_1 hD_1 e1_1 e3_1 e6_1 e9_1 e10_1 e11_1 f1_1 f1'_1 S_1 R_1 LL_1
    repeat (first | refine wp_seq ?_ | (refine wp_skip ?_; refine then_n ?_))
    refine wp_cond_false e12_2 ?_
    repeat (first | refine wp_seq ?_ | (refine wp_skip ?_; refine then_n ?_))
    refine wp_exit ?_
    repeat (refine then_x8 ?_)
    refine out_block8 ?_
    refine then_n ?_
    repeat (first | refine wp_seq ?_ | (refine wp_skip ?_; refine then_n ?_))
    refine wp_region_res hN_2 w.heap.size (w.heap.size + 1) R_2 (by omega)
      [kP 18 ((a * b).num) (((a * b).den : Int)), kRes (w.heap.size + 1) 18 ((a * b).num) (((a * b).den : Int))]
      [ [], [(0, some 21)] ]
      [(0, some 21), (1, none)] [] [] (by kernel_rfl) (by kernel_rfl) (by kernel_rfl) (by kernel_rfl) (by kernel_rfl) (by kernel_rfl) (by kernel_rfl) bb_2.size ?_ ?_
    ·
      refine pk_cons rfl rfl (st_load4F f1_2 f1'_2 (by simp only [List.mem_singleton]; omega) e3_2 hN_2 (by kernel_rfl) rfl) ?_
      refine pk_cons rfl rfl (st_resF R_2 rfl (by simp) e6_2 hN_2 (by kernel_rfl) (by kernel_rfl) rfl rfl) ?_
      exact pk_nil rfl
    intro W x hC hall
    refine then_n ?_
    obtain ⟨a1, ha⟩ : ∃ a, a = putE x a_2 [(0, some 21), (1, none)] := ⟨_, rfl⟩
    rw [← ha]
    have hD1 := defers_behind ha hD_2
    have bb1 := bb_2.trans hC.below
    obtain ⟨cs, hg, hP⟩ := (show (kRes (w.heap.size + 1) 18 ((a * b).num) (((a * b).den : Int))).sem _ _ _ _ from hall 1 (of_decide_eq_true (by kernel_rfl)))
    have e1 := slot_old (t := 6) ha (by kernel_rfl) e6_2
    repeat (first | refine wp_seq ?_ | (refine wp_skip ?_; refine then_n ?_))
    refine wp_ret ?_
    repeat (refine then_r ?_)
    exact ret_cellF (t := 6) rfl hD1 e1 hg hP fun v hv => ⟨v, rfl, hv, bb1⟩
set_option maxRecDepth 100000 in
set_option maxHeartbeats 8000000 in
theorem fold3_times_9 {w : World} {v0 v2 : Value} {a b c : Rat} (h0 : Pr w v0 9 ((1 : Rat)).num (((1 : Rat)).den : Int)) (hl : PL w v2 [(9, a.num, (a.den : Int)), (9, b.num, (b.den : Int)), (9, c.num, (c.den : Int))]) :
    Calls Tryz.prog 37 #[v0, .func (.func 40) #[] #[], v2] w (TellsP w 38 (((a * b) * c).num) ((((a * b) * c).den : Int))) := by
  obtain ⟨A1, l1, c1, A1', l1', c1', rfl, ⟨r1, u1⟩, r1', u1'⟩ := h0
  obtain ⟨b1, hb1⟩ : ∃ s, s = decide (((1 : Rat)).num < 0) := ⟨_, rfl⟩
  obtain ⟨b1', hb1'⟩ : ∃ s, s = decide ((((1 : Rat)).den : Int) < 0) := ⟨_, rfl⟩
  rw [← hb1, ← hb1']
  have H1 := Lib.hid (show _ ∧ _ ∧ _ ∧ _ ∧ _ ∧ _ from ⟨hb1, hb1', r1, u1, r1', u1'⟩)
  clear hb1 hb1' r1 u1 r1' u1'
  obtain ⟨g2, rfl, hg2, hl2⟩ := hl
  have HL := Lib.hid hl2
  clear hl2
  have HB0 := Lib.hid (HL.out.lt (j := 0) rfl)
  have HB1 := Lib.hid (HL.out.lt (j := 1) rfl)
  have HB2 := Lib.hid (HL.out.lt (j := 2) rfl)
  show Calls _ _ #[_, _, .slice (some ⟨g2, 0, none⟩) 3 3] _ _
  go_enter Tryz.func37, Tryz.ntmps37
  repeat (refine wp_seq ?_)
  refine region_k ?_
  intro K hK
  have HK := Lib.hid hK
  clear hK
  go_wp2
  refine HK.out _ _ ?_
  clear HK
  refine then_n ?_
  obtain ⟨W_0, hW⟩ : ∃ W, W = (w.alloc (Obj.cells #[Value.bool b1, Value.slice A1 l1 c1, Value.bool b1', Value.slice A1' l1' c1'] 53)).alloc (Obj.cells #[Value.bool false, Value.slice none 0 0, Value.bool false, Value.slice none 0 0] 53) := ⟨_, rfl⟩
  have bb_0 : Below w.heap.size w W_0 := by rw [hW]; exact bal (bal (Below.refl _ _) _) _
  have K0 : W_0.heap[w.heap.size]? = some (Obj.cells #[Value.bool b1, Value.slice A1 l1 c1, Value.bool b1', Value.slice A1' l1' c1'] 53) := by rw [hW]; rw [Below.heap_alloc _ _ _ (by simp <;> omega)]; exact new_at (by simp)
  have K1 : W_0.heap[w.heap.size + 1]? = some (Obj.cells #[Value.bool false, Value.slice none 0 0, Value.bool false, Value.slice none 0 0] 53) := by rw [hW]; exact new_at (by simp)
  rw [← hW]
  obtain ⟨m1, n1, m1', n1', _, _, _, _⟩ := four_cells K0
  have f1_0 : AtR W_0 (w.heap.size) 0 9 (((1 : Rat)).num) := ⟨A1, l1, c1, by rw [← H1.out.1]; exact m1, n1, A1, l1, c1, rfl, H1.out.2.2.1.below bb_0, H1.out.2.2.2.1⟩
  have f1'_0 : AtR W_0 (w.heap.size) 2 9 ((((1 : Rat)).den : Int)) := ⟨A1', l1', c1', by rw [← H1.out.2.1]; exact m1', n1', A1', l1', c1', rfl, H1.out.2.2.2.2.1.below bb_0, H1.out.2.2.2.2.2⟩
  have S_0 : Holds_ W_0 (w.heap.size) #[Value.bool b1, Value.slice A1 l1 c1, Value.bool b1', Value.slice A1' l1' c1'] := ⟨⟨_, K0⟩, by simp [noDig]⟩
  have R_0 : Holds_ W_0 (w.heap.size + 1) #[Value.bool false, Value.slice none 0 0, Value.bool false, Value.slice none 0 0] := ⟨⟨_, K1⟩, by simp [noDig]⟩
  have LL_0 := HL.out.below bb_0
  clear hW K0 K1 m1 n1 m1' n1'
  refine name_frame (G := fun a => Code.wp _ _ _ a _) ?_
  intro a_0 ha
  have hN_0 : a_0.tmps.size = 22 := by subst ha; kernel_rfl
  have hD_0 : a_0.defers = [] := by subst ha; rfl
  have e1_0 : a_0.eval (.tmp 1) = .func (.func 40) #[] #[] := by subst ha; kernel_rfl
  have e2_0 : a_0.eval (.tmp 2) = .slice (some ⟨g2, 0, none⟩) 3 3 := by subst ha; kernel_rfl
  have e3_0 : a_0.eval (.tmp 3) = .pointer (some ⟨w.heap.size, 0, none⟩) := by subst ha; kernel_rfl
  have e6_0 : a_0.eval (.tmp 6) = .pointer (some ⟨w.heap.size + 1, 0, none⟩) := by subst ha; kernel_rfl
  clear ha
  repeat (first | refine wp_seq ?_ | (refine wp_skip ?_; refine then_n ?_))
  refine wp_region_law hN_0 w.heap.size
    [kIs (.slice (some ⟨g2, 0, none⟩) 3 3), kIs (.int .i64 (3)), kIs (.int .i64 (0))]
    [ [], [(0, some 9)], [] ]
    [(0, some 9), (1, some 10), (2, some 11)] [] [] (by kernel_rfl) (by kernel_rfl) (by kernel_rfl) (by kernel_rfl) (by kernel_rfl) (by kernel_rfl) (by kernel_rfl) bb_0.size ?_ ?_
  ·
    refine pk_cons rfl rfl (st_pure [] [(2, .slice (some ⟨g2, 0, none⟩) 3 3)] (.slice (some ⟨g2, 0, none⟩) 3 3) rfl hN_0 (by kernel_rfl) (by kernel_rfl) (by kernel_rfl) (old1 e2_0) (by kernel_rfl) (by kernel_rfl) (by kernel_rfl) (fun _ => by kernel_rfl)) ?_
    refine pk_cons rfl rfl (st_pure [.slice (some ⟨g2, 0, none⟩) 3 3] [] (.int .i64 (3)) rfl hN_0 (by kernel_rfl) (by kernel_rfl) (by kernel_rfl) old0 (by kernel_rfl) (by kernel_rfl) (by kernel_rfl) (fun _ => by kernel_rfl)) ?_
    refine pk_cons rfl rfl (st_pure [] [] (.int .i64 (0)) rfl hN_0 (by kernel_rfl) (by kernel_rfl) (by kernel_rfl) old0 (by kernel_rfl) (by kernel_rfl) (by kernel_rfl) (fun _ => by kernel_rfl)) ?_
    exact pk_nil rfl
  intro W_1 x hC hall
  refine then_n ?_
  obtain ⟨a_1, ha⟩ : ∃ a, a = putE x a_0 [(0, some 9), (1, some 10), (2, some 11)] := ⟨_, rfl⟩
  rw [← ha]
  have hN_1 := size_behind ha hN_0
  have hD_1 := defers_behind ha hD_0
  have bb_1 := bb_0.trans hC.below
  have e1_1 := slot_old ha (by kernel_rfl) e1_0
  have e2_1 := slot_old ha (by kernel_rfl) e2_0
  have e3_1 := slot_old ha (by kernel_rfl) e3_0
  have e6_1 := slot_old ha (by kernel_rfl) e6_0
  have f1_1 := hC.at0 f1_0
  have f1'_1 := hC.at0 f1'_0
  have S_1 := hC.holds S_0
  have R_1 := hC.holds R_0
  have LL_1 := hC.prs (by simp) LL_0
  have e9_1 := (slot_new (t := 9) (i := 0) ha hN_0 (by kernel_rfl) (by kernel_rfl)).trans (show x 0 = .slice (some ⟨g2, 0, none⟩) 3 3 from hall 0 (of_decide_eq_true (by kernel_rfl)))
  have e10_1 := (slot_new (t := 10) (i := 1) ha hN_0 (by kernel_rfl) (by kernel_rfl)).trans (show x 1 = .int .i64 (3) from hall 1 (of_decide_eq_true (by kernel_rfl)))
  have e11_1 := (slot_new (t := 11) (i := 2) ha hN_0 (by kernel_rfl) (by kernel_rfl)).trans (show x 2 = .int .i64 (0) from hall 2 (of_decide_eq_true (by kernel_rfl)))
  clear hall hC ha bb_0 hD_0 e1_0 e2_0 e3_0 e6_0 f1_0 f1'_0 S_0 R_0 LL_0
  repeat (first | refine wp_seq ?_ | (refine wp_skip ?_; refine then_n ?_))
  refine wp_block ?_
  refine wp_loop (fun ac W => ac.tmps.size = 22 ∧ ac.defers = [] ∧ ac.eval (.tmp 1) = .func (.func 40) #[] #[] ∧ ac.eval (.tmp 3) = .pointer (some ⟨w.heap.size, 0, none⟩) ∧ ac.eval (.tmp 6) = .pointer (some ⟨w.heap.size + 1, 0, none⟩) ∧ ac.eval (.tmp 9) = .slice (some ⟨g2, 0, none⟩) 3 3 ∧ ac.eval (.tmp 10) = .int .i64 (3) ∧ Below w.heap.size w W ∧ (∃ q1 q2 q3 q4, Holds_ W w.heap.size #[q1, q2, q3, q4]) ∧ Holds_ W (w.heap.size + 1) #[Value.bool false, Value.slice none 0 0, Value.bool false, Value.slice none 0 0] ∧ PRs W g2 [(9, a.num, (a.den : Int)), (9, b.num, (b.den : Int)), (9, c.num, (c.den : Int))] ∧ ((ac.eval (.tmp 11) = .int .i64 (0) ∧ AtR W w.heap.size 0 9 (((1 : Rat)).num) ∧ AtR W w.heap.size 2 9 ((((1 : Rat)).den : Int))) ∨ (ac.eval (.tmp 11) = .int .i64 (1) ∧ AtR W w.heap.size 0 9 (a.num) ∧ AtR W w.heap.size 2 9 ((a.den : Int))) ∨ (ac.eval (.tmp 11) = .int .i64 (2) ∧ AtR W w.heap.size 0 18 ((a * b).num) ∧ AtR W w.heap.size 2 18 (((a * b).den : Int))) ∨ (ac.eval (.tmp 11) = .int .i64 (3) ∧ AtR W w.heap.size 0 38 (((a * b) * c).num) ∧ AtR W w.heap.size 2 38 ((((a * b) * c).den : Int))))) (fun ac _ => 3 - (intOf (ac.eval (.tmp 11))).toNat) ?_ ?_
  · exact ⟨hN_1, hD_1, e1_1, e3_1, e6_1, e9_1, e10_1, bb_1, ⟨_, _, _, _, S_1⟩, R_1, LL_1, .inl ⟨e11_1, f1_1, f1'_1⟩⟩
  clear hN_1 hD_1 e1_1 e3_1 e6_1 e9_1 e10_1 e11_1 bb_1 S_1 R_1 LL_1 f1_1 f1'_1
  rintro a_1 W_1 ⟨hN_1, hD_1, e1_1, e3_1, e6_1, e9_1, e10_1, bb_1, ⟨_, _, _, _, S_1⟩, R_1, LL_1, hor⟩
  rcases hor with ⟨e11_1, f1_1, f1'_1⟩ | ⟨e11_1, f1_1, f1'_1⟩ | ⟨e11_1, f1_1, f1'_1⟩ | ⟨e11_1, f1_1, f1'_1⟩
  ·
    have hm : intOf (a_1.eval (.tmp 11)) = 0 := by rw [e11_1]; rfl
    rw [hm]
    clear hm
    repeat (first | refine wp_seq ?_ | (refine wp_skip ?_; refine then_n ?_))
    refine wp_region_law hN_1 w.heap.size
      [kIs (.bool true)]
      [ [] ]
      [(0, some 12)] [] [] (by kernel_rfl) (by kernel_rfl) (by kernel_rfl) (by kernel_rfl) (by kernel_rfl) (by kernel_rfl) (by kernel_rfl) bb_1.size ?_ ?_
    ·
      refine pk_cons rfl rfl (st_pure [] [(11, .int .i64 (0)), (10, .int .i64 (3))] (.bool true) rfl hN_1 (by kernel_rfl) (by kernel_rfl) (by kernel_rfl) (old2 e11_1 e10_1) (by kernel_rfl) (by kernel_rfl) (by kernel_rfl) (fun _ => by kernel_rfl)) ?_
      exact pk_nil rfl
    intro W_2 x hC hall
    refine then_n ?_
    obtain ⟨a_2, ha⟩ : ∃ a, a = putE x a_1 [(0, some 12)] := ⟨_, rfl⟩
    rw [← ha]
    have hN_2 := size_behind ha hN_1
    have hD_2 := defers_behind ha hD_1
    have bb_2 := bb_1.trans hC.below
    have e1_2 := slot_old ha (by kernel_rfl) e1_1
    have e3_2 := slot_old ha (by kernel_rfl) e3_1
    have e6_2 := slot_old ha (by kernel_rfl) e6_1
    have e9_2 := slot_old ha (by kernel_rfl) e9_1
    have e10_2 := slot_old ha (by kernel_rfl) e10_1
    have e11_2 := slot_old ha (by kernel_rfl) e11_1
    have f1_2 := hC.at0 f1_1
    have f1'_2 := hC.at0 f1'_1
    have S_2 := hC.holds S_1
    have R_2 := hC.holds R_1
    have LL_2 := hC.prs (by simp) LL_1
    have e12_2 := (slot_new (t := 12) (i := 0) ha hN_1 (by kernel_rfl) (by kernel_rfl)).trans (show x 0 = .bool true from hall 0 (of_decide_eq_true (by kernel_rfl)))
    clear hall hC ha bb_1 hD_1 e1_1 e3_1 e6_1 e9_1 e10_1 e11_1 f1_1 f1'_1 S_1 R_1 LL_1
    repeat (first | refine wp_seq ?_ | (refine wp_skip ?_; refine then_n ?_))
    refine wp_cond_true e12_2 ?_
    repeat (first | refine wp_seq ?_ | (refine wp_skip ?_; refine then_n ?_))
    refine wp_block ?_
    repeat (first | refine wp_seq ?_ | (refine wp_skip ?_; refine then_n ?_))
    refine wp_region_law hN_2 w.heap.size
      [kIs (.pointer (some ⟨g2, 0, none⟩)), kP 9 (a.num) ((a.den : Int)), PK.fresh 4, kPutP 2 9 (a.num) ((a.den : Int))]
      [ [], [(0, some 13)], [], [(2, some 8), (1, some 14)] ]
      [(0, some 13), (1, some 14), (2, some 8), (3, none)] [] [] (by kernel_rfl) (by kernel_rfl) (by kernel_rfl) (by kernel_rfl) (by kernel_rfl) (by kernel_rfl) (by kernel_rfl) bb_2.size ?_ ?_
    ·
      refine pk_cons rfl rfl (st_pure [] [(9, .slice (some ⟨g2, 0, none⟩) 3 3), (11, .int .i64 (0))] (.pointer (some ⟨g2, 0, none⟩)) rfl hN_2 (by kernel_rfl) (by kernel_rfl) (by kernel_rfl) (old2 e9_2 e11_2) (by kernel_rfl) (by kernel_rfl) (by kernel_rfl) (fun _ => by kernel_rfl)) ?_
      refine pk_cons rfl rfl (st_loadPI LL_2 (n := 0) rfl rfl (by simp) hN_2 (by kernel_rfl) (by kernel_rfl) rfl rfl) ?_
      refine pk_cons rfl rfl (st_allocP hN_2 (by kernel_rfl) (Nat.le_refl _) rfl) ?_
      refine pk_cons rfl rfl (st_putP hN_2 (by kernel_rfl) (by kernel_rfl) (by kernel_rfl) rfl rfl rfl) ?_
      exact pk_nil rfl
    intro W_3 x hC hall
    refine then_n ?_
    obtain ⟨a_3, ha⟩ : ∃ a, a = putE x a_2 [(0, some 13), (1, some 14), (2, some 8), (3, none)] := ⟨_, rfl⟩
    rw [← ha]
    have hN_3 := size_behind ha hN_2
    have hD_3 := defers_behind ha hD_2
    have bb_3 := bb_2.trans hC.below
    have e1_3 := slot_old ha (by kernel_rfl) e1_2
    have e3_3 := slot_old ha (by kernel_rfl) e3_2
    have e6_3 := slot_old ha (by kernel_rfl) e6_2
    have e9_3 := slot_old ha (by kernel_rfl) e9_2
    have e10_3 := slot_old ha (by kernel_rfl) e10_2
    have e11_3 := slot_old ha (by kernel_rfl) e11_2
    have e12_3 := slot_old ha (by kernel_rfl) e12_2
    have f1_3 := hC.at0 f1_2
    have f1'_3 := hC.at0 f1'_2
    have S_3 := hC.holds S_2
    have R_3 := hC.holds R_2
    have LL_3 := hC.prs (by simp) LL_2
    obtain ⟨g8, hx, hge, p8_3, p8'_3⟩ := put_atP (show (kPutP 2 9 (a.num) ((a.den : Int))).sem _ _ _ _ from hall 3 (of_decide_eq_true (by kernel_rfl)))
    have e8_3 := (slot_new (t := 8) (i := 2) ha hN_2 (by kernel_rfl) (by kernel_rfl)).trans hx
    have d8 := Nat.lt_of_lt_of_le R_2.lt hge
    clear hx hge
    clear hall hC ha bb_2 hD_2 e1_2 e3_2 e6_2 e9_2 e10_2 e11_2 e12_2 f1_2 f1'_2 S_2 R_2 LL_2
    repeat (first | refine wp_seq ?_ | (refine wp_skip ?_; refine then_n ?_))
    refine wp_region_keep hN_3 w.heap.size (w.heap.size) S_3 (by omega) 5 [1]
      [kIs (.func (.func 40) #[] #[]), kP 9 (((1 : Rat)).num) ((((1 : Rat)).den : Int)), kP 9 (a.num) ((a.den : Int)), kP 9 (a.num) ((a.den : Int)), kP 18 ((((1 : Rat)) * a).num) (((((1 : Rat)) * a).den : Int)), kRes (w.heap.size) 18 ((((1 : Rat)) * a).num) (((((1 : Rat)) * a).den : Int))]
      [ [], [], [], [(2, some 17)], [(0, some 15), (1, some 16), (3, some 18)], [(4, some 19)] ]
      [(0, some 15), (1, some 16), (2, some 17), (3, some 18), (4, some 19), (5, none)] [] [] (by kernel_rfl) (by kernel_rfl) (by kernel_rfl) (by kernel_rfl) (by kernel_rfl) (by kernel_rfl) (by kernel_rfl) rfl (by kernel_rfl) bb_3.size ?_ ?_
    ·
      refine pkl_cons rfl rfl (st_pure [] [(1, .func (.func 40) #[] #[])] (.func (.func 40) #[] #[]) rfl hN_3 (by kernel_rfl) (by kernel_rfl) (by kernel_rfl) (old1 e1_3) (by kernel_rfl) (by kernel_rfl) (by kernel_rfl) (fun _ => by kernel_rfl)) ?_
      refine pkl_keep rfl rfl rfl ?_ ?_
      · exact st_loadKF f1_3 f1'_3 e3_3 hN_3 (by kernel_rfl) rfl
      refine pkl_cons rfl rfl (st_load4P p8_3 p8'_3 (by simp only [List.mem_singleton]; omega) e8_3 hN_3 (by kernel_rfl) rfl) ?_
      refine pkl_cons rfl rfl (st_call1 hN_3 (by kernel_rfl) (by kernel_rfl) (by kernel_rfl) rfl rfl fun w x v1 hC h1 => tp (of_9 (pm (by decide) h1))) ?_
      refine pkl_cons rfl rfl (st_call2V hN_3 (by kernel_rfl) (by kernel_rfl) (by kernel_rfl) (by kernel_rfl) (by kernel_rfl) (by kernel_rfl) (by kernel_rfl) (by kernel_rfl) rfl rfl rfl rfl fun w x v1 v2 hC h1 h2 => tp (times_9 (pm (by decide) h1) (pm (by decide) h2))) ?_
      refine pkl_cons rfl rfl (st_resF S_3 rfl (by simp) e3_3 hN_3 (by kernel_rfl) (by kernel_rfl) rfl rfl) ?_
      exact pkl_nil rfl
    intro W_4 x hC hall
    obtain ⟨a_4, ha⟩ : ∃ a, a = putE x a_3 [(0, some 15), (1, some 16), (2, some 17), (3, some 18), (4, some 19), (5, none)] := ⟨_, rfl⟩
    rw [← ha]
    have hN_4 := size_behind ha hN_3
    have hD_4 := defers_behind ha hD_3
    have bb_4 := bb_3.trans hC.below
    have e1_4 := slot_old ha (by kernel_rfl) e1_3
    have e3_4 := slot_old ha (by kernel_rfl) e3_3
    have e6_4 := slot_old ha (by kernel_rfl) e6_3
    have e9_4 := slot_old ha (by kernel_rfl) e9_3
    have e10_4 := slot_old ha (by kernel_rfl) e10_3
    have e11_4 := slot_old ha (by kernel_rfl) e11_3
    have e12_4 := slot_old ha (by kernel_rfl) e12_3
    have e8_4 := slot_old ha (by kernel_rfl) e8_3
    have R_4 := hC.holdsG (by simp only [List.mem_singleton]; omega) R_3
    have LL_4 := hC.prs (by simp only [List.mem_singleton]; omega) LL_3
    have hres := show (kRes (w.heap.size) 18 ((((1 : Rat)) * a).num) (((((1 : Rat)) * a).den : Int))).sem _ _ _ _ from hall 5 (of_decide_eq_true (by kernel_rfl))
    obtain ⟨f1_4, f1'_4⟩ := res_atP hres
    obtain ⟨_, _, _, _, S_4⟩ := res_four hres
    clear hall hC ha hres
    refine in_block8 ?_
    refine then_n ?_
    refine wp_incr2 (n := 0) (m := 1) hN_4 (by kernel_rfl) e11_4 (fun _ => by kernel_rfl) ?_
    intro x hx
    obtain ⟨a_5, ha⟩ : ∃ a, a = putE x a_4 [(0, some 20), (1, some 11)] := ⟨_, rfl⟩
    rw [← ha]
    have hN_5 := size_behind ha hN_4
    have hD_5 := defers_behind ha hD_4
    have bb_5 := bb_4
    have e1_5 := slot_old ha (by kernel_rfl) e1_4
    have e3_5 := slot_old ha (by kernel_rfl) e3_4
    have e6_5 := slot_old ha (by kernel_rfl) e6_4
    have e9_5 := slot_old ha (by kernel_rfl) e9_4
    have e10_5 := slot_old ha (by kernel_rfl) e10_4
    have e12_5 := slot_old ha (by kernel_rfl) e12_4
    have e8_5 := slot_old ha (by kernel_rfl) e8_4
    have f1_5 := f1_4
    have f1'_5 := f1'_4
    have S_5 := S_4
    have R_5 := R_4
    have LL_5 := LL_4
    have e11_5 := (slot_new (t := 11) (i := 1) ha hN_4 (by kernel_rfl) (by kernel_rfl)).trans hx
    clear ha hx
    have hq : (1 : Rat) * a = a := Rat.one_mul a
    rw [hq] at f1_5 f1'_5
    refine ⟨⟨hN_5, hD_5, e1_5, e3_5, e6_5, e9_5, e10_5, bb_5, ⟨_, _, _, _, S_5⟩, R_5, LL_5, .inr (.inl ⟨e11_5, f1_5.tight HB0.out.1, f1'_5.tight HB0.out.2⟩)⟩, ?_⟩
    rw [e11_5]; decide
  ·
    have hm : intOf (a_1.eval (.tmp 11)) = 1 := by rw [e11_1]; rfl
    rw [hm]
    clear hm
    repeat (first | refine wp_seq ?_ | (refine wp_skip ?_; refine then_n ?_))
    refine wp_region_law hN_1 w.heap.size
      [kIs (.bool true)]
      [ [] ]
      [(0, some 12)] [] [] (by kernel_rfl) (by kernel_rfl) (by kernel_rfl) (by kernel_rfl) (by kernel_rfl) (by kernel_rfl) (by kernel_rfl) bb_1.size ?_ ?_
    ·
      refine pk_cons rfl rfl (st_pure [] [(11, .int .i64 (1)), (10, .int .i64 (3))] (.bool true) rfl hN_1 (by kernel_rfl) (by kernel_rfl) (by kernel_rfl) (old2 e11_1 e10_1) (by kernel_rfl) (by kernel_rfl) (by kernel_rfl) (fun _ => by kernel_rfl)) ?_
      exact pk_nil rfl
    intro W_2 x hC hall
    refine then_n ?_
    obtain ⟨a_2, ha⟩ : ∃ a, a = putE x a_1 [(0, some 12)] := ⟨_, rfl⟩
    rw [← ha]
    have hN_2 := size_behind ha hN_1
    have hD_2 := defers_behind ha hD_1
    have bb_2 := bb_1.trans hC.below
    have e1_2 := slot_old ha (by kernel_rfl) e1_1
    have e3_2 := slot_old ha (by kernel_rfl) e3_1
    have e6_2 := slot_old ha (by kernel_rfl) e6_1
    have e9_2 := slot_old ha (by kernel_rfl) e9_1
    have e10_2 := slot_old ha (by kernel_rfl) e10_1
    have e11_2 := slot_old ha (by kernel_rfl) e11_1
    have f1_2 := hC.at0 f1_1
    have f1'_2 := hC.at0 f1'_1
    have S_2 := hC.holds S_1
    have R_2 := hC.holds R_1
    have LL_2 := hC.prs (by simp) LL_1
    have e12_2 := (slot_new (t := 12) (i := 0) ha hN_1 (by kernel_rfl) (by kernel_rfl)).trans (show x 0 = .bool true from hall 0 (of_decide_eq_true (by kernel_rfl)))
    clear hall hC ha bb_1 hD_1 e1_1 e3_1 e6_1 e9_1 e10_1 e11_1 f1_1 f1'_1 S_1 R_1 LL_1
    repeat (first | refine wp_seq ?_ | (refine wp_skip ?_; refine then_n ?_))
    refine wp_cond_true e12_2 ?_
    repeat (first | refine wp_seq ?_ | (refine wp_skip ?_; refine then_n ?_))
    refine wp_block ?_
    repeat (first | refine wp_seq ?_ | (refine wp_skip ?_; refine then_n ?_))
    refine wp_region_law hN_2 w.heap.size
      [kIs (.pointer (some ⟨g2, 4, none⟩)), kP 9 (b.num) ((b.den : Int)), PK.fresh 4, kPutP 2 9 (b.num) ((b.den : Int))]
      [ [], [(0, some 13)], [], [(2, some 8), (1, some 14)] ]
      [(0, some 13), (1, some 14), (2, some 8), (3, none)] [] [] (by kernel_rfl) (by kernel_rfl) (by kernel_rfl) (by kernel_rfl) (by kernel_rfl) (by kernel_rfl) (by kernel_rfl) bb_2.size ?_ ?_
    ·
      refine pk_cons rfl rfl (st_pure [] [(9, .slice (some ⟨g2, 0, none⟩) 3 3), (11, .int .i64 (1))] (.pointer (some ⟨g2, 4, none⟩)) rfl hN_2 (by kernel_rfl) (by kernel_rfl) (by kernel_rfl) (old2 e9_2 e11_2) (by kernel_rfl) (by kernel_rfl) (by kernel_rfl) (fun _ => by kernel_rfl)) ?_
      refine pk_cons rfl rfl (st_loadPI LL_2 (n := 1) rfl rfl (by simp) hN_2 (by kernel_rfl) (by kernel_rfl) rfl rfl) ?_
      refine pk_cons rfl rfl (st_allocP hN_2 (by kernel_rfl) (Nat.le_refl _) rfl) ?_
      refine pk_cons rfl rfl (st_putP hN_2 (by kernel_rfl) (by kernel_rfl) (by kernel_rfl) rfl rfl rfl) ?_
      exact pk_nil rfl
    intro W_3 x hC hall
    refine then_n ?_
    obtain ⟨a_3, ha⟩ : ∃ a, a = putE x a_2 [(0, some 13), (1, some 14), (2, some 8), (3, none)] := ⟨_, rfl⟩
    rw [← ha]
    have hN_3 := size_behind ha hN_2
    have hD_3 := defers_behind ha hD_2
    have bb_3 := bb_2.trans hC.below
    have e1_3 := slot_old ha (by kernel_rfl) e1_2
    have e3_3 := slot_old ha (by kernel_rfl) e3_2
    have e6_3 := slot_old ha (by kernel_rfl) e6_2
    have e9_3 := slot_old ha (by kernel_rfl) e9_2
    have e10_3 := slot_old ha (by kernel_rfl) e10_2
    have e11_3 := slot_old ha (by kernel_rfl) e11_2
    have e12_3 := slot_old ha (by kernel_rfl) e12_2
    have f1_3 := hC.at0 f1_2
    have f1'_3 := hC.at0 f1'_2
    have S_3 := hC.holds S_2
    have R_3 := hC.holds R_2
    have LL_3 := hC.prs (by simp) LL_2
    obtain ⟨g8, hx, hge, p8_3, p8'_3⟩ := put_atP (show (kPutP 2 9 (b.num) ((b.den : Int))).sem _ _ _ _ from hall 3 (of_decide_eq_true (by kernel_rfl)))
    have e8_3 := (slot_new (t := 8) (i := 2) ha hN_2 (by kernel_rfl) (by kernel_rfl)).trans hx
    have d8 := Nat.lt_of_lt_of_le R_2.lt hge
    clear hx hge
    clear hall hC ha bb_2 hD_2 e1_2 e3_2 e6_2 e9_2 e10_2 e11_2 e12_2 f1_2 f1'_2 S_2 R_2 LL_2
    repeat (first | refine wp_seq ?_ | (refine wp_skip ?_; refine then_n ?_))
    refine wp_region_keep hN_3 w.heap.size (w.heap.size) S_3 (by omega) 5 [1]
      [kIs (.func (.func 40) #[] #[]), kP 9 (a.num) ((a.den : Int)), kP 9 (b.num) ((b.den : Int)), kP 9 (b.num) ((b.den : Int)), kP 18 ((a * b).num) (((a * b).den : Int)), kRes (w.heap.size) 18 ((a * b).num) (((a * b).den : Int))]
      [ [], [], [], [(2, some 17)], [(0, some 15), (1, some 16), (3, some 18)], [(4, some 19)] ]
      [(0, some 15), (1, some 16), (2, some 17), (3, some 18), (4, some 19), (5, none)] [] [] (by kernel_rfl) (by kernel_rfl) (by kernel_rfl) (by kernel_rfl) (by kernel_rfl) (by kernel_rfl) (by kernel_rfl) rfl (by kernel_rfl) bb_3.size ?_ ?_
    ·
      refine pkl_cons rfl rfl (st_pure [] [(1, .func (.func 40) #[] #[])] (.func (.func 40) #[] #[]) rfl hN_3 (by kernel_rfl) (by kernel_rfl) (by kernel_rfl) (old1 e1_3) (by kernel_rfl) (by kernel_rfl) (by kernel_rfl) (fun _ => by kernel_rfl)) ?_
      refine pkl_keep rfl rfl rfl ?_ ?_
      · exact st_loadKF f1_3 f1'_3 e3_3 hN_3 (by kernel_rfl) rfl
      refine pkl_cons rfl rfl (st_load4P p8_3 p8'_3 (by simp only [List.mem_singleton]; omega) e8_3 hN_3 (by kernel_rfl) rfl) ?_
      refine pkl_cons rfl rfl (st_call1 hN_3 (by kernel_rfl) (by kernel_rfl) (by kernel_rfl) rfl rfl fun w x v1 hC h1 => tp (of_9 (pm (by decide) h1))) ?_
      refine pkl_cons rfl rfl (st_call2V hN_3 (by kernel_rfl) (by kernel_rfl) (by kernel_rfl) (by kernel_rfl) (by kernel_rfl) (by kernel_rfl) (by kernel_rfl) (by kernel_rfl) rfl rfl rfl rfl fun w x v1 v2 hC h1 h2 => tp (times_9 (pm (by decide) h1) (pm (by decide) h2))) ?_
      refine pkl_cons rfl rfl (st_resF S_3 rfl (by simp) e3_3 hN_3 (by kernel_rfl) (by kernel_rfl) rfl rfl) ?_
      exact pkl_nil rfl
    intro W_4 x hC hall
    obtain ⟨a_4, ha⟩ : ∃ a, a = putE x a_3 [(0, some 15), (1, some 16), (2, some 17), (3, some 18), (4, some 19), (5, none)] := ⟨_, rfl⟩
    rw [← ha]
    have hN_4 := size_behind ha hN_3
    have hD_4 := defers_behind ha hD_3
    have bb_4 := bb_3.trans hC.below
    have e1_4 := slot_old ha (by kernel_rfl) e1_3
    have e3_4 := slot_old ha (by kernel_rfl) e3_3
    have e6_4 := slot_old ha (by kernel_rfl) e6_3
    have e9_4 := slot_old ha (by kernel_rfl) e9_3
    have e10_4 := slot_old ha (by kernel_rfl) e10_3
    have e11_4 := slot_old ha (by kernel_rfl) e11_3
    have e12_4 := slot_old ha (by kernel_rfl) e12_3
    have e8_4 := slot_old ha (by kernel_rfl) e8_3
    have R_4 := hC.holdsG (by simp only [List.mem_singleton]; omega) R_3
    have LL_4 := hC.prs (by simp only [List.mem_singleton]; omega) LL_3
    have hres := show (kRes (w.heap.size) 18 ((a * b).num) (((a * b).den : Int))).sem _ _ _ _ from hall 5 (of_decide_eq_true (by kernel_rfl))
    obtain ⟨f1_4, f1'_4⟩ := res_atP hres
    obtain ⟨_, _, _, _, S_4⟩ := res_four hres
    clear hall hC ha hres
    refine in_block8 ?_
    refine then_n ?_
    refine wp_incr2 (n := 1) (m := 2) hN_4 (by kernel_rfl) e11_4 (fun _ => by kernel_rfl) ?_
    intro x hx
    obtain ⟨a_5, ha⟩ : ∃ a, a = putE x a_4 [(0, some 20), (1, some 11)] := ⟨_, rfl⟩
    rw [← ha]
    have hN_5 := size_behind ha hN_4
    have hD_5 := defers_behind ha hD_4
    have bb_5 := bb_4
    have e1_5 := slot_old ha (by kernel_rfl) e1_4
    have e3_5 := slot_old ha (by kernel_rfl) e3_4
    have e6_5 := slot_old ha (by kernel_rfl) e6_4
    have e9_5 := slot_old ha (by kernel_rfl) e9_4
    have e10_5 := slot_old ha (by kernel_rfl) e10_4
    have e12_5 := slot_old ha (by kernel_rfl) e12_4
    have e8_5 := slot_old ha (by kernel_rfl) e8_4
    have f1_5 := f1_4
    have f1'_5 := f1'_4
    have S_5 := S_4
    have R_5 := R_4
    have LL_5 := LL_4
    have e11_5 := (slot_new (t := 11) (i := 1) ha hN_4 (by kernel_rfl) (by kernel_rfl)).trans hx
    clear ha hx
    refine ⟨⟨hN_5, hD_5, e1_5, e3_5, e6_5, e9_5, e10_5, bb_5, ⟨_, _, _, _, S_5⟩, R_5, LL_5, .inr (.inr (.inl ⟨e11_5, f1_5, f1'_5⟩))⟩, ?_⟩
    rw [e11_5]; decide
  ·
    have hm : intOf (a_1.eval (.tmp 11)) = 2 := by rw [e11_1]; rfl
    rw [hm]
    clear hm
    repeat (first | refine wp_seq ?_ | (refine wp_skip ?_; refine then_n ?_))
    refine wp_region_law hN_1 w.heap.size
      [kIs (.bool true)]
      [ [] ]
      [(0, some 12)] [] [] (by kernel_rfl) (by kernel_rfl) (by kernel_rfl) (by kernel_rfl) (by kernel_rfl) (by kernel_rfl) (by kernel_rfl) bb_1.size ?_ ?_
    ·
      refine pk_cons rfl rfl (st_pure [] [(11, .int .i64 (2)), (10, .int .i64 (3))] (.bool true) rfl hN_1 (by kernel_rfl) (by kernel_rfl) (by kernel_rfl) (old2 e11_1 e10_1) (by kernel_rfl) (by kernel_rfl) (by kernel_rfl) (fun _ => by kernel_rfl)) ?_
      exact pk_nil rfl
    intro W_2 x hC hall
    refine then_n ?_
    obtain ⟨a_2, ha⟩ : ∃ a, a = putE x a_1 [(0, some 12)] := ⟨_, rfl⟩
    rw [← ha]
    have hN_2 := size_behind ha hN_1
    have hD_2 := defers_behind ha hD_1
    have bb_2 := bb_1.trans hC.below
    have e1_2 := slot_old ha (by kernel_rfl) e1_1
    have e3_2 := slot_old ha (by kernel_rfl) e3_1
    have e6_2 := slot_old ha (by kernel_rfl) e6_1
    have e9_2 := slot_old ha (by kernel_rfl) e9_1
    have e10_2 := slot_old ha (by kernel_rfl) e10_1
    have e11_2 := slot_old ha (by kernel_rfl) e11_1
    have f1_2 := hC.at0 f1_1
    have f1'_2 := hC.at0 f1'_1
    have S_2 := hC.holds S_1
    have R_2 := hC.holds R_1
    have LL_2 := hC.prs (by simp) LL_1
    have e12_2 := (slot_new (t := 12) (i := 0) ha hN_1 (by kernel_rfl) (by kernel_rfl)).trans (show x 0 = .bool true from hall 0 (of_decide_eq_true (by kernel_rfl)))
    clear hall hC ha bb_1 hD_1 e1_1 e3_1 e6_1 e9_1 e10_1 e11_1 f1_1 f1'_1 S_1 R_1 LL_1
    repeat (first | refine wp_seq ?_ | (refine wp_skip ?_; refine then_n ?_))
    refine wp_cond_true e12_2 ?_
    repeat (first | refine wp_seq ?_ | (refine wp_skip ?_; refine then_n ?_))
    refine wp_block ?_
    repeat (first | refine wp_seq ?_ | (refine wp_skip ?_; refine then_n ?_))
    refine wp_region_law hN_2 w.heap.size
      [kIs (.pointer (some ⟨g2, 8, none⟩)), kP 9 (c.num) ((c.den : Int)), PK.fresh 4, kPutP 2 9 (c.num) ((c.den : Int))]
      [ [], [(0, some 13)], [], [(2, some 8), (1, some 14)] ]
      [(0, some 13), (1, some 14), (2, some 8), (3, none)] [] [] (by kernel_rfl) (by kernel_rfl) (by kernel_rfl) (by kernel_rfl) (by kernel_rfl) (by kernel_rfl) (by kernel_rfl) bb_2.size ?_ ?_
    ·
      refine pk_cons rfl rfl (st_pure [] [(9, .slice (some ⟨g2, 0, none⟩) 3 3), (11, .int .i64 (2))] (.pointer (some ⟨g2, 8, none⟩)) rfl hN_2 (by kernel_rfl) (by kernel_rfl) (by kernel_rfl) (old2 e9_2 e11_2) (by kernel_rfl) (by kernel_rfl) (by kernel_rfl) (fun _ => by kernel_rfl)) ?_
      refine pk_cons rfl rfl (st_loadPI LL_2 (n := 2) rfl rfl (by simp) hN_2 (by kernel_rfl) (by kernel_rfl) rfl rfl) ?_
      refine pk_cons rfl rfl (st_allocP hN_2 (by kernel_rfl) (Nat.le_refl _) rfl) ?_
      refine pk_cons rfl rfl (st_putP hN_2 (by kernel_rfl) (by kernel_rfl) (by kernel_rfl) rfl rfl rfl) ?_
      exact pk_nil rfl
    intro W_3 x hC hall
    refine then_n ?_
    obtain ⟨a_3, ha⟩ : ∃ a, a = putE x a_2 [(0, some 13), (1, some 14), (2, some 8), (3, none)] := ⟨_, rfl⟩
    rw [← ha]
    have hN_3 := size_behind ha hN_2
    have hD_3 := defers_behind ha hD_2
    have bb_3 := bb_2.trans hC.below
    have e1_3 := slot_old ha (by kernel_rfl) e1_2
    have e3_3 := slot_old ha (by kernel_rfl) e3_2
    have e6_3 := slot_old ha (by kernel_rfl) e6_2
    have e9_3 := slot_old ha (by kernel_rfl) e9_2
    have e10_3 := slot_old ha (by kernel_rfl) e10_2
    have e11_3 := slot_old ha (by kernel_rfl) e11_2
    have e12_3 := slot_old ha (by kernel_rfl) e12_2
    have f1_3 := hC.at0 f1_2
    have f1'_3 := hC.at0 f1'_2
    have S_3 := hC.holds S_2
    have R_3 := hC.holds R_2
    have LL_3 := hC.prs (by simp) LL_2
    obtain ⟨g8, hx, hge, p8_3, p8'_3⟩ := put_atP (show (kPutP 2 9 (c.num) ((c.den : Int))).sem _ _ _ _ from hall 3 (of_decide_eq_true (by kernel_rfl)))
    have e8_3 := (slot_new (t := 8) (i := 2) ha hN_2 (by kernel_rfl) (by kernel_rfl)).trans hx
    have d8 := Nat.lt_of_lt_of_le R_2.lt hge
    clear hx hge
    clear hall hC ha bb_2 hD_2 e1_2 e3_2 e6_2 e9_2 e10_2 e11_2 e12_2 f1_2 f1'_2 S_2 R_2 LL_2
    repeat (first | refine wp_seq ?_ | (refine wp_skip ?_; refine then_n ?_))
    refine wp_region_keep hN_3 w.heap.size (w.heap.size) S_3 (by omega) 5 [1]
      [kIs (.func (.func 40) #[] #[]), kP 18 ((a * b).num) (((a * b).den : Int)), kP 9 (c.num) ((c.den : Int)), kP 9 (c.num) ((c.den : Int)), kP 38 (((a * b) * c).num) ((((a * b) * c).den : Int)), kRes (w.heap.size) 38 (((a * b) * c).num) ((((a * b) * c).den : Int))]
      [ [], [], [], [(2, some 17)], [(0, some 15), (1, some 16), (3, some 18)], [(4, some 19)] ]
      [(0, some 15), (1, some 16), (2, some 17), (3, some 18), (4, some 19), (5, none)] [] [] (by kernel_rfl) (by kernel_rfl) (by kernel_rfl) (by kernel_rfl) (by kernel_rfl) (by kernel_rfl) (by kernel_rfl) rfl (by kernel_rfl) bb_3.size ?_ ?_
    ·
      refine pkl_cons rfl rfl (st_pure [] [(1, .func (.func 40) #[] #[])] (.func (.func 40) #[] #[]) rfl hN_3 (by kernel_rfl) (by kernel_rfl) (by kernel_rfl) (old1 e1_3) (by kernel_rfl) (by kernel_rfl) (by kernel_rfl) (fun _ => by kernel_rfl)) ?_
      refine pkl_keep rfl rfl rfl ?_ ?_
      · exact st_loadKF f1_3 f1'_3 e3_3 hN_3 (by kernel_rfl) rfl
      refine pkl_cons rfl rfl (st_load4P p8_3 p8'_3 (by simp only [List.mem_singleton]; omega) e8_3 hN_3 (by kernel_rfl) rfl) ?_
      refine pkl_cons rfl rfl (st_call1 hN_3 (by kernel_rfl) (by kernel_rfl) (by kernel_rfl) rfl rfl fun w x v1 hC h1 => tp (of_9 (pm (by decide) h1))) ?_
      refine pkl_cons rfl rfl (st_call2V hN_3 (by kernel_rfl) (by kernel_rfl) (by kernel_rfl) (by kernel_rfl) (by kernel_rfl) (by kernel_rfl) (by kernel_rfl) (by kernel_rfl) rfl rfl rfl rfl fun w x v1 v2 hC h1 h2 => tp (times_19 (pm (by decide) h1) (pm (by decide) h2))) ?_
      refine pkl_cons rfl rfl (st_resF S_3 rfl (by simp) e3_3 hN_3 (by kernel_rfl) (by kernel_rfl) rfl rfl) ?_
      exact pkl_nil rfl
    intro W_4 x hC hall
    obtain ⟨a_4, ha⟩ : ∃ a, a = putE x a_3 [(0, some 15), (1, some 16), (2, some 17), (3, some 18), (4, some 19), (5, none)] := ⟨_, rfl⟩
    rw [← ha]
    have hN_4 := size_behind ha hN_3
    have hD_4 := defers_behind ha hD_3
    have bb_4 := bb_3.trans hC.below
    have e1_4 := slot_old ha (by kernel_rfl) e1_3
    have e3_4 := slot_old ha (by kernel_rfl) e3_3
    have e6_4 := slot_old ha (by kernel_rfl) e6_3
    have e9_4 := slot_old ha (by kernel_rfl) e9_3
    have e10_4 := slot_old ha (by kernel_rfl) e10_3
    have e11_4 := slot_old ha (by kernel_rfl) e11_3
    have e12_4 := slot_old ha (by kernel_rfl) e12_3
    have e8_4 := slot_old ha (by kernel_rfl) e8_3
    have R_4 := hC.holdsG (by simp only [List.mem_singleton]; omega) R_3
    have LL_4 := hC.prs (by simp only [List.mem_singleton]; omega) LL_3
    have hres := show (kRes (w.heap.size) 38 (((a * b) * c).num) ((((a * b) * c).den : Int))).sem _ _ _ _ from hall 5 (of_decide_eq_true (by kernel_rfl))
    obtain ⟨f1_4, f1'_4⟩ := res_atP hres
    obtain ⟨_, _, _, _, S_4⟩ := res_four hres
    clear hall hC ha hres
    refine in_block8 ?_
    refine then_n ?_
    refine wp_incr2 (n := 2) (m := 3) hN_4 (by kernel_rfl) e11_4 (fun _ => by kernel_rfl) ?_
    intro x hx
    obtain ⟨a_5, ha⟩ : ∃ a, a = putE x a_4 [(0, some 20), (1, some 11)] := ⟨_, rfl⟩
    rw [← ha]
    have hN_5 := size_behind ha hN_4
    have hD_5 := defers_behind ha hD_4
    have bb_5 := bb_4
    have e1_5 := slot_old ha (by kernel_rfl) e1_4
    have e3_5 := slot_old ha (by kernel_rfl) e3_4
    have e6_5 := slot_old ha (by kernel_rfl) e6_4
    have e9_5 := slot_old ha (by kernel_rfl) e9_4
    have e10_5 := slot_old ha (by kernel_rfl) e10_4
    have e12_5 := slot_old ha (by kernel_rfl) e12_4
    have e8_5 := slot_old ha (by kernel_rfl) e8_4
    have f1_5 := f1_4
    have f1'_5 := f1'_4
    have S_5 := S_4
    have R_5 := R_4
    have LL_5 := LL_4
    have e11_5 := (slot_new (t := 11) (i := 1) ha hN_4 (by kernel_rfl) (by kernel_rfl)).trans hx
    clear ha hx
    refine ⟨⟨hN_5, hD_5, e1_5, e3_5, e6_5, e9_5, e10_5, bb_5, ⟨_, _, _, _, S_5⟩, R_5, LL_5, .inr (.inr (.inr (⟨e11_5, f1_5, f1'_5⟩)))⟩, ?_⟩
    rw [e11_5]; decide
  ·
    have hm : intOf (a_1.eval (.tmp 11)) = 3 := by rw [e11_1]; rfl
    rw [hm]
    clear hm
    repeat (first | refine wp_seq ?_ | (refine wp_skip ?_; refine then_n ?_))
    refine wp_region_law hN_1 w.heap.size
      [kIs (.bool false)]
      [ [] ]
      [(0, some 12)] [] [] (by kernel_rfl) (by kernel_rfl) (by kernel_rfl) (by kernel_rfl) (by kernel_rfl) (by kernel_rfl) (by kernel_rfl) bb_1.size ?_ ?_
    ·
      refine pk_cons rfl rfl (st_pure [] [(11, .int .i64 (3)), (10, .int .i64 (3))] (.bool false) rfl hN_1 (by kernel_rfl) (by kernel_rfl) (by kernel_rfl) (old2 e11_1 e10_1) (by kernel_rfl) (by kernel_rfl) (by kernel_rfl) (fun _ => by kernel_rfl)) ?_
      exact pk_nil rfl
    intro W_2 x hC hall
    refine then_n ?_
    obtain ⟨a_2, ha⟩ : ∃ a, a = putE x a_1 [(0, some 12)] := ⟨_, rfl⟩
    rw [← ha]
    have hN_2 := size_behind ha hN_1
    have hD_2 := defers_behind ha hD_1
    have bb_2 := bb_1.trans hC.below
    have e1_2 := slot_old ha (by kernel_rfl) e1_1
    have e3_2 := slot_old ha (by kernel_rfl) e3_1
    have e6_2 := slot_old ha (by kernel_rfl) e6_1
    have e9_2 := slot_old ha (by kernel_rfl) e9_1
    have e10_2 := slot_old ha (by kernel_rfl) e10_1
    have e11_2 := slot_old ha (by kernel_rfl) e11_1
    have f1_2 := hC.at0 f1_1
    have f1'_2 := hC.at0 f1'_1
    have S_2 := hC.holds S_1
    have R_2 := hC.holds R_1
    have LL_2 := hC.prs (by simp) LL_1
    have e12_2 := (slot_new (t := 12) (i := 0) ha hN_1 (by kernel_rfl) (by kernel_rfl)).trans (show x 0 = .bool false from hall 0 (of_decide_eq_true (by kernel_rfl)))
    clear hall hC ha bb_1 hD_1 e1_1 e3_1 e6_1 e9_1 e10_1 e11_1 f1_1 f1'_1 S_1 R_1 LL_1
    repeat (first | refine wp_seq ?_ | (refine wp_skip ?_; refine then_n ?_))
    refine wp_cond_false e12_2 ?_
    repeat (first | refine wp_seq ?_ | (refine wp_skip ?_; refine then_n ?_))
    refine wp_exit ?_
    repeat (refine then_x8 ?_)
    refine out_block8 ?_
    refine then_n ?_
    repeat (first | refine wp_seq ?_ | (refine wp_skip ?_; refine then_n ?_))
    refine wp_region_res hN_2 w.heap.size (w.heap.size + 1) R_2 (by omega)
      [kP 38 (((a * b) * c).num) ((((a * b) * c).den : Int)), kRes (w.heap.size + 1) 38 (((a * b) * c).num) ((((a * b) * c).den : Int))]
      [ [], [(0, some 21)] ]
      [(0, some 21), (1, none)] [] [] (by kernel_rfl) (by kernel_rfl) (by kernel_rfl) (by kernel_rfl) (by kernel_rfl) (by kernel_rfl) (by kernel_rfl) bb_2.size ?_ ?_
    ·
      refine pk_cons rfl rfl (st_load4F f1_2 f1'_2 (by simp only [List.mem_singleton]; omega) e3_2 hN_2 (by kernel_rfl) rfl) ?_
      refine pk_cons rfl rfl (st_resF R_2 rfl (by simp) e6_2 hN_2 (by kernel_rfl) (by kernel_rfl) rfl rfl) ?_
      exact pk_nil rfl
    intro W x hC hall
    refine then_n ?_
    obtain ⟨a1, ha⟩ : ∃ a, a = putE x a_2 [(0, some 21), (1, none)] := ⟨_, rfl⟩
    rw [← ha]
    have hD1 := defers_behind ha hD_2
    have bb1 := bb_2.trans hC.below
    obtain ⟨cs, hg, hP⟩ := (show (kRes (w.heap.size + 1) 38 (((a * b) * c).num) ((((a * b) * c).den : Int))).sem _ _ _ _ from hall 1 (of_decide_eq_true (by kernel_rfl)))
    have e1 := slot_old (t := 6) ha (by kernel_rfl) e6_2
    repeat (first | refine wp_seq ?_ | (refine wp_skip ?_; refine then_n ?_))
    refine wp_ret ?_
    repeat (refine then_r ?_)
    exact ret_cellF (t := 6) rfl hD1 e1 hg hP fun v hv => ⟨v, rfl, hv, bb1⟩
set_option maxRecDepth 100000 in
set_option maxHeartbeats 8000000 in
theorem fold2_times_19 {w : World} {v0 v2 : Value} {a b : Rat} (h0 : Pr w v0 9 ((1 : Rat)).num (((1 : Rat)).den : Int)) (hl : PL w v2 [(19, a.num, (a.den : Int)), (19, b.num, (b.den : Int))]) :
    Calls Tryz.prog 37 #[v0, .func (.func 40) #[] #[], v2] w (TellsP w 38 ((a * b).num) (((a * b).den : Int))) := by
  obtain ⟨A1, l1, c1, A1', l1', c1', rfl, ⟨r1, u1⟩, r1', u1'⟩ := h0
  obtain ⟨b1, hb1⟩ : ∃ s, s = decide (((1 : Rat)).num < 0) := ⟨_, rfl⟩
  obtain ⟨b1', hb1'⟩ : ∃ s, s = decide ((((1 : Rat)).den : Int) < 0) := ⟨_, rfl⟩
  rw [← hb1, ← hb1']
  have H1 := Lib.hid (show _ ∧ _ ∧ _ ∧ _ ∧ _ ∧ _ from ⟨hb1, hb1', r1, u1, r1', u1'⟩)
  clear hb1 hb1' r1 u1 r1' u1'
  obtain ⟨g2, rfl, hg2, hl2⟩ := hl
  have HL := Lib.hid hl2
  clear hl2
  have HB0 := Lib.hid (HL.out.lt (j := 0) rfl)
  have HB1 := Lib.hid (HL.out.lt (j := 1) rfl)
  show Calls _ _ #[_, _, .slice (some ⟨g2, 0, none⟩) 2 2] _ _
  go_enter Tryz.func37, Tryz.ntmps37
  repeat (refine wp_seq ?_)
  refine region_k ?_
  intro K hK
  have HK := Lib.hid hK
  clear hK
  go_wp2
  refine HK.out _ _ ?_
  clear HK
  refine then_n ?_
  obtain ⟨W_0, hW⟩ : ∃ W, W = (w.alloc (Obj.cells #[Value.bool b1, Value.slice A1 l1 c1, Value.bool b1', Value.slice A1' l1' c1'] 53)).alloc (Obj.cells #[Value.bool false, Value.slice none 0 0, Value.bool false, Value.slice none 0 0] 53) := ⟨_, rfl⟩
  have bb_0 : Below w.heap.size w W_0 := by rw [hW]; exact bal (bal (Below.refl _ _) _) _
  have K0 : W_0.heap[w.heap.size]? = some (Obj.cells #[Value.bool b1, Value.slice A1 l1 c1, Value.bool b1', Value.slice A1' l1' c1'] 53) := by rw [hW]; rw [Below.heap_alloc _ _ _ (by simp <;> omega)]; exact new_at (by simp)
  have K1 : W_0.heap[w.heap.size + 1]? = some (Obj.cells #[Value.bool false, Value.slice none 0 0, Value.bool false, Value.slice none 0 0] 53) := by rw [hW]; exact new_at (by simp)
  rw [← hW]
  obtain ⟨m1, n1, m1', n1', _, _, _, _⟩ := four_cells K0
  have f1_0 : AtR W_0 (w.heap.size) 0 9 (((1 : Rat)).num) := ⟨A1, l1, c1, by rw [← H1.out.1]; exact m1, n1, A1, l1, c1, rfl, H1.out.2.2.1.below bb_0, H1.out.2.2.2.1⟩
  have f1'_0 : AtR W_0 (w.heap.size) 2 9 ((((1 : Rat)).den : Int)) := ⟨A1', l1', c1', by rw [← H1.out.2.1]; exact m1', n1', A1', l1', c1', rfl, H1.out.2.2.2.2.1.below bb_0, H1.out.2.2.2.2.2⟩
  have S_0 : Holds_ W_0 (w.heap.size) #[Value.bool b1, Value.slice A1 l1 c1, Value.bool b1', Value.slice A1' l1' c1'] := ⟨⟨_, K0⟩, by simp [noDig]⟩
  have R_0 : Holds_ W_0 (w.heap.size + 1) #[Value.bool false, Value.slice none 0 0, Value.bool false, Value.slice none 0 0] := ⟨⟨_, K1⟩, by simp [noDig]⟩
  have LL_0 := HL.out.below bb_0
  clear hW K0 K1 m1 n1 m1' n1'
  refine name_frame (G := fun a => Code.wp _ _ _ a _) ?_
  intro a_0 ha
  have hN_0 : a_0.tmps.size = 22 := by subst ha; kernel_rfl
  have hD_0 : a_0.defers = [] := by subst ha; rfl
  have e1_0 : a_0.eval (.tmp 1) = .func (.func 40) #[] #[] := by subst ha; kernel_rfl
  have e2_0 : a_0.eval (.tmp 2) = .slice (some ⟨g2, 0, none⟩) 2 2 := by subst ha; kernel_rfl
  have e3_0 : a_0.eval (.tmp 3) = .pointer (some ⟨w.heap.size, 0, none⟩) := by subst ha; kernel_rfl
  have e6_0 : a_0.eval (.tmp 6) = .pointer (some ⟨w.heap.size + 1, 0, none⟩) := by subst ha; kernel_rfl
  clear ha
  repeat (first | refine wp_seq ?_ | (refine wp_skip ?_; refine then_n ?_))
  refine wp_region_law hN_0 w.heap.size
    [kIs (.slice (some ⟨g2, 0, none⟩) 2 2), kIs (.int .i64 (2)), kIs (.int .i64 (0))]
    [ [], [(0, some 9)], [] ]
    [(0, some 9), (1, some 10), (2, some 11)] [] [] (by kernel_rfl) (by kernel_rfl) (by kernel_rfl) (by kernel_rfl) (by kernel_rfl) (by kernel_rfl) (by kernel_rfl) bb_0.size ?_ ?_
  ·
    refine pk_cons rfl rfl (st_pure [] [(2, .slice (some ⟨g2, 0, none⟩) 2 2)] (.slice (some ⟨g2, 0, none⟩) 2 2) rfl hN_0 (by kernel_rfl) (by kernel_rfl) (by kernel_rfl) (old1 e2_0) (by kernel_rfl) (by kernel_rfl) (by kernel_rfl) (fun _ => by kernel_rfl)) ?_
    refine pk_cons rfl rfl (st_pure [.slice (some ⟨g2, 0, none⟩) 2 2] [] (.int .i64 (2)) rfl hN_0 (by kernel_rfl) (by kernel_rfl) (by kernel_rfl) old0 (by kernel_rfl) (by kernel_rfl) (by kernel_rfl) (fun _ => by kernel_rfl)) ?_
    refine pk_cons rfl rfl (st_pure [] [] (.int .i64 (0)) rfl hN_0 (by kernel_rfl) (by kernel_rfl) (by kernel_rfl) old0 (by kernel_rfl) (by kernel_rfl) (by kernel_rfl) (fun _ => by kernel_rfl)) ?_
    exact pk_nil rfl
  intro W_1 x hC hall
  refine then_n ?_
  obtain ⟨a_1, ha⟩ : ∃ a, a = putE x a_0 [(0, some 9), (1, some 10), (2, some 11)] := ⟨_, rfl⟩
  rw [← ha]
  have hN_1 := size_behind ha hN_0
  have hD_1 := defers_behind ha hD_0
  have bb_1 := bb_0.trans hC.below
  have e1_1 := slot_old ha (by kernel_rfl) e1_0
  have e2_1 := slot_old ha (by kernel_rfl) e2_0
  have e3_1 := slot_old ha (by kernel_rfl) e3_0
  have e6_1 := slot_old ha (by kernel_rfl) e6_0
  have f1_1 := hC.at0 f1_0
  have f1'_1 := hC.at0 f1'_0
  have S_1 := hC.holds S_0
  have R_1 := hC.holds R_0
  have LL_1 := hC.prs (by simp) LL_0
  have e9_1 := (slot_new (t := 9) (i := 0) ha hN_0 (by kernel_rfl) (by kernel_rfl)).trans (show x 0 = .slice (some ⟨g2, 0, none⟩) 2 2 from hall 0 (of_decide_eq_true (by kernel_rfl)))
  have e10_1 := (slot_new (t := 10) (i := 1) ha hN_0 (by kernel_rfl) (by kernel_rfl)).trans (show x 1 = .int .i64 (2) from hall 1 (of_decide_eq_true (by kernel_rfl)))
  have e11_1 := (slot_new (t := 11) (i := 2) ha hN_0 (by kernel_rfl) (by kernel_rfl)).trans (show x 2 = .int .i64 (0) from hall 2 (of_decide_eq_true (by kernel_rfl)))
  clear hall hC ha bb_0 hD_0 e1_0 e2_0 e3_0 e6_0 f1_0 f1'_0 S_0 R_0 LL_0
  repeat (first | refine wp_seq ?_ | (refine wp_skip ?_; refine then_n ?_))
  refine wp_block ?_
  refine wp_loop (fun ac W => ac.tmps.size = 22 ∧ ac.defers = [] ∧ ac.eval (.tmp 1) = .func (.func 40) #[] #[] ∧ ac.eval (.tmp 3) = .pointer (some ⟨w.heap.size, 0, none⟩) ∧ ac.eval (.tmp 6) = .pointer (some ⟨w.heap.size + 1, 0, none⟩) ∧ ac.eval (.tmp 9) = .slice (some ⟨g2, 0, none⟩) 2 2 ∧ ac.eval (.tmp 10) = .int .i64 (2) ∧ Below w.heap.size w W ∧ (∃ q1 q2 q3 q4, Holds_ W w.heap.size #[q1, q2, q3, q4]) ∧ Holds_ W (w.heap.size + 1) #[Value.bool false, Value.slice none 0 0, Value.bool false, Value.slice none 0 0] ∧ PRs W g2 [(19, a.num, (a.den : Int)), (19, b.num, (b.den : Int))] ∧ ((ac.eval (.tmp 11) = .int .i64 (0) ∧ AtR W w.heap.size 0 9 (((1 : Rat)).num) ∧ AtR W w.heap.size 2 9 ((((1 : Rat)).den : Int))) ∨ (ac.eval (.tmp 11) = .int .i64 (1) ∧ AtR W w.heap.size 0 19 (a.num) ∧ AtR W w.heap.size 2 19 ((a.den : Int))) ∨ (ac.eval (.tmp 11) = .int .i64 (2) ∧ AtR W w.heap.size 0 38 ((a * b).num) ∧ AtR W w.heap.size 2 38 (((a * b).den : Int))))) (fun ac _ => 2 - (intOf (ac.eval (.tmp 11))).toNat) ?_ ?_
  · exact ⟨hN_1, hD_1, e1_1, e3_1, e6_1, e9_1, e10_1, bb_1, ⟨_, _, _, _, S_1⟩, R_1, LL_1, .inl ⟨e11_1, f1_1, f1'_1⟩⟩
  clear hN_1 hD_1 e1_1 e3_1 e6_1 e9_1 e10_1 e11_1 bb_1 S_1 R_1 LL_1 f1_1 f1'_1
  rintro a_1 W_1 ⟨hN_1, hD_1, e1_1, e3_1, e6_1, e9_1, e10_1, bb_1, ⟨_, _, _, _, S_1⟩, R_1, LL_1, hor⟩
  rcases hor with ⟨e11_1, f1_1, f1'_1⟩ | ⟨e11_1, f1_1, f1'_1⟩ | ⟨e11_1, f1_1, f1'_1⟩
  ·
    have hm : intOf (a_1.eval (.tmp 11)) = 0 := by rw [e11_1]; rfl
    rw [hm]
    clear hm
    repeat (first | refine wp_seq ?_ | (refine wp_skip ?_; refine then_n ?_))
    refine wp_region_law hN_1 w.heap.size
      [kIs (.bool true)]
      [ [] ]
      [(0, some 12)] [] [] (by kernel_rfl) (by kernel_rfl) (by kernel_rfl) (by kernel_rfl) (by kernel_rfl) (by kernel_rfl) (by kernel_rfl) bb_1.size ?_ ?_
    ·
      refine pk_cons rfl rfl (st_pure [] [(11, .int .i64 (0)), (10, .int .i64 (2))] (.bool true) rfl hN_1 (by kernel_rfl) (by kernel_rfl) (by kernel_rfl) (old2 e11_1 e10_1) (by kernel_rfl) (by kernel_rfl) (by kernel_rfl) (fun _ => by kernel_rfl)) ?_
      exact pk_nil rfl
    intro W_2 x hC hall
    refine then_n ?_
    obtain ⟨a_2, ha⟩ : ∃ a, a = putE x a_1 [(0, some 12)] := ⟨_, rfl⟩
    rw [← ha]
    have hN_2 := size_behind ha hN_1
    have hD_2 := defers_behind ha hD_1
    have bb_2 := bb_1.trans hC.below
    have e1_2 := slot_old ha (by kernel_rfl) e1_1
    have e3_2 := slot_old ha (by kernel_rfl) e3_1
    have e6_2 := slot_old ha (by kernel_rfl) e6_1
    have e9_2 := slot_old ha (by kernel_rfl) e9_1
    have e10_2 := slot_old ha (by kernel_rfl) e10_1
    have e11_2 := slot_old ha (by kernel_rfl) e11_1
    have f1_2 := hC.at0 f1_1
    have f1'_2 := hC.at0 f1'_1
    have S_2 := hC.holds S_1
    have R_2 := hC.holds R_1
    have LL_2 := hC.prs (by simp) LL_1
    have e12_2 := (slot_new (t := 12) (i := 0) ha hN_1 (by kernel_rfl) (by kernel_rfl)).trans (show x 0 = .bool true from hall 0 (of_decide_eq_true (by kernel_rfl)))
    clear hall hC ha bb_1 hD_1 e1_1 e3_1 e6_1 e9_1 e10_1 e11_1 f1_1 f1'_1 S_1 R_1 LL_1
    repeat (first | refine wp_seq ?_ | (refine wp_skip ?_; refine then_n ?_))
    refine wp_cond_true e12_2 ?_
    repeat (first | refine wp_seq ?_ | (refine wp_skip ?_; refine then_n ?_))
    refine wp_block ?_
    repeat (first | refine wp_seq ?_ | (refine wp_skip ?_; refine then_n ?_))
    refine wp_region_law hN_2 w.heap.size
      [kIs (.pointer (some ⟨g2, 0, none⟩)), kP 19 (a.num) ((a.den : Int)), PK.fresh 4, kPutP 2 19 (a.num) ((a.den : Int))]
      [ [], [(0, some 13)], [], [(2, some 8), (1, some 14)] ]
      [(0, some 13), (1, some 14), (2, some 8), (3, none)] [] [] (by kernel_rfl) (by kernel_rfl) (by kernel_rfl) (by kernel_rfl) (by kernel_rfl) (by kernel_rfl) (by kernel_rfl) bb_2.size ?_ ?_
    ·
      refine pk_cons rfl rfl (st_pure [] [(9, .slice (some ⟨g2, 0, none⟩) 2 2), (11, .int .i64 (0))] (.pointer (some ⟨g2, 0, none⟩)) rfl hN_2 (by kernel_rfl) (by kernel_rfl) (by kernel_rfl) (old2 e9_2 e11_2) (by kernel_rfl) (by kernel_rfl) (by kernel_rfl) (fun _ => by kernel_rfl)) ?_
      refine pk_cons rfl rfl (st_loadPI LL_2 (n := 0) rfl rfl (by simp) hN_2 (by kernel_rfl) (by kernel_rfl) rfl rfl) ?_
      refine pk_cons rfl rfl (st_allocP hN_2 (by kernel_rfl) (Nat.le_refl _) rfl) ?_
      refine pk_cons rfl rfl (st_putP hN_2 (by kernel_rfl) (by kernel_rfl) (by kernel_rfl) rfl rfl rfl) ?_
      exact pk_nil rfl
    intro W_3 x hC hall
    refine then_n ?_
    obtain ⟨a_3, ha⟩ : ∃ a, a = putE x a_2 [(0, some 13), (1, some 14), (2, some 8), (3, none)] := ⟨_, rfl⟩
    rw [← ha]
    have hN_3 := size_behind ha hN_2
    have hD_3 := defers_behind ha hD_2
    have bb_3 := bb_2.trans hC.below
    have e1_3 := slot_old ha (by kernel_rfl) e1_2
    have e3_3 := slot_old ha (by kernel_rfl) e3_2
    have e6_3 := slot_old ha (by kernel_rfl) e6_2
    have e9_3 := slot_old ha (by kernel_rfl) e9_2
    have e10_3 := slot_old ha (by kernel_rfl) e10_2
    have e11_3 := slot_old ha (by kernel_rfl) e11_2
    have e12_3 := slot_old ha (by kernel_rfl) e12_2
    have f1_3 := hC.at0 f1_2
    have f1'_3 := hC.at0 f1'_2
    have S_3 := hC.holds S_2
    have R_3 := hC.holds R_2
    have LL_3 := hC.prs (by simp) LL_2
    obtain ⟨g8, hx, hge, p8_3, p8'_3⟩ := put_atP (show (kPutP 2 19 (a.num) ((a.den : Int))).sem _ _ _ _ from hall 3 (of_decide_eq_true (by kernel_rfl)))
    have e8_3 := (slot_new (t := 8) (i := 2) ha hN_2 (by kernel_rfl) (by kernel_rfl)).trans hx
    have d8 := Nat.lt_of_lt_of_le R_2.lt hge
    clear hx hge
    clear hall hC ha bb_2 hD_2 e1_2 e3_2 e6_2 e9_2 e10_2 e11_2 e12_2 f1_2 f1'_2 S_2 R_2 LL_2
    repeat (first | refine wp_seq ?_ | (refine wp_skip ?_; refine then_n ?_))
    refine wp_region_keep hN_3 w.heap.size (w.heap.size) S_3 (by omega) 5 [1]
      [kIs (.func (.func 40) #[] #[]), kP 9 (((1 : Rat)).num) ((((1 : Rat)).den : Int)), kP 19 (a.num) ((a.den : Int)), kP 19 (a.num) ((a.den : Int)), kP 38 ((((1 : Rat)) * a).num) (((((1 : Rat)) * a).den : Int)), kRes (w.heap.size) 38 ((((1 : Rat)) * a).num) (((((1 : Rat)) * a).den : Int))]
      [ [], [], [], [(2, some 17)], [(0, some 15), (1, some 16), (3, some 18)], [(4, some 19)] ]
      [(0, some 15), (1, some 16), (2, some 17), (3, some 18), (4, some 19), (5, none)] [] [] (by kernel_rfl) (by kernel_rfl) (by kernel_rfl) (by kernel_rfl) (by kernel_rfl) (by kernel_rfl) (by kernel_rfl) rfl (by kernel_rfl) bb_3.size ?_ ?_
    ·
      refine pkl_cons rfl rfl (st_pure [] [(1, .func (.func 40) #[] #[])] (.func (.func 40) #[] #[]) rfl hN_3 (by kernel_rfl) (by kernel_rfl) (by kernel_rfl) (old1 e1_3) (by kernel_rfl) (by kernel_rfl) (by kernel_rfl) (fun _ => by kernel_rfl)) ?_
      refine pkl_keep rfl rfl rfl ?_ ?_
      · exact st_loadKF f1_3 f1'_3 e3_3 hN_3 (by kernel_rfl) rfl
      refine pkl_cons rfl rfl (st_load4P p8_3 p8'_3 (by simp only [List.mem_singleton]; omega) e8_3 hN_3 (by kernel_rfl) rfl) ?_
      refine pkl_cons rfl rfl (st_call1 hN_3 (by kernel_rfl) (by kernel_rfl) (by kernel_rfl) rfl rfl fun w x v1 hC h1 => tp (of_19 (pm (by decide) h1))) ?_
      refine pkl_cons rfl rfl (st_call2V hN_3 (by kernel_rfl) (by kernel_rfl) (by kernel_rfl) (by kernel_rfl) (by kernel_rfl) (by kernel_rfl) (by kernel_rfl) (by kernel_rfl) rfl rfl rfl rfl fun w x v1 v2 hC h1 h2 => tp (times_19 (pm (by decide) h1) (pm (by decide) h2))) ?_
      refine pkl_cons rfl rfl (st_resF S_3 rfl (by simp) e3_3 hN_3 (by kernel_rfl) (by kernel_rfl) rfl rfl) ?_
      exact pkl_nil rfl
    intro W_4 x hC hall
    obtain ⟨a_4, ha⟩ : ∃ a, a = putE x a_3 [(0, some 15), (1, some 16), (2, some 17), (3, some 18), (4, some 19), (5, none)] := ⟨_, rfl⟩
    rw [← ha]
    have hN_4 := size_behind ha hN_3
    have hD_4 := defers_behind ha hD_3
    have bb_4 := bb_3.trans hC.below
    have e1_4 := slot_old ha (by kernel_rfl) e1_3
    have e3_4 := slot_old ha (by kernel_rfl) e3_3
    have e6_4 := slot_old ha (by kernel_rfl) e6_3
    have e9_4 := slot_old ha (by kernel_rfl) e9_3
    have e10_4 := slot_old ha (by kernel_rfl) e10_3
    have e11_4 := slot_old ha (by kernel_rfl) e11_3
    have e12_4 := slot_old ha (by kernel_rfl) e12_3
    have e8_4 := slot_old ha (by kernel_rfl) e8_3
    have R_4 := hC.holdsG (by simp only [List.mem_singleton]; omega) R_3
    have LL_4 := hC.prs (by simp only [List.mem_singleton]; omega) LL_3
    have hres := show (kRes (w.heap.size) 38 ((((1 : Rat)) * a).num) (((((1 : Rat)) * a).den : Int))).sem _ _ _ _ from hall 5 (of_decide_eq_true (by kernel_rfl))
    obtain ⟨f1_4, f1'_4⟩ := res_atP hres
    obtain ⟨_, _, _, _, S_4⟩ := res_four hres
    clear hall hC ha hres
    refine in_block8 ?_
    refine then_n ?_
    refine wp_incr2 (n := 0) (m := 1) hN_4 (by kernel_rfl) e11_4 (fun _ => by kernel_rfl) ?_
    intro x hx
    obtain ⟨a_5, ha⟩ : ∃ a, a = putE x a_4 [(0, some 20), (1, some 11)] := ⟨_, rfl⟩
    rw [← ha]
    have hN_5 := size_behind ha hN_4
    have hD_5 := defers_behind ha hD_4
    have bb_5 := bb_4
    have e1_5 := slot_old ha (by kernel_rfl) e1_4
    have e3_5 := slot_old ha (by kernel_rfl) e3_4
    have e6_5 := slot_old ha (by kernel_rfl) e6_4
    have e9_5 := slot_old ha (by kernel_rfl) e9_4
    have e10_5 := slot_old ha (by kernel_rfl) e10_4
    have e12_5 := slot_old ha (by kernel_rfl) e12_4
    have e8_5 := slot_old ha (by kernel_rfl) e8_4
    have f1_5 := f1_4
    have f1'_5 := f1'_4
    have S_5 := S_4
    have R_5 := R_4
    have LL_5 := LL_4
    have e11_5 := (slot_new (t := 11) (i := 1) ha hN_4 (by kernel_rfl) (by kernel_rfl)).trans hx
    clear ha hx
    have hq : (1 : Rat) * a = a := Rat.one_mul a
    rw [hq] at f1_5 f1'_5
    refine ⟨⟨hN_5, hD_5, e1_5, e3_5, e6_5, e9_5, e10_5, bb_5, ⟨_, _, _, _, S_5⟩, R_5, LL_5, .inr (.inl ⟨e11_5, f1_5.tight HB0.out.1, f1'_5.tight HB0.out.2⟩)⟩, ?_⟩
    rw [e11_5]; decide
  ·
    have hm : intOf (a_1.eval (.tmp 11)) = 1 := by rw [e11_1]; rfl
    rw [hm]
    clear hm
    repeat (first | refine wp_seq ?_ | (refine wp_skip ?_; refine then_n ?_))
    refine wp_region_law hN_1 w.heap.size
      [kIs (.bool true)]
      [ [] ]
      [(0, some 12)] [] [] (by kernel_rfl) (by kernel_rfl) (by kernel_rfl) (by kernel_rfl) (by kernel_rfl) (by kernel_rfl) (by kernel_rfl) bb_1.size ?_ ?_
    ·
      refine pk_cons rfl rfl (st_pure [] [(11, .int .i64 (1)), (10, .int .i64 (2))] (.bool true) rfl hN_1 (by kernel_rfl) (by kernel_rfl) (by kernel_rfl) (old2 e11_1 e10_1) (by kernel_rfl) (by kernel_rfl) (by kernel_rfl) (fun _ => by kernel_rfl)) ?_
      exact pk_nil rfl
    intro W_2 x hC hall
    refine then_n ?_
    obtain ⟨a_2, ha⟩ : ∃ a, a = putE x a_1 [(0, some 12)] := ⟨_, rfl⟩
    rw [← ha]
    have hN_2 := size_behind ha hN_1
    have hD_2 := defers_behind ha hD_1
    have bb_2 := bb_1.trans hC.below
    have e1_2 := slot_old ha (by kernel_rfl) e1_1
    have e3_2 := slot_old ha (by kernel_rfl) e3_1
    have e6_2 := slot_old ha (by kernel_rfl) e6_1
    have e9_2 := slot_old ha (by kernel_rfl) e9_1
    have e10_2 := slot_old ha (by kernel_rfl) e10_1
    have e11_2 := slot_old ha (by kernel_rfl) e11_1
    have f1_2 := hC.at0 f1_1
    have f1'_2 := hC.at0 f1'_1
    have S_2 := hC.holds S_1
    have R_2 := hC.holds R_1
    have LL_2 := hC.prs (by simp) LL_1
    have e12_2 := (slot_new (t := 12) (i := 0) ha hN_1 (by kernel_rfl) (by kernel_rfl)).trans (show x 0 = .bool true from hall 0 (of_decide_eq_true (by kernel_rfl)))
    clear hall hC ha bb_1 hD_1 e1_1 e3_1 e6_1 e9_1 e10_1 e11_1 f1_1 f1'_1 S_1 R_1 LL_1
    repeat (first | refine wp_seq ?_ | (refine wp_skip ?_; refine then_n ?_))
    refine wp_cond_true e12_2 ?_
    repeat (first | refine wp_seq ?_ | (refine wp_skip ?_; refine then_n ?_))
    refine wp_block ?_
    repeat (first | refine wp_seq ?_ | (refine wp_skip ?_; refine then_n ?_))
    refine wp_region_law hN_2 w.heap.size
      [kIs (.pointer (some ⟨g2, 4, none⟩)), kP 19 (b.num) ((b.den : Int)), PK.fresh 4, kPutP 2 19 (b.num) ((b.den : Int))]
      [ [], [(0, some 13)], [], [(2, some 8), (1, some 14)] ]
      [(0, some 13), (1, some 14), (2, some 8), (3, none)] [] [] (by kernel_rfl) (by kernel_rfl) (by kernel_rfl) (by kernel_rfl) (by kernel_rfl) (by kernel_rfl) (by kernel_rfl) bb_2.size ?_ ?_
    ·
      refine pk_cons rfl rfl (st_pure [] [(9, .slice (some ⟨g2, 0, none⟩) 2 2), (11, .int .i64 (1))] (.pointer (some ⟨g2, 4, none⟩)) rfl hN_2 (by kernel_rfl) (by kernel_rfl) (by kernel_rfl) (old2 e9_2 e11_2) (by kernel_rfl) (by kernel_rfl) (by kernel_rfl) (fun _ => by kernel_rfl)) ?_
      refine pk_cons rfl rfl (st_loadPI LL_2 (n := 1) rfl rfl (by simp) hN_2 (by kernel_rfl) (by kernel_rfl) rfl rfl) ?_
      refine pk_cons rfl rfl (st_allocP hN_2 (by kernel_rfl) (Nat.le_refl _) rfl) ?_
      refine pk_cons rfl rfl (st_putP hN_2 (by kernel_rfl) (by kernel_rfl) (by kernel_rfl) rfl rfl rfl) ?_
      exact pk_nil rfl
    intro W_3 x hC hall
    refine then_n ?_
    obtain ⟨a_3, ha⟩ : ∃ a, a = putE x a_2 [(0, some 13), (1, some 14), (2, some 8), (3, none)] := ⟨_, rfl⟩
    rw [← ha]
    have hN_3 := size_behind ha hN_2
    have hD_3 := defers_behind ha hD_2
    have bb_3 := bb_2.trans hC.below
    have e1_3 := slot_old ha (by kernel_rfl) e1_2
    have e3_3 := slot_old ha (by kernel_rfl) e3_2
    have e6_3 := slot_old ha (by kernel_rfl) e6_2
    have e9_3 := slot_old ha (by kernel_rfl) e9_2
    have e10_3 := slot_old ha (by kernel_rfl) e10_2
    have e11_3 := slot_old ha (by kernel_rfl) e11_2
    have e12_3 := slot_old ha (by kernel_rfl) e12_2
    have f1_3 := hC.at0 f1_2
    have f1'_3 := hC.at0 f1'_2
    have S_3 := hC.holds S_2
    have R_3 := hC.holds R_2
    have LL_3 := hC.prs (by simp) LL_2
    obtain ⟨g8, hx, hge, p8_3, p8'_3⟩ := put_atP (show (kPutP 2 19 (b.num) ((b.den : Int))).sem _ _ _ _ from hall 3 (of_decide_eq_true (by kernel_rfl)))
    have e8_3 := (slot_new (t := 8) (i := 2) ha hN_2 (by kernel_rfl) (by kernel_rfl)).trans hx
    have d8 := Nat.lt_of_lt_of_le R_2.lt hge
    clear hx hge
    clear hall hC ha bb_2 hD_2 e1_2 e3_2 e6_2 e9_2 e10_2 e11_2 e12_2 f1_2 f1'_2 S_2 R_2 LL_2
    repeat (first | refine wp_seq ?_ | (refine wp_skip ?_; refine then_n ?_))
    refine wp_region_keep hN_3 w.heap.size (w.heap.size) S_3 (by omega) 5 [1]
      [kIs (.func (.func 40) #[] #[]), kP 19 (a.num) ((a.den : Int)), kP 19 (b.num) ((b.den : Int)), kP 19 (b.num) ((b.den : Int)), kP 38 ((a * b).num) (((a * b).den : Int)), kRes (w.heap.size) 38 ((a * b).num) (((a * b).den : Int))]
      [ [], [], [], [(2, some 17)], [(0, some 15), (1, some 16), (3, some 18)], [(4, some 19)] ]
      [(0, some 15), (1, some 16), (2, some 17), (3, some 18), (4, some 19), (5, none)] [] [] (by kernel_rfl) (by kernel_rfl) (by kernel_rfl) (by kernel_rfl) (by kernel_rfl) (by kernel_rfl) (by kernel_rfl) rfl (by kernel_rfl) bb_3.size ?_ ?_
    ·
      refine pkl_cons rfl rfl (st_pure [] [(1, .func (.func 40) #[] #[])] (.func (.func 40) #[] #[]) rfl hN_3 (by kernel_rfl) (by kernel_rfl) (by kernel_rfl) (old1 e1_3) (by kernel_rfl) (by kernel_rfl) (by kernel_rfl) (fun _ => by kernel_rfl)) ?_
      refine pkl_keep rfl rfl rfl ?_ ?_
      · exact st_loadKF f1_3 f1'_3 e3_3 hN_3 (by kernel_rfl) rfl
      refine pkl_cons rfl rfl (st_load4P p8_3 p8'_3 (by simp only [List.mem_singleton]; omega) e8_3 hN_3 (by kernel_rfl) rfl) ?_
      refine pkl_cons rfl rfl (st_call1 hN_3 (by kernel_rfl) (by kernel_rfl) (by kernel_rfl) rfl rfl fun w x v1 hC h1 => tp (of_19 (pm (by decide) h1))) ?_
      refine pkl_cons rfl rfl (st_call2V hN_3 (by kernel_rfl) (by kernel_rfl) (by kernel_rfl) (by kernel_rfl) (by kernel_rfl) (by kernel_rfl) (by kernel_rfl) (by kernel_rfl) rfl rfl rfl rfl fun w x v1 v2 hC h1 h2 => tp (times_19 (pm (by decide) h1) (pm (by decide) h2))) ?_
      refine pkl_cons rfl rfl (st_resF S_3 rfl (by simp) e3_3 hN_3 (by kernel_rfl) (by kernel_rfl) rfl rfl) ?_
      exact pkl_nil rfl
    intro W_4 x hC hall
    obtain ⟨a_4, ha⟩ : ∃ a, a = putE x a_3 [(0, some 15), (1, some 16), (2, some 17), (3, some 18), (4, some 19), (5, none)] := ⟨_, rfl⟩
    rw [← ha]
    have hN_4 := size_behind ha hN_3
    have hD_4 := defers_behind ha hD_3
    have bb_4 := bb_3.trans hC.below
    have e1_4 := slot_old ha (by kernel_rfl) e1_3
    have e3_4 := slot_old ha (by kernel_rfl) e3_3
    have e6_4 := slot_old ha (by kernel_rfl) e6_3
    have e9_4 := slot_old ha (by kernel_rfl) e9_3
    have e10_4 := slot_old ha (by kernel_rfl) e10_3
    have e11_4 := slot_old ha (by kernel_rfl) e11_3
    have e12_4 := slot_old ha (by kernel_rfl) e12_3
    have e8_4 := slot_old ha (by kernel_rfl) e8_3
    have R_4 := hC.holdsG (by simp only [List.mem_singleton]; omega) R_3
    have LL_4 := hC.prs (by simp only [List.mem_singleton]; omega) LL_3
    have hres := show (kRes (w.heap.size) 38 ((a * b).num) (((a * b).den : Int))).sem _ _ _ _ from hall 5 (of_decide_eq_true (by kernel_rfl))
    obtain ⟨f1_4, f1'_4⟩ := res_atP hres
    obtain ⟨_, _, _, _, S_4⟩ := res_four hres
    clear hall hC ha hres
    refine in_block8 ?_
    refine then_n ?_
    refine wp_incr2 (n := 1) (m := 2) hN_4 (by kernel_rfl) e11_4 (fun _ => by kernel_rfl) ?_
    intro x hx
    obtain ⟨a_5, ha⟩ : ∃ a, a = putE x a_4 [(0, some 20), (1, some 11)] := ⟨_, rfl⟩
    rw [← ha]
    have hN_5 := size_behind ha hN_4
    have hD_5 := defers_behind ha hD_4
    have bb_5 := bb_4
    have e1_5 := slot_old ha (by kernel_rfl) e1_4
    have e3_5 := slot_old ha (by kernel_rfl) e3_4
    have e6_5 := slot_old ha (by kernel_rfl) e6_4
    have e9_5 := slot_old ha (by kernel_rfl) e9_4
    have e10_5 := slot_old ha (by kernel_rfl) e10_4
    have e12_5 := slot_old ha (by kernel_rfl) e12_4
    have e8_5 := slot_old ha (by kernel_rfl) e8_4
    have f1_5 := f1_4
    have f1'_5 := f1'_4
    have S_5 := S_4
    have R_5 := R_4
    have LL_5 := LL_4
    have e11_5 := (slot_new (t := 11) (i := 1) ha hN_4 (by kernel_rfl) (by kernel_rfl)).trans hx
    clear ha hx
    refine ⟨⟨hN_5, hD_5, e1_5, e3_5, e6_5, e9_5, e10_5, bb_5, ⟨_, _, _, _, S_5⟩, R_5, LL_5, .inr (.inr (⟨e11_5, f1_5, f1'_5⟩))⟩, ?_⟩
    rw [e11_5]; decide
  ·
    have hm : intOf (a_1.eval (.tmp 11)) = 2 := by rw [e11_1]; rfl
    rw [hm]
    clear hm
    repeat (first | refine wp_seq ?_ | (refine wp_skip ?_; refine then_n ?_))
    refine wp_region_law hN_1 w.heap.size
      [kIs (.bool false)]
      [ [] ]
      [(0, some 12)] [] [] (by kernel_rfl) (by kernel_rfl) (by kernel_rfl) (by kernel_rfl) (by kernel_rfl) (by kernel_rfl) (by kernel_rfl) bb_1.size ?_ ?_
    ·
      refine pk_cons rfl rfl (st_pure [] [(11, .int .i64 (2)), (10, .int .i64 (2))] (.bool false) rfl hN_1 (by kernel_rfl) (by kernel_rfl) (by kernel_rfl) (old2 e11_1 e10_1) (by kernel_rfl) (by kernel_rfl) (by kernel_rfl) (fun _ => by kernel_rfl)) ?_
      exact pk_nil rfl
    intro W_2 x hC hall
    refine then_n ?_
    obtain ⟨a_2, ha⟩ : ∃ a, a = putE x a_1 [(0, some 12)] := ⟨_, rfl⟩
    rw [← ha]
    have hN_2 := size_behind ha hN_1
    have hD_2 := defers_behind ha hD_1
    have bb_2 := bb_1.trans hC.below
    have e1_2 := slot_old ha (by kernel_rfl) e1_1
    have e3_2 := slot_old ha (by kernel_rfl) e3_1
    have e6_2 := slot_old ha (by kernel_rfl) e6_1
    have e9_2 := slot_old ha (by kernel_rfl) e9_1
    have e10_2 := slot_old ha (by kernel_rfl) e10_1
    have e11_2 := slot_old ha (by kernel_rfl) e11_1
    have f1_2 := hC.at0 f1_1
    have f1'_2 := hC.at0 f1'_1
    have S_2 := hC.holds S_1
    have R_2 := hC.holds R_1
    have LL_2 := hC.prs (by simp) LL_1
    have e12_2 := (slot_new (t := 12) (i := 0) ha hN_1 (by kernel_rfl) (by kernel_rfl)).trans (show x 0 = .bool false from hall 0 (of_decide_eq_true (by kernel_rfl)))
    clear hall hC ha bb_1 hD_1 e1_1 e3_1 e6_1 e9_1 e10_1 e11_1 f1_1 f1'_1 S_1 R_1 LL_1
    repeat (first | refine wp_seq ?_ | (refine wp_skip ?_; refine then_n ?_))
    refine wp_cond_false e12_2 ?_
    repeat (first | refine wp_seq ?_ | (refine wp_skip ?_; refine then_n ?_))
    refine wp_exit ?_
    repeat (refine then_x8 ?_)
    refine out_block8 ?_
    refine then_n ?_
    repeat (first | refine wp_seq ?_ | (refine wp_skip ?_; refine then_n ?_))
    refine wp_region_res hN_2 w.heap.size (w.heap.size + 1) R_2 (by omega)
      [kP 38 ((a * b).num) (((a * b).den : Int)), kRes (w.heap.size + 1) 38 ((a * b).num) (((a * b).den : Int))]
      [ [], [(0, some 21)] ]
      [(0, some 21), (1, none)] [] [] (by kernel_rfl) (by kernel_rfl) (by kernel_rfl) (by kernel_rfl) (by kernel_rfl) (by kernel_rfl) (by kernel_rfl) bb_2.size ?_ ?_
    ·
      refine pk_cons rfl rfl (st_load4F f1_2 f1'_2 (by simp only [List.mem_singleton]; omega) e3_2 hN_2 (by kernel_rfl) rfl) ?_
      refine pk_cons rfl rfl (st_resF R_2 rfl (by simp) e6_2 hN_2 (by kernel_rfl) (by kernel_rfl) rfl rfl) ?_
      exact pk_nil rfl
    intro W x hC hall
    refine then_n ?_
    obtain ⟨a1, ha⟩ : ∃ a, a = putE x a_2 [(0, some 21), (1, none)] := ⟨_, rfl⟩
    rw [← ha]
    have hD1 := defers_behind ha hD_2
    have bb1 := bb_2.trans hC.below
    obtain ⟨cs, hg, hP⟩ := (show (kRes (w.heap.size + 1) 38 ((a * b).num) (((a * b).den : Int))).sem _ _ _ _ from hall 1 (of_decide_eq_true (by kernel_rfl)))
    have e1 := slot_old (t := 6) ha (by kernel_rfl) e6_2
    repeat (first | refine wp_seq ?_ | (refine wp_skip ?_; refine then_n ?_))
    refine wp_ret ?_
    repeat (refine then_r ?_)
    exact ret_cellF (t := 6) rfl hD1 e1 hg hP fun v hv => ⟨v, rfl, hv, bb1⟩
end Go.Proofs.YthgclmkhmcfflaaGreatDoor
namespace Go.Proofs.YthgclmkhmcfflaaGreatDoor
open Go.RowKit
theorem pe0 {S0 : Nat} {x : Nat → Value} {v : Value} {w : World} (h : (kP 9 0 1).sem S0 x v w) : Pr w v 9 (0 : Rat).num ((0 : Rat).den : Int) := h
theorem pe1 {S0 : Nat} {x : Nat → Value} {v : Value} {w : World} (h : (kP 9 (1 : Int) 1).sem S0 x v w) : Pr w v 9 (1 : Rat).num ((1 : Rat).den : Int) := h
theorem plc {B : Nat} {W0 w : World} {G : List Nat} {g n : Nat} {l : List (Nat × Int × Int)} {v : Value} (hC : Reg B W0 G w) (hG : g ∉ G) (hl : PRs W0 g l) (hg : g < W0.heap.size) (hn : l.length = n) (h : v = .slice (some ⟨g, 0, none⟩) n n) : PL w v l := by
  subst hn
  exact ⟨g, h, Nat.lt_of_lt_of_le hg hC.below.size, hC.prs hG hl⟩
set_option maxRecDepth 100000 in
set_option maxHeartbeats 8000000 in
theorem Add2_9 {w : World} {v2 : Value} {a b : Rat} (hl : PL w v2 [(9, a.num, (a.den : Int)), (9, b.num, (b.den : Int))]) :
    Calls Tryz.prog 12 #[v2] w (TellsP w 19 ((a + b).num) (((a + b).den : Int))) := by
  obtain ⟨g2, rfl, hg2, hl2⟩ := hl
  have HL := Lib.hid hl2
  clear hl2
  show Calls _ _ #[.slice (some ⟨g2, 0, none⟩) 2 2] _ _
  go_enter Tryz.func12, Tryz.ntmps12
  repeat (refine wp_seq ?_)
  refine region_k ?_
  intro K hK
  have HK := Lib.hid hK
  clear hK
  go_wp2
  refine HK.out _ _ ?_
  clear HK
  refine then_n ?_
  obtain ⟨W_0, hW⟩ : ∃ W, W = w.alloc (Obj.cells #[Value.bool false, Value.slice none 0 0, Value.bool false, Value.slice none 0 0] 27) := ⟨_, rfl⟩
  have bb_0 : Below w.heap.size w W_0 := by rw [hW]; exact bal (Below.refl _ _) _
  have K0 : W_0.heap[w.heap.size]? = some (Obj.cells #[Value.bool false, Value.slice none 0 0, Value.bool false, Value.slice none 0 0] 27) := by rw [hW]; exact new_at (by simp)
  rw [← hW]
  have R_0 : Holds_ W_0 (w.heap.size) #[Value.bool false, Value.slice none 0 0, Value.bool false, Value.slice none 0 0] := ⟨⟨_, K0⟩, by simp [noDig]⟩
  have LL_0 := HL.out.below bb_0
  clear hW K0
  refine name_frame (G := fun a => Code.wp _ _ _ a _) ?_
  intro a_0 ha
  have hN_0 : a_0.tmps.size = 7 := by subst ha; kernel_rfl
  have hD_0 : a_0.defers = [] := by subst ha; rfl
  have e0_0 : a_0.eval (.tmp 0) = .slice (some ⟨g2, 0, none⟩) 2 2 := by subst ha; kernel_rfl
  have e2_0 : a_0.eval (.tmp 2) = .pointer (some ⟨w.heap.size, 0, none⟩) := by subst ha; kernel_rfl
  clear ha
  repeat (first | refine wp_seq ?_ | (refine wp_skip ?_; refine then_n ?_))
  refine wp_region_res hN_0 w.heap.size (w.heap.size) R_0 (by omega)
    [kP 9 (0) (1), kIs (.slice (some ⟨g2, 0, none⟩) 2 2), kP 19 ((a + b).num) (((a + b).den : Int)), kP 19 ((a + b).num) (((a + b).den : Int)), kRes (w.heap.size) 19 ((a + b).num) (((a + b).den : Int))]
    [ [], [], [(0, some 3), (1, some 4)], [(2, some 5)], [(3, some 6)] ]
    [(0, some 3), (1, some 4), (2, some 5), (3, some 6), (4, none)] [] [] (by kernel_rfl) (by kernel_rfl) (by kernel_rfl) (by kernel_rfl) (by kernel_rfl) (by kernel_rfl) (by kernel_rfl) bb_0.size ?_ ?_
  ·
    refine pk_cons rfl rfl (st_call0 [] hN_0 (by kernel_rfl) (by kernel_rfl) rfl rfl fun w x hC => tp none_9) ?_
    refine pk_cons rfl rfl (st_pure [] [(0, .slice (some ⟨g2, 0, none⟩) 2 2)] (.slice (some ⟨g2, 0, none⟩) 2 2) rfl hN_0 (by kernel_rfl) (by kernel_rfl) (by kernel_rfl) (old1 e0_0) (by kernel_rfl) (by kernel_rfl) (by kernel_rfl) (fun _ => by kernel_rfl)) ?_
    refine pk_cons rfl rfl (st_callM hN_0 (by kernel_rfl) (by kernel_rfl) (by kernel_rfl) (by kernel_rfl) (by kernel_rfl) rfl rfl rfl fun w x v1 v2 hC h1 h2 => tp (fold2_plus_9 (pe0 h1) (plc hC (by simp only [List.mem_singleton]; omega) LL_0 (by have := bb_0.size; omega) rfl h2))) ?_
    refine pk_cons rfl rfl (st_fieldF hN_0 (by kernel_rfl) (by kernel_rfl) rfl rfl) ?_
    refine pk_cons rfl rfl (st_resP R_0 rfl (by simp) e2_0 hN_0 (by kernel_rfl) (by kernel_rfl) rfl rfl) ?_
    exact pk_nil rfl
  intro W x hC hall
  refine then_n ?_
  obtain ⟨a1, ha⟩ : ∃ a, a = putE x a_0 [(0, some 3), (1, some 4), (2, some 5), (3, some 6), (4, none)] := ⟨_, rfl⟩
  rw [← ha]
  have hD1 := defers_behind ha hD_0
  have bb1 := bb_0.trans hC.below
  obtain ⟨cs, hg, hP⟩ := (show (kRes (w.heap.size) 19 ((a + b).num) (((a + b).den : Int))).sem _ _ _ _ from hall 4 (of_decide_eq_true (by kernel_rfl)))
  have e1 := slot_old (t := 2) ha (by kernel_rfl) e2_0
  repeat (first | refine wp_seq ?_ | (refine wp_skip ?_; refine then_n ?_))
  refine wp_ret ?_
  repeat (refine then_r ?_)
  exact ret_cellP (t := 2) rfl hD1 e1 hg hP fun v hv => ⟨v, rfl, hv, bb1⟩
set_option maxRecDepth 100000 in
set_option maxHeartbeats 8000000 in
theorem Mul2_9 {w : World} {v2 : Value} {a b : Rat} (hl : PL w v2 [(9, a.num, (a.den : Int)), (9, b.num, (b.den : Int))]) :
    Calls Tryz.prog 13 #[v2] w (TellsP w 18 ((a * b).num) (((a * b).den : Int))) := by
  obtain ⟨g2, rfl, hg2, hl2⟩ := hl
  have HL := Lib.hid hl2
  clear hl2
  show Calls _ _ #[.slice (some ⟨g2, 0, none⟩) 2 2] _ _
  go_enter Tryz.func13, Tryz.ntmps13
  repeat (refine wp_seq ?_)
  refine region_k ?_
  intro K hK
  have HK := Lib.hid hK
  clear hK
  go_wp2
  refine HK.out _ _ ?_
  clear HK
  refine then_n ?_
  obtain ⟨W_0, hW⟩ : ∃ W, W = w.alloc (Obj.cells #[Value.bool false, Value.slice none 0 0, Value.bool false, Value.slice none 0 0] 27) := ⟨_, rfl⟩
  have bb_0 : Below w.heap.size w W_0 := by rw [hW]; exact bal (Below.refl _ _) _
  have K0 : W_0.heap[w.heap.size]? = some (Obj.cells #[Value.bool false, Value.slice none 0 0, Value.bool false, Value.slice none 0 0] 27) := by rw [hW]; exact new_at (by simp)
  rw [← hW]
  have R_0 : Holds_ W_0 (w.heap.size) #[Value.bool false, Value.slice none 0 0, Value.bool false, Value.slice none 0 0] := ⟨⟨_, K0⟩, by simp [noDig]⟩
  have LL_0 := HL.out.below bb_0
  clear hW K0
  refine name_frame (G := fun a => Code.wp _ _ _ a _) ?_
  intro a_0 ha
  have hN_0 : a_0.tmps.size = 8 := by subst ha; kernel_rfl
  have hD_0 : a_0.defers = [] := by subst ha; rfl
  have e0_0 : a_0.eval (.tmp 0) = .slice (some ⟨g2, 0, none⟩) 2 2 := by subst ha; kernel_rfl
  have e2_0 : a_0.eval (.tmp 2) = .pointer (some ⟨w.heap.size, 0, none⟩) := by subst ha; kernel_rfl
  clear ha
  repeat (first | refine wp_seq ?_ | (refine wp_skip ?_; refine then_n ?_))
  refine wp_region_res hN_0 w.heap.size (w.heap.size) R_0 (by omega)
    [kZ 1 ((1 : Int)), kP 9 ((1 : Int)) (1), kIs (.slice (some ⟨g2, 0, none⟩) 2 2), kP 18 ((a * b).num) (((a * b).den : Int)), kP 18 ((a * b).num) (((a * b).den : Int)), kRes (w.heap.size) 18 ((a * b).num) (((a * b).den : Int))]
    [ [], [(0, some 3)], [], [(1, some 4), (2, some 5)], [(3, some 6)], [(4, some 7)] ]
    [(0, some 3), (1, some 4), (2, some 5), (3, some 6), (4, some 7), (5, none)] [] [] (by kernel_rfl) (by kernel_rfl) (by kernel_rfl) (by kernel_rfl) (by kernel_rfl) (by kernel_rfl) (by kernel_rfl) bb_0.size ?_ ?_
  ·
    refine pk_cons rfl rfl (st_call0 [.int .i64 (1)] hN_0 (by kernel_rfl) (by kernel_rfl) rfl rfl fun w x hC => tz (z_of (1) 1 (by decide) (by decide) (by decide))) ?_
    refine pk_cons rfl rfl (st_call1 hN_0 (by kernel_rfl) (by kernel_rfl) (by kernel_rfl) rfl rfl fun w x v1 hC h1 => tp (whole_9 ((rr h1).mono (by decide)))) ?_
    refine pk_cons rfl rfl (st_pure [] [(0, .slice (some ⟨g2, 0, none⟩) 2 2)] (.slice (some ⟨g2, 0, none⟩) 2 2) rfl hN_0 (by kernel_rfl) (by kernel_rfl) (by kernel_rfl) (old1 e0_0) (by kernel_rfl) (by kernel_rfl) (by kernel_rfl) (fun _ => by kernel_rfl)) ?_
    refine pk_cons rfl rfl (st_callM hN_0 (by kernel_rfl) (by kernel_rfl) (by kernel_rfl) (by kernel_rfl) (by kernel_rfl) rfl rfl rfl fun w x v1 v2 hC h1 h2 => tp (fold2_times_9 (pe1 h1) (plc hC (by simp only [List.mem_singleton]; omega) LL_0 (by have := bb_0.size; omega) rfl h2))) ?_
    refine pk_cons rfl rfl (st_fieldF hN_0 (by kernel_rfl) (by kernel_rfl) rfl rfl) ?_
    refine pk_cons rfl rfl (st_resP R_0 rfl (by simp) e2_0 hN_0 (by kernel_rfl) (by kernel_rfl) rfl rfl) ?_
    exact pk_nil rfl
  intro W x hC hall
  refine then_n ?_
  obtain ⟨a1, ha⟩ : ∃ a, a = putE x a_0 [(0, some 3), (1, some 4), (2, some 5), (3, some 6), (4, some 7), (5, none)] := ⟨_, rfl⟩
  rw [← ha]
  have hD1 := defers_behind ha hD_0
  have bb1 := bb_0.trans hC.below
  obtain ⟨cs, hg, hP⟩ := (show (kRes (w.heap.size) 18 ((a * b).num) (((a * b).den : Int))).sem _ _ _ _ from hall 5 (of_decide_eq_true (by kernel_rfl)))
  have e1 := slot_old (t := 2) ha (by kernel_rfl) e2_0
  repeat (first | refine wp_seq ?_ | (refine wp_skip ?_; refine then_n ?_))
  refine wp_ret ?_
  repeat (refine then_r ?_)
  exact ret_cellP (t := 2) rfl hD1 e1 hg hP fun v hv => ⟨v, rfl, hv, bb1⟩
set_option maxRecDepth 100000 in
set_option maxHeartbeats 8000000 in
theorem Add3_9 {w : World} {v2 : Value} {a b c : Rat} (hl : PL w v2 [(9, a.num, (a.den : Int)), (9, b.num, (b.den : Int)), (9, c.num, (c.den : Int))]) :
    Calls Tryz.prog 12 #[v2] w (TellsP w 39 (((a + b) + c).num) ((((a + b) + c).den : Int))) := by
  obtain ⟨g2, rfl, hg2, hl2⟩ := hl
  have HL := Lib.hid hl2
  clear hl2
  show Calls _ _ #[.slice (some ⟨g2, 0, none⟩) 3 3] _ _
  go_enter Tryz.func12, Tryz.ntmps12
  repeat (refine wp_seq ?_)
  refine region_k ?_
  intro K hK
  have HK := Lib.hid hK
  clear hK
  go_wp2
  refine HK.out _ _ ?_
  clear HK
  refine then_n ?_
  obtain ⟨W_0, hW⟩ : ∃ W, W = w.alloc (Obj.cells #[Value.bool false, Value.slice none 0 0, Value.bool false, Value.slice none 0 0] 27) := ⟨_, rfl⟩
  have bb_0 : Below w.heap.size w W_0 := by rw [hW]; exact bal (Below.refl _ _) _
  have K0 : W_0.heap[w.heap.size]? = some (Obj.cells #[Value.bool false, Value.slice none 0 0, Value.bool false, Value.slice none 0 0] 27) := by rw [hW]; exact new_at (by simp)
  rw [← hW]
  have R_0 : Holds_ W_0 (w.heap.size) #[Value.bool false, Value.slice none 0 0, Value.bool false, Value.slice none 0 0] := ⟨⟨_, K0⟩, by simp [noDig]⟩
  have LL_0 := HL.out.below bb_0
  clear hW K0
  refine name_frame (G := fun a => Code.wp _ _ _ a _) ?_
  intro a_0 ha
  have hN_0 : a_0.tmps.size = 7 := by subst ha; kernel_rfl
  have hD_0 : a_0.defers = [] := by subst ha; rfl
  have e0_0 : a_0.eval (.tmp 0) = .slice (some ⟨g2, 0, none⟩) 3 3 := by subst ha; kernel_rfl
  have e2_0 : a_0.eval (.tmp 2) = .pointer (some ⟨w.heap.size, 0, none⟩) := by subst ha; kernel_rfl
  clear ha
  repeat (first | refine wp_seq ?_ | (refine wp_skip ?_; refine then_n ?_))
  refine wp_region_res hN_0 w.heap.size (w.heap.size) R_0 (by omega)
    [kP 9 (0) (1), kIs (.slice (some ⟨g2, 0, none⟩) 3 3), kP 39 (((a + b) + c).num) ((((a + b) + c).den : Int)), kP 39 (((a + b) + c).num) ((((a + b) + c).den : Int)), kRes (w.heap.size) 39 (((a + b) + c).num) ((((a + b) + c).den : Int))]
    [ [], [], [(0, some 3), (1, some 4)], [(2, some 5)], [(3, some 6)] ]
    [(0, some 3), (1, some 4), (2, some 5), (3, some 6), (4, none)] [] [] (by kernel_rfl) (by kernel_rfl) (by kernel_rfl) (by kernel_rfl) (by kernel_rfl) (by kernel_rfl) (by kernel_rfl) bb_0.size ?_ ?_
  ·
    refine pk_cons rfl rfl (st_call0 [] hN_0 (by kernel_rfl) (by kernel_rfl) rfl rfl fun w x hC => tp none_9) ?_
    refine pk_cons rfl rfl (st_pure [] [(0, .slice (some ⟨g2, 0, none⟩) 3 3)] (.slice (some ⟨g2, 0, none⟩) 3 3) rfl hN_0 (by kernel_rfl) (by kernel_rfl) (by kernel_rfl) (old1 e0_0) (by kernel_rfl) (by kernel_rfl) (by kernel_rfl) (fun _ => by kernel_rfl)) ?_
    refine pk_cons rfl rfl (st_callM hN_0 (by kernel_rfl) (by kernel_rfl) (by kernel_rfl) (by kernel_rfl) (by kernel_rfl) rfl rfl rfl fun w x v1 v2 hC h1 h2 => tp (fold3_plus_9 (pe0 h1) (plc hC (by simp only [List.mem_singleton]; omega) LL_0 (by have := bb_0.size; omega) rfl h2))) ?_
    refine pk_cons rfl rfl (st_fieldF hN_0 (by kernel_rfl) (by kernel_rfl) rfl rfl) ?_
    refine pk_cons rfl rfl (st_resP R_0 rfl (by simp) e2_0 hN_0 (by kernel_rfl) (by kernel_rfl) rfl rfl) ?_
    exact pk_nil rfl
  intro W x hC hall
  refine then_n ?_
  obtain ⟨a1, ha⟩ : ∃ a, a = putE x a_0 [(0, some 3), (1, some 4), (2, some 5), (3, some 6), (4, none)] := ⟨_, rfl⟩
  rw [← ha]
  have hD1 := defers_behind ha hD_0
  have bb1 := bb_0.trans hC.below
  obtain ⟨cs, hg, hP⟩ := (show (kRes (w.heap.size) 39 (((a + b) + c).num) ((((a + b) + c).den : Int))).sem _ _ _ _ from hall 4 (of_decide_eq_true (by kernel_rfl)))
  have e1 := slot_old (t := 2) ha (by kernel_rfl) e2_0
  repeat (first | refine wp_seq ?_ | (refine wp_skip ?_; refine then_n ?_))
  refine wp_ret ?_
  repeat (refine then_r ?_)
  exact ret_cellP (t := 2) rfl hD1 e1 hg hP fun v hv => ⟨v, rfl, hv, bb1⟩
set_option maxRecDepth 100000 in
set_option maxHeartbeats 8000000 in
theorem Mul3_9 {w : World} {v2 : Value} {a b c : Rat} (hl : PL w v2 [(9, a.num, (a.den : Int)), (9, b.num, (b.den : Int)), (9, c.num, (c.den : Int))]) :
    Calls Tryz.prog 13 #[v2] w (TellsP w 38 (((a * b) * c).num) ((((a * b) * c).den : Int))) := by
  obtain ⟨g2, rfl, hg2, hl2⟩ := hl
  have HL := Lib.hid hl2
  clear hl2
  show Calls _ _ #[.slice (some ⟨g2, 0, none⟩) 3 3] _ _
  go_enter Tryz.func13, Tryz.ntmps13
  repeat (refine wp_seq ?_)
  refine region_k ?_
  intro K hK
  have HK := Lib.hid hK
  clear hK
  go_wp2
  refine HK.out _ _ ?_
  clear HK
  refine then_n ?_
  obtain ⟨W_0, hW⟩ : ∃ W, W = w.alloc (Obj.cells #[Value.bool false, Value.slice none 0 0, Value.bool false, Value.slice none 0 0] 27) := ⟨_, rfl⟩
  have bb_0 : Below w.heap.size w W_0 := by rw [hW]; exact bal (Below.refl _ _) _
  have K0 : W_0.heap[w.heap.size]? = some (Obj.cells #[Value.bool false, Value.slice none 0 0, Value.bool false, Value.slice none 0 0] 27) := by rw [hW]; exact new_at (by simp)
  rw [← hW]
  have R_0 : Holds_ W_0 (w.heap.size) #[Value.bool false, Value.slice none 0 0, Value.bool false, Value.slice none 0 0] := ⟨⟨_, K0⟩, by simp [noDig]⟩
  have LL_0 := HL.out.below bb_0
  clear hW K0
  refine name_frame (G := fun a => Code.wp _ _ _ a _) ?_
  intro a_0 ha
  have hN_0 : a_0.tmps.size = 8 := by subst ha; kernel_rfl
  have hD_0 : a_0.defers = [] := by subst ha; rfl
  have e0_0 : a_0.eval (.tmp 0) = .slice (some ⟨g2, 0, none⟩) 3 3 := by subst ha; kernel_rfl
  have e2_0 : a_0.eval (.tmp 2) = .pointer (some ⟨w.heap.size, 0, none⟩) := by subst ha; kernel_rfl
  clear ha
  repeat (first | refine wp_seq ?_ | (refine wp_skip ?_; refine then_n ?_))
  refine wp_region_res hN_0 w.heap.size (w.heap.size) R_0 (by omega)
    [kZ 1 ((1 : Int)), kP 9 ((1 : Int)) (1), kIs (.slice (some ⟨g2, 0, none⟩) 3 3), kP 38 (((a * b) * c).num) ((((a * b) * c).den : Int)), kP 38 (((a * b) * c).num) ((((a * b) * c).den : Int)), kRes (w.heap.size) 38 (((a * b) * c).num) ((((a * b) * c).den : Int))]
    [ [], [(0, some 3)], [], [(1, some 4), (2, some 5)], [(3, some 6)], [(4, some 7)] ]
    [(0, some 3), (1, some 4), (2, some 5), (3, some 6), (4, some 7), (5, none)] [] [] (by kernel_rfl) (by kernel_rfl) (by kernel_rfl) (by kernel_rfl) (by kernel_rfl) (by kernel_rfl) (by kernel_rfl) bb_0.size ?_ ?_
  ·
    refine pk_cons rfl rfl (st_call0 [.int .i64 (1)] hN_0 (by kernel_rfl) (by kernel_rfl) rfl rfl fun w x hC => tz (z_of (1) 1 (by decide) (by decide) (by decide))) ?_
    refine pk_cons rfl rfl (st_call1 hN_0 (by kernel_rfl) (by kernel_rfl) (by kernel_rfl) rfl rfl fun w x v1 hC h1 => tp (whole_9 ((rr h1).mono (by decide)))) ?_
    refine pk_cons rfl rfl (st_pure [] [(0, .slice (some ⟨g2, 0, none⟩) 3 3)] (.slice (some ⟨g2, 0, none⟩) 3 3) rfl hN_0 (by kernel_rfl) (by kernel_rfl) (by kernel_rfl) (old1 e0_0) (by kernel_rfl) (by kernel_rfl) (by kernel_rfl) (fun _ => by kernel_rfl)) ?_
    refine pk_cons rfl rfl (st_callM hN_0 (by kernel_rfl) (by kernel_rfl) (by kernel_rfl) (by kernel_rfl) (by kernel_rfl) rfl rfl rfl fun w x v1 v2 hC h1 h2 => tp (fold3_times_9 (pe1 h1) (plc hC (by simp only [List.mem_singleton]; omega) LL_0 (by have := bb_0.size; omega) rfl h2))) ?_
    refine pk_cons rfl rfl (st_fieldF hN_0 (by kernel_rfl) (by kernel_rfl) rfl rfl) ?_
    refine pk_cons rfl rfl (st_resP R_0 rfl (by simp) e2_0 hN_0 (by kernel_rfl) (by kernel_rfl) rfl rfl) ?_
    exact pk_nil rfl
  intro W x hC hall
  refine then_n ?_
  obtain ⟨a1, ha⟩ : ∃ a, a = putE x a_0 [(0, some 3), (1, some 4), (2, some 5), (3, some 6), (4, some 7), (5, none)] := ⟨_, rfl⟩
  rw [← ha]
  have hD1 := defers_behind ha hD_0
  have bb1 := bb_0.trans hC.below
  obtain ⟨cs, hg, hP⟩ := (show (kRes (w.heap.size) 38 (((a * b) * c).num) ((((a * b) * c).den : Int))).sem _ _ _ _ from hall 5 (of_decide_eq_true (by kernel_rfl)))
  have e1 := slot_old (t := 2) ha (by kernel_rfl) e2_0
  repeat (first | refine wp_seq ?_ | (refine wp_skip ?_; refine then_n ?_))
  refine wp_ret ?_
  repeat (refine then_r ?_)
  exact ret_cellP (t := 2) rfl hD1 e1 hg hP fun v hv => ⟨v, rfl, hv, bb1⟩
set_option maxRecDepth 100000 in
set_option maxHeartbeats 8000000 in
theorem Add2_19 {w : World} {v2 : Value} {a b : Rat} (hl : PL w v2 [(19, a.num, (a.den : Int)), (19, b.num, (b.den : Int))]) :
    Calls Tryz.prog 12 #[v2] w (TellsP w 39 ((a + b).num) (((a + b).den : Int))) := by
  obtain ⟨g2, rfl, hg2, hl2⟩ := hl
  have HL := Lib.hid hl2
  clear hl2
  show Calls _ _ #[.slice (some ⟨g2, 0, none⟩) 2 2] _ _
  go_enter Tryz.func12, Tryz.ntmps12
  repeat (refine wp_seq ?_)
  refine region_k ?_
  intro K hK
  have HK := Lib.hid hK
  clear hK
  go_wp2
  refine HK.out _ _ ?_
  clear HK
  refine then_n ?_
  obtain ⟨W_0, hW⟩ : ∃ W, W = w.alloc (Obj.cells #[Value.bool false, Value.slice none 0 0, Value.bool false, Value.slice none 0 0] 27) := ⟨_, rfl⟩
  have bb_0 : Below w.heap.size w W_0 := by rw [hW]; exact bal (Below.refl _ _) _
  have K0 : W_0.heap[w.heap.size]? = some (Obj.cells #[Value.bool false, Value.slice none 0 0, Value.bool false, Value.slice none 0 0] 27) := by rw [hW]; exact new_at (by simp)
  rw [← hW]
  have R_0 : Holds_ W_0 (w.heap.size) #[Value.bool false, Value.slice none 0 0, Value.bool false, Value.slice none 0 0] := ⟨⟨_, K0⟩, by simp [noDig]⟩
  have LL_0 := HL.out.below bb_0
  clear hW K0
  refine name_frame (G := fun a => Code.wp _ _ _ a _) ?_
  intro a_0 ha
  have hN_0 : a_0.tmps.size = 7 := by subst ha; kernel_rfl
  have hD_0 : a_0.defers = [] := by subst ha; rfl
  have e0_0 : a_0.eval (.tmp 0) = .slice (some ⟨g2, 0, none⟩) 2 2 := by subst ha; kernel_rfl
  have e2_0 : a_0.eval (.tmp 2) = .pointer (some ⟨w.heap.size, 0, none⟩) := by subst ha; kernel_rfl
  clear ha
  repeat (first | refine wp_seq ?_ | (refine wp_skip ?_; refine then_n ?_))
  refine wp_region_res hN_0 w.heap.size (w.heap.size) R_0 (by omega)
    [kP 9 (0) (1), kIs (.slice (some ⟨g2, 0, none⟩) 2 2), kP 39 ((a + b).num) (((a + b).den : Int)), kP 39 ((a + b).num) (((a + b).den : Int)), kRes (w.heap.size) 39 ((a + b).num) (((a + b).den : Int))]
    [ [], [], [(0, some 3), (1, some 4)], [(2, some 5)], [(3, some 6)] ]
    [(0, some 3), (1, some 4), (2, some 5), (3, some 6), (4, none)] [] [] (by kernel_rfl) (by kernel_rfl) (by kernel_rfl) (by kernel_rfl) (by kernel_rfl) (by kernel_rfl) (by kernel_rfl) bb_0.size ?_ ?_
  ·
    refine pk_cons rfl rfl (st_call0 [] hN_0 (by kernel_rfl) (by kernel_rfl) rfl rfl fun w x hC => tp none_9) ?_
    refine pk_cons rfl rfl (st_pure [] [(0, .slice (some ⟨g2, 0, none⟩) 2 2)] (.slice (some ⟨g2, 0, none⟩) 2 2) rfl hN_0 (by kernel_rfl) (by kernel_rfl) (by kernel_rfl) (old1 e0_0) (by kernel_rfl) (by kernel_rfl) (by kernel_rfl) (fun _ => by kernel_rfl)) ?_
    refine pk_cons rfl rfl (st_callM hN_0 (by kernel_rfl) (by kernel_rfl) (by kernel_rfl) (by kernel_rfl) (by kernel_rfl) rfl rfl rfl fun w x v1 v2 hC h1 h2 => tp (fold2_plus_19 (pe0 h1) (plc hC (by simp only [List.mem_singleton]; omega) LL_0 (by have := bb_0.size; omega) rfl h2))) ?_
    refine pk_cons rfl rfl (st_fieldF hN_0 (by kernel_rfl) (by kernel_rfl) rfl rfl) ?_
    refine pk_cons rfl rfl (st_resP R_0 rfl (by simp) e2_0 hN_0 (by kernel_rfl) (by kernel_rfl) rfl rfl) ?_
    exact pk_nil rfl
  intro W x hC hall
  refine then_n ?_
  obtain ⟨a1, ha⟩ : ∃ a, a = putE x a_0 [(0, some 3), (1, some 4), (2, some 5), (3, some 6), (4, none)] := ⟨_, rfl⟩
  rw [← ha]
  have hD1 := defers_behind ha hD_0
  have bb1 := bb_0.trans hC.below
  obtain ⟨cs, hg, hP⟩ := (show (kRes (w.heap.size) 39 ((a + b).num) (((a + b).den : Int))).sem _ _ _ _ from hall 4 (of_decide_eq_true (by kernel_rfl)))
  have e1 := slot_old (t := 2) ha (by kernel_rfl) e2_0
  repeat (first | refine wp_seq ?_ | (refine wp_skip ?_; refine then_n ?_))
  refine wp_ret ?_
  repeat (refine then_r ?_)
  exact ret_cellP (t := 2) rfl hD1 e1 hg hP fun v hv => ⟨v, rfl, hv, bb1⟩
set_option maxRecDepth 100000 in
set_option maxHeartbeats 8000000 in
theorem Mul2_19 {w : World} {v2 : Value} {a b : Rat} (hl : PL w v2 [(19, a.num, (a.den : Int)), (19, b.num, (b.den : Int))]) :
    Calls Tryz.prog 13 #[v2] w (TellsP w 38 ((a * b).num) (((a * b).den : Int))) := by
  obtain ⟨g2, rfl, hg2, hl2⟩ := hl
  have HL := Lib.hid hl2
  clear hl2
  show Calls _ _ #[.slice (some ⟨g2, 0, none⟩) 2 2] _ _
  go_enter Tryz.func13, Tryz.ntmps13
  repeat (refine wp_seq ?_)
  refine region_k ?_
  intro K hK
  have HK := Lib.hid hK
  clear hK
  go_wp2
  refine HK.out _ _ ?_
  clear HK
  refine then_n ?_
  obtain ⟨W_0, hW⟩ : ∃ W, W = w.alloc (Obj.cells #[Value.bool false, Value.slice none 0 0, Value.bool false, Value.slice none 0 0] 27) := ⟨_, rfl⟩
  have bb_0 : Below w.heap.size w W_0 := by rw [hW]; exact bal (Below.refl _ _) _
  have K0 : W_0.heap[w.heap.size]? = some (Obj.cells #[Value.bool false, Value.slice none 0 0, Value.bool false, Value.slice none 0 0] 27) := by rw [hW]; exact new_at (by simp)
  rw [← hW]
  have R_0 : Holds_ W_0 (w.heap.size) #[Value.bool false, Value.slice none 0 0, Value.bool false, Value.slice none 0 0] := ⟨⟨_, K0⟩, by simp [noDig]⟩
  have LL_0 := HL.out.below bb_0
  clear hW K0
  refine name_frame (G := fun a => Code.wp _ _ _ a _) ?_
  intro a_0 ha
  have hN_0 : a_0.tmps.size = 8 := by subst ha; kernel_rfl
  have hD_0 : a_0.defers = [] := by subst ha; rfl
  have e0_0 : a_0.eval (.tmp 0) = .slice (some ⟨g2, 0, none⟩) 2 2 := by subst ha; kernel_rfl
  have e2_0 : a_0.eval (.tmp 2) = .pointer (some ⟨w.heap.size, 0, none⟩) := by subst ha; kernel_rfl
  clear ha
  repeat (first | refine wp_seq ?_ | (refine wp_skip ?_; refine then_n ?_))
  refine wp_region_res hN_0 w.heap.size (w.heap.size) R_0 (by omega)
    [kZ 1 ((1 : Int)), kP 9 ((1 : Int)) (1), kIs (.slice (some ⟨g2, 0, none⟩) 2 2), kP 38 ((a * b).num) (((a * b).den : Int)), kP 38 ((a * b).num) (((a * b).den : Int)), kRes (w.heap.size) 38 ((a * b).num) (((a * b).den : Int))]
    [ [], [(0, some 3)], [], [(1, some 4), (2, some 5)], [(3, some 6)], [(4, some 7)] ]
    [(0, some 3), (1, some 4), (2, some 5), (3, some 6), (4, some 7), (5, none)] [] [] (by kernel_rfl) (by kernel_rfl) (by kernel_rfl) (by kernel_rfl) (by kernel_rfl) (by kernel_rfl) (by kernel_rfl) bb_0.size ?_ ?_
  ·
    refine pk_cons rfl rfl (st_call0 [.int .i64 (1)] hN_0 (by kernel_rfl) (by kernel_rfl) rfl rfl fun w x hC => tz (z_of (1) 1 (by decide) (by decide) (by decide))) ?_
    refine pk_cons rfl rfl (st_call1 hN_0 (by kernel_rfl) (by kernel_rfl) (by kernel_rfl) rfl rfl fun w x v1 hC h1 => tp (whole_9 ((rr h1).mono (by decide)))) ?_
    refine pk_cons rfl rfl (st_pure [] [(0, .slice (some ⟨g2, 0, none⟩) 2 2)] (.slice (some ⟨g2, 0, none⟩) 2 2) rfl hN_0 (by kernel_rfl) (by kernel_rfl) (by kernel_rfl) (old1 e0_0) (by kernel_rfl) (by kernel_rfl) (by kernel_rfl) (fun _ => by kernel_rfl)) ?_
    refine pk_cons rfl rfl (st_callM hN_0 (by kernel_rfl) (by kernel_rfl) (by kernel_rfl) (by kernel_rfl) (by kernel_rfl) rfl rfl rfl fun w x v1 v2 hC h1 h2 => tp (fold2_times_19 (pe1 h1) (plc hC (by simp only [List.mem_singleton]; omega) LL_0 (by have := bb_0.size; omega) rfl h2))) ?_
    refine pk_cons rfl rfl (st_fieldF hN_0 (by kernel_rfl) (by kernel_rfl) rfl rfl) ?_
    refine pk_cons rfl rfl (st_resP R_0 rfl (by simp) e2_0 hN_0 (by kernel_rfl) (by kernel_rfl) rfl rfl) ?_
    exact pk_nil rfl
  intro W x hC hall
  refine then_n ?_
  obtain ⟨a1, ha⟩ : ∃ a, a = putE x a_0 [(0, some 3), (1, some 4), (2, some 5), (3, some 6), (4, some 7), (5, none)] := ⟨_, rfl⟩
  rw [← ha]
  have hD1 := defers_behind ha hD_0
  have bb1 := bb_0.trans hC.below
  obtain ⟨cs, hg, hP⟩ := (show (kRes (w.heap.size) 38 ((a * b).num) (((a * b).den : Int))).sem _ _ _ _ from hall 5 (of_decide_eq_true (by kernel_rfl)))
  have e1 := slot_old (t := 2) ha (by kernel_rfl) e2_0
  repeat (first | refine wp_seq ?_ | (refine wp_skip ?_; refine then_n ?_))
  refine wp_ret ?_
  repeat (refine then_r ?_)
  exact ret_cellP (t := 2) rfl hD1 e1 hg hP fun v hv => ⟨v, rfl, hv, bb1⟩
end Go.Proofs.YthgclmkhmcfflaaGreatDoor

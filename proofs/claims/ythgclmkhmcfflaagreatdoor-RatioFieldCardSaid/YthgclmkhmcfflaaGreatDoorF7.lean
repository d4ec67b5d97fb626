/- Contracts over two right numbers that are no right ratio: Right, of, Text; SameRatio, the law's same, of two that differ; Div by 0. Right of any ratio that came in, of at most 8 digits a number: either its parts are a broken number's, or the call answers false. Whether ratios are few. No condition. The text of a broken number; where strings.Cut cuts it; two texts are one only of one number. No condition. Contract of ratio.Parse: by where strings.Cut cuts the text, what num.Parse tells of the parts, and whether the text of what they make is that one again. Condition: the library's cell internal/bytealg.MaxLen holds some int. Steps and contracts for the laws of package ratio: ratios that came in, lists of ratios of several sizes, pairs of a ratio and an error's number or a truth; texts and Parse of a right ratio; two ratios that differ. Condition (Parse): the library's cell internal/bytealg.MaxLen holds some int. -/
import Derived.Test.YthgclmkhmcfflaaGreatDoorF1
import Derived.Test.YthgclmkhmcfflaaGreatDoorF2
import Derived.Test.YthgclmkhmcfflaaGreatDoorF3
import Derived.Test.YthgclmkhmcfflaaGreatDoorF4
import Derived.Test.YthgclmkhmcfflaaGreatDoorF5
import Derived.Test.YthgclmkhmcfflaaGreatDoorF6
namespace Go.Proofs.YthgclmkhmcfflaaGreatDoor
open Go.RowKit
theorem isNone_zero {w : World} {v : Value} {k : Nat} {z : Int} (h : Zr w v k z) (hz : z = 0) : Calls Tryz.prog 34 #[v] w fun e w' => e = .returned (.bool true) ∧ Below w.heap.size w w' := by
  obtain ⟨A, l, c, rfl, h1, _⟩ := h
  have hk := (rr_len h1).1
  have hl : l = 0 := hk.2 (by omega)
  subst hl
  obtain ⟨s, hs⟩ : ∃ s, s = decide (z < 0) := ⟨_, rfl⟩
  rw [← hs]
  clear hs hk h1 hz
  go_enter Tryz.func34, Tryz.ntmps34
  go_wp2
  go_ret
  exact ⟨rfl, bal (Below.refl _ _) _⟩
theorem gcd_pos_of {x y : Int} (h : 0 < y) : 0 < ((zgcd [(x), (y)] : Nat) : Int) := by
  rw [zgcd_eq]
  have : 0 < Int.gcd y x := Nat.gcd_pos_of_pos_left _ (by omega)
  omega
set_option maxRecDepth 100000 in
set_option maxHeartbeats 4000000 in
theorem right_none_9 {w : World} {v1 : Value} {zx zy : Int} (hz : zy = 0) (h1 : Pr w v1 9 (zx) (zy)) :
    Calls Tryz.prog 11 #[v1] w (fun e w' => e = .returned (.bool false) ∧ Below w.heap.size w w') := by
  obtain ⟨A1, l1, c1, A1', l1', c1', rfl, ⟨r1, u1⟩, r1', u1'⟩ := h1
  obtain ⟨b1, hb1⟩ : ∃ s, s = decide (zx < 0) := ⟨_, rfl⟩
  obtain ⟨b1', hb1'⟩ : ∃ s, s = decide (zy < 0) := ⟨_, rfl⟩
  rw [← hb1, ← hb1']
  have H1 := Lib.hid (show _ ∧ _ ∧ _ ∧ _ ∧ _ ∧ _ from ⟨hb1, hb1', r1, u1, r1', u1'⟩)
  clear hb1 hb1' r1 u1 r1' u1'
  go_enter Tryz.func11, Tryz.ntmps11
  repeat (refine wp_seq ?_)
  refine region_k ?_
  intro K hK
  have HK := Lib.hid hK
  clear hK
  go_wp2
  refine HK.out _ _ ?_
  clear HK
  refine then_n ?_
  obtain ⟨W_0, hW⟩ : ∃ W, W = w.alloc (Obj.cells #[Value.bool b1, Value.slice A1 l1 c1, Value.bool b1', Value.slice A1' l1' c1'] 27) := ⟨_, rfl⟩
  have bb_0 : Below w.heap.size w W_0 := by rw [hW]; exact bal (Below.refl _ _) _
  have K0 : W_0.heap[w.heap.size]? = some (Obj.cells #[Value.bool b1, Value.slice A1 l1 c1, Value.bool b1', Value.slice A1' l1' c1'] 27) := by rw [hW]; exact new_at (by simp)
  rw [← hW]
  obtain ⟨m1, n1, m1', n1', _, _, _, _⟩ := four_cells K0
  have f1_0 : AtR W_0 (w.heap.size) 0 9 (zx) := ⟨A1, l1, c1, by rw [← H1.out.1]; exact m1, n1, A1, l1, c1, rfl, H1.out.2.2.1.below bb_0, H1.out.2.2.2.1⟩
  have f1'_0 : AtR W_0 (w.heap.size) 2 9 (zy) := ⟨A1', l1', c1', by rw [← H1.out.2.1]; exact m1', n1', A1', l1', c1', rfl, H1.out.2.2.2.2.1.below bb_0, H1.out.2.2.2.2.2⟩
  clear m1 n1 m1' n1'
  clear hW K0
  refine name_frame (G := fun a => Code.wp _ _ _ a _) ?_
  intro a_0 ha
  have hN_0 : a_0.tmps.size = 32 := by subst ha; kernel_rfl
  have hD_0 : a_0.defers = [] := by subst ha; rfl
  have e1_0 : a_0.eval (.tmp 1) = .pointer (some ⟨w.heap.size, 0, none⟩) := by subst ha; kernel_rfl
  clear ha
  repeat (first | refine wp_seq ?_ | (refine wp_skip ?_; refine then_n ?_))
  refine wp_region_law hN_0 w.heap.size
    [kIs (.pointer (some ⟨w.heap.size, 0, none⟩)), kZ 9 (zx), kIs (.bool true), kIs (.bool false), kIs (.bool false), kIs (.pointer (some ⟨w.heap.size, 2, none⟩)), kZ 9 (zy), kIs (.bool true), kIs (.bool false), kIs (.bool false)]
    [ [], [(0, some 3)], [(1, some 4)], [(2, some 5)], [(3, some 6)], [], [(5, some 8)], [(6, some 9)], [(7, some 10)], [(4, some 7), (8, some 11)] ]
    [(0, some 3), (1, some 4), (2, some 5), (3, some 6), (4, some 7), (5, some 8), (6, some 9), (7, some 10), (8, some 11), (9, some 12)] [(4, false)] [] (by kernel_rfl) (by kernel_rfl) (by kernel_rfl) (by kernel_rfl) (by kernel_rfl) (by kernel_rfl) (by kernel_rfl) bb_0.size ?_ ?_
  ·
    refine pk_cons rfl rfl (st_pure [] [(1, .pointer (some ⟨w.heap.size, 0, none⟩))] (.pointer (some ⟨w.heap.size, 0, none⟩)) rfl hN_0 (by kernel_rfl) (by kernel_rfl) (by kernel_rfl) (old1 e1_0) (by kernel_rfl) (by kernel_rfl) (by kernel_rfl) (fun _ => by kernel_rfl)) ?_
    refine pk_cons rfl rfl (st_loadA f1_0 (by simp) hN_0 (by kernel_rfl) (by kernel_rfl) rfl rfl) ?_
    refine pk_cons rfl rfl (st_call1 hN_0 (by kernel_rfl) (by kernel_rfl) (by kernel_rfl) rfl rfl fun w x v1 hC h1 => ti (z_right (rr h1))) ?_
    refine pk_cons rfl rfl (st_pure [.bool true] [] (.bool false) rfl hN_0 (by kernel_rfl) (by kernel_rfl) (by kernel_rfl) old0 (by kernel_rfl) (by kernel_rfl) (by kernel_rfl) (fun _ => by kernel_rfl)) ?_
    refine pk_cons rfl rfl (st_pure [.bool false] [] (.bool false) rfl hN_0 (by kernel_rfl) (by kernel_rfl) (by kernel_rfl) old0 (by kernel_rfl) (by kernel_rfl) (by kernel_rfl) (fun _ => by kernel_rfl)) ?_
    refine pk_cons rfl rfl (st_pure [] [(1, .pointer (some ⟨w.heap.size, 0, none⟩))] (.pointer (some ⟨w.heap.size, 2, none⟩)) rfl hN_0 (by kernel_rfl) (by kernel_rfl) (by kernel_rfl) (old1 e1_0) (by kernel_rfl) (by kernel_rfl) (by kernel_rfl) (fun _ => by kernel_rfl)) ?_
    refine pk_cons rfl rfl (st_loadA f1'_0 (by simp) hN_0 (by kernel_rfl) (by kernel_rfl) rfl rfl) ?_
    refine pk_cons rfl rfl (st_call1 hN_0 (by kernel_rfl) (by kernel_rfl) (by kernel_rfl) rfl rfl fun w x v1 hC h1 => ti (z_right (rr h1))) ?_
    refine pk_cons rfl rfl (st_pure [.bool true] [] (.bool false) rfl hN_0 (by kernel_rfl) (by kernel_rfl) (by kernel_rfl) old0 (by kernel_rfl) (by kernel_rfl) (by kernel_rfl) (fun _ => by kernel_rfl)) ?_
    refine pk_cons rfl rfl (st_pure [.bool false, .bool false] [] (.bool false) rfl hN_0 (by kernel_rfl) (by kernel_rfl) (by kernel_rfl) old0 (by kernel_rfl) (by kernel_rfl) (by kernel_rfl) (fun _ => by kernel_rfl)) ?_
    exact pk_nil rfl
  intro W_1 x hC hall
  refine then_n ?_
  obtain ⟨a_1, ha⟩ : ∃ a, a = putE x a_0 [(0, some 3), (1, some 4), (2, some 5), (3, some 6), (4, some 7), (5, some 8), (6, some 9), (7, some 10), (8, some 11), (9, some 12)] := ⟨_, rfl⟩
  rw [← ha]
  have hN_1 := size_behind ha hN_0
  have hD_1 := defers_behind ha hD_0
  have bb_1 := bb_0.trans hC.below
  have e1_1 := slot_old ha (by kernel_rfl) e1_0
  have f1_1 := hC.at0 f1_0
  have f1'_1 := hC.at0 f1'_0
  have e12_1 := (slot_new (t := 12) (i := 9) ha hN_0 (by kernel_rfl) (by kernel_rfl)).trans (show x 9 = .bool false from hall 9 (of_decide_eq_true (by kernel_rfl)))
  clear hall hC ha bb_0 hD_0 e1_0 f1_0 f1'_0
  repeat (first | refine wp_seq ?_ | (refine wp_skip ?_; refine then_n ?_))
  refine wp_cond_false e12_1 ?_
  repeat (first | refine wp_seq ?_ | (refine wp_skip ?_; refine then_n ?_))
  refine wp_region_law hN_1 w.heap.size
    [kIs (.pointer (some ⟨w.heap.size, 2, none⟩)), kZ 9 (zy), kIs (.bool true), kIs (.bool false), kIs (.bool false), kIs undef, kIs undef, kIs undef, kIs undef, kIs (.bool false), kIs (.bool false), kIs undef, kIs undef, kIs undef, kIs undef, kIs undef, kIs undef, kIs undef, kIs (.bool false), kIs (.bool false)]
    [ [], [(0, some 13)], [(1, some 14)], [(2, some 15)], [(3, some 16)], [], [(5, some 18)], [(6, some 19)], [(7, some 20)], [(4, some 17), (8, some 21)], [(9, some 22)], [], [(11, some 24)], [], [(13, some 26)], [(12, some 25), (14, some 27)], [(15, some 28)], [(16, some 29)], [(10, some 23), (17, some 30)], [(18, some 31)] ]
    [(0, some 13), (1, some 14), (2, some 15), (3, some 16), (4, some 17), (5, some 18), (6, some 19), (7, some 20), (8, some 21), (9, some 22), (10, some 23), (11, some 24), (12, some 25), (13, some 26), (14, some 27), (15, some 28), (16, some 29), (17, some 30), (18, some 31), (19, some 2)] [(4, false), (10, false)] [5, 6, 7, 8, 11, 12, 13, 14, 15, 16, 17] (by kernel_rfl) (by kernel_rfl) (by kernel_rfl) (by kernel_rfl) (by kernel_rfl) (by kernel_rfl) (by kernel_rfl) bb_1.size ?_ ?_
  ·
    refine pk_cons rfl rfl (st_pure [] [(1, .pointer (some ⟨w.heap.size, 0, none⟩))] (.pointer (some ⟨w.heap.size, 2, none⟩)) rfl hN_1 (by kernel_rfl) (by kernel_rfl) (by kernel_rfl) (old1 e1_1) (by kernel_rfl) (by kernel_rfl) (by kernel_rfl) (fun _ => by kernel_rfl)) ?_
    refine pk_cons rfl rfl (st_loadA f1'_1 (by simp) hN_1 (by kernel_rfl) (by kernel_rfl) rfl rfl) ?_
    refine pk_cons rfl rfl (st_call1 hN_1 (by kernel_rfl) (by kernel_rfl) (by kernel_rfl) rfl rfl fun w x v1 hC h1 => ti (isNone_zero (rr h1) hz)) ?_
    refine pk_cons rfl rfl (st_pure [.bool true] [] (.bool false) rfl hN_1 (by kernel_rfl) (by kernel_rfl) (by kernel_rfl) old0 (by kernel_rfl) (by kernel_rfl) (by kernel_rfl) (fun _ => by kernel_rfl)) ?_
    refine pk_cons rfl rfl (st_pure [.bool false] [] (.bool false) rfl hN_1 (by kernel_rfl) (by kernel_rfl) (by kernel_rfl) old0 (by kernel_rfl) (by kernel_rfl) (by kernel_rfl) (fun _ => by kernel_rfl)) ?_
    refine pk_skip rfl ?_
    refine pk_skip rfl ?_
    refine pk_skip rfl ?_
    refine pk_skip rfl ?_
    refine pk_cons rfl rfl (st_pure [.bool false, undef] [] (.bool false) rfl hN_1 (by kernel_rfl) (by kernel_rfl) (by kernel_rfl) old0 (by kernel_rfl) (by kernel_rfl) (by kernel_rfl) (fun _ => by kernel_rfl)) ?_
    refine pk_cons rfl rfl (st_pure [.bool false] [] (.bool false) rfl hN_1 (by kernel_rfl) (by kernel_rfl) (by kernel_rfl) old0 (by kernel_rfl) (by kernel_rfl) (by kernel_rfl) (fun _ => by kernel_rfl)) ?_
    refine pk_skip rfl ?_
    refine pk_skip rfl ?_
    refine pk_skip rfl ?_
    refine pk_skip rfl ?_
    refine pk_skip rfl ?_
    refine pk_skip rfl ?_
    refine pk_skip rfl ?_
    refine pk_cons rfl rfl (st_pure [.bool false, undef] [] (.bool false) rfl hN_1 (by kernel_rfl) (by kernel_rfl) (by kernel_rfl) old0 (by kernel_rfl) (by kernel_rfl) (by kernel_rfl) (fun _ => by kernel_rfl)) ?_
    refine pk_cons rfl rfl (st_pure [.bool false] [] (.bool false) rfl hN_1 (by kernel_rfl) (by kernel_rfl) (by kernel_rfl) old0 (by kernel_rfl) (by kernel_rfl) (by kernel_rfl) (fun _ => by kernel_rfl)) ?_
    exact pk_nil rfl
  intro W x hC hall
  refine then_n ?_
  obtain ⟨a1, ha⟩ : ∃ a, a = putE x a_1 [(0, some 13), (1, some 14), (2, some 15), (3, some 16), (4, some 17), (5, some 18), (6, some 19), (7, some 20), (8, some 21), (9, some 22), (10, some 23), (11, some 24), (12, some 25), (13, some 26), (14, some 27), (15, some 28), (16, some 29), (17, some 30), (18, some 31), (19, some 2)] := ⟨_, rfl⟩
  rw [← ha]
  have hD1 := defers_behind ha hD_1
  have bb1 := bb_1.trans hC.below
  have e1 := (slot_new (t := 2) (i := 19) ha hN_1 (by kernel_rfl) (by kernel_rfl)).trans (show x 19 = .bool false from hall 19 (of_decide_eq_true (by kernel_rfl)))
  repeat (first | refine wp_seq ?_ | (refine wp_skip ?_; refine then_n ?_))
  refine wp_ret ?_
  repeat (refine then_r ?_)
  exact ret_one (t := 2) rfl hD1 e1 ⟨rfl, bb1⟩
set_option maxRecDepth 100000 in
set_option maxHeartbeats 4000000 in
theorem right_neg_9 {w : World} {v1 : Value} {zx zy : Int} (hz : zy ≠ 0) (hs : decide (zy < 0) = true) (h1 : Pr w v1 9 (zx) (zy)) :
    Calls Tryz.prog 11 #[v1] w (fun e w' => e = .returned (.bool false) ∧ Below w.heap.size w w') := by
  obtain ⟨A1, l1, c1, A1', l1', c1', rfl, ⟨r1, u1⟩, r1', u1'⟩ := h1
  obtain ⟨b1, hb1⟩ : ∃ s, s = decide (zx < 0) := ⟨_, rfl⟩
  obtain ⟨b1', hb1'⟩ : ∃ s, s = decide (zy < 0) := ⟨_, rfl⟩
  rw [← hb1, ← hb1']
  have H1 := Lib.hid (show _ ∧ _ ∧ _ ∧ _ ∧ _ ∧ _ from ⟨hb1, hb1', r1, u1, r1', u1'⟩)
  clear hb1 hb1' r1 u1 r1' u1'
  go_enter Tryz.func11, Tryz.ntmps11
  repeat (refine wp_seq ?_)
  refine region_k ?_
  intro K hK
  have HK := Lib.hid hK
  clear hK
  go_wp2
  refine HK.out _ _ ?_
  clear HK
  refine then_n ?_
  obtain ⟨W_0, hW⟩ : ∃ W, W = w.alloc (Obj.cells #[Value.bool b1, Value.slice A1 l1 c1, Value.bool b1', Value.slice A1' l1' c1'] 27) := ⟨_, rfl⟩
  have bb_0 : Below w.heap.size w W_0 := by rw [hW]; exact bal (Below.refl _ _) _
  have K0 : W_0.heap[w.heap.size]? = some (Obj.cells #[Value.bool b1, Value.slice A1 l1 c1, Value.bool b1', Value.slice A1' l1' c1'] 27) := by rw [hW]; exact new_at (by simp)
  rw [← hW]
  obtain ⟨m1, n1, m1', n1', _, _, _, _⟩ := four_cells K0
  have f1_0 : AtR W_0 (w.heap.size) 0 9 (zx) := ⟨A1, l1, c1, by rw [← H1.out.1]; exact m1, n1, A1, l1, c1, rfl, H1.out.2.2.1.below bb_0, H1.out.2.2.2.1⟩
  have f1'_0 : AtR W_0 (w.heap.size) 2 9 (zy) := ⟨A1', l1', c1', by rw [← H1.out.2.1]; exact m1', n1', A1', l1', c1', rfl, H1.out.2.2.2.2.1.below bb_0, H1.out.2.2.2.2.2⟩
  clear m1 n1 m1' n1'
  clear hW K0
  refine name_frame (G := fun a => Code.wp _ _ _ a _) ?_
  intro a_0 ha
  have hN_0 : a_0.tmps.size = 32 := by subst ha; kernel_rfl
  have hD_0 : a_0.defers = [] := by subst ha; rfl
  have e1_0 : a_0.eval (.tmp 1) = .pointer (some ⟨w.heap.size, 0, none⟩) := by subst ha; kernel_rfl
  clear ha
  repeat (first | refine wp_seq ?_ | (refine wp_skip ?_; refine then_n ?_))
  refine wp_region_law hN_0 w.heap.size
    [kIs (.pointer (some ⟨w.heap.size, 0, none⟩)), kZ 9 (zx), kIs (.bool true), kIs (.bool false), kIs (.bool false), kIs (.pointer (some ⟨w.heap.size, 2, none⟩)), kZ 9 (zy), kIs (.bool true), kIs (.bool false), kIs (.bool false)]
    [ [], [(0, some 3)], [(1, some 4)], [(2, some 5)], [(3, some 6)], [], [(5, some 8)], [(6, some 9)], [(7, some 10)], [(4, some 7), (8, some 11)] ]
    [(0, some 3), (1, some 4), (2, some 5), (3, some 6), (4, some 7), (5, some 8), (6, some 9), (7, some 10), (8, some 11), (9, some 12)] [(4, false)] [] (by kernel_rfl) (by kernel_rfl) (by kernel_rfl) (by kernel_rfl) (by kernel_rfl) (by kernel_rfl) (by kernel_rfl) bb_0.size ?_ ?_
  ·
    refine pk_cons rfl rfl (st_pure [] [(1, .pointer (some ⟨w.heap.size, 0, none⟩))] (.pointer (some ⟨w.heap.size, 0, none⟩)) rfl hN_0 (by kernel_rfl) (by kernel_rfl) (by kernel_rfl) (old1 e1_0) (by kernel_rfl) (by kernel_rfl) (by kernel_rfl) (fun _ => by kernel_rfl)) ?_
    refine pk_cons rfl rfl (st_loadA f1_0 (by simp) hN_0 (by kernel_rfl) (by kernel_rfl) rfl rfl) ?_
    refine pk_cons rfl rfl (st_call1 hN_0 (by kernel_rfl) (by kernel_rfl) (by kernel_rfl) rfl rfl fun w x v1 hC h1 => ti (z_right (rr h1))) ?_
    refine pk_cons rfl rfl (st_pure [.bool true] [] (.bool false) rfl hN_0 (by kernel_rfl) (by kernel_rfl) (by kernel_rfl) old0 (by kernel_rfl) (by kernel_rfl) (by kernel_rfl) (fun _ => by kernel_rfl)) ?_
    refine pk_cons rfl rfl (st_pure [.bool false] [] (.bool false) rfl hN_0 (by kernel_rfl) (by kernel_rfl) (by kernel_rfl) old0 (by kernel_rfl) (by kernel_rfl) (by kernel_rfl) (fun _ => by kernel_rfl)) ?_
    refine pk_cons rfl rfl (st_pure [] [(1, .pointer (some ⟨w.heap.size, 0, none⟩))] (.pointer (some ⟨w.heap.size, 2, none⟩)) rfl hN_0 (by kernel_rfl) (by kernel_rfl) (by kernel_rfl) (old1 e1_0) (by kernel_rfl) (by kernel_rfl) (by kernel_rfl) (fun _ => by kernel_rfl)) ?_
    refine pk_cons rfl rfl (st_loadA f1'_0 (by simp) hN_0 (by kernel_rfl) (by kernel_rfl) rfl rfl) ?_
    refine pk_cons rfl rfl (st_call1 hN_0 (by kernel_rfl) (by kernel_rfl) (by kernel_rfl) rfl rfl fun w x v1 hC h1 => ti (z_right (rr h1))) ?_
    refine pk_cons rfl rfl (st_pure [.bool true] [] (.bool false) rfl hN_0 (by kernel_rfl) (by kernel_rfl) (by kernel_rfl) old0 (by kernel_rfl) (by kernel_rfl) (by kernel_rfl) (fun _ => by kernel_rfl)) ?_
    refine pk_cons rfl rfl (st_pure [.bool false, .bool false] [] (.bool false) rfl hN_0 (by kernel_rfl) (by kernel_rfl) (by kernel_rfl) old0 (by kernel_rfl) (by kernel_rfl) (by kernel_rfl) (fun _ => by kernel_rfl)) ?_
    exact pk_nil rfl
  intro W_1 x hC hall
  refine then_n ?_
  obtain ⟨a_1, ha⟩ : ∃ a, a = putE x a_0 [(0, some 3), (1, some 4), (2, some 5), (3, some 6), (4, some 7), (5, some 8), (6, some 9), (7, some 10), (8, some 11), (9, some 12)] := ⟨_, rfl⟩
  rw [← ha]
  have hN_1 := size_behind ha hN_0
  have hD_1 := defers_behind ha hD_0
  have bb_1 := bb_0.trans hC.below
  have e1_1 := slot_old ha (by kernel_rfl) e1_0
  have f1_1 := hC.at0 f1_0
  have f1'_1 := hC.at0 f1'_0
  have e12_1 := (slot_new (t := 12) (i := 9) ha hN_0 (by kernel_rfl) (by kernel_rfl)).trans (show x 9 = .bool false from hall 9 (of_decide_eq_true (by kernel_rfl)))
  clear hall hC ha bb_0 hD_0 e1_0 f1_0 f1'_0
  repeat (first | refine wp_seq ?_ | (refine wp_skip ?_; refine then_n ?_))
  refine wp_cond_false e12_1 ?_
  repeat (first | refine wp_seq ?_ | (refine wp_skip ?_; refine then_n ?_))
  refine wp_region_law hN_1 w.heap.size
    [kIs (.pointer (some ⟨w.heap.size, 2, none⟩)), kZ 9 (zy), kIs (.bool false), kIs (.bool true), kIs (.bool true), kIs (.pointer (some ⟨w.heap.size, 2, none⟩)), kIs (.pointer (some ⟨w.heap.size, 2, none⟩)), kIs (.bool true), kIs (.bool false), kIs (.bool false), kIs (.bool false), kIs undef, kIs undef, kIs undef, kIs undef, kIs undef, kIs undef, kIs undef, kIs (.bool false), kIs (.bool false)]
    [ [], [(0, some 13)], [(1, some 14)], [(2, some 15)], [(3, some 16)], [], [(5, some 18)], [(6, some 19)], [(7, some 20)], [(4, some 17), (8, some 21)], [(9, some 22)], [], [(11, some 24)], [], [(13, some 26)], [(12, some 25), (14, some 27)], [(15, some 28)], [(16, some 29)], [(10, some 23), (17, some 30)], [(18, some 31)] ]
    [(0, some 13), (1, some 14), (2, some 15), (3, some 16), (4, some 17), (5, some 18), (6, some 19), (7, some 20), (8, some 21), (9, some 22), (10, some 23), (11, some 24), (12, some 25), (13, some 26), (14, some 27), (15, some 28), (16, some 29), (17, some 30), (18, some 31), (19, some 2)] [(4, true), (10, false)] [11, 12, 13, 14, 15, 16, 17] (by kernel_rfl) (by kernel_rfl) (by kernel_rfl) (by kernel_rfl) (by kernel_rfl) (by kernel_rfl) (by kernel_rfl) bb_1.size ?_ ?_
  ·
    refine pk_cons rfl rfl (st_pure [] [(1, .pointer (some ⟨w.heap.size, 0, none⟩))] (.pointer (some ⟨w.heap.size, 2, none⟩)) rfl hN_1 (by kernel_rfl) (by kernel_rfl) (by kernel_rfl) (old1 e1_1) (by kernel_rfl) (by kernel_rfl) (by kernel_rfl) (fun _ => by kernel_rfl)) ?_
    refine pk_cons rfl rfl (st_loadA f1'_1 (by simp) hN_1 (by kernel_rfl) (by kernel_rfl) rfl rfl) ?_
    refine pk_cons rfl rfl (st_call1 hN_1 (by kernel_rfl) (by kernel_rfl) (by kernel_rfl) rfl rfl fun w x v1 hC h1 => ti (isNone_z (rr h1) hz)) ?_
    refine pk_cons rfl rfl (st_pure [.bool false] [] (.bool true) rfl hN_1 (by kernel_rfl) (by kernel_rfl) (by kernel_rfl) old0 (by kernel_rfl) (by kernel_rfl) (by kernel_rfl) (fun _ => by kernel_rfl)) ?_
    refine pk_cons rfl rfl (st_pure [.bool true] [] (.bool true) rfl hN_1 (by kernel_rfl) (by kernel_rfl) (by kernel_rfl) old0 (by kernel_rfl) (by kernel_rfl) (by kernel_rfl) (fun _ => by kernel_rfl)) ?_
    refine pk_cons rfl rfl (st_pure [] [(1, .pointer (some ⟨w.heap.size, 0, none⟩))] (.pointer (some ⟨w.heap.size, 2, none⟩)) rfl hN_1 (by kernel_rfl) (by kernel_rfl) (by kernel_rfl) (old1 e1_1) (by kernel_rfl) (by kernel_rfl) (by kernel_rfl) (fun _ => by kernel_rfl)) ?_
    refine pk_cons rfl rfl (st_pure [.pointer (some ⟨w.heap.size, 2, none⟩)] [] (.pointer (some ⟨w.heap.size, 2, none⟩)) rfl hN_1 (by kernel_rfl) (by kernel_rfl) (by kernel_rfl) old0 (by kernel_rfl) (by kernel_rfl) (by kernel_rfl) (fun _ => by kernel_rfl)) ?_
    refine pk_cons rfl rfl (st_loadS (s := true) f1'_1 hs (by simp) hN_1 (by kernel_rfl) (by kernel_rfl) rfl rfl) ?_
    refine pk_cons rfl rfl (st_pure [.bool true] [] (.bool false) rfl hN_1 (by kernel_rfl) (by kernel_rfl) (by kernel_rfl) old0 (by kernel_rfl) (by kernel_rfl) (by kernel_rfl) (fun _ => by kernel_rfl)) ?_
    refine pk_cons rfl rfl (st_pure [.bool true, .bool false] [] (.bool false) rfl hN_1 (by kernel_rfl) (by kernel_rfl) (by kernel_rfl) old0 (by kernel_rfl) (by kernel_rfl) (by kernel_rfl) (fun _ => by kernel_rfl)) ?_
    refine pk_cons rfl rfl (st_pure [.bool false] [] (.bool false) rfl hN_1 (by kernel_rfl) (by kernel_rfl) (by kernel_rfl) old0 (by kernel_rfl) (by kernel_rfl) (by kernel_rfl) (fun _ => by kernel_rfl)) ?_
    refine pk_skip rfl ?_
    refine pk_skip rfl ?_
    refine pk_skip rfl ?_
    refine pk_skip rfl ?_
    refine pk_skip rfl ?_
    refine pk_skip rfl ?_
    refine pk_skip rfl ?_
    refine pk_cons rfl rfl (st_pure [.bool false, undef] [] (.bool false) rfl hN_1 (by kernel_rfl) (by kernel_rfl) (by kernel_rfl) old0 (by kernel_rfl) (by kernel_rfl) (by kernel_rfl) (fun _ => by kernel_rfl)) ?_
    refine pk_cons rfl rfl (st_pure [.bool false] [] (.bool false) rfl hN_1 (by kernel_rfl) (by kernel_rfl) (by kernel_rfl) old0 (by kernel_rfl) (by kernel_rfl) (by kernel_rfl) (fun _ => by kernel_rfl)) ?_
    exact pk_nil rfl
  intro W x hC hall
  refine then_n ?_
  obtain ⟨a1, ha⟩ : ∃ a, a = putE x a_1 [(0, some 13), (1, some 14), (2, some 15), (3, some 16), (4, some 17), (5, some 18), (6, some 19), (7, some 20), (8, some 21), (9, some 22), (10, some 23), (11, some 24), (12, some 25), (13, some 26), (14, some 27), (15, some 28), (16, some 29), (17, some 30), (18, some 31), (19, some 2)] := ⟨_, rfl⟩
  rw [← ha]
  have hD1 := defers_behind ha hD_1
  have bb1 := bb_1.trans hC.below
  have e1 := (slot_new (t := 2) (i := 19) ha hN_1 (by kernel_rfl) (by kernel_rfl)).trans (show x 19 = .bool false from hall 19 (of_decide_eq_true (by kernel_rfl)))
  repeat (first | refine wp_seq ?_ | (refine wp_skip ?_; refine then_n ?_))
  refine wp_ret ?_
  repeat (refine then_r ?_)
  exact ret_one (t := 2) rfl hD1 e1 ⟨rfl, bb1⟩
set_option maxRecDepth 100000 in
set_option maxHeartbeats 4000000 in
theorem right_gcd_9 {w : World} {v1 : Value} {zx zy : Int} (hz : zy ≠ 0) (hs : decide (zy < 0) = false) (hg : 1 < ((zgcd [(zx), (zy)] : Nat) : Int)) (h1 : Pr w v1 9 (zx) (zy)) :
    Calls Tryz.prog 11 #[v1] w (fun e w' => e = .returned (.bool false) ∧ Below w.heap.size w w') := by
  obtain ⟨A1, l1, c1, A1', l1', c1', rfl, ⟨r1, u1⟩, r1', u1'⟩ := h1
  obtain ⟨b1, hb1⟩ : ∃ s, s = decide (zx < 0) := ⟨_, rfl⟩
  obtain ⟨b1', hb1'⟩ : ∃ s, s = decide (zy < 0) := ⟨_, rfl⟩
  rw [← hb1, ← hb1']
  have H1 := Lib.hid (show _ ∧ _ ∧ _ ∧ _ ∧ _ ∧ _ from ⟨hb1, hb1', r1, u1, r1', u1'⟩)
  clear hb1 hb1' r1 u1 r1' u1'
  go_enter Tryz.func11, Tryz.ntmps11
  repeat (refine wp_seq ?_)
  refine region_k ?_
  intro K hK
  have HK := Lib.hid hK
  clear hK
  go_wp2
  refine HK.out _ _ ?_
  clear HK
  refine then_n ?_
  obtain ⟨W_0, hW⟩ : ∃ W, W = w.alloc (Obj.cells #[Value.bool b1, Value.slice A1 l1 c1, Value.bool b1', Value.slice A1' l1' c1'] 27) := ⟨_, rfl⟩
  have bb_0 : Below w.heap.size w W_0 := by rw [hW]; exact bal (Below.refl _ _) _
  have K0 : W_0.heap[w.heap.size]? = some (Obj.cells #[Value.bool b1, Value.slice A1 l1 c1, Value.bool b1', Value.slice A1' l1' c1'] 27) := by rw [hW]; exact new_at (by simp)
  rw [← hW]
  obtain ⟨m1, n1, m1', n1', _, _, _, _⟩ := four_cells K0
  have f1_0 : AtR W_0 (w.heap.size) 0 9 (zx) := ⟨A1, l1, c1, by rw [← H1.out.1]; exact m1, n1, A1, l1, c1, rfl, H1.out.2.2.1.below bb_0, H1.out.2.2.2.1⟩
  have f1'_0 : AtR W_0 (w.heap.size) 2 9 (zy) := ⟨A1', l1', c1', by rw [← H1.out.2.1]; exact m1', n1', A1', l1', c1', rfl, H1.out.2.2.2.2.1.below bb_0, H1.out.2.2.2.2.2⟩
  clear m1 n1 m1' n1'
  clear hW K0
  refine name_frame (G := fun a => Code.wp _ _ _ a _) ?_
  intro a_0 ha
  have hN_0 : a_0.tmps.size = 32 := by subst ha; kernel_rfl
  have hD_0 : a_0.defers = [] := by subst ha; rfl
  have e1_0 : a_0.eval (.tmp 1) = .pointer (some ⟨w.heap.size, 0, none⟩) := by subst ha; kernel_rfl
  clear ha
  repeat (first | refine wp_seq ?_ | (refine wp_skip ?_; refine then_n ?_))
  refine wp_region_law hN_0 w.heap.size
    [kIs (.pointer (some ⟨w.heap.size, 0, none⟩)), kZ 9 (zx), kIs (.bool true), kIs (.bool false), kIs (.bool false), kIs (.pointer (some ⟨w.heap.size, 2, none⟩)), kZ 9 (zy), kIs (.bool true), kIs (.bool false), kIs (.bool false)]
    [ [], [(0, some 3)], [(1, some 4)], [(2, some 5)], [(3, some 6)], [], [(5, some 8)], [(6, some 9)], [(7, some 10)], [(4, some 7), (8, some 11)] ]
    [(0, some 3), (1, some 4), (2, some 5), (3, some 6), (4, some 7), (5, some 8), (6, some 9), (7, some 10), (8, some 11), (9, some 12)] [(4, false)] [] (by kernel_rfl) (by kernel_rfl) (by kernel_rfl) (by kernel_rfl) (by kernel_rfl) (by kernel_rfl) (by kernel_rfl) bb_0.size ?_ ?_
  ·
    refine pk_cons rfl rfl (st_pure [] [(1, .pointer (some ⟨w.heap.size, 0, none⟩))] (.pointer (some ⟨w.heap.size, 0, none⟩)) rfl hN_0 (by kernel_rfl) (by kernel_rfl) (by kernel_rfl) (old1 e1_0) (by kernel_rfl) (by kernel_rfl) (by kernel_rfl) (fun _ => by kernel_rfl)) ?_
    refine pk_cons rfl rfl (st_loadA f1_0 (by simp) hN_0 (by kernel_rfl) (by kernel_rfl) rfl rfl) ?_
    refine pk_cons rfl rfl (st_call1 hN_0 (by kernel_rfl) (by kernel_rfl) (by kernel_rfl) rfl rfl fun w x v1 hC h1 => ti (z_right (rr h1))) ?_
    refine pk_cons rfl rfl (st_pure [.bool true] [] (.bool false) rfl hN_0 (by kernel_rfl) (by kernel_rfl) (by kernel_rfl) old0 (by kernel_rfl) (by kernel_rfl) (by kernel_rfl) (fun _ => by kernel_rfl)) ?_
    refine pk_cons rfl rfl (st_pure [.bool false] [] (.bool false) rfl hN_0 (by kernel_rfl) (by kernel_rfl) (by kernel_rfl) old0 (by kernel_rfl) (by kernel_rfl) (by kernel_rfl) (fun _ => by kernel_rfl)) ?_
    refine pk_cons rfl rfl (st_pure [] [(1, .pointer (some ⟨w.heap.size, 0, none⟩))] (.pointer (some ⟨w.heap.size, 2, none⟩)) rfl hN_0 (by kernel_rfl) (by kernel_rfl) (by kernel_rfl) (old1 e1_0) (by kernel_rfl) (by kernel_rfl) (by kernel_rfl) (fun _ => by kernel_rfl)) ?_
    refine pk_cons rfl rfl (st_loadA f1'_0 (by simp) hN_0 (by kernel_rfl) (by kernel_rfl) rfl rfl) ?_
    refine pk_cons rfl rfl (st_call1 hN_0 (by kernel_rfl) (by kernel_rfl) (by kernel_rfl) rfl rfl fun w x v1 hC h1 => ti (z_right (rr h1))) ?_
    refine pk_cons rfl rfl (st_pure [.bool true] [] (.bool false) rfl hN_0 (by kernel_rfl) (by kernel_rfl) (by kernel_rfl) old0 (by kernel_rfl) (by kernel_rfl) (by kernel_rfl) (fun _ => by kernel_rfl)) ?_
    refine pk_cons rfl rfl (st_pure [.bool false, .bool false] [] (.bool false) rfl hN_0 (by kernel_rfl) (by kernel_rfl) (by kernel_rfl) old0 (by kernel_rfl) (by kernel_rfl) (by kernel_rfl) (fun _ => by kernel_rfl)) ?_
    exact pk_nil rfl
  intro W_1 x hC hall
  refine then_n ?_
  obtain ⟨a_1, ha⟩ : ∃ a, a = putE x a_0 [(0, some 3), (1, some 4), (2, some 5), (3, some 6), (4, some 7), (5, some 8), (6, some 9), (7, some 10), (8, some 11), (9, some 12)] := ⟨_, rfl⟩
  rw [← ha]
  have hN_1 := size_behind ha hN_0
  have hD_1 := defers_behind ha hD_0
  have bb_1 := bb_0.trans hC.below
  have e1_1 := slot_old ha (by kernel_rfl) e1_0
  have f1_1 := hC.at0 f1_0
  have f1'_1 := hC.at0 f1'_0
  have e12_1 := (slot_new (t := 12) (i := 9) ha hN_0 (by kernel_rfl) (by kernel_rfl)).trans (show x 9 = .bool false from hall 9 (of_decide_eq_true (by kernel_rfl)))
  clear hall hC ha bb_0 hD_0 e1_0 f1_0 f1'_0
  repeat (first | refine wp_seq ?_ | (refine wp_skip ?_; refine then_n ?_))
  refine wp_cond_false e12_1 ?_
  repeat (first | refine wp_seq ?_ | (refine wp_skip ?_; refine then_n ?_))
  refine wp_region_law hN_1 w.heap.size
    [kIs (.pointer (some ⟨w.heap.size, 2, none⟩)), kZ 9 (zy), kIs (.bool false), kIs (.bool true), kIs (.bool true), kIs (.pointer (some ⟨w.heap.size, 2, none⟩)), kIs (.pointer (some ⟨w.heap.size, 2, none⟩)), kIs (.bool false), kIs (.bool true), kIs (.bool true), kIs (.bool true), kIs (.pointer (some ⟨w.heap.size, 0, none⟩)), kZ 9 (zx), kIs (.pointer (some ⟨w.heap.size, 2, none⟩)), kZ 9 (zy), kZs [(9, (zx)), (9, (zy))], kZ 9 (((zgcd [(zx), (zy)] : Nat) : Int)), kIs (.bool false), kIs (.bool false), kIs (.bool false)]
    [ [], [(0, some 13)], [(1, some 14)], [(2, some 15)], [(3, some 16)], [], [(5, some 18)], [(6, some 19)], [(7, some 20)], [(4, some 17), (8, some 21)], [(9, some 22)], [], [(11, some 24)], [], [(13, some 26)], [(12, some 25), (14, some 27)], [(15, some 28)], [(16, some 29)], [(10, some 23), (17, some 30)], [(18, some 31)] ]
    [(0, some 13), (1, some 14), (2, some 15), (3, some 16), (4, some 17), (5, some 18), (6, some 19), (7, some 20), (8, some 21), (9, some 22), (10, some 23), (11, some 24), (12, some 25), (13, some 26), (14, some 27), (15, some 28), (16, some 29), (17, some 30), (18, some 31), (19, some 2)] [(4, true), (10, true)] [] (by kernel_rfl) (by kernel_rfl) (by kernel_rfl) (by kernel_rfl) (by kernel_rfl) (by kernel_rfl) (by kernel_rfl) bb_1.size ?_ ?_
  ·
    refine pk_cons rfl rfl (st_pure [] [(1, .pointer (some ⟨w.heap.size, 0, none⟩))] (.pointer (some ⟨w.heap.size, 2, none⟩)) rfl hN_1 (by kernel_rfl) (by kernel_rfl) (by kernel_rfl) (old1 e1_1) (by kernel_rfl) (by kernel_rfl) (by kernel_rfl) (fun _ => by kernel_rfl)) ?_
    refine pk_cons rfl rfl (st_loadA f1'_1 (by simp) hN_1 (by kernel_rfl) (by kernel_rfl) rfl rfl) ?_
    refine pk_cons rfl rfl (st_call1 hN_1 (by kernel_rfl) (by kernel_rfl) (by kernel_rfl) rfl rfl fun w x v1 hC h1 => ti (isNone_z (rr h1) hz)) ?_
    refine pk_cons rfl rfl (st_pure [.bool false] [] (.bool true) rfl hN_1 (by kernel_rfl) (by kernel_rfl) (by kernel_rfl) old0 (by kernel_rfl) (by kernel_rfl) (by kernel_rfl) (fun _ => by kernel_rfl)) ?_
    refine pk_cons rfl rfl (st_pure [.bool true] [] (.bool true) rfl hN_1 (by kernel_rfl) (by kernel_rfl) (by kernel_rfl) old0 (by kernel_rfl) (by kernel_rfl) (by kernel_rfl) (fun _ => by kernel_rfl)) ?_
    refine pk_cons rfl rfl (st_pure [] [(1, .pointer (some ⟨w.heap.size, 0, none⟩))] (.pointer (some ⟨w.heap.size, 2, none⟩)) rfl hN_1 (by kernel_rfl) (by kernel_rfl) (by kernel_rfl) (old1 e1_1) (by kernel_rfl) (by kernel_rfl) (by kernel_rfl) (fun _ => by kernel_rfl)) ?_
    refine pk_cons rfl rfl (st_pure [.pointer (some ⟨w.heap.size, 2, none⟩)] [] (.pointer (some ⟨w.heap.size, 2, none⟩)) rfl hN_1 (by kernel_rfl) (by kernel_rfl) (by kernel_rfl) old0 (by kernel_rfl) (by kernel_rfl) (by kernel_rfl) (fun _ => by kernel_rfl)) ?_
    refine pk_cons rfl rfl (st_loadS (s := false) f1'_1 hs (by simp) hN_1 (by kernel_rfl) (by kernel_rfl) rfl rfl) ?_
    refine pk_cons rfl rfl (st_pure [.bool false] [] (.bool true) rfl hN_1 (by kernel_rfl) (by kernel_rfl) (by kernel_rfl) old0 (by kernel_rfl) (by kernel_rfl) (by kernel_rfl) (fun _ => by kernel_rfl)) ?_
    refine pk_cons rfl rfl (st_pure [.bool true, .bool true] [] (.bool true) rfl hN_1 (by kernel_rfl) (by kernel_rfl) (by kernel_rfl) old0 (by kernel_rfl) (by kernel_rfl) (by kernel_rfl) (fun _ => by kernel_rfl)) ?_
    refine pk_cons rfl rfl (st_pure [.bool true] [] (.bool true) rfl hN_1 (by kernel_rfl) (by kernel_rfl) (by kernel_rfl) old0 (by kernel_rfl) (by kernel_rfl) (by kernel_rfl) (fun _ => by kernel_rfl)) ?_
    refine pk_cons rfl rfl (st_pure [] [(1, .pointer (some ⟨w.heap.size, 0, none⟩))] (.pointer (some ⟨w.heap.size, 0, none⟩)) rfl hN_1 (by kernel_rfl) (by kernel_rfl) (by kernel_rfl) (old1 e1_1) (by kernel_rfl) (by kernel_rfl) (by kernel_rfl) (fun _ => by kernel_rfl)) ?_
    refine pk_cons rfl rfl (st_loadA f1_1 (by simp) hN_1 (by kernel_rfl) (by kernel_rfl) rfl rfl) ?_
    refine pk_cons rfl rfl (st_pure [] [(1, .pointer (some ⟨w.heap.size, 0, none⟩))] (.pointer (some ⟨w.heap.size, 2, none⟩)) rfl hN_1 (by kernel_rfl) (by kernel_rfl) (by kernel_rfl) (old1 e1_1) (by kernel_rfl) (by kernel_rfl) (by kernel_rfl) (fun _ => by kernel_rfl)) ?_
    refine pk_cons rfl rfl (st_loadA f1'_1 (by simp) hN_1 (by kernel_rfl) (by kernel_rfl) rfl rfl) ?_
    refine pk_cons rfl rfl (st_list2 hN_1 (by kernel_rfl) (by kernel_rfl) (by kernel_rfl) (by kernel_rfl) (Nat.le_refl _) asR asR rfl) ?_
    refine pk_cons rfl rfl (st_call1 hN_1 (by kernel_rfl) (by kernel_rfl) (by kernel_rfl) rfl rfl fun w x v1 hC h1 => tz (l_gcd 9 (lz h1) (by kernel_rfl) (by decide) (by simp))) ?_
    refine pk_cons rfl rfl (st_call1 hN_1 (by kernel_rfl) (by kernel_rfl) (by kernel_rfl) rfl rfl fun w x v1 hC h1 => ti (isOne_z0 hg ((rr h1).mono (by decide)))) ?_
    refine pk_cons rfl rfl (st_pure [.bool true, .bool false] [] (.bool false) rfl hN_1 (by kernel_rfl) (by kernel_rfl) (by kernel_rfl) old0 (by kernel_rfl) (by kernel_rfl) (by kernel_rfl) (fun _ => by kernel_rfl)) ?_
    refine pk_cons rfl rfl (st_pure [.bool false] [] (.bool false) rfl hN_1 (by kernel_rfl) (by kernel_rfl) (by kernel_rfl) old0 (by kernel_rfl) (by kernel_rfl) (by kernel_rfl) (fun _ => by kernel_rfl)) ?_
    exact pk_nil rfl
  intro W x hC hall
  refine then_n ?_
  obtain ⟨a1, ha⟩ : ∃ a, a = putE x a_1 [(0, some 13), (1, some 14), (2, some 15), (3, some 16), (4, some 17), (5, some 18), (6, some 19), (7, some 20), (8, some 21), (9, some 22), (10, some 23), (11, some 24), (12, some 25), (13, some 26), (14, some 27), (15, some 28), (16, some 29), (17, some 30), (18, some 31), (19, some 2)] := ⟨_, rfl⟩
  rw [← ha]
  have hD1 := defers_behind ha hD_1
  have bb1 := bb_1.trans hC.below
  have e1 := (slot_new (t := 2) (i := 19) ha hN_1 (by kernel_rfl) (by kernel_rfl)).trans (show x 19 = .bool false from hall 19 (of_decide_eq_true (by kernel_rfl)))
  repeat (first | refine wp_seq ?_ | (refine wp_skip ?_; refine then_n ?_))
  refine wp_ret ?_
  repeat (refine then_r ?_)
  exact ret_one (t := 2) rfl hD1 e1 ⟨rfl, bb1⟩
theorem right_no_9 {w : World} {v1 : Value} {zx zy : Int} (hno : ¬ (0 < zy ∧ ((zgcd [(zx), (zy)] : Nat) : Int) = 1)) (h1 : Pr w v1 9 (zx) (zy)) : Calls Tryz.prog 11 #[v1] w (fun e w' => e = .returned (.bool false) ∧ Below w.heap.size w w') := by
  rcases Int.lt_trichotomy zy 0 with h | h | h
  · exact right_neg_9 (Int.ne_of_lt h) (decide_eq_true h) h1
  · exact right_none_9 h h1
  · refine right_gcd_9 (Int.ne_of_gt h) (decide_eq_false (by omega)) ?_ h1
    have := gcd_pos_of h (x := zx)
    have hn : ((zgcd [(zx), (zy)] : Nat) : Int) ≠ 1 := fun e => hno ⟨h, e⟩
    omega
set_option maxRecDepth 100000 in
set_option maxHeartbeats 4000000 in
theorem right_none_19 {w : World} {v1 : Value} {zx zy : Int} (hz : zy = 0) (h1 : Pr w v1 19 (zx) (zy)) :
    Calls Tryz.prog 11 #[v1] w (fun e w' => e = .returned (.bool false) ∧ Below w.heap.size w w') := by
  obtain ⟨A1, l1, c1, A1', l1', c1', rfl, ⟨r1, u1⟩, r1', u1'⟩ := h1
  obtain ⟨b1, hb1⟩ : ∃ s, s = decide (zx < 0) := ⟨_, rfl⟩
  obtain ⟨b1', hb1'⟩ : ∃ s, s = decide (zy < 0) := ⟨_, rfl⟩
  rw [← hb1, ← hb1']
  have H1 := Lib.hid (show _ ∧ _ ∧ _ ∧ _ ∧ _ ∧ _ from ⟨hb1, hb1', r1, u1, r1', u1'⟩)
  clear hb1 hb1' r1 u1 r1' u1'
  go_enter Tryz.func11, Tryz.ntmps11
  repeat (refine wp_seq ?_)
  refine region_k ?_
  intro K hK
  have HK := Lib.hid hK
  clear hK
  go_wp2
  refine HK.out _ _ ?_
  clear HK
  refine then_n ?_
  obtain ⟨W_0, hW⟩ : ∃ W, W = w.alloc (Obj.cells #[Value.bool b1, Value.slice A1 l1 c1, Value.bool b1', Value.slice A1' l1' c1'] 27) := ⟨_, rfl⟩
  have bb_0 : Below w.heap.size w W_0 := by rw [hW]; exact bal (Below.refl _ _) _
  have K0 : W_0.heap[w.heap.size]? = some (Obj.cells #[Value.bool b1, Value.slice A1 l1 c1, Value.bool b1', Value.slice A1' l1' c1'] 27) := by rw [hW]; exact new_at (by simp)
  rw [← hW]
  obtain ⟨m1, n1, m1', n1', _, _, _, _⟩ := four_cells K0
  have f1_0 : AtR W_0 (w.heap.size) 0 19 (zx) := ⟨A1, l1, c1, by rw [← H1.out.1]; exact m1, n1, A1, l1, c1, rfl, H1.out.2.2.1.below bb_0, H1.out.2.2.2.1⟩
  have f1'_0 : AtR W_0 (w.heap.size) 2 19 (zy) := ⟨A1', l1', c1', by rw [← H1.out.2.1]; exact m1', n1', A1', l1', c1', rfl, H1.out.2.2.2.2.1.below bb_0, H1.out.2.2.2.2.2⟩
  clear m1 n1 m1' n1'
  clear hW K0
  refine name_frame (G := fun a => Code.wp _ _ _ a _) ?_
  intro a_0 ha
  have hN_0 : a_0.tmps.size = 32 := by subst ha; kernel_rfl
  have hD_0 : a_0.defers = [] := by subst ha; rfl
  have e1_0 : a_0.eval (.tmp 1) = .pointer (some ⟨w.heap.size, 0, none⟩) := by subst ha; kernel_rfl
  clear ha
  repeat (first | refine wp_seq ?_ | (refine wp_skip ?_; refine then_n ?_))
  refine wp_region_law hN_0 w.heap.size
    [kIs (.pointer (some ⟨w.heap.size, 0, none⟩)), kZ 19 (zx), kIs (.bool true), kIs (.bool false), kIs (.bool false), kIs (.pointer (some ⟨w.heap.size, 2, none⟩)), kZ 19 (zy), kIs (.bool true), kIs (.bool false), kIs (.bool false)]
    [ [], [(0, some 3)], [(1, some 4)], [(2, some 5)], [(3, some 6)], [], [(5, some 8)], [(6, some 9)], [(7, some 10)], [(4, some 7), (8, some 11)] ]
    [(0, some 3), (1, some 4), (2, some 5), (3, some 6), (4, some 7), (5, some 8), (6, some 9), (7, some 10), (8, some 11), (9, some 12)] [(4, false)] [] (by kernel_rfl) (by kernel_rfl) (by kernel_rfl) (by kernel_rfl) (by kernel_rfl) (by kernel_rfl) (by kernel_rfl) bb_0.size ?_ ?_
  ·
    refine pk_cons rfl rfl (st_pure [] [(1, .pointer (some ⟨w.heap.size, 0, none⟩))] (.pointer (some ⟨w.heap.size, 0, none⟩)) rfl hN_0 (by kernel_rfl) (by kernel_rfl) (by kernel_rfl) (old1 e1_0) (by kernel_rfl) (by kernel_rfl) (by kernel_rfl) (fun _ => by kernel_rfl)) ?_
    refine pk_cons rfl rfl (st_loadA f1_0 (by simp) hN_0 (by kernel_rfl) (by kernel_rfl) rfl rfl) ?_
    refine pk_cons rfl rfl (st_call1 hN_0 (by kernel_rfl) (by kernel_rfl) (by kernel_rfl) rfl rfl fun w x v1 hC h1 => ti (z_right (rr h1))) ?_
    refine pk_cons rfl rfl (st_pure [.bool true] [] (.bool false) rfl hN_0 (by kernel_rfl) (by kernel_rfl) (by kernel_rfl) old0 (by kernel_rfl) (by kernel_rfl) (by kernel_rfl) (fun _ => by kernel_rfl)) ?_
    refine pk_cons rfl rfl (st_pure [.bool false] [] (.bool false) rfl hN_0 (by kernel_rfl) (by kernel_rfl) (by kernel_rfl) old0 (by kernel_rfl) (by kernel_rfl) (by kernel_rfl) (fun _ => by kernel_rfl)) ?_
    refine pk_cons rfl rfl (st_pure [] [(1, .pointer (some ⟨w.heap.size, 0, none⟩))] (.pointer (some ⟨w.heap.size, 2, none⟩)) rfl hN_0 (by kernel_rfl) (by kernel_rfl) (by kernel_rfl) (old1 e1_0) (by kernel_rfl) (by kernel_rfl) (by kernel_rfl) (fun _ => by kernel_rfl)) ?_
    refine pk_cons rfl rfl (st_loadA f1'_0 (by simp) hN_0 (by kernel_rfl) (by kernel_rfl) rfl rfl) ?_
    refine pk_cons rfl rfl (st_call1 hN_0 (by kernel_rfl) (by kernel_rfl) (by kernel_rfl) rfl rfl fun w x v1 hC h1 => ti (z_right (rr h1))) ?_
    refine pk_cons rfl rfl (st_pure [.bool true] [] (.bool false) rfl hN_0 (by kernel_rfl) (by kernel_rfl) (by kernel_rfl) old0 (by kernel_rfl) (by kernel_rfl) (by kernel_rfl) (fun _ => by kernel_rfl)) ?_
    refine pk_cons rfl rfl (st_pure [.bool false, .bool false] [] (.bool false) rfl hN_0 (by kernel_rfl) (by kernel_rfl) (by kernel_rfl) old0 (by kernel_rfl) (by kernel_rfl) (by kernel_rfl) (fun _ => by kernel_rfl)) ?_
    exact pk_nil rfl
  intro W_1 x hC hall
  refine then_n ?_
  obtain ⟨a_1, ha⟩ : ∃ a, a = putE x a_0 [(0, some 3), (1, some 4), (2, some 5), (3, some 6), (4, some 7), (5, some 8), (6, some 9), (7, some 10), (8, some 11), (9, some 12)] := ⟨_, rfl⟩
  rw [← ha]
  have hN_1 := size_behind ha hN_0
  have hD_1 := defers_behind ha hD_0
  have bb_1 := bb_0.trans hC.below
  have e1_1 := slot_old ha (by kernel_rfl) e1_0
  have f1_1 := hC.at0 f1_0
  have f1'_1 := hC.at0 f1'_0
  have e12_1 := (slot_new (t := 12) (i := 9) ha hN_0 (by kernel_rfl) (by kernel_rfl)).trans (show x 9 = .bool false from hall 9 (of_decide_eq_true (by kernel_rfl)))
  clear hall hC ha bb_0 hD_0 e1_0 f1_0 f1'_0
  repeat (first | refine wp_seq ?_ | (refine wp_skip ?_; refine then_n ?_))
  refine wp_cond_false e12_1 ?_
  repeat (first | refine wp_seq ?_ | (refine wp_skip ?_; refine then_n ?_))
  refine wp_region_law hN_1 w.heap.size
    [kIs (.pointer (some ⟨w.heap.size, 2, none⟩)), kZ 19 (zy), kIs (.bool true), kIs (.bool false), kIs (.bool false), kIs undef, kIs undef, kIs undef, kIs undef, kIs (.bool false), kIs (.bool false), kIs undef, kIs undef, kIs undef, kIs undef, kIs undef, kIs undef, kIs undef, kIs (.bool false), kIs (.bool false)]
    [ [], [(0, some 13)], [(1, some 14)], [(2, some 15)], [(3, some 16)], [], [(5, some 18)], [(6, some 19)], [(7, some 20)], [(4, some 17), (8, some 21)], [(9, some 22)], [], [(11, some 24)], [], [(13, some 26)], [(12, some 25), (14, some 27)], [(15, some 28)], [(16, some 29)], [(10, some 23), (17, some 30)], [(18, some 31)] ]
    [(0, some 13), (1, some 14), (2, some 15), (3, some 16), (4, some 17), (5, some 18), (6, some 19), (7, some 20), (8, some 21), (9, some 22), (10, some 23), (11, some 24), (12, some 25), (13, some 26), (14, some 27), (15, some 28), (16, some 29), (17, some 30), (18, some 31), (19, some 2)] [(4, false), (10, false)] [5, 6, 7, 8, 11, 12, 13, 14, 15, 16, 17] (by kernel_rfl) (by kernel_rfl) (by kernel_rfl) (by kernel_rfl) (by kernel_rfl) (by kernel_rfl) (by kernel_rfl) bb_1.size ?_ ?_
  ·
    refine pk_cons rfl rfl (st_pure [] [(1, .pointer (some ⟨w.heap.size, 0, none⟩))] (.pointer (some ⟨w.heap.size, 2, none⟩)) rfl hN_1 (by kernel_rfl) (by kernel_rfl) (by kernel_rfl) (old1 e1_1) (by kernel_rfl) (by kernel_rfl) (by kernel_rfl) (fun _ => by kernel_rfl)) ?_
    refine pk_cons rfl rfl (st_loadA f1'_1 (by simp) hN_1 (by kernel_rfl) (by kernel_rfl) rfl rfl) ?_
    refine pk_cons rfl rfl (st_call1 hN_1 (by kernel_rfl) (by kernel_rfl) (by kernel_rfl) rfl rfl fun w x v1 hC h1 => ti (isNone_zero (rr h1) hz)) ?_
    refine pk_cons rfl rfl (st_pure [.bool true] [] (.bool false) rfl hN_1 (by kernel_rfl) (by kernel_rfl) (by kernel_rfl) old0 (by kernel_rfl) (by kernel_rfl) (by kernel_rfl) (fun _ => by kernel_rfl)) ?_
    refine pk_cons rfl rfl (st_pure [.bool false] [] (.bool false) rfl hN_1 (by kernel_rfl) (by kernel_rfl) (by kernel_rfl) old0 (by kernel_rfl) (by kernel_rfl) (by kernel_rfl) (fun _ => by kernel_rfl)) ?_
    refine pk_skip rfl ?_
    refine pk_skip rfl ?_
    refine pk_skip rfl ?_
    refine pk_skip rfl ?_
    refine pk_cons rfl rfl (st_pure [.bool false, undef] [] (.bool false) rfl hN_1 (by kernel_rfl) (by kernel_rfl) (by kernel_rfl) old0 (by kernel_rfl) (by kernel_rfl) (by kernel_rfl) (fun _ => by kernel_rfl)) ?_
    refine pk_cons rfl rfl (st_pure [.bool false] [] (.bool false) rfl hN_1 (by kernel_rfl) (by kernel_rfl) (by kernel_rfl) old0 (by kernel_rfl) (by kernel_rfl) (by kernel_rfl) (fun _ => by kernel_rfl)) ?_
    refine pk_skip rfl ?_
    refine pk_skip rfl ?_
    refine pk_skip rfl ?_
    refine pk_skip rfl ?_
    refine pk_skip rfl ?_
    refine pk_skip rfl ?_
    refine pk_skip rfl ?_
    refine pk_cons rfl rfl (st_pure [.bool false, undef] [] (.bool false) rfl hN_1 (by kernel_rfl) (by kernel_rfl) (by kernel_rfl) old0 (by kernel_rfl) (by kernel_rfl) (by kernel_rfl) (fun _ => by kernel_rfl)) ?_
    refine pk_cons rfl rfl (st_pure [.bool false] [] (.bool false) rfl hN_1 (by kernel_rfl) (by kernel_rfl) (by kernel_rfl) old0 (by kernel_rfl) (by kernel_rfl) (by kernel_rfl) (fun _ => by kernel_rfl)) ?_
    exact pk_nil rfl
  intro W x hC hall
  refine then_n ?_
  obtain ⟨a1, ha⟩ : ∃ a, a = putE x a_1 [(0, some 13), (1, some 14), (2, some 15), (3, some 16), (4, some 17), (5, some 18), (6, some 19), (7, some 20), (8, some 21), (9, some 22), (10, some 23), (11, some 24), (12, some 25), (13, some 26), (14, some 27), (15, some 28), (16, some 29), (17, some 30), (18, some 31), (19, some 2)] := ⟨_, rfl⟩
  rw [← ha]
  have hD1 := defers_behind ha hD_1
  have bb1 := bb_1.trans hC.below
  have e1 := (slot_new (t := 2) (i := 19) ha hN_1 (by kernel_rfl) (by kernel_rfl)).trans (show x 19 = .bool false from hall 19 (of_decide_eq_true (by kernel_rfl)))
  repeat (first | refine wp_seq ?_ | (refine wp_skip ?_; refine then_n ?_))
  refine wp_ret ?_
  repeat (refine then_r ?_)
  exact ret_one (t := 2) rfl hD1 e1 ⟨rfl, bb1⟩
set_option maxRecDepth 100000 in
set_option maxHeartbeats 4000000 in
theorem right_neg_19 {w : World} {v1 : Value} {zx zy : Int} (hz : zy ≠ 0) (hs : decide (zy < 0) = true) (h1 : Pr w v1 19 (zx) (zy)) :
    Calls Tryz.prog 11 #[v1] w (fun e w' => e = .returned (.bool false) ∧ Below w.heap.size w w') := by
  obtain ⟨A1, l1, c1, A1', l1', c1', rfl, ⟨r1, u1⟩, r1', u1'⟩ := h1
  obtain ⟨b1, hb1⟩ : ∃ s, s = decide (zx < 0) := ⟨_, rfl⟩
  obtain ⟨b1', hb1'⟩ : ∃ s, s = decide (zy < 0) := ⟨_, rfl⟩
  rw [← hb1, ← hb1']
  have H1 := Lib.hid (show _ ∧ _ ∧ _ ∧ _ ∧ _ ∧ _ from ⟨hb1, hb1', r1, u1, r1', u1'⟩)
  clear hb1 hb1' r1 u1 r1' u1'
  go_enter Tryz.func11, Tryz.ntmps11
  repeat (refine wp_seq ?_)
  refine region_k ?_
  intro K hK
  have HK := Lib.hid hK
  clear hK
  go_wp2
  refine HK.out _ _ ?_
  clear HK
  refine then_n ?_
  obtain ⟨W_0, hW⟩ : ∃ W, W = w.alloc (Obj.cells #[Value.bool b1, Value.slice A1 l1 c1, Value.bool b1', Value.slice A1' l1' c1'] 27) := ⟨_, rfl⟩
  have bb_0 : Below w.heap.size w W_0 := by rw [hW]; exact bal (Below.refl _ _) _
  have K0 : W_0.heap[w.heap.size]? = some (Obj.cells #[Value.bool b1, Value.slice A1 l1 c1, Value.bool b1', Value.slice A1' l1' c1'] 27) := by rw [hW]; exact new_at (by simp)
  rw [← hW]
  obtain ⟨m1, n1, m1', n1', _, _, _, _⟩ := four_cells K0
  have f1_0 : AtR W_0 (w.heap.size) 0 19 (zx) := ⟨A1, l1, c1, by rw [← H1.out.1]; exact m1, n1, A1, l1, c1, rfl, H1.out.2.2.1.below bb_0, H1.out.2.2.2.1⟩
  have f1'_0 : AtR W_0 (w.heap.size) 2 19 (zy) := ⟨A1', l1', c1', by rw [← H1.out.2.1]; exact m1', n1', A1', l1', c1', rfl, H1.out.2.2.2.2.1.below bb_0, H1.out.2.2.2.2.2⟩
  clear m1 n1 m1' n1'
  clear hW K0
  refine name_frame (G := fun a => Code.wp _ _ _ a _) ?_
  intro a_0 ha
  have hN_0 : a_0.tmps.size = 32 := by subst ha; kernel_rfl
  have hD_0 : a_0.defers = [] := by subst ha; rfl
  have e1_0 : a_0.eval (.tmp 1) = .pointer (some ⟨w.heap.size, 0, none⟩) := by subst ha; kernel_rfl
  clear ha
  repeat (first | refine wp_seq ?_ | (refine wp_skip ?_; refine then_n ?_))
  refine wp_region_law hN_0 w.heap.size
    [kIs (.pointer (some ⟨w.heap.size, 0, none⟩)), kZ 19 (zx), kIs (.bool true), kIs (.bool false), kIs (.bool false), kIs (.pointer (some ⟨w.heap.size, 2, none⟩)), kZ 19 (zy), kIs (.bool true), kIs (.bool false), kIs (.bool false)]
    [ [], [(0, some 3)], [(1, some 4)], [(2, some 5)], [(3, some 6)], [], [(5, some 8)], [(6, some 9)], [(7, some 10)], [(4, some 7), (8, some 11)] ]
    [(0, some 3), (1, some 4), (2, some 5), (3, some 6), (4, some 7), (5, some 8), (6, some 9), (7, some 10), (8, some 11), (9, some 12)] [(4, false)] [] (by kernel_rfl) (by kernel_rfl) (by kernel_rfl) (by kernel_rfl) (by kernel_rfl) (by kernel_rfl) (by kernel_rfl) bb_0.size ?_ ?_
  ·
    refine pk_cons rfl rfl (st_pure [] [(1, .pointer (some ⟨w.heap.size, 0, none⟩))] (.pointer (some ⟨w.heap.size, 0, none⟩)) rfl hN_0 (by kernel_rfl) (by kernel_rfl) (by kernel_rfl) (old1 e1_0) (by kernel_rfl) (by kernel_rfl) (by kernel_rfl) (fun _ => by kernel_rfl)) ?_
    refine pk_cons rfl rfl (st_loadA f1_0 (by simp) hN_0 (by kernel_rfl) (by kernel_rfl) rfl rfl) ?_
    refine pk_cons rfl rfl (st_call1 hN_0 (by kernel_rfl) (by kernel_rfl) (by kernel_rfl) rfl rfl fun w x v1 hC h1 => ti (z_right (rr h1))) ?_
    refine pk_cons rfl rfl (st_pure [.bool true] [] (.bool false) rfl hN_0 (by kernel_rfl) (by kernel_rfl) (by kernel_rfl) old0 (by kernel_rfl) (by kernel_rfl) (by kernel_rfl) (fun _ => by kernel_rfl)) ?_
    refine pk_cons rfl rfl (st_pure [.bool false] [] (.bool false) rfl hN_0 (by kernel_rfl) (by kernel_rfl) (by kernel_rfl) old0 (by kernel_rfl) (by kernel_rfl) (by kernel_rfl) (fun _ => by kernel_rfl)) ?_
    refine pk_cons rfl rfl (st_pure [] [(1, .pointer (some ⟨w.heap.size, 0, none⟩))] (.pointer (some ⟨w.heap.size, 2, none⟩)) rfl hN_0 (by kernel_rfl) (by kernel_rfl) (by kernel_rfl) (old1 e1_0) (by kernel_rfl) (by kernel_rfl) (by kernel_rfl) (fun _ => by kernel_rfl)) ?_
    refine pk_cons rfl rfl (st_loadA f1'_0 (by simp) hN_0 (by kernel_rfl) (by kernel_rfl) rfl rfl) ?_
    refine pk_cons rfl rfl (st_call1 hN_0 (by kernel_rfl) (by kernel_rfl) (by kernel_rfl) rfl rfl fun w x v1 hC h1 => ti (z_right (rr h1))) ?_
    refine pk_cons rfl rfl (st_pure [.bool true] [] (.bool false) rfl hN_0 (by kernel_rfl) (by kernel_rfl) (by kernel_rfl) old0 (by kernel_rfl) (by kernel_rfl) (by kernel_rfl) (fun _ => by kernel_rfl)) ?_
    refine pk_cons rfl rfl (st_pure [.bool false, .bool false] [] (.bool false) rfl hN_0 (by kernel_rfl) (by kernel_rfl) (by kernel_rfl) old0 (by kernel_rfl) (by kernel_rfl) (by kernel_rfl) (fun _ => by kernel_rfl)) ?_
    exact pk_nil rfl
  intro W_1 x hC hall
  refine then_n ?_
  obtain ⟨a_1, ha⟩ : ∃ a, a = putE x a_0 [(0, some 3), (1, some 4), (2, some 5), (3, some 6), (4, some 7), (5, some 8), (6, some 9), (7, some 10), (8, some 11), (9, some 12)] := ⟨_, rfl⟩
  rw [← ha]
  have hN_1 := size_behind ha hN_0
  have hD_1 := defers_behind ha hD_0
  have bb_1 := bb_0.trans hC.below
  have e1_1 := slot_old ha (by kernel_rfl) e1_0
  have f1_1 := hC.at0 f1_0
  have f1'_1 := hC.at0 f1'_0
  have e12_1 := (slot_new (t := 12) (i := 9) ha hN_0 (by kernel_rfl) (by kernel_rfl)).trans (show x 9 = .bool false from hall 9 (of_decide_eq_true (by kernel_rfl)))
  clear hall hC ha bb_0 hD_0 e1_0 f1_0 f1'_0
  repeat (first | refine wp_seq ?_ | (refine wp_skip ?_; refine then_n ?_))
  refine wp_cond_false e12_1 ?_
  repeat (first | refine wp_seq ?_ | (refine wp_skip ?_; refine then_n ?_))
  refine wp_region_law hN_1 w.heap.size
    [kIs (.pointer (some ⟨w.heap.size, 2, none⟩)), kZ 19 (zy), kIs (.bool false), kIs (.bool true), kIs (.bool true), kIs (.pointer (some ⟨w.heap.size, 2, none⟩)), kIs (.pointer (some ⟨w.heap.size, 2, none⟩)), kIs (.bool true), kIs (.bool false), kIs (.bool false), kIs (.bool false), kIs undef, kIs undef, kIs undef, kIs undef, kIs undef, kIs undef, kIs undef, kIs (.bool false), kIs (.bool false)]
    [ [], [(0, some 13)], [(1, some 14)], [(2, some 15)], [(3, some 16)], [], [(5, some 18)], [(6, some 19)], [(7, some 20)], [(4, some 17), (8, some 21)], [(9, some 22)], [], [(11, some 24)], [], [(13, some 26)], [(12, some 25), (14, some 27)], [(15, some 28)], [(16, some 29)], [(10, some 23), (17, some 30)], [(18, some 31)] ]
    [(0, some 13), (1, some 14), (2, some 15), (3, some 16), (4, some 17), (5, some 18), (6, some 19), (7, some 20), (8, some 21), (9, some 22), (10, some 23), (11, some 24), (12, some 25), (13, some 26), (14, some 27), (15, some 28), (16, some 29), (17, some 30), (18, some 31), (19, some 2)] [(4, true), (10, false)] [11, 12, 13, 14, 15, 16, 17] (by kernel_rfl) (by kernel_rfl) (by kernel_rfl) (by kernel_rfl) (by kernel_rfl) (by kernel_rfl) (by kernel_rfl) bb_1.size ?_ ?_
  ·
    refine pk_cons rfl rfl (st_pure [] [(1, .pointer (some ⟨w.heap.size, 0, none⟩))] (.pointer (some ⟨w.heap.size, 2, none⟩)) rfl hN_1 (by kernel_rfl) (by kernel_rfl) (by kernel_rfl) (old1 e1_1) (by kernel_rfl) (by kernel_rfl) (by kernel_rfl) (fun _ => by kernel_rfl)) ?_
    refine pk_cons rfl rfl (st_loadA f1'_1 (by simp) hN_1 (by kernel_rfl) (by kernel_rfl) rfl rfl) ?_
    refine pk_cons rfl rfl (st_call1 hN_1 (by kernel_rfl) (by kernel_rfl) (by kernel_rfl) rfl rfl fun w x v1 hC h1 => ti (isNone_z (rr h1) hz)) ?_
    refine pk_cons rfl rfl (st_pure [.bool false] [] (.bool true) rfl hN_1 (by kernel_rfl) (by kernel_rfl) (by kernel_rfl) old0 (by kernel_rfl) (by kernel_rfl) (by kernel_rfl) (fun _ => by kernel_rfl)) ?_
    refine pk_cons rfl rfl (st_pure [.bool true] [] (.bool true) rfl hN_1 (by kernel_rfl) (by kernel_rfl) (by kernel_rfl) old0 (by kernel_rfl) (by kernel_rfl) (by kernel_rfl) (fun _ => by kernel_rfl)) ?_
    refine pk_cons rfl rfl (st_pure [] [(1, .pointer (some ⟨w.heap.size, 0, none⟩))] (.pointer (some ⟨w.heap.size, 2, none⟩)) rfl hN_1 (by kernel_rfl) (by kernel_rfl) (by kernel_rfl) (old1 e1_1) (by kernel_rfl) (by kernel_rfl) (by kernel_rfl) (fun _ => by kernel_rfl)) ?_
    refine pk_cons rfl rfl (st_pure [.pointer (some ⟨w.heap.size, 2, none⟩)] [] (.pointer (some ⟨w.heap.size, 2, none⟩)) rfl hN_1 (by kernel_rfl) (by kernel_rfl) (by kernel_rfl) old0 (by kernel_rfl) (by kernel_rfl) (by kernel_rfl) (fun _ => by kernel_rfl)) ?_
    refine pk_cons rfl rfl (st_loadS (s := true) f1'_1 hs (by simp) hN_1 (by kernel_rfl) (by kernel_rfl) rfl rfl) ?_
    refine pk_cons rfl rfl (st_pure [.bool true] [] (.bool false) rfl hN_1 (by kernel_rfl) (by kernel_rfl) (by kernel_rfl) old0 (by kernel_rfl) (by kernel_rfl) (by kernel_rfl) (fun _ => by kernel_rfl)) ?_
    refine pk_cons rfl rfl (st_pure [.bool true, .bool false] [] (.bool false) rfl hN_1 (by kernel_rfl) (by kernel_rfl) (by kernel_rfl) old0 (by kernel_rfl) (by kernel_rfl) (by kernel_rfl) (fun _ => by kernel_rfl)) ?_
    refine pk_cons rfl rfl (st_pure [.bool false] [] (.bool false) rfl hN_1 (by kernel_rfl) (by kernel_rfl) (by kernel_rfl) old0 (by kernel_rfl) (by kernel_rfl) (by kernel_rfl) (fun _ => by kernel_rfl)) ?_
    refine pk_skip rfl ?_
    refine pk_skip rfl ?_
    refine pk_skip rfl ?_
    refine pk_skip rfl ?_
    refine pk_skip rfl ?_
    refine pk_skip rfl ?_
    refine pk_skip rfl ?_
    refine pk_cons rfl rfl (st_pure [.bool false, undef] [] (.bool false) rfl hN_1 (by kernel_rfl) (by kernel_rfl) (by kernel_rfl) old0 (by kernel_rfl) (by kernel_rfl) (by kernel_rfl) (fun _ => by kernel_rfl)) ?_
    refine pk_cons rfl rfl (st_pure [.bool false] [] (.bool false) rfl hN_1 (by kernel_rfl) (by kernel_rfl) (by kernel_rfl) old0 (by kernel_rfl) (by kernel_rfl) (by kernel_rfl) (fun _ => by kernel_rfl)) ?_
    exact pk_nil rfl
  intro W x hC hall
  refine then_n ?_
  obtain ⟨a1, ha⟩ : ∃ a, a = putE x a_1 [(0, some 13), (1, some 14), (2, some 15), (3, some 16), (4, some 17), (5, some 18), (6, some 19), (7, some 20), (8, some 21), (9, some 22), (10, some 23), (11, some 24), (12, some 25), (13, some 26), (14, some 27), (15, some 28), (16, some 29), (17, some 30), (18, some 31), (19, some 2)] := ⟨_, rfl⟩
  rw [← ha]
  have hD1 := defers_behind ha hD_1
  have bb1 := bb_1.trans hC.below
  have e1 := (slot_new (t := 2) (i := 19) ha hN_1 (by kernel_rfl) (by kernel_rfl)).trans (show x 19 = .bool false from hall 19 (of_decide_eq_true (by kernel_rfl)))
  repeat (first | refine wp_seq ?_ | (refine wp_skip ?_; refine then_n ?_))
  refine wp_ret ?_
  repeat (refine then_r ?_)
  exact ret_one (t := 2) rfl hD1 e1 ⟨rfl, bb1⟩
set_option maxRecDepth 100000 in
set_option maxHeartbeats 4000000 in
theorem right_gcd_19 {w : World} {v1 : Value} {zx zy : Int} (hz : zy ≠ 0) (hs : decide (zy < 0) = false) (hg : 1 < ((zgcd [(zx), (zy)] : Nat) : Int)) (h1 : Pr w v1 19 (zx) (zy)) :
    Calls Tryz.prog 11 #[v1] w (fun e w' => e = .returned (.bool false) ∧ Below w.heap.size w w') := by
  obtain ⟨A1, l1, c1, A1', l1', c1', rfl, ⟨r1, u1⟩, r1', u1'⟩ := h1
  obtain ⟨b1, hb1⟩ : ∃ s, s = decide (zx < 0) := ⟨_, rfl⟩
  obtain ⟨b1', hb1'⟩ : ∃ s, s = decide (zy < 0) := ⟨_, rfl⟩
  rw [← hb1, ← hb1']
  have H1 := Lib.hid (show _ ∧ _ ∧ _ ∧ _ ∧ _ ∧ _ from ⟨hb1, hb1', r1, u1, r1', u1'⟩)
  clear hb1 hb1' r1 u1 r1' u1'
  go_enter Tryz.func11, Tryz.ntmps11
  repeat (refine wp_seq ?_)
  refine region_k ?_
  intro K hK
  have HK := Lib.hid hK
  clear hK
  go_wp2
  refine HK.out _ _ ?_
  clear HK
  refine then_n ?_
  obtain ⟨W_0, hW⟩ : ∃ W, W = w.alloc (Obj.cells #[Value.bool b1, Value.slice A1 l1 c1, Value.bool b1', Value.slice A1' l1' c1'] 27) := ⟨_, rfl⟩
  have bb_0 : Below w.heap.size w W_0 := by rw [hW]; exact bal (Below.refl _ _) _
  have K0 : W_0.heap[w.heap.size]? = some (Obj.cells #[Value.bool b1, Value.slice A1 l1 c1, Value.bool b1', Value.slice A1' l1' c1'] 27) := by rw [hW]; exact new_at (by simp)
  rw [← hW]
  obtain ⟨m1, n1, m1', n1', _, _, _, _⟩ := four_cells K0
  have f1_0 : AtR W_0 (w.heap.size) 0 19 (zx) := ⟨A1, l1, c1, by rw [← H1.out.1]; exact m1, n1, A1, l1, c1, rfl, H1.out.2.2.1.below bb_0, H1.out.2.2.2.1⟩
  have f1'_0 : AtR W_0 (w.heap.size) 2 19 (zy) := ⟨A1', l1', c1', by rw [← H1.out.2.1]; exact m1', n1', A1', l1', c1', rfl, H1.out.2.2.2.2.1.below bb_0, H1.out.2.2.2.2.2⟩
  clear m1 n1 m1' n1'
  clear hW K0
  refine name_frame (G := fun a => Code.wp _ _ _ a _) ?_
  intro a_0 ha
  have hN_0 : a_0.tmps.size = 32 := by subst ha; kernel_rfl
  have hD_0 : a_0.defers = [] := by subst ha; rfl
  have e1_0 : a_0.eval (.tmp 1) = .pointer (some ⟨w.heap.size, 0, none⟩) := by subst ha; kernel_rfl
  clear ha
  repeat (first | refine wp_seq ?_ | (refine wp_skip ?_; refine then_n ?_))
  refine wp_region_law hN_0 w.heap.size
    [kIs (.pointer (some ⟨w.heap.size, 0, none⟩)), kZ 19 (zx), kIs (.bool true), kIs (.bool false), kIs (.bool false), kIs (.pointer (some ⟨w.heap.size, 2, none⟩)), kZ 19 (zy), kIs (.bool true), kIs (.bool false), kIs (.bool false)]
    [ [], [(0, some 3)], [(1, some 4)], [(2, some 5)], [(3, some 6)], [], [(5, some 8)], [(6, some 9)], [(7, some 10)], [(4, some 7), (8, some 11)] ]
    [(0, some 3), (1, some 4), (2, some 5), (3, some 6), (4, some 7), (5, some 8), (6, some 9), (7, some 10), (8, some 11), (9, some 12)] [(4, false)] [] (by kernel_rfl) (by kernel_rfl) (by kernel_rfl) (by kernel_rfl) (by kernel_rfl) (by kernel_rfl) (by kernel_rfl) bb_0.size ?_ ?_
  ·
    refine pk_cons rfl rfl (st_pure [] [(1, .pointer (some ⟨w.heap.size, 0, none⟩))] (.pointer (some ⟨w.heap.size, 0, none⟩)) rfl hN_0 (by kernel_rfl) (by kernel_rfl) (by kernel_rfl) (old1 e1_0) (by kernel_rfl) (by kernel_rfl) (by kernel_rfl) (fun _ => by kernel_rfl)) ?_
    refine pk_cons rfl rfl (st_loadA f1_0 (by simp) hN_0 (by kernel_rfl) (by kernel_rfl) rfl rfl) ?_
    refine pk_cons rfl rfl (st_call1 hN_0 (by kernel_rfl) (by kernel_rfl) (by kernel_rfl) rfl rfl fun w x v1 hC h1 => ti (z_right (rr h1))) ?_
    refine pk_cons rfl rfl (st_pure [.bool true] [] (.bool false) rfl hN_0 (by kernel_rfl) (by kernel_rfl) (by kernel_rfl) old0 (by kernel_rfl) (by kernel_rfl) (by kernel_rfl) (fun _ => by kernel_rfl)) ?_
    refine pk_cons rfl rfl (st_pure [.bool false] [] (.bool false) rfl hN_0 (by kernel_rfl) (by kernel_rfl) (by kernel_rfl) old0 (by kernel_rfl) (by kernel_rfl) (by kernel_rfl) (fun _ => by kernel_rfl)) ?_
    refine pk_cons rfl rfl (st_pure [] [(1, .pointer (some ⟨w.heap.size, 0, none⟩))] (.pointer (some ⟨w.heap.size, 2, none⟩)) rfl hN_0 (by kernel_rfl) (by kernel_rfl) (by kernel_rfl) (old1 e1_0) (by kernel_rfl) (by kernel_rfl) (by kernel_rfl) (fun _ => by kernel_rfl)) ?_
    refine pk_cons rfl rfl (st_loadA f1'_0 (by simp) hN_0 (by kernel_rfl) (by kernel_rfl) rfl rfl) ?_
    refine pk_cons rfl rfl (st_call1 hN_0 (by kernel_rfl) (by kernel_rfl) (by kernel_rfl) rfl rfl fun w x v1 hC h1 => ti (z_right (rr h1))) ?_
    refine pk_cons rfl rfl (st_pure [.bool true] [] (.bool false) rfl hN_0 (by kernel_rfl) (by kernel_rfl) (by kernel_rfl) old0 (by kernel_rfl) (by kernel_rfl) (by kernel_rfl) (fun _ => by kernel_rfl)) ?_
    refine pk_cons rfl rfl (st_pure [.bool false, .bool false] [] (.bool false) rfl hN_0 (by kernel_rfl) (by kernel_rfl) (by kernel_rfl) old0 (by kernel_rfl) (by kernel_rfl) (by kernel_rfl) (fun _ => by kernel_rfl)) ?_
    exact pk_nil rfl
  intro W_1 x hC hall
  refine then_n ?_
  obtain ⟨a_1, ha⟩ : ∃ a, a = putE x a_0 [(0, some 3), (1, some 4), (2, some 5), (3, some 6), (4, some 7), (5, some 8), (6, some 9), (7, some 10), (8, some 11), (9, some 12)] := ⟨_, rfl⟩
  rw [← ha]
  have hN_1 := size_behind ha hN_0
  have hD_1 := defers_behind ha hD_0
  have bb_1 := bb_0.trans hC.below
  have e1_1 := slot_old ha (by kernel_rfl) e1_0
  have f1_1 := hC.at0 f1_0
  have f1'_1 := hC.at0 f1'_0
  have e12_1 := (slot_new (t := 12) (i := 9) ha hN_0 (by kernel_rfl) (by kernel_rfl)).trans (show x 9 = .bool false from hall 9 (of_decide_eq_true (by kernel_rfl)))
  clear hall hC ha bb_0 hD_0 e1_0 f1_0 f1'_0
  repeat (first | refine wp_seq ?_ | (refine wp_skip ?_; refine then_n ?_))
  refine wp_cond_false e12_1 ?_
  repeat (first | refine wp_seq ?_ | (refine wp_skip ?_; refine then_n ?_))
  refine wp_region_law hN_1 w.heap.size
    [kIs (.pointer (some ⟨w.heap.size, 2, none⟩)), kZ 19 (zy), kIs (.bool false), kIs (.bool true), kIs (.bool true), kIs (.pointer (some ⟨w.heap.size, 2, none⟩)), kIs (.pointer (some ⟨w.heap.size, 2, none⟩)), kIs (.bool false), kIs (.bool true), kIs (.bool true), kIs (.bool true), kIs (.pointer (some ⟨w.heap.size, 0, none⟩)), kZ 19 (zx), kIs (.pointer (some ⟨w.heap.size, 2, none⟩)), kZ 19 (zy), kZs [(19, (zx)), (19, (zy))], kZ 19 (((zgcd [(zx), (zy)] : Nat) : Int)), kIs (.bool false), kIs (.bool false), kIs (.bool false)]
    [ [], [(0, some 13)], [(1, some 14)], [(2, some 15)], [(3, some 16)], [], [(5, some 18)], [(6, some 19)], [(7, some 20)], [(4, some 17), (8, some 21)], [(9, some 22)], [], [(11, some 24)], [], [(13, some 26)], [(12, some 25), (14, some 27)], [(15, some 28)], [(16, some 29)], [(10, some 23), (17, some 30)], [(18, some 31)] ]
    [(0, some 13), (1, some 14), (2, some 15), (3, some 16), (4, some 17), (5, some 18), (6, some 19), (7, some 20), (8, some 21), (9, some 22), (10, some 23), (11, some 24), (12, some 25), (13, some 26), (14, some 27), (15, some 28), (16, some 29), (17, some 30), (18, some 31), (19, some 2)] [(4, true), (10, true)] [] (by kernel_rfl) (by kernel_rfl) (by kernel_rfl) (by kernel_rfl) (by kernel_rfl) (by kernel_rfl) (by kernel_rfl) bb_1.size ?_ ?_
  ·
    refine pk_cons rfl rfl (st_pure [] [(1, .pointer (some ⟨w.heap.size, 0, none⟩))] (.pointer (some ⟨w.heap.size, 2, none⟩)) rfl hN_1 (by kernel_rfl) (by kernel_rfl) (by kernel_rfl) (old1 e1_1) (by kernel_rfl) (by kernel_rfl) (by kernel_rfl) (fun _ => by kernel_rfl)) ?_
    refine pk_cons rfl rfl (st_loadA f1'_1 (by simp) hN_1 (by kernel_rfl) (by kernel_rfl) rfl rfl) ?_
    refine pk_cons rfl rfl (st_call1 hN_1 (by kernel_rfl) (by kernel_rfl) (by kernel_rfl) rfl rfl fun w x v1 hC h1 => ti (isNone_z (rr h1) hz)) ?_
    refine pk_cons rfl rfl (st_pure [.bool false] [] (.bool true) rfl hN_1 (by kernel_rfl) (by kernel_rfl) (by kernel_rfl) old0 (by kernel_rfl) (by kernel_rfl) (by kernel_rfl) (fun _ => by kernel_rfl)) ?_
    refine pk_cons rfl rfl (st_pure [.bool true] [] (.bool true) rfl hN_1 (by kernel_rfl) (by kernel_rfl) (by kernel_rfl) old0 (by kernel_rfl) (by kernel_rfl) (by kernel_rfl) (fun _ => by kernel_rfl)) ?_
    refine pk_cons rfl rfl (st_pure [] [(1, .pointer (some ⟨w.heap.size, 0, none⟩))] (.pointer (some ⟨w.heap.size, 2, none⟩)) rfl hN_1 (by kernel_rfl) (by kernel_rfl) (by kernel_rfl) (old1 e1_1) (by kernel_rfl) (by kernel_rfl) (by kernel_rfl) (fun _ => by kernel_rfl)) ?_
    refine pk_cons rfl rfl (st_pure [.pointer (some ⟨w.heap.size, 2, none⟩)] [] (.pointer (some ⟨w.heap.size, 2, none⟩)) rfl hN_1 (by kernel_rfl) (by kernel_rfl) (by kernel_rfl) old0 (by kernel_rfl) (by kernel_rfl) (by kernel_rfl) (fun _ => by kernel_rfl)) ?_
    refine pk_cons rfl rfl (st_loadS (s := false) f1'_1 hs (by simp) hN_1 (by kernel_rfl) (by kernel_rfl) rfl rfl) ?_
    refine pk_cons rfl rfl (st_pure [.bool false] [] (.bool true) rfl hN_1 (by kernel_rfl) (by kernel_rfl) (by kernel_rfl) old0 (by kernel_rfl) (by kernel_rfl) (by kernel_rfl) (fun _ => by kernel_rfl)) ?_
    refine pk_cons rfl rfl (st_pure [.bool true, .bool true] [] (.bool true) rfl hN_1 (by kernel_rfl) (by kernel_rfl) (by kernel_rfl) old0 (by kernel_rfl) (by kernel_rfl) (by kernel_rfl) (fun _ => by kernel_rfl)) ?_
    refine pk_cons rfl rfl (st_pure [.bool true] [] (.bool true) rfl hN_1 (by kernel_rfl) (by kernel_rfl) (by kernel_rfl) old0 (by kernel_rfl) (by kernel_rfl) (by kernel_rfl) (fun _ => by kernel_rfl)) ?_
    refine pk_cons rfl rfl (st_pure [] [(1, .pointer (some ⟨w.heap.size, 0, none⟩))] (.pointer (some ⟨w.heap.size, 0, none⟩)) rfl hN_1 (by kernel_rfl) (by kernel_rfl) (by kernel_rfl) (old1 e1_1) (by kernel_rfl) (by kernel_rfl) (by kernel_rfl) (fun _ => by kernel_rfl)) ?_
    refine pk_cons rfl rfl (st_loadA f1_1 (by simp) hN_1 (by kernel_rfl) (by kernel_rfl) rfl rfl) ?_
    refine pk_cons rfl rfl (st_pure [] [(1, .pointer (some ⟨w.heap.size, 0, none⟩))] (.pointer (some ⟨w.heap.size, 2, none⟩)) rfl hN_1 (by kernel_rfl) (by kernel_rfl) (by kernel_rfl) (old1 e1_1) (by kernel_rfl) (by kernel_rfl) (by kernel_rfl) (fun _ => by kernel_rfl)) ?_
    refine pk_cons rfl rfl (st_loadA f1'_1 (by simp) hN_1 (by kernel_rfl) (by kernel_rfl) rfl rfl) ?_
    refine pk_cons rfl rfl (st_list2 hN_1 (by kernel_rfl) (by kernel_rfl) (by kernel_rfl) (by kernel_rfl) (Nat.le_refl _) asR asR rfl) ?_
    refine pk_cons rfl rfl (st_call1 hN_1 (by kernel_rfl) (by kernel_rfl) (by kernel_rfl) rfl rfl fun w x v1 hC h1 => tz (l_gcd 19 (lz h1) (by kernel_rfl) (by decide) (by simp))) ?_
    refine pk_cons rfl rfl (st_call1 hN_1 (by kernel_rfl) (by kernel_rfl) (by kernel_rfl) rfl rfl fun w x v1 hC h1 => ti (isOne_z0 hg ((rr h1).mono (by decide)))) ?_
    refine pk_cons rfl rfl (st_pure [.bool true, .bool false] [] (.bool false) rfl hN_1 (by kernel_rfl) (by kernel_rfl) (by kernel_rfl) old0 (by kernel_rfl) (by kernel_rfl) (by kernel_rfl) (fun _ => by kernel_rfl)) ?_
    refine pk_cons rfl rfl (st_pure [.bool false] [] (.bool false) rfl hN_1 (by kernel_rfl) (by kernel_rfl) (by kernel_rfl) old0 (by kernel_rfl) (by kernel_rfl) (by kernel_rfl) (fun _ => by kernel_rfl)) ?_
    exact pk_nil rfl
  intro W x hC hall
  refine then_n ?_
  obtain ⟨a1, ha⟩ : ∃ a, a = putE x a_1 [(0, some 13), (1, some 14), (2, some 15), (3, some 16), (4, some 17), (5, some 18), (6, some 19), (7, some 20), (8, some 21), (9, some 22), (10, some 23), (11, some 24), (12, some 25), (13, some 26), (14, some 27), (15, some 28), (16, some 29), (17, some 30), (18, some 31), (19, some 2)] := ⟨_, rfl⟩
  rw [← ha]
  have hD1 := defers_behind ha hD_1
  have bb1 := bb_1.trans hC.below
  have e1 := (slot_new (t := 2) (i := 19) ha hN_1 (by kernel_rfl) (by kernel_rfl)).trans (show x 19 = .bool false from hall 19 (of_decide_eq_true (by kernel_rfl)))
  repeat (first | refine wp_seq ?_ | (refine wp_skip ?_; refine then_n ?_))
  refine wp_ret ?_
  repeat (refine then_r ?_)
  exact ret_one (t := 2) rfl hD1 e1 ⟨rfl, bb1⟩
theorem right_no_19 {w : World} {v1 : Value} {zx zy : Int} (hno : ¬ (0 < zy ∧ ((zgcd [(zx), (zy)] : Nat) : Int) = 1)) (h1 : Pr w v1 19 (zx) (zy)) : Calls Tryz.prog 11 #[v1] w (fun e w' => e = .returned (.bool false) ∧ Below w.heap.size w w') := by
  rcases Int.lt_trichotomy zy 0 with h | h | h
  · exact right_neg_19 (Int.ne_of_lt h) (decide_eq_true h) h1
  · exact right_none_19 h h1
  · refine right_gcd_19 (Int.ne_of_gt h) (decide_eq_false (by omega)) ?_ h1
    have := gcd_pos_of h (x := zx)
    have hn : ((zgcd [(zx), (zy)] : Nat) : Int) ≠ 1 := fun e => hno ⟨h, e⟩
    omega
set_option maxRecDepth 100000 in
set_option maxHeartbeats 4000000 in
theorem of_no_19 {w : World} {v1 : Value} {zx zy : Int} (hno : ¬ (0 < zy ∧ ((zgcd [(zx), (zy)] : Nat) : Int) = 1)) (h1 : Pr w v1 19 (zx) (zy)) :
    Calls Tryz.prog 44 #[v1] w (TellsP w 9 (0) (1)) := by
  obtain ⟨A1, l1, c1, A1', l1', c1', rfl, ⟨r1, u1⟩, r1', u1'⟩ := h1
  obtain ⟨b1, hb1⟩ : ∃ s, s = decide (zx < 0) := ⟨_, rfl⟩
  obtain ⟨b1', hb1'⟩ : ∃ s, s = decide (zy < 0) := ⟨_, rfl⟩
  rw [← hb1, ← hb1']
  have H1 := Lib.hid (show _ ∧ _ ∧ _ ∧ _ ∧ _ ∧ _ from ⟨hb1, hb1', r1, u1, r1', u1'⟩)
  clear hb1 hb1' r1 u1 r1' u1'
  go_enter Tryz.func44, Tryz.ntmps44
  repeat (refine wp_seq ?_)
  refine region_k ?_
  intro K hK
  have HK := Lib.hid hK
  clear hK
  go_wp2
  refine HK.out _ _ ?_
  clear HK
  refine then_n ?_
  obtain ⟨W_0, hW⟩ : ∃ W, W = (w.alloc (Obj.cells #[Value.bool b1, Value.slice A1 l1 c1, Value.bool b1', Value.slice A1' l1' c1'] 27)).alloc (Obj.cells #[Value.bool false, Value.slice none 0 0, Value.bool false, Value.slice none 0 0] 53) := ⟨_, rfl⟩
  have bb_0 : Below w.heap.size w W_0 := by rw [hW]; exact bal (bal (Below.refl _ _) _) _
  have K0 : W_0.heap[w.heap.size]? = some (Obj.cells #[Value.bool b1, Value.slice A1 l1 c1, Value.bool b1', Value.slice A1' l1' c1'] 27) := by rw [hW]; rw [Below.heap_alloc _ _ _ (by simp <;> omega)]; exact new_at (by simp)
  have K1 : W_0.heap[w.heap.size + 1]? = some (Obj.cells #[Value.bool false, Value.slice none 0 0, Value.bool false, Value.slice none 0 0] 53) := by rw [hW]; exact new_at (by simp)
  rw [← hW]
  obtain ⟨m1, n1, m1', n1', _, _, _, _⟩ := four_cells K0
  have f1_0 : AtR W_0 (w.heap.size) 0 19 (zx) := ⟨A1, l1, c1, by rw [← H1.out.1]; exact m1, n1, A1, l1, c1, rfl, H1.out.2.2.1.below bb_0, H1.out.2.2.2.1⟩
  have f1'_0 : AtR W_0 (w.heap.size) 2 19 (zy) := ⟨A1', l1', c1', by rw [← H1.out.2.1]; exact m1', n1', A1', l1', c1', rfl, H1.out.2.2.2.2.1.below bb_0, H1.out.2.2.2.2.2⟩
  clear m1 n1 m1' n1'
  have R_0 : Holds_ W_0 (w.heap.size + 1) #[Value.bool false, Value.slice none 0 0, Value.bool false, Value.slice none 0 0] := ⟨⟨_, K1⟩, by simp [noDig]⟩
  clear hW K0 K1
  refine name_frame (G := fun a => Code.wp _ _ _ a _) ?_
  intro a_0 ha
  have hN_0 : a_0.tmps.size = 17 := by subst ha; kernel_rfl
  have hD_0 : a_0.defers = [] := by subst ha; rfl
  have e1_0 : a_0.eval (.tmp 1) = .pointer (some ⟨w.heap.size, 0, none⟩) := by subst ha; kernel_rfl
  have e2_0 : a_0.eval (.tmp 2) = .pointer (some ⟨w.heap.size + 1, 0, none⟩) := by subst ha; kernel_rfl
  clear ha
  repeat (first | refine wp_seq ?_ | (refine wp_skip ?_; refine then_n ?_))
  refine wp_region_law hN_0 w.heap.size
    [kP 19 (zx) (zy), kIs (.bool false), kIs (.bool true)]
    [ [], [(0, some 3)], [(1, some 4)] ]
    [(0, some 3), (1, some 4), (2, some 5)] [] [] (by kernel_rfl) (by kernel_rfl) (by kernel_rfl) (by kernel_rfl) (by kernel_rfl) (by kernel_rfl) (by kernel_rfl) bb_0.size ?_ ?_
  ·
    refine pk_cons rfl rfl (st_load4P f1_0 f1'_0 (by simp) e1_0 hN_0 (by kernel_rfl) rfl) ?_
    refine pk_cons rfl rfl (st_call1 hN_0 (by kernel_rfl) (by kernel_rfl) (by kernel_rfl) rfl rfl fun w x v1 hC h1 => ti (right_no_19 hno (pm (by decide) h1))) ?_
    refine pk_cons rfl rfl (st_pure [.bool false] [] (.bool true) rfl hN_0 (by kernel_rfl) (by kernel_rfl) (by kernel_rfl) old0 (by kernel_rfl) (by kernel_rfl) (by kernel_rfl) (fun _ => by kernel_rfl)) ?_
    exact pk_nil rfl
  intro W_1 x hC hall
  refine then_n ?_
  obtain ⟨a_1, ha⟩ : ∃ a, a = putE x a_0 [(0, some 3), (1, some 4), (2, some 5)] := ⟨_, rfl⟩
  rw [← ha]
  have hN_1 := size_behind ha hN_0
  have hD_1 := defers_behind ha hD_0
  have bb_1 := bb_0.trans hC.below
  have e1_1 := slot_old ha (by kernel_rfl) e1_0
  have e2_1 := slot_old ha (by kernel_rfl) e2_0
  have f1_1 := hC.at0 f1_0
  have f1'_1 := hC.at0 f1'_0
  have R_1 := hC.holds R_0
  have e5_1 := (slot_new (t := 5) (i := 2) ha hN_0 (by kernel_rfl) (by kernel_rfl)).trans (show x 2 = .bool true from hall 2 (of_decide_eq_true (by kernel_rfl)))
  clear hall hC ha bb_0 hD_0 e1_0 e2_0 f1_0 f1'_0 R_0
  repeat (first | refine wp_seq ?_ | (refine wp_skip ?_; refine then_n ?_))
  refine wp_cond_true e5_1 ?_
  repeat (first | refine wp_seq ?_ | (refine wp_skip ?_; refine then_n ?_))
  refine wp_region_res hN_1 w.heap.size (w.heap.size + 1) R_1 (by omega)
    [kP 9 (0) (1), kRes (w.heap.size + 1) 9 (0) (1)]
    [ [], [(0, some 6)] ]
    [(0, some 6), (1, none)] [] [] (by kernel_rfl) (by kernel_rfl) (by kernel_rfl) (by kernel_rfl) (by kernel_rfl) (by kernel_rfl) (by kernel_rfl) bb_1.size ?_ ?_
  ·
    refine pk_cons rfl rfl (st_call0 [] hN_1 (by kernel_rfl) (by kernel_rfl) rfl rfl fun w x hC => tp none_9) ?_
    refine pk_cons rfl rfl (st_resF R_1 rfl (by simp) e2_1 hN_1 (by kernel_rfl) (by kernel_rfl) rfl rfl) ?_
    exact pk_nil rfl
  intro W x hC hall
  refine then_n ?_
  obtain ⟨a1, ha⟩ : ∃ a, a = putE x a_1 [(0, some 6), (1, none)] := ⟨_, rfl⟩
  rw [← ha]
  have hD1 := defers_behind ha hD_1
  have bb1 := bb_1.trans hC.below
  obtain ⟨cs, hg, hP⟩ := (show (kRes (w.heap.size + 1) 9 (0) (1)).sem _ _ _ _ from hall 1 (of_decide_eq_true (by kernel_rfl)))
  have e1 := slot_old (t := 2) ha (by kernel_rfl) e2_1
  repeat (first | refine wp_seq ?_ | (refine wp_skip ?_; refine then_n ?_))
  refine wp_ret ?_
  repeat (refine then_r ?_)
  exact ret_cellF (t := 2) rfl hD1 e1 hg hP fun v hv => ⟨v, rfl, hv, bb1⟩
set_option maxRecDepth 100000 in
set_option maxHeartbeats 4000000 in
theorem Text_no_19 {w : World} {v1 : Value} {zx zy : Int} (hno : ¬ (0 < zy ∧ ((zgcd [(zx), (zy)] : Nat) : Int) = 1)) (HT : Hid (Tab w ∧ 4 ≤ w.heap.size)) (h1 : Pr w v1 19 (zx) (zy)) :
    Calls Tryz.prog 21 #[v1] w (fun e w' => e = .returned (.string (ztext ((0 : Rat).num))) ∧ Below w.heap.size w w') := by
  obtain ⟨A1, l1, c1, A1', l1', c1', rfl, ⟨r1, u1⟩, r1', u1'⟩ := h1
  obtain ⟨b1, hb1⟩ : ∃ s, s = decide (zx < 0) := ⟨_, rfl⟩
  obtain ⟨b1', hb1'⟩ : ∃ s, s = decide (zy < 0) := ⟨_, rfl⟩
  rw [← hb1, ← hb1']
  have H1 := Lib.hid (show _ ∧ _ ∧ _ ∧ _ ∧ _ ∧ _ from ⟨hb1, hb1', r1, u1, r1', u1'⟩)
  clear hb1 hb1' r1 u1 r1' u1'
  go_enter Tryz.func21, Tryz.ntmps21
  repeat (refine wp_seq ?_)
  refine region_k ?_
  intro K hK
  have HK := Lib.hid hK
  clear hK
  go_wp2
  refine HK.out _ _ ?_
  clear HK
  refine then_n ?_
  obtain ⟨W_0, hW⟩ : ∃ W, W = w.alloc (Obj.cells #[Value.bool b1, Value.slice A1 l1 c1, Value.bool b1', Value.slice A1' l1' c1'] 27) := ⟨_, rfl⟩
  have bb_0 : Below w.heap.size w W_0 := by rw [hW]; exact bal (Below.refl _ _) _
  have K0 : W_0.heap[w.heap.size]? = some (Obj.cells #[Value.bool b1, Value.slice A1 l1 c1, Value.bool b1', Value.slice A1' l1' c1'] 27) := by rw [hW]; exact new_at (by simp)
  rw [← hW]
  obtain ⟨m1, n1, m1', n1', _, _, _, _⟩ := four_cells K0
  have f1_0 : AtR W_0 (w.heap.size) 0 19 (zx) := ⟨A1, l1, c1, by rw [← H1.out.1]; exact m1, n1, A1, l1, c1, rfl, H1.out.2.2.1.below bb_0, H1.out.2.2.2.1⟩
  have f1'_0 : AtR W_0 (w.heap.size) 2 19 (zy) := ⟨A1', l1', c1', by rw [← H1.out.2.1]; exact m1', n1', A1', l1', c1', rfl, H1.out.2.2.2.2.1.below bb_0, H1.out.2.2.2.2.2⟩
  clear m1 n1 m1' n1'
  clear hW K0
  refine name_frame (G := fun a => Code.wp _ _ _ a _) ?_
  intro a_0 ha
  have hN_0 : a_0.tmps.size = 6 := by subst ha; kernel_rfl
  have hD_0 : a_0.defers = [] := by subst ha; rfl
  have e1_0 : a_0.eval (.tmp 1) = .pointer (some ⟨w.heap.size, 0, none⟩) := by subst ha; kernel_rfl
  clear ha
  repeat (first | refine wp_seq ?_ | (refine wp_skip ?_; refine then_n ?_))
  refine wp_region_law hN_0 w.heap.size
    [kP 19 (zx) (zy), kP 9 (0) (1), kIs (.string (ztext ((0 : Rat).num))), kIs (.string (ztext ((0 : Rat).num)))]
    [ [], [(0, some 3)], [(1, some 4)], [(2, some 5)] ]
    [(0, some 3), (1, some 4), (2, some 5), (3, some 2)] [] [] (by kernel_rfl) (by kernel_rfl) (by kernel_rfl) (by kernel_rfl) (by kernel_rfl) (by kernel_rfl) (by kernel_rfl) bb_0.size ?_ ?_
  ·
    refine pk_cons rfl rfl (st_load4P f1_0 f1'_0 (by simp) e1_0 hN_0 (by kernel_rfl) rfl) ?_
    refine pk_cons rfl rfl (st_call1 hN_0 (by kernel_rfl) (by kernel_rfl) (by kernel_rfl) rfl rfl fun w x v1 hC h1 => tp (of_no_19 hno (pm (by decide) h1))) ?_
    refine pk_cons rfl rfl (st_call1 hN_0 (by kernel_rfl) (by kernel_rfl) (by kernel_rfl) rfl rfl fun w x v1 hC h1 => ti (decimal_9w (a := (0 : Rat)) (Lib.hid ⟨HT.out.1.below (bb_0.trans hC.below) HT.out.2, Nat.le_trans HT.out.2 (bb_0.trans hC.below).size⟩) rfl (pe0 h1))) ?_
    refine pk_cons rfl rfl (st_pure [.string (ztext ((0 : Rat).num))] [] (.string (ztext ((0 : Rat).num))) rfl hN_0 (by kernel_rfl) (by kernel_rfl) (by kernel_rfl) old0 (by kernel_rfl) (by kernel_rfl) (by kernel_rfl) (fun _ => by kernel_rfl)) ?_
    exact pk_nil rfl
  intro W x hC hall
  refine then_n ?_
  obtain ⟨a1, ha⟩ : ∃ a, a = putE x a_0 [(0, some 3), (1, some 4), (2, some 5), (3, some 2)] := ⟨_, rfl⟩
  rw [← ha]
  have hD1 := defers_behind ha hD_0
  have bb1 := bb_0.trans hC.below
  have e1 := (slot_new (t := 2) (i := 3) ha hN_0 (by kernel_rfl) (by kernel_rfl)).trans (show x 3 = .string (ztext ((0 : Rat).num)) from hall 3 (of_decide_eq_true (by kernel_rfl)))
  repeat (first | refine wp_seq ?_ | (refine wp_skip ?_; refine then_n ?_))
  refine wp_ret ?_
  repeat (refine then_r ?_)
  exact ret_one (t := 2) rfl hD1 e1 ⟨rfl, bb1⟩
set_option maxRecDepth 100000 in
set_option maxHeartbeats 4000000 in
theorem same_num_9 {w : World} {v1 v2 : Value} {zx zy zx' zy' : Int} (hne : zx ≠ zx') (h1 : Pr w v1 9 (zx) (zy)) (h2 : Pr w v2 9 (zx') (zy')) :
    Calls Tryz.prog 32 #[v1, v2] w (fun e w' => e = .returned (.bool false) ∧ Below w.heap.size w w') := by
  obtain ⟨A1, l1, c1, A1', l1', c1', rfl, ⟨r1, u1⟩, r1', u1'⟩ := h1
  obtain ⟨b1, hb1⟩ : ∃ s, s = decide (zx < 0) := ⟨_, rfl⟩
  obtain ⟨b1', hb1'⟩ : ∃ s, s = decide (zy < 0) := ⟨_, rfl⟩
  rw [← hb1, ← hb1']
  have H1 := Lib.hid (show _ ∧ _ ∧ _ ∧ _ ∧ _ ∧ _ from ⟨hb1, hb1', r1, u1, r1', u1'⟩)
  clear hb1 hb1' r1 u1 r1' u1'
  obtain ⟨A2, l2, c2, A2', l2', c2', rfl, ⟨r2, u2⟩, r2', u2'⟩ := h2
  obtain ⟨b2, hb2⟩ : ∃ s, s = decide (zx' < 0) := ⟨_, rfl⟩
  obtain ⟨b2', hb2'⟩ : ∃ s, s = decide (zy' < 0) := ⟨_, rfl⟩
  rw [← hb2, ← hb2']
  have H2 := Lib.hid (show _ ∧ _ ∧ _ ∧ _ ∧ _ ∧ _ from ⟨hb2, hb2', r2, u2, r2', u2'⟩)
  clear hb2 hb2' r2 u2 r2' u2'
  go_enter Tryz.func32, Tryz.ntmps32
  repeat (refine wp_seq ?_)
  refine region_k ?_
  intro K hK
  have HK := Lib.hid hK
  clear hK
  go_wp2
  refine HK.out _ _ ?_
  clear HK
  refine then_n ?_
  obtain ⟨W_0, hW⟩ : ∃ W, W = (w.alloc (Obj.cells #[Value.bool b1, Value.slice A1 l1 c1, Value.bool b1', Value.slice A1' l1' c1'] 27)).alloc (Obj.cells #[Value.bool b2, Value.slice A2 l2 c2, Value.bool b2', Value.slice A2' l2' c2'] 27) := ⟨_, rfl⟩
  have bb_0 : Below w.heap.size w W_0 := by rw [hW]; exact bal (bal (Below.refl _ _) _) _
  have K0 : W_0.heap[w.heap.size]? = some (Obj.cells #[Value.bool b1, Value.slice A1 l1 c1, Value.bool b1', Value.slice A1' l1' c1'] 27) := by rw [hW]; rw [Below.heap_alloc _ _ _ (by simp <;> omega)]; exact new_at (by simp)
  have K1 : W_0.heap[w.heap.size + 1]? = some (Obj.cells #[Value.bool b2, Value.slice A2 l2 c2, Value.bool b2', Value.slice A2' l2' c2'] 27) := by rw [hW]; exact new_at (by simp)
  rw [← hW]
  obtain ⟨m1, n1, m1', n1', _, _, _, _⟩ := four_cells K0
  have f1_0 : AtR W_0 (w.heap.size) 0 9 (zx) := ⟨A1, l1, c1, by rw [← H1.out.1]; exact m1, n1, A1, l1, c1, rfl, H1.out.2.2.1.below bb_0, H1.out.2.2.2.1⟩
  have f1'_0 : AtR W_0 (w.heap.size) 2 9 (zy) := ⟨A1', l1', c1', by rw [← H1.out.2.1]; exact m1', n1', A1', l1', c1', rfl, H1.out.2.2.2.2.1.below bb_0, H1.out.2.2.2.2.2⟩
  clear m1 n1 m1' n1'
  obtain ⟨m2, n2, m2', n2', _, _, _, _⟩ := four_cells K1
  have f2_0 : AtR W_0 (w.heap.size + 1) 0 9 (zx') := ⟨A2, l2, c2, by rw [← H2.out.1]; exact m2, n2, A2, l2, c2, rfl, H2.out.2.2.1.below bb_0, H2.out.2.2.2.1⟩
  have f2'_0 : AtR W_0 (w.heap.size + 1) 2 9 (zy') := ⟨A2', l2', c2', by rw [← H2.out.2.1]; exact m2', n2', A2', l2', c2', rfl, H2.out.2.2.2.2.1.below bb_0, H2.out.2.2.2.2.2⟩
  clear m2 n2 m2' n2'
  clear hW K0 K1
  refine name_frame (G := fun a => Code.wp _ _ _ a _) ?_
  intro a_0 ha
  have hN_0 : a_0.tmps.size = 17 := by subst ha; kernel_rfl
  have hD_0 : a_0.defers = [] := by subst ha; rfl
  have e2_0 : a_0.eval (.tmp 2) = .pointer (some ⟨w.heap.size, 0, none⟩) := by subst ha; kernel_rfl
  have e3_0 : a_0.eval (.tmp 3) = .pointer (some ⟨w.heap.size + 1, 0, none⟩) := by subst ha; kernel_rfl
  clear ha
  repeat (first | refine wp_seq ?_ | (refine wp_skip ?_; refine then_n ?_))
  refine wp_region_law hN_0 w.heap.size
    [kIs (.pointer (some ⟨w.heap.size, 0, none⟩)), kZ 9 (zx), kIs (.pointer (some ⟨w.heap.size + 1, 0, none⟩)), kZ 9 (zx'), kIs (.bool false), kIs (.bool false), kIs undef, kIs undef, kIs undef, kIs undef, kIs undef, kIs (.bool false), kIs (.bool false)]
    [ [], [(0, some 5)], [], [(2, some 7)], [(1, some 6), (3, some 8)], [(4, some 9)], [], [(6, some 11)], [], [(8, some 13)], [(7, some 12), (9, some 14)], [(5, some 10), (10, some 15)], [(11, some 16)] ]
    [(0, some 5), (1, some 6), (2, some 7), (3, some 8), (4, some 9), (5, some 10), (6, some 11), (7, some 12), (8, some 13), (9, some 14), (10, some 15), (11, some 16), (12, some 4)] [(5, false)] [6, 7, 8, 9, 10] (by kernel_rfl) (by kernel_rfl) (by kernel_rfl) (by kernel_rfl) (by kernel_rfl) (by kernel_rfl) (by kernel_rfl) bb_0.size ?_ ?_
  ·
    refine pk_cons rfl rfl (st_pure [] [(2, .pointer (some ⟨w.heap.size, 0, none⟩))] (.pointer (some ⟨w.heap.size, 0, none⟩)) rfl hN_0 (by kernel_rfl) (by kernel_rfl) (by kernel_rfl) (old1 e2_0) (by kernel_rfl) (by kernel_rfl) (by kernel_rfl) (fun _ => by kernel_rfl)) ?_
    refine pk_cons rfl rfl (st_loadA f1_0 (by simp) hN_0 (by kernel_rfl) (by kernel_rfl) rfl rfl) ?_
    refine pk_cons rfl rfl (st_pure [] [(3, .pointer (some ⟨w.heap.size + 1, 0, none⟩))] (.pointer (some ⟨w.heap.size + 1, 0, none⟩)) rfl hN_0 (by kernel_rfl) (by kernel_rfl) (by kernel_rfl) (old1 e3_0) (by kernel_rfl) (by kernel_rfl) (by kernel_rfl) (fun _ => by kernel_rfl)) ?_
    refine pk_cons rfl rfl (st_loadA f2_0 (by simp) hN_0 (by kernel_rfl) (by kernel_rfl) rfl rfl) ?_
    refine pk_cons rfl rfl (st_call2 hN_0 (by kernel_rfl) (by kernel_rfl) (by kernel_rfl) (by kernel_rfl) (by kernel_rfl) rfl rfl rfl fun w x v1 v2 hC h1 h2 => ti (z_sameInt_no (rr h1) (rr h2) hne)) ?_
    refine pk_cons rfl rfl (st_pure [.bool false] [] (.bool false) rfl hN_0 (by kernel_rfl) (by kernel_rfl) (by kernel_rfl) old0 (by kernel_rfl) (by kernel_rfl) (by kernel_rfl) (fun _ => by kernel_rfl)) ?_
    refine pk_skip rfl ?_
    refine pk_skip rfl ?_
    refine pk_skip rfl ?_
    refine pk_skip rfl ?_
    refine pk_skip rfl ?_
    refine pk_cons rfl rfl (st_pure [.bool false, undef] [] (.bool false) rfl hN_0 (by kernel_rfl) (by kernel_rfl) (by kernel_rfl) old0 (by kernel_rfl) (by kernel_rfl) (by kernel_rfl) (fun _ => by kernel_rfl)) ?_
    refine pk_cons rfl rfl (st_pure [.bool false] [] (.bool false) rfl hN_0 (by kernel_rfl) (by kernel_rfl) (by kernel_rfl) old0 (by kernel_rfl) (by kernel_rfl) (by kernel_rfl) (fun _ => by kernel_rfl)) ?_
    exact pk_nil rfl
  intro W x hC hall
  refine then_n ?_
  obtain ⟨a1, ha⟩ : ∃ a, a = putE x a_0 [(0, some 5), (1, some 6), (2, some 7), (3, some 8), (4, some 9), (5, some 10), (6, some 11), (7, some 12), (8, some 13), (9, some 14), (10, some 15), (11, some 16), (12, some 4)] := ⟨_, rfl⟩
  rw [← ha]
  have hD1 := defers_behind ha hD_0
  have bb1 := bb_0.trans hC.below
  have e1 := (slot_new (t := 4) (i := 12) ha hN_0 (by kernel_rfl) (by kernel_rfl)).trans (show x 12 = .bool false from hall 12 (of_decide_eq_true (by kernel_rfl)))
  repeat (first | refine wp_seq ?_ | (refine wp_skip ?_; refine then_n ?_))
  refine wp_ret ?_
  repeat (refine then_r ?_)
  exact ret_one (t := 4) rfl hD1 e1 ⟨rfl, bb1⟩
set_option maxRecDepth 100000 in
set_option maxHeartbeats 4000000 in
theorem lawSame_num_9 {w : World} {v1 v2 : Value} {zx zy zx' zy' : Int} (hne : zx ≠ zx') (h1 : Pr w v1 9 (zx) (zy)) (h2 : Pr w v2 9 (zx') (zy')) :
    Calls Tryz.prog 9 #[v1, v2] w (fun e w' => e = .returned (.bool false) ∧ Below w.heap.size w w') := by
  obtain ⟨A1, l1, c1, A1', l1', c1', rfl, ⟨r1, u1⟩, r1', u1'⟩ := h1
  obtain ⟨b1, hb1⟩ : ∃ s, s = decide (zx < 0) := ⟨_, rfl⟩
  obtain ⟨b1', hb1'⟩ : ∃ s, s = decide (zy < 0) := ⟨_, rfl⟩
  rw [← hb1, ← hb1']
  have H1 := Lib.hid (show _ ∧ _ ∧ _ ∧ _ ∧ _ ∧ _ from ⟨hb1, hb1', r1, u1, r1', u1'⟩)
  clear hb1 hb1' r1 u1 r1' u1'
  obtain ⟨A2, l2, c2, A2', l2', c2', rfl, ⟨r2, u2⟩, r2', u2'⟩ := h2
  obtain ⟨b2, hb2⟩ : ∃ s, s = decide (zx' < 0) := ⟨_, rfl⟩
  obtain ⟨b2', hb2'⟩ : ∃ s, s = decide (zy' < 0) := ⟨_, rfl⟩
  rw [← hb2, ← hb2']
  have H2 := Lib.hid (show _ ∧ _ ∧ _ ∧ _ ∧ _ ∧ _ from ⟨hb2, hb2', r2, u2, r2', u2'⟩)
  clear hb2 hb2' r2 u2 r2' u2'
  go_enter Tryz.func9, Tryz.ntmps9
  repeat (refine wp_seq ?_)
  refine region_k ?_
  intro K hK
  have HK := Lib.hid hK
  clear hK
  go_wp2
  refine HK.out _ _ ?_
  clear HK
  refine then_n ?_
  obtain ⟨W_0, hW⟩ : ∃ W, W = (w.alloc (Obj.cells #[Value.bool b1, Value.slice A1 l1 c1, Value.bool b1', Value.slice A1' l1' c1'] 27)).alloc (Obj.cells #[Value.bool b2, Value.slice A2 l2 c2, Value.bool b2', Value.slice A2' l2' c2'] 27) := ⟨_, rfl⟩
  have bb_0 : Below w.heap.size w W_0 := by rw [hW]; exact bal (bal (Below.refl _ _) _) _
  have K0 : W_0.heap[w.heap.size]? = some (Obj.cells #[Value.bool b1, Value.slice A1 l1 c1, Value.bool b1', Value.slice A1' l1' c1'] 27) := by rw [hW]; rw [Below.heap_alloc _ _ _ (by simp <;> omega)]; exact new_at (by simp)
  have K1 : W_0.heap[w.heap.size + 1]? = some (Obj.cells #[Value.bool b2, Value.slice A2 l2 c2, Value.bool b2', Value.slice A2' l2' c2'] 27) := by rw [hW]; exact new_at (by simp)
  rw [← hW]
  obtain ⟨m1, n1, m1', n1', _, _, _, _⟩ := four_cells K0
  have f1_0 : AtR W_0 (w.heap.size) 0 9 (zx) := ⟨A1, l1, c1, by rw [← H1.out.1]; exact m1, n1, A1, l1, c1, rfl, H1.out.2.2.1.below bb_0, H1.out.2.2.2.1⟩
  have f1'_0 : AtR W_0 (w.heap.size) 2 9 (zy) := ⟨A1', l1', c1', by rw [← H1.out.2.1]; exact m1', n1', A1', l1', c1', rfl, H1.out.2.2.2.2.1.below bb_0, H1.out.2.2.2.2.2⟩
  clear m1 n1 m1' n1'
  obtain ⟨m2, n2, m2', n2', _, _, _, _⟩ := four_cells K1
  have f2_0 : AtR W_0 (w.heap.size + 1) 0 9 (zx') := ⟨A2, l2, c2, by rw [← H2.out.1]; exact m2, n2, A2, l2, c2, rfl, H2.out.2.2.1.below bb_0, H2.out.2.2.2.1⟩
  have f2'_0 : AtR W_0 (w.heap.size + 1) 2 9 (zy') := ⟨A2', l2', c2', by rw [← H2.out.2.1]; exact m2', n2', A2', l2', c2', rfl, H2.out.2.2.2.2.1.below bb_0, H2.out.2.2.2.2.2⟩
  clear m2 n2 m2' n2'
  clear hW K0 K1
  refine name_frame (G := fun a => Code.wp _ _ _ a _) ?_
  intro a_0 ha
  have hN_0 : a_0.tmps.size = 8 := by subst ha; kernel_rfl
  have hD_0 : a_0.defers = [] := by subst ha; rfl
  have e2_0 : a_0.eval (.tmp 2) = .pointer (some ⟨w.heap.size, 0, none⟩) := by subst ha; kernel_rfl
  have e3_0 : a_0.eval (.tmp 3) = .pointer (some ⟨w.heap.size + 1, 0, none⟩) := by subst ha; kernel_rfl
  clear ha
  repeat (first | refine wp_seq ?_ | (refine wp_skip ?_; refine then_n ?_))
  refine wp_region_law hN_0 w.heap.size
    [kP 9 (zx) (zy), kP 9 (zx') (zy'), kIs (.bool false), kIs (.bool false)]
    [ [], [], [(0, some 5), (1, some 6)], [(2, some 7)] ]
    [(0, some 5), (1, some 6), (2, some 7), (3, some 4)] [] [] (by kernel_rfl) (by kernel_rfl) (by kernel_rfl) (by kernel_rfl) (by kernel_rfl) (by kernel_rfl) (by kernel_rfl) bb_0.size ?_ ?_
  ·
    refine pk_cons rfl rfl (st_load4P f1_0 f1'_0 (by simp) e2_0 hN_0 (by kernel_rfl) rfl) ?_
    refine pk_cons rfl rfl (st_load4P f2_0 f2'_0 (by simp) e3_0 hN_0 (by kernel_rfl) rfl) ?_
    refine pk_cons rfl rfl (st_call2 hN_0 (by kernel_rfl) (by kernel_rfl) (by kernel_rfl) (by kernel_rfl) (by kernel_rfl) rfl rfl rfl fun w x v1 v2 hC h1 h2 => ti (same_num_9 hne (pm (by decide) h1) (pm (by decide) h2))) ?_
    refine pk_cons rfl rfl (st_pure [.bool false] [] (.bool false) rfl hN_0 (by kernel_rfl) (by kernel_rfl) (by kernel_rfl) old0 (by kernel_rfl) (by kernel_rfl) (by kernel_rfl) (fun _ => by kernel_rfl)) ?_
    exact pk_nil rfl
  intro W x hC hall
  refine then_n ?_
  obtain ⟨a1, ha⟩ : ∃ a, a = putE x a_0 [(0, some 5), (1, some 6), (2, some 7), (3, some 4)] := ⟨_, rfl⟩
  rw [← ha]
  have hD1 := defers_behind ha hD_0
  have bb1 := bb_0.trans hC.below
  have e1 := (slot_new (t := 4) (i := 3) ha hN_0 (by kernel_rfl) (by kernel_rfl)).trans (show x 3 = .bool false from hall 3 (of_decide_eq_true (by kernel_rfl)))
  repeat (first | refine wp_seq ?_ | (refine wp_skip ?_; refine then_n ?_))
  refine wp_ret ?_
  repeat (refine then_r ?_)
  exact ret_one (t := 4) rfl hD1 e1 ⟨rfl, bb1⟩
set_option maxRecDepth 100000 in
set_option maxHeartbeats 4000000 in
theorem same_den_9 {w : World} {v1 v2 : Value} {zx zy zy' : Int} (hne : zy ≠ zy') (h1 : Pr w v1 9 (zx) (zy)) (h2 : Pr w v2 9 (zx) (zy')) :
    Calls Tryz.prog 32 #[v1, v2] w (fun e w' => e = .returned (.bool false) ∧ Below w.heap.size w w') := by
  obtain ⟨A1, l1, c1, A1', l1', c1', rfl, ⟨r1, u1⟩, r1', u1'⟩ := h1
  obtain ⟨b1, hb1⟩ : ∃ s, s = decide (zx < 0) := ⟨_, rfl⟩
  obtain ⟨b1', hb1'⟩ : ∃ s, s = decide (zy < 0) := ⟨_, rfl⟩
  rw [← hb1, ← hb1']
  have H1 := Lib.hid (show _ ∧ _ ∧ _ ∧ _ ∧ _ ∧ _ from ⟨hb1, hb1', r1, u1, r1', u1'⟩)
  clear hb1 hb1' r1 u1 r1' u1'
  obtain ⟨A2, l2, c2, A2', l2', c2', rfl, ⟨r2, u2⟩, r2', u2'⟩ := h2
  obtain ⟨b2, hb2⟩ : ∃ s, s = decide (zx < 0) := ⟨_, rfl⟩
  obtain ⟨b2', hb2'⟩ : ∃ s, s = decide (zy' < 0) := ⟨_, rfl⟩
  rw [← hb2, ← hb2']
  have H2 := Lib.hid (show _ ∧ _ ∧ _ ∧ _ ∧ _ ∧ _ from ⟨hb2, hb2', r2, u2, r2', u2'⟩)
  clear hb2 hb2' r2 u2 r2' u2'
  go_enter Tryz.func32, Tryz.ntmps32
  repeat (refine wp_seq ?_)
  refine region_k ?_
  intro K hK
  have HK := Lib.hid hK
  clear hK
  go_wp2
  refine HK.out _ _ ?_
  clear HK
  refine then_n ?_
  obtain ⟨W_0, hW⟩ : ∃ W, W = (w.alloc (Obj.cells #[Value.bool b1, Value.slice A1 l1 c1, Value.bool b1', Value.slice A1' l1' c1'] 27)).alloc (Obj.cells #[Value.bool b2, Value.slice A2 l2 c2, Value.bool b2', Value.slice A2' l2' c2'] 27) := ⟨_, rfl⟩
  have bb_0 : Below w.heap.size w W_0 := by rw [hW]; exact bal (bal (Below.refl _ _) _) _
  have K0 : W_0.heap[w.heap.size]? = some (Obj.cells #[Value.bool b1, Value.slice A1 l1 c1, Value.bool b1', Value.slice A1' l1' c1'] 27) := by rw [hW]; rw [Below.heap_alloc _ _ _ (by simp <;> omega)]; exact new_at (by simp)
  have K1 : W_0.heap[w.heap.size + 1]? = some (Obj.cells #[Value.bool b2, Value.slice A2 l2 c2, Value.bool b2', Value.slice A2' l2' c2'] 27) := by rw [hW]; exact new_at (by simp)
  rw [← hW]
  obtain ⟨m1, n1, m1', n1', _, _, _, _⟩ := four_cells K0
  have f1_0 : AtR W_0 (w.heap.size) 0 9 (zx) := ⟨A1, l1, c1, by rw [← H1.out.1]; exact m1, n1, A1, l1, c1, rfl, H1.out.2.2.1.below bb_0, H1.out.2.2.2.1⟩
  have f1'_0 : AtR W_0 (w.heap.size) 2 9 (zy) := ⟨A1', l1', c1', by rw [← H1.out.2.1]; exact m1', n1', A1', l1', c1', rfl, H1.out.2.2.2.2.1.below bb_0, H1.out.2.2.2.2.2⟩
  clear m1 n1 m1' n1'
  obtain ⟨m2, n2, m2', n2', _, _, _, _⟩ := four_cells K1
  have f2_0 : AtR W_0 (w.heap.size + 1) 0 9 (zx) := ⟨A2, l2, c2, by rw [← H2.out.1]; exact m2, n2, A2, l2, c2, rfl, H2.out.2.2.1.below bb_0, H2.out.2.2.2.1⟩
  have f2'_0 : AtR W_0 (w.heap.size + 1) 2 9 (zy') := ⟨A2', l2', c2', by rw [← H2.out.2.1]; exact m2', n2', A2', l2', c2', rfl, H2.out.2.2.2.2.1.below bb_0, H2.out.2.2.2.2.2⟩
  clear m2 n2 m2' n2'
  clear hW K0 K1
  refine name_frame (G := fun a => Code.wp _ _ _ a _) ?_
  intro a_0 ha
  have hN_0 : a_0.tmps.size = 17 := by subst ha; kernel_rfl
  have hD_0 : a_0.defers = [] := by subst ha; rfl
  have e2_0 : a_0.eval (.tmp 2) = .pointer (some ⟨w.heap.size, 0, none⟩) := by subst ha; kernel_rfl
  have e3_0 : a_0.eval (.tmp 3) = .pointer (some ⟨w.heap.size + 1, 0, none⟩) := by subst ha; kernel_rfl
  clear ha
  repeat (first | refine wp_seq ?_ | (refine wp_skip ?_; refine then_n ?_))
  refine wp_region_law hN_0 w.heap.size
    [kIs (.pointer (some ⟨w.heap.size, 0, none⟩)), kZ 9 (zx), kIs (.pointer (some ⟨w.heap.size + 1, 0, none⟩)), kZ 9 (zx), kIs (.bool true), kIs (.bool true), kIs (.pointer (some ⟨w.heap.size, 2, none⟩)), kZ 9 (zy), kIs (.pointer (some ⟨w.heap.size + 1, 2, none⟩)), kZ 9 (zy'), kIs (.bool false), kIs (.bool false), kIs (.bool false)]
    [ [], [(0, some 5)], [], [(2, some 7)], [(1, some 6), (3, some 8)], [(4, some 9)], [], [(6, some 11)], [], [(8, some 13)], [(7, some 12), (9, some 14)], [(5, some 10), (10, some 15)], [(11, some 16)] ]
    [(0, some 5), (1, some 6), (2, some 7), (3, some 8), (4, some 9), (5, some 10), (6, some 11), (7, some 12), (8, some 13), (9, some 14), (10, some 15), (11, some 16), (12, some 4)] [(5, true)] [] (by kernel_rfl) (by kernel_rfl) (by kernel_rfl) (by kernel_rfl) (by kernel_rfl) (by kernel_rfl) (by kernel_rfl) bb_0.size ?_ ?_
  ·
    refine pk_cons rfl rfl (st_pure [] [(2, .pointer (some ⟨w.heap.size, 0, none⟩))] (.pointer (some ⟨w.heap.size, 0, none⟩)) rfl hN_0 (by kernel_rfl) (by kernel_rfl) (by kernel_rfl) (old1 e2_0) (by kernel_rfl) (by kernel_rfl) (by kernel_rfl) (fun _ => by kernel_rfl)) ?_
    refine pk_cons rfl rfl (st_loadA f1_0 (by simp) hN_0 (by kernel_rfl) (by kernel_rfl) rfl rfl) ?_
    refine pk_cons rfl rfl (st_pure [] [(3, .pointer (some ⟨w.heap.size + 1, 0, none⟩))] (.pointer (some ⟨w.heap.size + 1, 0, none⟩)) rfl hN_0 (by kernel_rfl) (by kernel_rfl) (by kernel_rfl) (old1 e3_0) (by kernel_rfl) (by kernel_rfl) (by kernel_rfl) (fun _ => by kernel_rfl)) ?_
    refine pk_cons rfl rfl (st_loadA f2_0 (by simp) hN_0 (by kernel_rfl) (by kernel_rfl) rfl rfl) ?_
    refine pk_cons rfl rfl (st_call2 hN_0 (by kernel_rfl) (by kernel_rfl) (by kernel_rfl) (by kernel_rfl) (by kernel_rfl) rfl rfl rfl fun w x v1 v2 hC h1 h2 => ti (z_sameInt (rr h1) (rr h2))) ?_
    refine pk_cons rfl rfl (st_pure [.bool true] [] (.bool true) rfl hN_0 (by kernel_rfl) (by kernel_rfl) (by kernel_rfl) old0 (by kernel_rfl) (by kernel_rfl) (by kernel_rfl) (fun _ => by kernel_rfl)) ?_
    refine pk_cons rfl rfl (st_pure [] [(2, .pointer (some ⟨w.heap.size, 0, none⟩))] (.pointer (some ⟨w.heap.size, 2, none⟩)) rfl hN_0 (by kernel_rfl) (by kernel_rfl) (by kernel_rfl) (old1 e2_0) (by kernel_rfl) (by kernel_rfl) (by kernel_rfl) (fun _ => by kernel_rfl)) ?_
    refine pk_cons rfl rfl (st_loadA f1'_0 (by simp) hN_0 (by kernel_rfl) (by kernel_rfl) rfl rfl) ?_
    refine pk_cons rfl rfl (st_pure [] [(3, .pointer (some ⟨w.heap.size + 1, 0, none⟩))] (.pointer (some ⟨w.heap.size + 1, 2, none⟩)) rfl hN_0 (by kernel_rfl) (by kernel_rfl) (by kernel_rfl) (old1 e3_0) (by kernel_rfl) (by kernel_rfl) (by kernel_rfl) (fun _ => by kernel_rfl)) ?_
    refine pk_cons rfl rfl (st_loadA f2'_0 (by simp) hN_0 (by kernel_rfl) (by kernel_rfl) rfl rfl) ?_
    refine pk_cons rfl rfl (st_call2 hN_0 (by kernel_rfl) (by kernel_rfl) (by kernel_rfl) (by kernel_rfl) (by kernel_rfl) rfl rfl rfl fun w x v1 v2 hC h1 h2 => ti (z_sameInt_no (rr h1) (rr h2) hne)) ?_
    refine pk_cons rfl rfl (st_pure [.bool true, .bool false] [] (.bool false) rfl hN_0 (by kernel_rfl) (by kernel_rfl) (by kernel_rfl) old0 (by kernel_rfl) (by kernel_rfl) (by kernel_rfl) (fun _ => by kernel_rfl)) ?_
    refine pk_cons rfl rfl (st_pure [.bool false] [] (.bool false) rfl hN_0 (by kernel_rfl) (by kernel_rfl) (by kernel_rfl) old0 (by kernel_rfl) (by kernel_rfl) (by kernel_rfl) (fun _ => by kernel_rfl)) ?_
    exact pk_nil rfl
  intro W x hC hall
  refine then_n ?_
  obtain ⟨a1, ha⟩ : ∃ a, a = putE x a_0 [(0, some 5), (1, some 6), (2, some 7), (3, some 8), (4, some 9), (5, some 10), (6, some 11), (7, some 12), (8, some 13), (9, some 14), (10, some 15), (11, some 16), (12, some 4)] := ⟨_, rfl⟩
  rw [← ha]
  have hD1 := defers_behind ha hD_0
  have bb1 := bb_0.trans hC.below
  have e1 := (slot_new (t := 4) (i := 12) ha hN_0 (by kernel_rfl) (by kernel_rfl)).trans (show x 12 = .bool false from hall 12 (of_decide_eq_true (by kernel_rfl)))
  repeat (first | refine wp_seq ?_ | (refine wp_skip ?_; refine then_n ?_))
  refine wp_ret ?_
  repeat (refine then_r ?_)
  exact ret_one (t := 4) rfl hD1 e1 ⟨rfl, bb1⟩
set_option maxRecDepth 100000 in
set_option maxHeartbeats 4000000 in
theorem lawSame_den_9 {w : World} {v1 v2 : Value} {zx zy zy' : Int} (hne : zy ≠ zy') (h1 : Pr w v1 9 (zx) (zy)) (h2 : Pr w v2 9 (zx) (zy')) :
    Calls Tryz.prog 9 #[v1, v2] w (fun e w' => e = .returned (.bool false) ∧ Below w.heap.size w w') := by
  obtain ⟨A1, l1, c1, A1', l1', c1', rfl, ⟨r1, u1⟩, r1', u1'⟩ := h1
  obtain ⟨b1, hb1⟩ : ∃ s, s = decide (zx < 0) := ⟨_, rfl⟩
  obtain ⟨b1', hb1'⟩ : ∃ s, s = decide (zy < 0) := ⟨_, rfl⟩
  rw [← hb1, ← hb1']
  have H1 := Lib.hid (show _ ∧ _ ∧ _ ∧ _ ∧ _ ∧ _ from ⟨hb1, hb1', r1, u1, r1', u1'⟩)
  clear hb1 hb1' r1 u1 r1' u1'
  obtain ⟨A2, l2, c2, A2', l2', c2', rfl, ⟨r2, u2⟩, r2', u2'⟩ := h2
  obtain ⟨b2, hb2⟩ : ∃ s, s = decide (zx < 0) := ⟨_, rfl⟩
  obtain ⟨b2', hb2'⟩ : ∃ s, s = decide (zy' < 0) := ⟨_, rfl⟩
  rw [← hb2, ← hb2']
  have H2 := Lib.hid (show _ ∧ _ ∧ _ ∧ _ ∧ _ ∧ _ from ⟨hb2, hb2', r2, u2, r2', u2'⟩)
  clear hb2 hb2' r2 u2 r2' u2'
  go_enter Tryz.func9, Tryz.ntmps9
  repeat (refine wp_seq ?_)
  refine region_k ?_
  intro K hK
  have HK := Lib.hid hK
  clear hK
  go_wp2
  refine HK.out _ _ ?_
  clear HK
  refine then_n ?_
  obtain ⟨W_0, hW⟩ : ∃ W, W = (w.alloc (Obj.cells #[Value.bool b1, Value.slice A1 l1 c1, Value.bool b1', Value.slice A1' l1' c1'] 27)).alloc (Obj.cells #[Value.bool b2, Value.slice A2 l2 c2, Value.bool b2', Value.slice A2' l2' c2'] 27) := ⟨_, rfl⟩
  have bb_0 : Below w.heap.size w W_0 := by rw [hW]; exact bal (bal (Below.refl _ _) _) _
  have K0 : W_0.heap[w.heap.size]? = some (Obj.cells #[Value.bool b1, Value.slice A1 l1 c1, Value.bool b1', Value.slice A1' l1' c1'] 27) := by rw [hW]; rw [Below.heap_alloc _ _ _ (by simp <;> omega)]; exact new_at (by simp)
  have K1 : W_0.heap[w.heap.size + 1]? = some (Obj.cells #[Value.bool b2, Value.slice A2 l2 c2, Value.bool b2', Value.slice A2' l2' c2'] 27) := by rw [hW]; exact new_at (by simp)
  rw [← hW]
  obtain ⟨m1, n1, m1', n1', _, _, _, _⟩ := four_cells K0
  have f1_0 : AtR W_0 (w.heap.size) 0 9 (zx) := ⟨A1, l1, c1, by rw [← H1.out.1]; exact m1, n1, A1, l1, c1, rfl, H1.out.2.2.1.below bb_0, H1.out.2.2.2.1⟩
  have f1'_0 : AtR W_0 (w.heap.size) 2 9 (zy) := ⟨A1', l1', c1', by rw [← H1.out.2.1]; exact m1', n1', A1', l1', c1', rfl, H1.out.2.2.2.2.1.below bb_0, H1.out.2.2.2.2.2⟩
  clear m1 n1 m1' n1'
  obtain ⟨m2, n2, m2', n2', _, _, _, _⟩ := four_cells K1
  have f2_0 : AtR W_0 (w.heap.size + 1) 0 9 (zx) := ⟨A2, l2, c2, by rw [← H2.out.1]; exact m2, n2, A2, l2, c2, rfl, H2.out.2.2.1.below bb_0, H2.out.2.2.2.1⟩
  have f2'_0 : AtR W_0 (w.heap.size + 1) 2 9 (zy') := ⟨A2', l2', c2', by rw [← H2.out.2.1]; exact m2', n2', A2', l2', c2', rfl, H2.out.2.2.2.2.1.below bb_0, H2.out.2.2.2.2.2⟩
  clear m2 n2 m2' n2'
  clear hW K0 K1
  refine name_frame (G := fun a => Code.wp _ _ _ a _) ?_
  intro a_0 ha
  have hN_0 : a_0.tmps.size = 8 := by subst ha; kernel_rfl
  have hD_0 : a_0.defers = [] := by subst ha; rfl
  have e2_0 : a_0.eval (.tmp 2) = .pointer (some ⟨w.heap.size, 0, none⟩) := by subst ha; kernel_rfl
  have e3_0 : a_0.eval (.tmp 3) = .pointer (some ⟨w.heap.size + 1, 0, none⟩) := by subst ha; kernel_rfl
  clear ha
  repeat (first | refine wp_seq ?_ | (refine wp_skip ?_; refine then_n ?_))
  refine wp_region_law hN_0 w.heap.size
    [kP 9 (zx) (zy), kP 9 (zx) (zy'), kIs (.bool false), kIs (.bool false)]
    [ [], [], [(0, some 5), (1, some 6)], [(2, some 7)] ]
    [(0, some 5), (1, some 6), (2, some 7), (3, some 4)] [] [] (by kernel_rfl) (by kernel_rfl) (by kernel_rfl) (by kernel_rfl) (by kernel_rfl) (by kernel_rfl) (by kernel_rfl) bb_0.size ?_ ?_
  ·
    refine pk_cons rfl rfl (st_load4P f1_0 f1'_0 (by simp) e2_0 hN_0 (by kernel_rfl) rfl) ?_
    refine pk_cons rfl rfl (st_load4P f2_0 f2'_0 (by simp) e3_0 hN_0 (by kernel_rfl) rfl) ?_
    refine pk_cons rfl rfl (st_call2 hN_0 (by kernel_rfl) (by kernel_rfl) (by kernel_rfl) (by kernel_rfl) (by kernel_rfl) rfl rfl rfl fun w x v1 v2 hC h1 h2 => ti (same_den_9 hne (pm (by decide) h1) (pm (by decide) h2))) ?_
    refine pk_cons rfl rfl (st_pure [.bool false] [] (.bool false) rfl hN_0 (by kernel_rfl) (by kernel_rfl) (by kernel_rfl) old0 (by kernel_rfl) (by kernel_rfl) (by kernel_rfl) (fun _ => by kernel_rfl)) ?_
    exact pk_nil rfl
  intro W x hC hall
  refine then_n ?_
  obtain ⟨a1, ha⟩ : ∃ a, a = putE x a_0 [(0, some 5), (1, some 6), (2, some 7), (3, some 4)] := ⟨_, rfl⟩
  rw [← ha]
  have hD1 := defers_behind ha hD_0
  have bb1 := bb_0.trans hC.below
  have e1 := (slot_new (t := 4) (i := 3) ha hN_0 (by kernel_rfl) (by kernel_rfl)).trans (show x 3 = .bool false from hall 3 (of_decide_eq_true (by kernel_rfl)))
  repeat (first | refine wp_seq ?_ | (refine wp_skip ?_; refine then_n ?_))
  refine wp_ret ?_
  repeat (refine then_r ?_)
  exact ret_one (t := 4) rfl hD1 e1 ⟨rfl, bb1⟩
set_option maxRecDepth 100000 in
set_option maxHeartbeats 4000000 in
theorem DivZero_19 {w : World} {v1 v2 : Value} {a b : Rat} (hz : b.num = 0) (h1 : Pr w v1 19 (a.num) ((a.den : Int))) (h2 : Pr w v2 19 (b.num) ((b.den : Int))) :
    Calls Tryz.prog 18 #[v1, v2] w (fun e w' => ∃ v, e = .returned (.tuple #[v, .int .i64 (9)]) ∧ Pr w' v 9 (0) (1) ∧ Below w.heap.size w w') := by
  obtain ⟨A1, l1, c1, A1', l1', c1', rfl, ⟨r1, u1⟩, r1', u1'⟩ := h1
  obtain ⟨b1, hb1⟩ : ∃ s, s = decide (a.num < 0) := ⟨_, rfl⟩
  obtain ⟨b1', hb1'⟩ : ∃ s, s = decide ((a.den : Int) < 0) := ⟨_, rfl⟩
  rw [← hb1, ← hb1']
  have H1 := Lib.hid (show _ ∧ _ ∧ _ ∧ _ ∧ _ ∧ _ from ⟨hb1, hb1', r1, u1, r1', u1'⟩)
  clear hb1 hb1' r1 u1 r1' u1'
  obtain ⟨A2, l2, c2, A2', l2', c2', rfl, ⟨r2, u2⟩, r2', u2'⟩ := h2
  obtain ⟨b2, hb2⟩ : ∃ s, s = decide (b.num < 0) := ⟨_, rfl⟩
  obtain ⟨b2', hb2'⟩ : ∃ s, s = decide ((b.den : Int) < 0) := ⟨_, rfl⟩
  rw [← hb2, ← hb2']
  have H2 := Lib.hid (show _ ∧ _ ∧ _ ∧ _ ∧ _ ∧ _ from ⟨hb2, hb2', r2, u2, r2', u2'⟩)
  clear hb2 hb2' r2 u2 r2' u2'
  go_enter Tryz.func18, Tryz.ntmps18
  repeat (refine wp_seq ?_)
  refine region_k ?_
  intro K hK
  have HK := Lib.hid hK
  clear hK
  go_wp2
  refine HK.out _ _ ?_
  clear HK
  refine then_n ?_
  obtain ⟨W_0, hW⟩ : ∃ W, W = ((w.alloc (Obj.cells #[Value.bool b1, Value.slice A1 l1 c1, Value.bool b1', Value.slice A1' l1' c1'] 27)).alloc (Obj.cells #[Value.bool b2, Value.slice A2 l2 c2, Value.bool b2', Value.slice A2' l2' c2'] 27)).alloc (Obj.cells #[Value.bool false, Value.slice none 0 0, Value.bool false, Value.slice none 0 0] 27) := ⟨_, rfl⟩
  have bb_0 : Below w.heap.size w W_0 := by rw [hW]; exact bal (bal (bal (Below.refl _ _) _) _) _
  have K0 : W_0.heap[w.heap.size]? = some (Obj.cells #[Value.bool b1, Value.slice A1 l1 c1, Value.bool b1', Value.slice A1' l1' c1'] 27) := by rw [hW]; rw [Below.heap_alloc _ _ _ (by simp <;> omega)]; rw [Below.heap_alloc _ _ _ (by simp <;> omega)]; exact new_at (by simp)
  have K1 : W_0.heap[w.heap.size + 1]? = some (Obj.cells #[Value.bool b2, Value.slice A2 l2 c2, Value.bool b2', Value.slice A2' l2' c2'] 27) := by rw [hW]; rw [Below.heap_alloc _ _ _ (by simp <;> omega)]; exact new_at (by simp)
  have K2 : W_0.heap[w.heap.size + 1 + 1]? = some (Obj.cells #[Value.bool false, Value.slice none 0 0, Value.bool false, Value.slice none 0 0] 27) := by rw [hW]; exact new_at (by simp)
  rw [← hW]
  obtain ⟨m1, n1, m1', n1', _, _, _, _⟩ := four_cells K0
  have f1_0 : AtR W_0 (w.heap.size) 0 19 (a.num) := ⟨A1, l1, c1, by rw [← H1.out.1]; exact m1, n1, A1, l1, c1, rfl, H1.out.2.2.1.below bb_0, H1.out.2.2.2.1⟩
  have f1'_0 : AtR W_0 (w.heap.size) 2 19 ((a.den : Int)) := ⟨A1', l1', c1', by rw [← H1.out.2.1]; exact m1', n1', A1', l1', c1', rfl, H1.out.2.2.2.2.1.below bb_0, H1.out.2.2.2.2.2⟩
  clear m1 n1 m1' n1'
  obtain ⟨m2, n2, m2', n2', _, _, _, _⟩ := four_cells K1
  have f2_0 : AtR W_0 (w.heap.size + 1) 0 19 (b.num) := ⟨A2, l2, c2, by rw [← H2.out.1]; exact m2, n2, A2, l2, c2, rfl, H2.out.2.2.1.below bb_0, H2.out.2.2.2.1⟩
  have f2'_0 : AtR W_0 (w.heap.size + 1) 2 19 ((b.den : Int)) := ⟨A2', l2', c2', by rw [← H2.out.2.1]; exact m2', n2', A2', l2', c2', rfl, H2.out.2.2.2.2.1.below bb_0, H2.out.2.2.2.2.2⟩
  clear m2 n2 m2' n2'
  have R_0 : Holds_ W_0 (w.heap.size + 1 + 1) #[Value.bool false, Value.slice none 0 0, Value.bool false, Value.slice none 0 0] := ⟨⟨_, K2⟩, by simp [noDig]⟩
  clear hW K0 K1 K2
  refine name_frame (G := fun a => Code.wp _ _ _ a _) ?_
  intro a_0 ha
  have hN_0 : a_0.tmps.size = 21 := by subst ha; kernel_rfl
  have hD_0 : a_0.defers = [] := by subst ha; rfl
  have e2_0 : a_0.eval (.tmp 2) = .pointer (some ⟨w.heap.size, 0, none⟩) := by subst ha; kernel_rfl
  have e3_0 : a_0.eval (.tmp 3) = .pointer (some ⟨w.heap.size + 1, 0, none⟩) := by subst ha; kernel_rfl
  have e4_0 : a_0.eval (.tmp 4) = .pointer (some ⟨w.heap.size + 1 + 1, 0, none⟩) := by subst ha; kernel_rfl
  clear ha
  repeat (first | refine wp_seq ?_ | (refine wp_skip ?_; refine then_n ?_))
  refine wp_region_law hN_0 w.heap.size
    [kP 19 (b.num) ((b.den : Int)), kP 19 (b.num) ((b.den : Int)), PK.fresh 4, kPutP 2 19 (b.num) ((b.den : Int))]
    [ [], [(0, some 7)], [], [(2, some 6), (1, some 8)] ]
    [(0, some 7), (1, some 8), (2, some 6), (3, none)] [] [] (by kernel_rfl) (by kernel_rfl) (by kernel_rfl) (by kernel_rfl) (by kernel_rfl) (by kernel_rfl) (by kernel_rfl) bb_0.size ?_ ?_
  ·
    refine pk_cons rfl rfl (st_load4P f2_0 f2'_0 (by simp) e3_0 hN_0 (by kernel_rfl) rfl) ?_
    refine pk_cons rfl rfl (st_call1 hN_0 (by kernel_rfl) (by kernel_rfl) (by kernel_rfl) rfl rfl fun w x v1 hC h1 => tp (of_19 (pm (by decide) h1))) ?_
    refine pk_cons rfl rfl (st_allocF hN_0 (by kernel_rfl) (Nat.le_refl _) rfl) ?_
    refine pk_cons rfl rfl (st_putF hN_0 (by kernel_rfl) (by kernel_rfl) (by kernel_rfl) rfl rfl rfl) ?_
    exact pk_nil rfl
  intro W_1 x hC hall
  refine then_n ?_
  obtain ⟨a_1, ha⟩ : ∃ a, a = putE x a_0 [(0, some 7), (1, some 8), (2, some 6), (3, none)] := ⟨_, rfl⟩
  rw [← ha]
  have hN_1 := size_behind ha hN_0
  have hD_1 := defers_behind ha hD_0
  have bb_1 := bb_0.trans hC.below
  have e2_1 := slot_old ha (by kernel_rfl) e2_0
  have e3_1 := slot_old ha (by kernel_rfl) e3_0
  have e4_1 := slot_old ha (by kernel_rfl) e4_0
  have f1_1 := hC.at0 f1_0
  have f1'_1 := hC.at0 f1'_0
  have f2_1 := hC.at0 f2_0
  have f2'_1 := hC.at0 f2'_0
  have R_1 := hC.holds R_0
  obtain ⟨g6, hx, hge, p6_1, p6'_1⟩ := put_atP (show (kPutP 2 19 (b.num) ((b.den : Int))).sem _ _ _ _ from hall 3 (of_decide_eq_true (by kernel_rfl)))
  have e6_1 := (slot_new (t := 6) (i := 2) ha hN_0 (by kernel_rfl) (by kernel_rfl)).trans hx
  have d6 := Nat.lt_of_lt_of_le R_0.lt hge
  clear hx hge
  clear hall hC ha bb_0 hD_0 e2_0 e3_0 e4_0 f1_0 f1'_0 f2_0 f2'_0 R_0
  repeat (first | refine wp_seq ?_ | (refine wp_skip ?_; refine then_n ?_))
  refine wp_region_law hN_1 w.heap.size
    [kIs (.pointer (some ⟨g6, 0, none⟩)), kIs (.pointer (some ⟨g6, 0, none⟩)), kZ 19 (b.num), kIs (.bool true)]
    [ [], [(0, some 9)], [(1, some 10)], [(2, some 11)] ]
    [(0, some 9), (1, some 10), (2, some 11), (3, some 12)] [] [] (by kernel_rfl) (by kernel_rfl) (by kernel_rfl) (by kernel_rfl) (by kernel_rfl) (by kernel_rfl) (by kernel_rfl) bb_1.size ?_ ?_
  ·
    refine pk_cons rfl rfl (st_pure [] [(6, .pointer (some ⟨g6, 0, none⟩))] (.pointer (some ⟨g6, 0, none⟩)) rfl hN_1 (by kernel_rfl) (by kernel_rfl) (by kernel_rfl) (old1 e6_1) (by kernel_rfl) (by kernel_rfl) (by kernel_rfl) (fun _ => by kernel_rfl)) ?_
    refine pk_cons rfl rfl (st_pure [.pointer (some ⟨g6, 0, none⟩)] [] (.pointer (some ⟨g6, 0, none⟩)) rfl hN_1 (by kernel_rfl) (by kernel_rfl) (by kernel_rfl) old0 (by kernel_rfl) (by kernel_rfl) (by kernel_rfl) (fun _ => by kernel_rfl)) ?_
    refine pk_cons rfl rfl (st_loadA p6_1 (by simp) hN_1 (by kernel_rfl) (by kernel_rfl) rfl rfl) ?_
    refine pk_cons rfl rfl (st_call1 hN_1 (by kernel_rfl) (by kernel_rfl) (by kernel_rfl) rfl rfl fun w x v1 hC h1 => ti (isNone_zero (rr h1) hz)) ?_
    exact pk_nil rfl
  intro W_2 x hC hall
  refine then_n ?_
  obtain ⟨a_2, ha⟩ : ∃ a, a = putE x a_1 [(0, some 9), (1, some 10), (2, some 11), (3, some 12)] := ⟨_, rfl⟩
  rw [← ha]
  have hN_2 := size_behind ha hN_1
  have hD_2 := defers_behind ha hD_1
  have bb_2 := bb_1.trans hC.below
  have e2_2 := slot_old ha (by kernel_rfl) e2_1
  have e3_2 := slot_old ha (by kernel_rfl) e3_1
  have e4_2 := slot_old ha (by kernel_rfl) e4_1
  have e6_2 := slot_old ha (by kernel_rfl) e6_1
  have f1_2 := hC.at0 f1_1
  have f1'_2 := hC.at0 f1'_1
  have f2_2 := hC.at0 f2_1
  have f2'_2 := hC.at0 f2'_1
  have R_2 := hC.holds R_1
  have p6_2 := hC.at0 p6_1
  have p6'_2 := hC.at0 p6'_1
  have e12_2 := (slot_new (t := 12) (i := 3) ha hN_1 (by kernel_rfl) (by kernel_rfl)).trans (show x 3 = .bool true from hall 3 (of_decide_eq_true (by kernel_rfl)))
  clear hall hC ha bb_1 hD_1 e2_1 e3_1 e4_1 e6_1 f1_1 f1'_1 f2_1 f2'_1 R_1 p6_1 p6'_1
  repeat (first | refine wp_seq ?_ | (refine wp_skip ?_; refine then_n ?_))
  refine wp_cond_true e12_2 ?_
  repeat (first | refine wp_seq ?_ | (refine wp_skip ?_; refine then_n ?_))
  refine wp_region_res hN_2 w.heap.size (w.heap.size + 1 + 1) R_2 (by omega)
    [kP 9 (0) (1), kP 9 (0) (1), kRes (w.heap.size + 1 + 1) 9 (0) (1), kIs (.int .i64 (9))]
    [ [], [(0, some 13)], [(1, some 14)], [] ]
    [(0, some 13), (1, some 14), (2, none), (3, some 5)] [] [] (by kernel_rfl) (by kernel_rfl) (by kernel_rfl) (by kernel_rfl) (by kernel_rfl) (by kernel_rfl) (by kernel_rfl) bb_2.size ?_ ?_
  ·
    refine pk_cons rfl rfl (st_call0 [] hN_2 (by kernel_rfl) (by kernel_rfl) rfl rfl fun w x hC => tp none_9) ?_
    refine pk_cons rfl rfl (st_fieldF hN_2 (by kernel_rfl) (by kernel_rfl) rfl rfl) ?_
    refine pk_cons rfl rfl (st_resP R_2 rfl (by simp) e4_2 hN_2 (by kernel_rfl) (by kernel_rfl) rfl rfl) ?_
    refine pk_cons rfl rfl (st_pure [] [] (.int .i64 (9)) rfl hN_2 (by kernel_rfl) (by kernel_rfl) (by kernel_rfl) old0 (by kernel_rfl) (by kernel_rfl) (by kernel_rfl) (fun _ => by kernel_rfl)) ?_
    exact pk_nil rfl
  intro W x hC hall
  refine then_n ?_
  obtain ⟨a1, ha⟩ : ∃ a, a = putE x a_2 [(0, some 13), (1, some 14), (2, none), (3, some 5)] := ⟨_, rfl⟩
  rw [← ha]
  have hD1 := defers_behind ha hD_2
  have bb1 := bb_2.trans hC.below
  obtain ⟨cs, hg, hP⟩ := (show (kRes (w.heap.size + 1 + 1) 9 (0) (1)).sem _ _ _ _ from hall 2 (of_decide_eq_true (by kernel_rfl)))
  have e1 := slot_old (t := 4) ha (by kernel_rfl) e4_2
  have e2 := (slot_new (t := 5) (i := 3) ha hN_2 (by kernel_rfl) (by kernel_rfl)).trans (show x 3 = .int .i64 (9) from hall 3 (of_decide_eq_true (by kernel_rfl)))
  repeat (first | refine wp_seq ?_ | (refine wp_skip ?_; refine then_n ?_))
  refine wp_ret ?_
  repeat (refine then_r ?_)
  exact ret_cellP2 (t := 4) (u := 5) rfl hD1 e1 e2 hg hP fun v hv => ⟨v, rfl, hv, bb1⟩
end Go.Proofs.YthgclmkhmcfflaaGreatDoor
namespace Go.Proofs.YthgclmkhmcfflaaGreatDoor
open Go.RowKit
set_option maxRecDepth 100000 in
set_option maxHeartbeats 1600000 in
theorem numRight_no {w : World} {A : Option Addr} {c : Nat} {xs : List Nat} {b : Bool} (hr : Row w A (u32s xs)) (hd : small 4294967296 xs) (hl : xs.length ≤ 1000) (h : ¬ (right xs ∧ (xs = [] → b = false))) :
    Calls Tryz.prog 33 #[.agg #[.bool b, .slice A xs.length c]] w fun e w' => e = .returned (.bool false) ∧ Below w.heap.size w w' := by
  have hR := fun (W : World) (hW : Below w.heap.size w W) => right_any (c := c) (hr.below hW) hd (by omega)
  have HR := Lib.hid hR
  clear hR hr hd hl
  by_cases h1 : right xs
  · have h2 : xs = [] ∧ b = true := by
      refine Classical.byContradiction fun h3 => h ⟨h1, fun h4 => ?_⟩
      cases b with
      | false => rfl
      | true => exact absurd ⟨h4, rfl⟩ h3
    obtain ⟨rfl, rfl⟩ := h2
    have H1 := Lib.hid h1
    clear h h1
    go_enter Tryz.func33, Tryz.ntmps33
    go_wp2_with fail
    refine (HR.out _ (bal (Below.refl _ _) _)).mono ?_
    rintro e w1 ⟨he, rfl⟩
    obtain rfl : e = .returned (.bool true) := by
      rcases he with ⟨_, he⟩ | ⟨hn, _⟩
      · exact he
      · exact absurd H1.out hn
    clear he
    go_wp2
    go_ret
    exact ⟨rfl, bal (Below.refl _ _) _⟩
  · have H1 := Lib.hid h1
    clear h h1
    go_enter Tryz.func33, Tryz.ntmps33
    go_wp2_with fail
    refine (HR.out _ (bal (Below.refl _ _) _)).mono ?_
    rintro e w1 ⟨he, rfl⟩
    obtain rfl : e = .returned (.bool false) := by
      rcases he with ⟨hn, _⟩ | ⟨_, he⟩
      · exact absurd hn H1.out
      · exact he
    clear he
    go_wp2
    go_ret
    exact ⟨rfl, bal (Below.refl _ _) _⟩
def SaysB (w : World) (b : Bool) (e : Ending) (w' : World) : Prop := e = .returned (.bool b) ∧ Below w.heap.size w w'
set_option maxRecDepth 100000 in
set_option maxHeartbeats 1600000 in
theorem rRight_no1 {w : World} {b1 b2 : Bool} {A1 A2 : Option Addr} {l1 c1 l2 c2 : Nat} (h : ∀ W, Below w.heap.size w W → Calls Tryz.prog 33 #[.agg #[.bool b1, .slice A1 l1 c1]] W (SaysB W false)) :
    Calls Tryz.prog 11 #[.agg #[.bool b1, .slice A1 l1 c1, .bool b2, .slice A2 l2 c2]] w (SaysB w false) := by
  have H := Lib.hid h
  clear h
  go_enter Tryz.func11, Tryz.ntmps11
  go_wp2_with fail
  refine (H.out _ (bal (Below.refl _ _) _)).mono ?_
  rintro e w1 ⟨rfl, hb⟩
  have hb' := bstep (bal (Below.refl w.heap.size w) _) hb
  clear hb
  go_wp2
  go_ret
  exact ⟨rfl, hb'⟩
set_option maxRecDepth 100000 in
set_option maxHeartbeats 1600000 in
theorem rRight_no2 {w : World} {b1 b2 : Bool} {A1 A2 : Option Addr} {l1 c1 l2 c2 : Nat} (h1 : ∀ W, Below w.heap.size w W → Calls Tryz.prog 33 #[.agg #[.bool b1, .slice A1 l1 c1]] W (SaysB W true)) (h2 : ∀ W, Below w.heap.size w W → Calls Tryz.prog 33 #[.agg #[.bool b2, .slice A2 l2 c2]] W (SaysB W false)) :
    Calls Tryz.prog 11 #[.agg #[.bool b1, .slice A1 l1 c1, .bool b2, .slice A2 l2 c2]] w (SaysB w false) := by
  have H1 := Lib.hid h1
  have H2 := Lib.hid h2
  clear h1 h2
  go_enter Tryz.func11, Tryz.ntmps11
  go_wp2_with fail
  refine (H1.out _ (bal (Below.refl _ _) _)).mono ?_
  rintro e w1 ⟨rfl, hb⟩
  have K1 := (hb.block w.heap.size (by simp)).trans (heap_alloc_new w _)
  obtain ⟨m1, m2, m3, m4, _, _, _, _⟩ := four_cells K1
  have hb' := bstep (bal (Below.refl w.heap.size w) _) hb
  have HB := Lib.hid hb'
  clear hb hb' K1
  go_wp2_with fail
  refine (H2.out _ HB.out).mono ?_
  rintro e w2 ⟨rfl, hb⟩
  have hb' := bstep HB.out hb
  clear hb
  go_wp2
  go_ret
  exact ⟨rfl, hb'⟩
theorem rat_of {x y : Int} (h : 0 < y ∧ ((zgcd [(x), (y)] : Nat) : Int) = 1) : ∃ a : Rat, a.num = x ∧ (a.den : Int) = y := by
  obtain ⟨h1, h2⟩ := h
  rw [zgcd_eq] at h2
  have h3 : Nat.gcd y.natAbs x.natAbs = 1 := by
    have : Int.gcd y x = 1 := by omega
    exact this
  exact ⟨⟨x, y.natAbs, by omega, by unfold Nat.Coprime; rw [Nat.gcd_comm]; exact h3⟩, rfl, by show (y.natAbs : Int) = y; omega⟩
theorem right_came {w : World} {b1 b2 : Bool} {A1 A2 : Option Addr} {c1 c2 : Nat} {xs ys : List Nat} (r1 : Row w A1 (u32s xs)) (s1 : small 4294967296 xs) (l1 : xs.length ≤ 8) (r2 : Row w A2 (u32s ys)) (s2 : small 4294967296 ys) (l2 : ys.length ≤ 8) :
    (∃ a : Rat, Pr w (.agg #[.bool b1, .slice A1 xs.length c1, .bool b2, .slice A2 ys.length c2]) 9 a.num (a.den : Int)) ∨ ∀ W, Below w.heap.size w W → Calls Tryz.prog 11 #[.agg #[.bool b1, .slice A1 xs.length c1, .bool b2, .slice A2 ys.length c2]] W (SaysB W false) := by
  by_cases h1 : right xs ∧ (xs = [] → b1 = false)
  · have q1 : ∀ W, Below w.heap.size w W → Rr W (.slice A1 xs.length c1) (val xs) := fun W hW => ⟨_, _, xs, rfl, r1.below hW, h1.1, by omega, rfl⟩
    have z1 : val xs = 0 → b1 = false := fun e => h1.2 (List.eq_nil_of_length_eq_zero (by
      have := (rr_len (q1 w (Below.refl _ _))).1
      exact this.2 e))
    by_cases h2 : right ys ∧ (ys = [] → b2 = false)
    · have q2 : ∀ W, Below w.heap.size w W → Rr W (.slice A2 ys.length c2) (val ys) := fun W hW => ⟨_, _, ys, rfl, r2.below hW, h2.1, by omega, rfl⟩
      have z2 : val ys = 0 → b2 = false := fun e => h2.2 (List.eq_nil_of_length_eq_zero (by
        have := (rr_len (q2 w (Below.refl _ _))).1
        exact this.2 e))
      have e1 : decide (zOf (val xs) b1 < 0) = b1 := by
        rw [zOf_neg]; unfold sgn
        cases b1 with
        | false => rfl
        | true => exact decide_eq_true fun e => by have := z1 e; cases this
      have e2 : decide (zOf (val ys) b2 < 0) = b2 := by
        rw [zOf_neg]; unfold sgn
        cases b2 with
        | false => rfl
        | true => exact decide_eq_true fun e => by have := z2 e; cases this
      have hp : ∀ W, Below w.heap.size w W → Pr W (.agg #[.bool b1, .slice A1 xs.length c1, .bool b2, .slice A2 ys.length c2]) 9 (zOf (val xs) b1) (zOf (val ys) b2) := fun W hW =>
        ⟨A1, _, c1, A2, _, c2, by rw [e1, e2], ⟨by rw [zOf_abs]; exact q1 W hW, by rw [zOf_abs]; exact Nat.lt_of_lt_of_le (val_lt32 s1) (pow_le (by omega))⟩, by rw [zOf_abs]; exact q2 W hW, by rw [zOf_abs]; exact Nat.lt_of_lt_of_le (val_lt32 s2) (pow_le (by omega))⟩
      by_cases h3 : 0 < zOf (val ys) b2 ∧ ((zgcd [(zOf (val xs) b1), (zOf (val ys) b2)] : Nat) : Int) = 1
      · obtain ⟨a, ha, hb⟩ := rat_of h3
        exact .inl ⟨a, by rw [ha, hb]; exact hp w (Below.refl _ _)⟩
      · exact .inr fun W hW => right_no_9 h3 (hp W hW)
    · exact .inr fun W hW => rRight_no2 (fun W' hW' => numRight_yes b1 (q1 W' (hW.trans (hW'.mono hW.size))) z1) fun W' hW' => numRight_no (r2.below (hW.trans (hW'.mono hW.size))) s2 (by omega) h2
  · exact .inr fun W hW => rRight_no1 fun W' hW' => numRight_no (r1.below (hW.trans (hW'.mono hW.size))) s1 (by omega) h1
/-- The lengths of ratios that lie in a block. -/
def LensP (W : World) (g : Nat) (l : List (Nat × Nat)) : Prop := ∀ j q, l[j]? = some q → (∃ A c, W.cell? ⟨g, j * 4 + 1, none⟩ = some (.slice A q.1 c)) ∧ ∃ A c, W.cell? ⟨g, j * 4 + 3, none⟩ = some (.slice A q.2 c)
theorem LensP.below {W w' : World} {g : Nat} {l : List (Nat × Nat)} (h : LensP W g l) (hb : Below W.heap.size W w') : LensP w' g l := fun j q hj => by
  obtain ⟨⟨A, c, h1⟩, A', c', h2⟩ := h j q hj
  exact ⟨⟨A, c, (hb.cell (cell_lt h1)).trans h1⟩, A', c', (hb.cell (cell_lt h2)).trans h2⟩
def kLensP (l : List (Nat × Nat)) : PK := .list l.length (fun g w => LensP w g l) (fun _ _ _ h hb => h.below hb) (fun _ _ _ _ h hs hne j q hj => by
  obtain ⟨⟨A, c, h1⟩, A', c', h2⟩ := h j q hj
  exact ⟨⟨A, c, (World.cell?_of_block (hs.other _ hne)).trans h1⟩, A', c', (World.cell?_of_block (hs.other _ hne)).trans h2⟩)
def fewP (l : List (Nat × Nat)) : Bool := l.all fun q => decide (q.1 ≤ 8) && decide (q.2 ≤ 8)
set_option maxRecDepth 100000 in
set_option maxHeartbeats 3200000 in
theorem few_any {w : World} {g0 c0 : Nat} {l : List (Nat × Nat)} (hL : LensP w g0 l) (hlen : l.length ≤ 6) :
    Calls Tryz.prog 10 #[.slice (some ⟨g0, 0, none⟩) l.length c0] w fun e w' => e = .returned (.bool (fewP l)) ∧ w' = w := by
  have HL := Lib.hid hL
  obtain ⟨n, hn⟩ : ∃ n, n = l.length := ⟨_, rfl⟩
  rw [← hn] at hlen ⊢
  have HN := Lib.hid hn
  obtain ⟨r, hr⟩ : ∃ r, r = fewP l := ⟨_, rfl⟩
  rw [← hr]
  have HR := Lib.hid hr
  clear hL hn hr
  go_enter Tryz.func10, Tryz.ntmps10
  go_wp2
  go_loop [3] (fun iv => ∃ (k : Nat), k ≤ n ∧ iv = .int .i64 (k : Int) ∧ Hid (fewP (l.take k) = true)) (fun iv => n - (intOf iv).toNat)
  case atStart => exact ⟨0, Nat.zero_le _, rfl, rfl⟩
  case round =>
    obtain ⟨k, hk, rfl, HS⟩ := hrel
    by_cases hlt : k < n
    · have hlt' : decide ((k : Int) < (n : Int)) = true := decide_eq_true (by omega)
      have hkL : k < l.length := by rw [← HN.out]; exact hlt
      obtain ⟨⟨p, q⟩, hpq⟩ : ∃ m, m = l[k] := ⟨_, rfl⟩
      obtain ⟨⟨A1, c1, h1⟩, A2, c2, h2⟩ := HL.out k (p, q) (by rw [List.getElem?_eq_getElem hkL, hpq])
      have hmem : (p, q) ∈ l := by rw [hpq]; exact List.getElem_mem hkL
      have htk : fewP (l.take (k + 1)) = (decide (p ≤ 8) && decide (q ≤ 8)) := by
        have hs : l.take (k + 1) = l.take k ++ [(p, q)] := by rw [List.take_add_one, List.getElem?_eq_getElem hkL, ← hpq]; rfl
        rw [hs]
        unfold fewP
        rw [List.all_append]
        have := HS.out
        unfold fewP at this
        rw [this]
        simp
      have HT := Lib.hid htk
      have HM := Lib.hid hmem
      clear htk hmem hpq
      have no : ¬ (p ≤ 8 ∧ q ≤ 8) → r = false := fun h => by
        rw [HR.out]
        unfold fewP
        rw [List.all_eq_false]
        exact ⟨_, HM.out, by simp; omega⟩
      by_cases hp : 8 < p
      · have er := no (by omega)
        clear no HR
        subst er
        have hp1 : decide ((8 : Int) < (p : Int)) = true := decide_eq_true (by omega)
        go_wp2
        go_ret
        exact ⟨rfl, rfl⟩
      · have hp1 : decide ((8 : Int) < (p : Int)) = false := decide_eq_false (by omega)
        by_cases hq : 8 < q
        · have er := no (by omega)
          clear no HR
          subst er
          have hq1 : decide ((8 : Int) < (q : Int)) = true := decide_eq_true (by omega)
          go_wp2
          go_ret
          exact ⟨rfl, rfl⟩
        · have hq1 : decide ((8 : Int) < (q : Int)) = false := decide_eq_false (by omega)
          have HPQ := Lib.hid (show p ≤ 8 ∧ q ≤ 8 by omega)
          clear no hp hq
          go_wp2
          go_round
          case rel => exact ⟨k + 1, by omega, by go_num, by
            show fewP (l.take (k + 1)) = true
            rw [HT.out, decide_eq_true HPQ.out.1, decide_eq_true HPQ.out.2]; rfl⟩
          case measure => simp [intOf]; omega
    · have hk' : k = n := by omega
      have er : r = true := by
        rw [HR.out, ← HS.out, hk', HN.out, List.take_length]
      clear HR hk'
      subst er
      go_wp2
      go_ret
      have e1 : decide ((n : Int) ≤ (6 : Int)) = true := decide_eq_true (by omega)
      exact ⟨by simp [e1], rfl⟩
theorem few_told {S0 : Nat} {x : Nat → Value} {w : World} {v : Value} {l : List (Nat × Nat)} {r : Bool} (h : (kLensP l).sem S0 x v w) (hlen : l.length ≤ 6) (hr : fewP l = r) : Calls Tryz.prog 10 #[v] w fun e w' => e = .returned (.bool r) ∧ Below w.heap.size w w' := by
  obtain ⟨g, rfl, _, _, hL⟩ := h
  subst hr
  exact (few_any hL hlen).mono fun e w' ⟨h1, h2⟩ => ⟨h1, h2 ▸ Below.refl _ _⟩
end Go.Proofs.YthgclmkhmcfflaaGreatDoor
namespace Go.Proofs.YthgclmkhmcfflaaGreatDoor
open Go.RowKit
/-- The text of a broken number. -/
def textQ (a : Rat) : ByteArray := if a.den = 1 then ztext a.num else (ztext a.num ++ ⟨#[47]⟩) ++ ztext (a.den : Int)
theorem textQ_one {a : Rat} (h : a.den = 1) : textQ a = ztext a.num := if_pos h
theorem textQ_more {a : Rat} (h : a.den ≠ 1) : textQ a = (ztext a.num ++ ⟨#[47]⟩) ++ ztext (a.den : Int) := if_neg h
end Go.Proofs.YthgclmkhmcfflaaGreatDoor
namespace Go.Proofs.YthgclmkhmcfflaaGreatDoor
open Go.RowKit
/-- The library's cell that its search asks. -/
def MaxL (w : World) : Prop := ∃ m : Int, w.cell? ⟨0, 0, none⟩ = some (.int .i64 m)
theorem MaxL.below {W w' : World} (h : MaxL W) (hb : Below W.heap.size W w') : MaxL w' := by
  obtain ⟨m, h⟩ := h
  exact ⟨m, (hb.cell (cell_lt h)).trans h⟩
theorem called_at {P : Program} {F : FuncId} {v V : Value} {w : World} {c : PK} {S0 : Nat} {x : Nat → Value} (h : (kIs V).sem S0 x v w) (H : Calls P F #[V] w (Told c S0 x w)) : Calls P F #[v] w (Told c S0 x w) := by
  have e : v = V := h
  subst e
  exact H
def CutIs (s A B : ByteArray) (b : Bool) : Prop := ∃ la lb, Lib.cut s.data.toList [47] = (la, lb, b) ∧ A = ⟨la.toArray⟩ ∧ B = ⟨lb.toArray⟩
theorem cut_told {s A B : ByteArray} {b : Bool} {w : World} {v : Value} (hc : CutIs s A B b) (hs : s.size ≤ 1000000) (h1 : v = .string s) (hm : MaxL w) : Calls Tryz.prog 24 #[v, .string ⟨#[47]⟩] w fun e w' => e = .returned (.tuple #[.string A, .string B, .bool b]) ∧ Below w.heap.size w w' := by
  subst h1
  obtain ⟨m, hm⟩ := hm
  obtain ⟨la, lb, hc, rfl, rfl⟩ := hc
  refine (Tryz.strings_Cut s ⟨#[47]⟩ m w (by omega) hm).mono fun e w' h => ?_
  obtain ⟨h, n, hw⟩ := h
  rw [show (⟨#[47]⟩ : ByteArray).data.toList = [47] from rfl, hc] at h
  exact ⟨h, hw ▸ below_drewN (Below.refl _ _) n⟩
section
variable {C : World → Prop} {S0 : Nat} {ks : List PK} {a0 : Act} {i : Nat} {N : Nat} {P : Program} {T : TypeId} {pos : String} {af : Array Edge} {gu : Option (Nat × Bool)} {ats : Array TypeId}
set_option maxRecDepth 100000 in
theorem st_callC {d F j1 t1 : Nat} {V : Value} {c1 c : PK} (hN : a0.tmps.size = N) (hd : decide (d < N) = true) (ht1 : decide (t1 < N) = true) (hF : enters P F = true) (h1 : at_ ks j1 = c1) (hi : at_ ks i = c)
    (h : ∀ w x v1, C w → c1.sem S0 x v1 w → Calls P F #[v1, V] w (Told c S0 x w)) :
    PkStep P C S0 ks a0 i { dst := some d, op := .call { callee := .value (.func F), args := #[.tmp t1, .const V], argTypes := ats }, type := T, pos := pos, after := af, guard := gu } [(j1, some t1)] :=
  st_call (ss := [.dep j1, .val V]) hN (by simp [esIn]; exact of_decide_eq_true ht1) hd hF (by simp [src, slotAt]) fun w x hC hdeps => by
    have g1 := hdeps (j1, some t1) (by simp)
    rw [h1] at g1
    rw [hi]
    exact h w x (x j1) hC g1
end
set_option maxRecDepth 100000 in
set_option maxHeartbeats 8000000 in
theorem parse_cut_no {w : World} {s A B t : ByteArray} {x y : Int} {okA okB : Bool} (hc : CutIs s A B true) (hs : s.size ≤ 1000000) (HM : Hid (∀ W, Below w.heap.size w W → MaxL W))
    (HA : Hid (∀ (W : World) {S0 : Nat} {x_ : Nat → Value}, Calls Tryz.prog 25 #[.string A] W (Told (kZB 19 (x) okA) S0 x_ W))) (HB : Hid (∀ (W : World) {S0 : Nat} {x_ : Nat → Value}, Calls Tryz.prog 25 #[.string (B)] W (Told (kZB 19 (y) okB) S0 x_ W)))
    (HX : Hid (∀ (W : World) (v : Value), Below w.heap.size w W → Pr W v 19 (x) (y) → Calls Tryz.prog 21 #[v] W fun e w' => e = .returned (.string (t)) ∧ Below W.heap.size W w')) (hne : ((t).toList == (s).toList) = false) :
    Calls Tryz.prog 7 #[.string s] w fun e w' => ∃ v, e = .returned (.tuple #[v, .bool false]) ∧ Pr w' v 9 (0) (1) ∧ Below w.heap.size w w' := by
  have hm0 := HM.out w (Below.refl _ _)
  have hcell := hm0
  go_enter Tryz.func7, Tryz.ntmps7
  repeat (refine wp_seq ?_)
  refine region_k ?_
  intro K hK
  have HK := Lib.hid hK
  clear hK
  go_wp2
  refine HK.out _ _ ?_
  clear HK
  refine then_n ?_
  obtain ⟨W_0, hW⟩ : ∃ W, W = w.alloc (Obj.cells #[Value.bool false, Value.slice none 0 0, Value.bool false, Value.slice none 0 0] 27) := ⟨_, rfl⟩
  have bb_0 : Below w.heap.size w W_0 := by rw [hW]; exact bal (Below.refl _ _) _
  have K0 : W_0.heap[w.heap.size]? = some (Obj.cells #[Value.bool false, Value.slice none 0 0, Value.bool false, Value.slice none 0 0] 27) := by rw [hW]; exact new_at (by simp)
  rw [← hW]
  have R_0 : Holds_ W_0 (w.heap.size) #[Value.bool false, Value.slice none 0 0, Value.bool false, Value.slice none 0 0] := ⟨⟨_, K0⟩, by simp [noDig]⟩
  clear hW K0 hcell
  refine name_frame (G := fun a => Code.wp _ _ _ a _) ?_
  intro a_0 ha
  have hN_0 : a_0.tmps.size = 35 := by subst ha; kernel_rfl
  have hD_0 : a_0.defers = [] := by subst ha; rfl
  have e0_0 : a_0.eval (.tmp 0) = .string s := by subst ha; kernel_rfl
  have e2_0 : a_0.eval (.tmp 2) = .pointer (some ⟨w.heap.size, 0, none⟩) := by subst ha; kernel_rfl
  clear ha
  repeat (first | refine wp_seq ?_ | (refine wp_skip ?_; refine then_n ?_))
  refine wp_region_law hN_0 w.heap.size
    [kIs (.string s), kIs (.tuple #[.string A, .string B, .bool true]), kIs (.tuple #[.string A, .string B, .bool true]), kIs (.string A), kIs (.string B), kIs (.bool true), kIs (.string A), kIs (.string B), kIs (.bool true)]
    [ [], [(0, some 9)], [(1, some 10)], [(2, some 8)], [(2, some 8)], [(2, some 8)], [(3, some 11)], [(4, some 12)], [(5, some 13)] ]
    [(0, some 9), (1, some 10), (2, some 8), (3, some 11), (4, some 12), (5, some 13), (6, some 4), (7, some 5), (8, some 6)] [] [] (by kernel_rfl) (by kernel_rfl) (by kernel_rfl) (by kernel_rfl) (by kernel_rfl) (by kernel_rfl) (by kernel_rfl) bb_0.size ?_ ?_
  ·
    refine pk_cons rfl rfl (st_pure [] [(0, .string s)] (.string s) rfl hN_0 (by kernel_rfl) (by kernel_rfl) (by kernel_rfl) (old1 e0_0) (by kernel_rfl) (by kernel_rfl) (by kernel_rfl) (fun _ => by kernel_rfl)) ?_
    refine pk_cons rfl rfl (st_callC hN_0 (by kernel_rfl) (by kernel_rfl) (by kernel_rfl) rfl rfl fun w x v1 hC h1 => ti (cut_told hc hs h1 (HM.out _ (bb_0.trans hC.below)))) ?_
    refine pk_cons rfl rfl (st_pure [.tuple #[.string A, .string B, .bool true]] [] (.tuple #[.string A, .string B, .bool true]) rfl hN_0 (by kernel_rfl) (by kernel_rfl) (by kernel_rfl) old0 (by kernel_rfl) (by kernel_rfl) (by kernel_rfl) (fun _ => by kernel_rfl)) ?_
    refine pk_cons rfl rfl (st_pure [.tuple #[.string A, .string B, .bool true]] [] (.string A) rfl hN_0 (by kernel_rfl) (by kernel_rfl) (by kernel_rfl) old0 (by kernel_rfl) (by kernel_rfl) (by kernel_rfl) (fun _ => by kernel_rfl)) ?_
    refine pk_cons rfl rfl (st_pure [.tuple #[.string A, .string B, .bool true]] [] (.string B) rfl hN_0 (by kernel_rfl) (by kernel_rfl) (by kernel_rfl) old0 (by kernel_rfl) (by kernel_rfl) (by kernel_rfl) (fun _ => by kernel_rfl)) ?_
    refine pk_cons rfl rfl (st_pure [.tuple #[.string A, .string B, .bool true]] [] (.bool true) rfl hN_0 (by kernel_rfl) (by kernel_rfl) (by kernel_rfl) old0 (by kernel_rfl) (by kernel_rfl) (by kernel_rfl) (fun _ => by kernel_rfl)) ?_
    refine pk_cons rfl rfl (st_pure [.string A] [] (.string A) rfl hN_0 (by kernel_rfl) (by kernel_rfl) (by kernel_rfl) old0 (by kernel_rfl) (by kernel_rfl) (by kernel_rfl) (fun _ => by kernel_rfl)) ?_
    refine pk_cons rfl rfl (st_pure [.string B] [] (.string B) rfl hN_0 (by kernel_rfl) (by kernel_rfl) (by kernel_rfl) old0 (by kernel_rfl) (by kernel_rfl) (by kernel_rfl) (fun _ => by kernel_rfl)) ?_
    refine pk_cons rfl rfl (st_pure [.bool true] [] (.bool true) rfl hN_0 (by kernel_rfl) (by kernel_rfl) (by kernel_rfl) old0 (by kernel_rfl) (by kernel_rfl) (by kernel_rfl) (fun _ => by kernel_rfl)) ?_
    exact pk_nil rfl
  intro W_1 x_ hC hall
  refine then_n ?_
  obtain ⟨a_1, ha⟩ : ∃ a, a = putE x_ a_0 [(0, some 9), (1, some 10), (2, some 8), (3, some 11), (4, some 12), (5, some 13), (6, some 4), (7, some 5), (8, some 6)] := ⟨_, rfl⟩
  rw [← ha]
  have hN_1 := size_behind ha hN_0
  have hD_1 := defers_behind ha hD_0
  have bb_1 := bb_0.trans hC.below
  have e0_1 := slot_old ha (by kernel_rfl) e0_0
  have e2_1 := slot_old ha (by kernel_rfl) e2_0
  have R_1 := hC.holds R_0
  have e4_1 := (slot_new (t := 4) (i := 6) ha hN_0 (by kernel_rfl) (by kernel_rfl)).trans (show x_ 6 = .string A from hall 6 (of_decide_eq_true (by kernel_rfl)))
  have e5_1 := (slot_new (t := 5) (i := 7) ha hN_0 (by kernel_rfl) (by kernel_rfl)).trans (show x_ 7 = .string B from hall 7 (of_decide_eq_true (by kernel_rfl)))
  have e6_1 := (slot_new (t := 6) (i := 8) ha hN_0 (by kernel_rfl) (by kernel_rfl)).trans (show x_ 8 = .bool true from hall 8 (of_decide_eq_true (by kernel_rfl)))
  clear hall hC ha bb_0 hD_0 e0_0 e2_0 R_0
  repeat (first | refine wp_seq ?_ | (refine wp_skip ?_; refine then_n ?_))
  refine wp_region_law hN_1 w.heap.size
    [kIs (.bool true), kIs (.bool false)]
    [ [], [(0, some 14)] ]
    [(0, some 14), (1, some 15)] [] [] (by kernel_rfl) (by kernel_rfl) (by kernel_rfl) (by kernel_rfl) (by kernel_rfl) (by kernel_rfl) (by kernel_rfl) bb_1.size ?_ ?_
  ·
    refine pk_cons rfl rfl (st_pure [] [(6, .bool true)] (.bool true) rfl hN_1 (by kernel_rfl) (by kernel_rfl) (by kernel_rfl) (old1 e6_1) (by kernel_rfl) (by kernel_rfl) (by kernel_rfl) (fun _ => by kernel_rfl)) ?_
    refine pk_cons rfl rfl (st_pure [.bool true] [] (.bool false) rfl hN_1 (by kernel_rfl) (by kernel_rfl) (by kernel_rfl) old0 (by kernel_rfl) (by kernel_rfl) (by kernel_rfl) (fun _ => by kernel_rfl)) ?_
    exact pk_nil rfl
  intro W_2 x_ hC hall
  refine then_n ?_
  obtain ⟨a_2, ha⟩ : ∃ a, a = putE x_ a_1 [(0, some 14), (1, some 15)] := ⟨_, rfl⟩
  rw [← ha]
  have hN_2 := size_behind ha hN_1
  have hD_2 := defers_behind ha hD_1
  have bb_2 := bb_1.trans hC.below
  have e0_2 := slot_old ha (by kernel_rfl) e0_1
  have e2_2 := slot_old ha (by kernel_rfl) e2_1
  have e4_2 := slot_old ha (by kernel_rfl) e4_1
  have e5_2 := slot_old ha (by kernel_rfl) e5_1
  have e6_2 := slot_old ha (by kernel_rfl) e6_1
  have R_2 := hC.holds R_1
  have e15_2 := (slot_new (t := 15) (i := 1) ha hN_1 (by kernel_rfl) (by kernel_rfl)).trans (show x_ 1 = .bool false from hall 1 (of_decide_eq_true (by kernel_rfl)))
  clear hall hC ha bb_1 hD_1 e0_1 e2_1 e4_1 e5_1 e6_1 R_1
  refine wp_cond_false e15_2 ?_
  repeat (first | refine wp_seq ?_ | (refine wp_skip ?_; refine then_n ?_))
  refine wp_region_law hN_2 w.heap.size [PK.fresh 4] [ [] ] [(0, some 7)] [] [] (by kernel_rfl) (by kernel_rfl) (by kernel_rfl) (by kernel_rfl) (by kernel_rfl) (by kernel_rfl) (by kernel_rfl) bb_2.size ?_ ?_
  · refine pk_cons rfl rfl (st_allocP hN_2 (by kernel_rfl) (Nat.le_refl _) rfl) ?_
    exact pk_nil rfl
  intro W_3 x_ hC hall
  refine then_n ?_
  obtain ⟨a_3, ha⟩ : ∃ a, a = putE x_ a_2 [(0, some 7)] := ⟨_, rfl⟩
  rw [← ha]
  have hN_3 := size_behind ha hN_2
  have hD_3 := defers_behind ha hD_2
  have bb_3 := bb_2.trans hC.below
  have e0_3 := slot_old ha (by kernel_rfl) e0_2
  have e2_3 := slot_old ha (by kernel_rfl) e2_2
  have e4_3 := slot_old ha (by kernel_rfl) e4_2
  have e5_3 := slot_old ha (by kernel_rfl) e5_2
  have e6_3 := slot_old ha (by kernel_rfl) e6_2
  have e15_3 := slot_old ha (by kernel_rfl) e15_2
  have R_3 := hC.holds R_2
  obtain ⟨g7, cs, hx, hge, P_3, hsz⟩ := (show (PK.fresh 4).sem _ _ _ _ from hall 0 (of_decide_eq_true (by kernel_rfl)))
  obtain ⟨qa, qb, qc, qd, rfl⟩ := size_four hsz
  have e7_3 := (slot_new (t := 7) (i := 0) ha hN_2 (by kernel_rfl) (by kernel_rfl)).trans hx
  have d7 := Nat.lt_of_lt_of_le R_2.lt hge
  clear hall hC ha hx hge hsz
  repeat (first | refine wp_seq ?_ | (refine wp_skip ?_; refine then_n ?_))
  refine wp_region_keep hN_3 w.heap.size g7 P_3 (by omega) 6 [6]
    [kIs (.string A), kZB 19 (x) okA, kZB 19 (x) okA, kZ 19 (x), kIs (.bool okA), kIs (.pointer (some ⟨g7, 0, none⟩)), kLo g7 19 (x) qc qd]
    [ [], [(0, some 17)], [(1, some 18)], [(2, some 16)], [(2, some 16)], [], [(5, some 21), (3, some 19)] ]
    [(0, some 17), (1, some 18), (2, some 16), (3, some 19), (4, some 20), (5, some 21), (6, none)] [] [] (by kernel_rfl) (by kernel_rfl) (by kernel_rfl) (by kernel_rfl) (by kernel_rfl) (by kernel_rfl) (by kernel_rfl) rfl (by kernel_rfl) bb_3.size ?_ ?_
  ·
    refine pkl_cons rfl rfl (st_pure [] [(4, .string A)] (.string A) rfl hN_3 (by kernel_rfl) (by kernel_rfl) (by kernel_rfl) (old1 e4_3) (by kernel_rfl) (by kernel_rfl) (by kernel_rfl) (fun _ => by kernel_rfl)) ?_
    refine pkl_cons rfl rfl (st_call1 hN_3 (by kernel_rfl) (by kernel_rfl) (by kernel_rfl) rfl rfl fun w x v1 hC h1 => called_at h1 (HA.out _)) ?_
    refine pkl_cons rfl rfl (st_move hN_3 (by kernel_rfl) (by kernel_rfl) rfl rfl) ?_
    refine pkl_cons rfl rfl (st_ext hN_3 (by kernel_rfl) (by kernel_rfl) rfl rfl ext_z) ?_
    refine pkl_cons rfl rfl (st_ext hN_3 (by kernel_rfl) (by kernel_rfl) rfl rfl ext_ok) ?_
    refine pkl_cons rfl rfl (st_pure [] [(7, .pointer (some ⟨g7, 0, none⟩))] (.pointer (some ⟨g7, 0, none⟩)) rfl hN_3 (by kernel_rfl) (by kernel_rfl) (by kernel_rfl) (old1 e7_3) (by kernel_rfl) (by kernel_rfl) (by kernel_rfl) (fun _ => by kernel_rfl)) ?_
    refine pkl_keep rfl rfl rfl ?_ ?_
    · exact st_lo P_3 hN_3 (by kernel_rfl) (by kernel_rfl) (by kernel_rfl) rfl rfl rfl
    exact pkl_nil rfl
  intro W_4 x_ hC hall
  refine then_n ?_
  obtain ⟨a_4, ha⟩ : ∃ a, a = putE x_ a_3 [(0, some 17), (1, some 18), (2, some 16), (3, some 19), (4, some 20), (5, some 21), (6, none)] := ⟨_, rfl⟩
  rw [← ha]
  have hN_4 := size_behind ha hN_3
  have hD_4 := defers_behind ha hD_3
  have bb_4 := bb_3.trans hC.below
  have e0_4 := slot_old ha (by kernel_rfl) e0_3
  have e2_4 := slot_old ha (by kernel_rfl) e2_3
  have e4_4 := slot_old ha (by kernel_rfl) e4_3
  have e5_4 := slot_old ha (by kernel_rfl) e5_3
  have e6_4 := slot_old ha (by kernel_rfl) e6_3
  have e15_4 := slot_old ha (by kernel_rfl) e15_3
  have e7_4 := slot_old ha (by kernel_rfl) e7_3
  have R_4 := hC.holdsG (by simp only [List.mem_singleton]; omega) R_3
  obtain ⟨_, P_4, A5, l5, c5, rfl, Z_4⟩ := (show (kLo g7 19 (x) qc qd).sem _ _ _ _ from hall 6 (of_decide_eq_true (by kernel_rfl)))
  clear hall hC ha
  repeat (first | refine wp_seq ?_ | (refine wp_skip ?_; refine then_n ?_))
  refine wp_region_keep hN_4 w.heap.size g7 P_4 (by omega) 6 [6]
    [kIs (.string B), kZB 19 (y) okB, kZB 19 (y) okB, kZ 19 (y), kIs (.bool okB), kIs (.pointer (some ⟨g7, 2, none⟩)), kRes g7 19 (x) (y)]
    [ [], [(0, some 23)], [(1, some 24)], [(2, some 22)], [(2, some 22)], [], [(5, some 27), (3, some 25)] ]
    [(0, some 23), (1, some 24), (2, some 22), (3, some 25), (4, some 26), (5, some 27), (6, none)] [] [] (by kernel_rfl) (by kernel_rfl) (by kernel_rfl) (by kernel_rfl) (by kernel_rfl) (by kernel_rfl) (by kernel_rfl) rfl (by kernel_rfl) bb_4.size ?_ ?_
  ·
    refine pkl_cons rfl rfl (st_pure [] [(5, .string B)] (.string B) rfl hN_4 (by kernel_rfl) (by kernel_rfl) (by kernel_rfl) (old1 e5_4) (by kernel_rfl) (by kernel_rfl) (by kernel_rfl) (fun _ => by kernel_rfl)) ?_
    refine pkl_cons rfl rfl (st_call1 hN_4 (by kernel_rfl) (by kernel_rfl) (by kernel_rfl) rfl rfl fun w x v1 hC h1 => called_at h1 (HB.out _)) ?_
    refine pkl_cons rfl rfl (st_move hN_4 (by kernel_rfl) (by kernel_rfl) rfl rfl) ?_
    refine pkl_cons rfl rfl (st_ext hN_4 (by kernel_rfl) (by kernel_rfl) rfl rfl ext_z) ?_
    refine pkl_cons rfl rfl (st_ext hN_4 (by kernel_rfl) (by kernel_rfl) rfl rfl ext_ok) ?_
    refine pkl_cons rfl rfl (st_pure [] [(7, .pointer (some ⟨g7, 0, none⟩))] (.pointer (some ⟨g7, 2, none⟩)) rfl hN_4 (by kernel_rfl) (by kernel_rfl) (by kernel_rfl) (old1 e7_4) (by kernel_rfl) (by kernel_rfl) (by kernel_rfl) (fun _ => by kernel_rfl)) ?_
    refine pkl_keep rfl rfl rfl ?_ ?_
    · exact st_hi P_4 Z_4 hN_4 (by kernel_rfl) (by kernel_rfl) (by kernel_rfl) rfl rfl rfl
    exact pkl_nil rfl
  intro W_5 x_ hC hall
  refine then_n ?_
  obtain ⟨a_5, ha⟩ : ∃ a, a = putE x_ a_4 [(0, some 23), (1, some 24), (2, some 22), (3, some 25), (4, some 26), (5, some 27), (6, none)] := ⟨_, rfl⟩
  rw [← ha]
  have hN_5 := size_behind ha hN_4
  have hD_5 := defers_behind ha hD_4
  have bb_5 := bb_4.trans hC.below
  have e0_5 := slot_old ha (by kernel_rfl) e0_4
  have e2_5 := slot_old ha (by kernel_rfl) e2_4
  have e4_5 := slot_old ha (by kernel_rfl) e4_4
  have e5_5 := slot_old ha (by kernel_rfl) e5_4
  have e6_5 := slot_old ha (by kernel_rfl) e6_4
  have e15_5 := slot_old ha (by kernel_rfl) e15_4
  have e7_5 := slot_old ha (by kernel_rfl) e7_4
  have R_5 := hC.holdsG (by simp only [List.mem_singleton]; omega) R_4
  obtain ⟨f7_5, f7'_5⟩ := res_atP (show (kRes g7 19 (x) (y)).sem _ _ _ _ from hall 6 (of_decide_eq_true (by kernel_rfl)))
  clear hall hC ha
  repeat (first | refine wp_seq ?_ | (refine wp_skip ?_; refine then_n ?_))
  refine wp_region_law hN_5 w.heap.size
    [kP 19 (x) (y), kIs (.string (t)), kIs (.string s), kIs (.bool true)]
    [ [], [(0, some 28)], [], [(1, some 29), (2, some 30)] ]
    [(0, some 28), (1, some 29), (2, some 30), (3, some 31)] [] [] (by kernel_rfl) (by kernel_rfl) (by kernel_rfl) (by kernel_rfl) (by kernel_rfl) (by kernel_rfl) (by kernel_rfl) bb_5.size ?_ ?_
  ·
    refine pk_cons rfl rfl (st_load4P f7_5 f7'_5 (by simp) e7_5 hN_5 (by kernel_rfl) rfl) ?_
    refine pk_cons rfl rfl (st_call1 hN_5 (by kernel_rfl) (by kernel_rfl) (by kernel_rfl) rfl rfl fun w x v1 hC h1 => ti (HX.out _ _ (bb_5.trans hC.below) h1)) ?_
    refine pk_cons rfl rfl (st_pure [] [(0, .string s)] (.string s) rfl hN_5 (by kernel_rfl) (by kernel_rfl) (by kernel_rfl) (old1 e0_5) (by kernel_rfl) (by kernel_rfl) (by kernel_rfl) (fun _ => by kernel_rfl)) ?_
    refine pk_cons rfl rfl (st_pureV [.string (t), .string s] [] (.bool (!((t).toList == (s).toList))) (.bool true) (congrArg Value.bool (by rw [hne]; rfl)) rfl hN_5 (by kernel_rfl) (by kernel_rfl) (by kernel_rfl) old0 (by kernel_rfl) (by kernel_rfl) (by kernel_rfl) (fun _ => by kernel_rfl)) ?_
    exact pk_nil rfl
  intro W_6 x_ hC hall
  refine then_n ?_
  obtain ⟨a_6, ha⟩ : ∃ a, a = putE x_ a_5 [(0, some 28), (1, some 29), (2, some 30), (3, some 31)] := ⟨_, rfl⟩
  rw [← ha]
  have hN_6 := size_behind ha hN_5
  have hD_6 := defers_behind ha hD_5
  have bb_6 := bb_5.trans hC.below
  have e0_6 := slot_old ha (by kernel_rfl) e0_5
  have e2_6 := slot_old ha (by kernel_rfl) e2_5
  have e4_6 := slot_old ha (by kernel_rfl) e4_5
  have e5_6 := slot_old ha (by kernel_rfl) e5_5
  have e6_6 := slot_old ha (by kernel_rfl) e6_5
  have e15_6 := slot_old ha (by kernel_rfl) e15_5
  have e7_6 := slot_old ha (by kernel_rfl) e7_5
  have R_6 := hC.holds R_5
  have f7_6 := hC.at0 f7_5
  have f7'_6 := hC.at0 f7'_5
  have e31_6 := (slot_new (t := 31) (i := 3) ha hN_5 (by kernel_rfl) (by kernel_rfl)).trans (show x_ 3 = .bool true from hall 3 (of_decide_eq_true (by kernel_rfl)))
  clear hall hC ha bb_5 hD_5 e0_5 e2_5 e4_5 e5_5 e6_5 e15_5 e7_5 R_5 f7_5 f7'_5
  refine wp_cond_true e31_6 ?_
  repeat (first | refine wp_seq ?_ | (refine wp_skip ?_; refine then_n ?_))
  refine wp_region_res hN_6 w.heap.size (w.heap.size) R_6 (by omega)
    [kP 9 (0) (1), kP 9 (0) (1), kRes (w.heap.size) 9 (0) (1), kIs (.bool false)]
    [ [], [(0, some 32)], [(1, some 33)], [] ]
    [(0, some 32), (1, some 33), (2, none), (3, some 3)] [] [] (by kernel_rfl) (by kernel_rfl) (by kernel_rfl) (by kernel_rfl) (by kernel_rfl) (by kernel_rfl) (by kernel_rfl) bb_6.size ?_ ?_
  ·
    refine pk_cons rfl rfl (st_call0 [] hN_6 (by kernel_rfl) (by kernel_rfl) rfl rfl fun w x hC => tp none_9) ?_
    refine pk_cons rfl rfl (st_fieldF hN_6 (by kernel_rfl) (by kernel_rfl) rfl rfl) ?_
    refine pk_cons rfl rfl (st_resP R_6 rfl (by simp) e2_6 hN_6 (by kernel_rfl) (by kernel_rfl) rfl rfl) ?_
    refine pk_cons rfl rfl (st_pure [] [] (.bool false) rfl hN_6 (by kernel_rfl) (by kernel_rfl) (by kernel_rfl) old0 (by kernel_rfl) (by kernel_rfl) (by kernel_rfl) (fun _ => by kernel_rfl)) ?_
    exact pk_nil rfl
  intro W x_ hC hall
  refine then_n ?_
  obtain ⟨a1, ha⟩ : ∃ a, a = putE x_ a_6 [(0, some 32), (1, some 33), (2, none), (3, some 3)] := ⟨_, rfl⟩
  rw [← ha]
  have hD1 := defers_behind ha hD_6
  have bb1 := bb_6.trans hC.below
  obtain ⟨cs, hg, hP⟩ := (show (kRes (w.heap.size) 9 (0) (1)).sem _ _ _ _ from hall 2 (of_decide_eq_true (by kernel_rfl)))
  have e1 := slot_old (t := 2) ha (by kernel_rfl) e2_6
  have e2 := (slot_new (t := 3) (i := 3) ha hN_6 (by kernel_rfl) (by kernel_rfl)).trans (show x_ 3 = .bool false from hall 3 (of_decide_eq_true (by kernel_rfl)))
  repeat (first | refine wp_seq ?_ | (refine wp_skip ?_; refine then_n ?_))
  refine wp_ret ?_
  repeat (refine then_r ?_)
  exact ret_cellP2 (t := 2) (u := 3) rfl hD1 e1 e2 hg hP fun v hv => ⟨v, rfl, hv, bb1⟩
end Go.Proofs.YthgclmkhmcfflaaGreatDoor
namespace Go.Proofs.YthgclmkhmcfflaaGreatDoor
open Go.RowKit
/-- A ratio and what is told with it. -/
def kPT (k : Nat) (x y : Int) (V : Value) : PK := .p (fun v w => ∃ a, v = .tuple #[a, V] ∧ Pr w a k x y) (fun _ _ _ ⟨a, h1, h2⟩ hb => ⟨a, h1, h2.below hb⟩) (fun _ _ _ _ ⟨a, h1, h2⟩ hs => ⟨a, h1, h2.stored hs⟩)
theorem tpt {P : Program} {F : FuncId} {vs : Array Value} {w : World} {S0 : Nat} {x : Nat → Value} {k : Nat} {z1 z2 : Int} {V : Value} (h : Calls P F vs w fun e w' => ∃ v, e = .returned (.tuple #[v, V]) ∧ Pr w' v k z1 z2 ∧ Below w.heap.size w w') : Calls P F vs w (Told (kPT k z1 z2 V) S0 x w) :=
  h.mono fun _ _ ⟨v, e, h1, h2⟩ => ⟨_, e, h2, v, rfl, h1⟩
theorem ext_p {S0 : Nat} {k : Nat} {z1 z2 : Int} {V : Value} : ∀ w x v, (kPT k z1 z2 V).sem S0 x v w → ∃ vs u, v = .tuple vs ∧ vs[0]? = some u ∧ (kP k z1 z2).move S0 x u w w ∧ (kP k z1 z2).sem S0 x u w := fun _ _ _ ⟨a, h1, h2⟩ => ⟨_, a, h1, rfl, Below.refl _ _, h2⟩
theorem ext_v {S0 : Nat} {k : Nat} {z1 z2 : Int} {V : Value} : ∀ w x v, (kPT k z1 z2 V).sem S0 x v w → ∃ vs u, v = .tuple vs ∧ vs[1]? = some u ∧ (kIs V).move S0 x u w w ∧ (kIs V).sem S0 x u w := fun _ _ _ ⟨_, h1, _⟩ => ⟨_, _, h1, rfl, Below.refl _ _, rfl⟩
theorem plm2 {S0 : Nat} {x : Nat → Value} {v : Value} {w : World} {i j : Nat} {a b c d : Int} (k : Nat) (h : (kPRs [(i, a, b), (j, c, d)]).sem S0 x v w) (hi : i ≤ k) (hj : j ≤ k) : PL w v [(k, a, b), (k, c, d)] := by
  obtain ⟨g, h1, _, h2, h3⟩ := h
  refine ⟨g, h1, h2, fun n q hq => ?_⟩
  match n, hq with
  | 0, hq =>
    simp at hq; subst hq
    obtain ⟨A, l, e, A', l', e', m1, m2, m3, m4, m5⟩ := h3 0 _ rfl
    exact ⟨A, l, e, A', l', e', m1, m2, m3, m4, m5.mono hi⟩
  | 1, hq =>
    simp at hq; subst hq
    obtain ⟨A, l, e, A', l', e', m1, m2, m3, m4, m5⟩ := h3 1 _ rfl
    exact ⟨A, l, e, A', l', e', m1, m2, m3, m4, m5.mono hj⟩
theorem whole0 {w : World} {v : Value} {j : Nat} (h : Zr w v j 0) (hj : j ≤ 9) : Calls Tryz.prog 14 #[v] w (TellsP w 9 (0 : Rat).num ((0 : Rat).den : Int)) := Whole_9 (h.mono hj)
theorem lawSame_not {w : World} {v1 v2 : Value} {a b : Rat} (hne : a ≠ b) (h1 : Pr w v1 9 a.num (a.den : Int)) (h2 : Pr w v2 9 b.num (b.den : Int)) : Calls Tryz.prog 9 #[v1, v2] w (fun e w' => e = .returned (.bool false) ∧ Below w.heap.size w w') := by
  by_cases h : a.num = b.num
  · rw [h] at h1
    exact lawSame_den_9 (fun e => hne (Rat.ext h (by omega))) h1 h2
  · exact lawSame_num_9 h h1 h2
theorem Text_9 {w : World} {v1 : Value} {a : Rat} (HT : Hid (Tab w ∧ 4 ≤ w.heap.size)) (h1 : Pr w v1 9 a.num (a.den : Int)) : Calls Tryz.prog 21 #[v1] w (fun e w' => e = .returned (.string (textQ a)) ∧ Below w.heap.size w w') := by
  by_cases h : a.den = 1
  · rw [textQ_one h]; exact Text_9w HT h h1
  · rw [textQ_more h]; exact Text_9b HT h h1
theorem parse_z (z : Int) (hz : z.natAbs < 1000000000 ^ 19) (W : World) {S0 : Nat} {x : Nat → Value} : Calls Tryz.prog 25 #[.string (ztext z)] W (Told (kZB 19 z true) S0 x W) := parse_told 19 rfl hz (by decide)
section
variable {G : List Nat} {S0 B : Nat} {ks : List PK} {a0 : Act} {i : Nat} {N : Nat} {W0 : World} {T : TypeId} {pos : String} {af : Array Edge} {gu : Option (Nat × Bool)}
/-- A ratio that came in, out of its block. -/
theorem st_loadV4 {d t g : Nat} {u v u' v' : Value} (hl : Holds_ W0 g #[u, v, u', v']) (hp : a0.eval (.tmp t) = .pointer (some ⟨g, 0, none⟩)) (hN : a0.tmps.size = N) (hd : decide (d < N) = true) (hi : at_ ks i = kIs (.agg #[u, v, u', v'])) :
    PkStep Tryz.prog (Reg B W0 []) S0 ks a0 i { dst := some d, op := .load 27 (.tmp t), type := T, pos := pos, after := af, guard := gu } [] := by
  intro w x hC K hK
  obtain ⟨m1, m2, m3, m4, _, _, _, _⟩ := (hC.holds hl).four
  refine wp_val (v := .agg #[u, v, u', v']) (w' := w) rfl hN hd ?_ (hK _ _ ?_ ?_)
  · exact ex_load hp (run_load4P m1 m2 m3 m4)
  · rw [hi]; exact Below.refl _ _
  · rw [hi]; rfl
set_option maxRecDepth 100000 in
theorem st_lensP3 {d j1 t1 j2 t2 j3 t3 l1 l1' l2 l2' l3 l3' : Nat} {b1 b1' b2 b2' b3 b3' : Bool} {A1 A1' A2 A2' A3 A3' : Option Addr} {c1 c1' c2 c2' c3 c3' : Nat} (hN : a0.tmps.size = N) (hd : decide (d < N) = true) (ht1 : decide (t1 < N) = true) (ht2 : decide (t2 < N) = true) (ht3 : decide (t3 < N) = true) (hne : decide (t1 = t2) = false) (hne2 : decide (t1 = t3) = false) (hne3 : decide (t2 = t3) = false) (hS : S0 ≤ W0.heap.size)
    (h1 : at_ ks j1 = kIs (.agg #[.bool b1, .slice A1 l1 c1, .bool b1', .slice A1' l1' c1'])) (h2 : at_ ks j2 = kIs (.agg #[.bool b2, .slice A2 l2 c2, .bool b2', .slice A2' l2' c2'])) (h3 : at_ ks j3 = kIs (.agg #[.bool b3, .slice A3 l3 c3, .bool b3', .slice A3' l3' c3'])) (hi : at_ ks i = kLensP [(l1, l1'), (l2, l2'), (l3, l3')]) :
    PkStep Tryz.prog (Reg B W0 G) S0 ks a0 i { dst := some d, op := .buildSlice 56 3 #[(0, .tmp t1), (1, .tmp t2), (2, .tmp t3)], type := T, pos := pos, after := af, guard := gu } [(j1, some t1), (j2, some t2), (j3, some t3)] := by
  intro w x hC
  refine deps_all _ fun hdeps K hK => ?_
  have hx := hdeps (j1, some t1) (by simp)
  have hy := hdeps (j2, some t2) (by simp)
  have hz := hdeps (j3, some t3) (by simp)
  rw [h1] at hx
  rw [h2] at hy
  rw [h3] at hz
  replace hx : x j1 = .agg #[.bool b1, .slice A1 l1 c1, .bool b1', .slice A1' l1' c1'] := hx
  replace hy : x j2 = .agg #[.bool b2, .slice A2 l2 c2, .bool b2', .slice A2' l2' c2'] := hy
  replace hz : x j3 = .agg #[.bool b3, .slice A3 l3 c3, .bool b3', .slice A3' l3' c3'] := hz
  have hne' : t1 ≠ t2 := of_decide_eq_false hne
  have hne2' : t1 ≠ t3 := of_decide_eq_false hne2
  have hne3' : t2 ≠ t3 := of_decide_eq_false hne3
  have e1 : (putE x a0 [(j1, some t1), (j2, some t2), (j3, some t3)]).eval (.tmp t1) = x j1 := putE_new _ _ (by rw [hN]; exact of_decide_eq_true ht1) (by simp [slotAt, Ne.symm hne', Ne.symm hne2'])
  have e2 : (putE x a0 [(j1, some t1), (j2, some t2), (j3, some t3)]).eval (.tmp t2) = x j2 := putE_new _ _ (by rw [hN]; exact of_decide_eq_true ht2) (by simp [slotAt, Ne.symm hne3'])
  have e3 : (putE x a0 [(j1, some t1), (j2, some t2), (j3, some t3)]).eval (.tmp t3) = x j3 := putE_new _ _ (by rw [hN]; exact of_decide_eq_true ht3) (by simp [slotAt])
  have hsz := hC.below.size
  refine wp_val rfl (by rw [putE_size, hN]) hd (ex_slice3 (e1.trans hx) (e2.trans hy) (e3.trans hz) run_plist3) (hK _ _ ?_ ?_)
  · rw [hi]; exact ⟨(Below.refl _ _).alloc (Nat.le_refl _) _, _, rfl, Nat.le_refl _⟩
  · rw [hi]
    refine ⟨_, rfl, Nat.le_trans hS hsz, lt_alloc _ _, fun j q hj => ?_⟩
    match j, hj with
    | 0, hj => simp at hj; subst hj; exact ⟨⟨A1, c1, by simp⟩, A1', c1', by simp⟩
    | 1, hj => simp at hj; subst hj; exact ⟨⟨A2, c2, by simp⟩, A2', c2', by simp⟩
    | 2, hj => simp at hj; subst hj; exact ⟨⟨A3, c3, by simp⟩, A3', c3', by simp⟩
end
theorem atR_of {W : World} {g k : Nat} {b b' : Bool} {A A' : Option Addr} {l c l' c' : Nat} {x y : Int} (hh : Holds_ W g #[.bool b, .slice A l c, .bool b', .slice A' l' c']) (hp : Pr W (.agg #[.bool b, .slice A l c, .bool b', .slice A' l' c']) k x y) : AtR W g 0 k x ∧ AtR W g 2 k y := by
  obtain ⟨A1, l1, c1, A2, l2, c2, e, h1, h2⟩ := hp
  injection e with e; injection e with e
  injection e with e0 e; injection e with e1 e; injection e with e2 e; injection e with e3 _
  injection e0 with e0; injection e2 with e2; injection e1 with q1 q2 q3; injection e3 with q4 q5 q6
  subst e0; subst e2; subst q1; subst q2; subst q3; subst q4; subst q5; subst q6
  obtain ⟨m1, m2, m3, m4, _, _, _, _⟩ := hh.four
  exact ⟨⟨A, l, c, m1, m2, _, _, _, rfl, h1⟩, ⟨A', l', c', m3, m4, _, _, _, rfl, h2⟩⟩
theorem three_new4 {w W : World} {o1 o2 o3 : Obj} (h : W = ((w.alloc o1).alloc o2).alloc o3) :
    Below w.heap.size w W ∧ W.heap[w.heap.size]? = some o1 ∧ W.heap[w.heap.size + 1]? = some o2 ∧ W.heap[w.heap.size + 1 + 1]? = some o3 := by
  obtain ⟨h1, _, h2, h3, h4⟩ := three_newW h
  exact ⟨h1, h2, h3, h4⟩
/-- The chapter's example: 6 by -4. -/
def awQ : Rat := Rat.divInt 6 (-4)
theorem awQ_num : awQ.num = -3 := by decide +kernel
theorem awQ_den : awQ.den = 2 := by decide +kernel
theorem awQ_text : (textQ awQ).toList = (⟨#[45, 51, 47, 50]⟩ : ByteArray).toList := by
  rw [textQ_more (by rw [awQ_den]; decide), awQ_num, awQ_den]; decide +kernel
theorem ztext_six : ztext 6 = ⟨#[54]⟩ := by decide +kernel
theorem ztext_four : ztext 4 = ⟨#[52]⟩ := by decide +kernel
theorem parse_six {w : World} (HT : Hid (Tab w ∧ 4 ≤ w.heap.size)) (hm : MaxL w) :
    Calls Tryz.prog 7 #[.string ⟨#[54, 47, 52]⟩] w fun e w' => ∃ v, e = .returned (.tuple #[v, .bool false]) ∧ Pr w' v 9 0 1 ∧ Below w.heap.size w w' := by
  have HM : Hid (∀ W, Below w.heap.size w W → MaxL W) := Lib.hid fun W hW => hm.below hW
  have hno : ¬ (0 < (4 : Int) ∧ ((zgcd [((6 : Int)), ((4 : Int))] : Nat) : Int) = 1) := by decide
  have HX : Hid (∀ (W : World) (v : Value), Below w.heap.size w W → Pr W v 19 6 4 → Calls Tryz.prog 21 #[v] W fun e w' => e = .returned (.string (ztext ((0 : Rat).num))) ∧ Below W.heap.size W w') :=
    Lib.hid fun W v hW hv => Text_no_19 hno (Lib.hid ⟨HT.out.1.below hW HT.out.2, Nat.le_trans HT.out.2 hW.size⟩) hv
  have HA : Hid (∀ (W : World) {S0 : Nat} {x : Nat → Value}, Calls Tryz.prog 25 #[.string ⟨#[54]⟩] W (Told (kZB 19 6 true) S0 x W)) := Lib.hid fun W {S0} {x} => ztext_six ▸ parse_z 6 (by decide) W
  have HB : Hid (∀ (W : World) {S0 : Nat} {x : Nat → Value}, Calls Tryz.prog 25 #[.string ⟨#[52]⟩] W (Told (kZB 19 4 true) S0 x W)) := Lib.hid fun W {S0} {x} => ztext_four ▸ parse_z 4 (by decide) W
  exact parse_cut_no (s := ⟨#[54, 47, 52]⟩) (A := ⟨#[54]⟩) (B := ⟨#[52]⟩) ⟨[54], [52], by decide +kernel, rfl, rfl⟩ (by decide) HM HA HB HX (by decide +kernel)
theorem num_ne {b : Rat} (h : b ≠ 0) : b.num ≠ 0 := fun e => h (Rat.num_eq_zero.1 e)
theorem num_no {b : Rat} (h : b = 0) : b.num = 0 := Rat.num_eq_zero.2 h
theorem q_back (a b : Rat) : (a + b) + (-b) = a := by rw [Rat.add_assoc, Rat.add_neg_cancel, Rat.add_zero]
theorem q_undo {a b : Rat} (h : b ≠ 0) : (a * b) * (b⁻¹) = a := by rw [Rat.mul_assoc, Rat.mul_inv_cancel b h, Rat.mul_one]
theorem awQ_floor : zq awQ.num (awQ.den : Int) = -2 := by rw [awQ_num, awQ_den]; decide +kernel
theorem told_of6 {w : World} {v1 v2 : Value} (h1 : Zr w v1 1 (6 : Int)) (h2 : Zr w v2 1 (-4 : Int)) : Calls Tryz.prog 22 #[v1, v2] w (fun e w' => ∃ v, e = .returned (.tuple #[v, .int .i64 (0)]) ∧ Pr w' v 9 (awQ.num) ((awQ.den : Int)) ∧ Below w.heap.size w w') := Of_9 (by decide) (h1.mono (by decide)) (h2.mono (by decide))
theorem right_said {w : World} {V v : Value} {r : Bool} (H : Hid (∀ W, Below w.heap.size w W → Calls Tryz.prog 11 #[V] W (SaysB W r))) {W : World} (h : v = V) (hW : Below w.heap.size w W) : Calls Tryz.prog 11 #[v] W (fun e w' => e = .returned (.bool r) ∧ Below W.heap.size W w') := by
  subst h
  exact H.out W hW
end Go.Proofs.YthgclmkhmcfflaaGreatDoor

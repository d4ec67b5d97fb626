/- The law RatioOrder, walked: of any three ratios the call returns true. Premises: the table of powers of ten reads as it is laid; the library's cell internal/bytealg.MaxLen holds some int. -/
import Derived.Test.YthgclmkhmcfflaaGreatDoorO1
import Derived.Test.YthgclmkhmcfflaaGreatDoorO2
import Derived.Test.YthgclmkhmcfflaaGreatDoorO3
import Derived.Test.YthgclmkhmcfflaaGreatDoorO4
import Derived.Test.YthgclmkhmcfflaaGreatDoorO5
import Derived.Test.YthgclmkhmcfflaaGreatDoorO6
namespace Go.Proofs.YthgclmkhmcfflaaGreatDoor
open Go.RowKit
theorem pr_bounds {W : World} {v : Value} {a : Rat} (h : Pr W v 9 a.num (a.den : Int)) : a.num.natAbs < 1000000000 ^ 19 ∧ a.den < 1000000000 ^ 19 := by
  obtain ⟨_, _, _, _, _, _, _, h1, _, h2⟩ := h.mono (k := 19) (by decide)
  exact ⟨h1.2, by simpa using h2⟩
set_option maxRecDepth 100000 in
set_option maxHeartbeats 16000000 in
theorem lawOrder_great {w : World} {A1 A1' A2 A2' A3 A3' : Option Addr} {l1 l1' c1 c1' l2 l2' c2 c2' l3 l3' c3 c3' : Nat} {b1 b1' b2 b2' b3 b3' : Bool} (hf : fewP [(l1, l1'), (l2, l2'), (l3, l3')] = false) (HT : Hid (Tab w ∧ 4 ≤ w.heap.size)) (hm : MaxL w) :
    Calls Tryz.prog 5 #[.agg #[.bool b1, .slice A1 l1 c1, .bool b1', .slice A1' l1' c1'], .agg #[.bool b2, .slice A2 l2 c2, .bool b2', .slice A2' l2' c2'], .agg #[.bool b3, .slice A3 l3 c3, .bool b3', .slice A3' l3' c3']] w fun e w' => e = .returned (.bool true) ∧ Below w.heap.size w w' := by
  have HM := Lib.hid hm
  have haw := fun (W : World) (hW : Below w.heap.size w W) => awake3_any (w := W) (Lib.hid ⟨HT.out.1.below hW HT.out.2, Nat.le_trans HT.out.2 hW.size⟩) (hm.below hW)
  have HA := Lib.hid haw
  clear haw hm
  have HF := Lib.hid hf
  clear hf
  go_enter Tryz.func5, Tryz.ntmps5
  repeat (refine wp_seq ?_)
  refine region_k ?_
  intro K hK
  have HK := Lib.hid hK
  clear hK
  go_wp2
  refine HK.out _ _ ?_
  clear HK
  refine then_n ?_
  obtain ⟨W_0, hW⟩ : ∃ W, W = ((w.alloc (Obj.cells #[Value.bool b1, Value.slice A1 l1 c1, Value.bool b1', Value.slice A1' l1' c1'] 27)).alloc (Obj.cells #[Value.bool b2, Value.slice A2 l2 c2, Value.bool b2', Value.slice A2' l2' c2'] 27)).alloc (Obj.cells #[Value.bool b3, Value.slice A3 l3 c3, Value.bool b3', Value.slice A3' l3' c3'] 27) := ⟨_, rfl⟩
  obtain ⟨bb_0, K0, K1, K2⟩ := three_new4 hW
  rw [← hW]
  clear hW
  refine name_frame (G := fun a => Code.wp _ _ _ a _) ?_
  intro a_0 ha
  have hN_0 : a_0.tmps.size = 120 := by subst ha; kernel_rfl
  have hD_0 : a_0.defers = [] := by subst ha; rfl
  have e3_0 : a_0.eval (.tmp 3) = .pointer (some ⟨w.heap.size, 0, none⟩) := by subst ha; kernel_rfl
  have H3_0 : Holds_ W_0 (w.heap.size) #[.bool b1, .slice A1 l1 c1, .bool b1', .slice A1' l1' c1'] := ⟨⟨_, K0⟩, by simp [noDig]⟩
  have e4_0 : a_0.eval (.tmp 4) = .pointer (some ⟨w.heap.size + 1, 0, none⟩) := by subst ha; kernel_rfl
  have H4_0 : Holds_ W_0 (w.heap.size + 1) #[.bool b2, .slice A2 l2 c2, .bool b2', .slice A2' l2' c2'] := ⟨⟨_, K1⟩, by simp [noDig]⟩
  have e5_0 : a_0.eval (.tmp 5) = .pointer (some ⟨w.heap.size + 1 + 1, 0, none⟩) := by subst ha; kernel_rfl
  have H5_0 : Holds_ W_0 (w.heap.size + 1 + 1) #[.bool b3, .slice A3 l3 c3, .bool b3', .slice A3' l3' c3'] := ⟨⟨_, K2⟩, by simp [noDig]⟩
  clear ha K0 K1 K2
  repeat (first | refine wp_seq ?_ | (refine wp_skip ?_; refine then_n ?_))
  refine wp_region_law hN_0 w.heap.size
    [kIs (.bool true), kIs (.bool false)]
    [ [], [(0, some 12)] ]
    [(0, some 12), (1, some 13)] [] [] (by kernel_rfl) (by kernel_rfl) (by kernel_rfl) (by kernel_rfl) (by kernel_rfl) (by kernel_rfl) (by kernel_rfl) bb_0.size ?_ ?_
  ·
    refine pk_cons rfl rfl (st_call0 [] hN_0 (by kernel_rfl) (by kernel_rfl) rfl rfl fun w x hC => ti (HA.out _ (bb_0.trans hC.below))) ?_
    refine pk_cons rfl rfl (st_pure [.bool true] [] (.bool false) rfl hN_0 (by kernel_rfl) (by kernel_rfl) (by kernel_rfl) old0 (by kernel_rfl) (by kernel_rfl) (by kernel_rfl) (fun _ => by kernel_rfl)) ?_
    exact pk_nil rfl
  intro W_1 x hC hall
  refine then_n ?_
  obtain ⟨a_1, ha⟩ : ∃ a, a = putE x a_0 [(0, some 12), (1, some 13)] := ⟨_, rfl⟩
  rw [← ha]
  have hN_1 := size_behind ha hN_0
  have hD_1 := defers_behind ha hD_0
  have bb_1 := bb_0.trans hC.below
  have e3_1 := slot_old ha (by kernel_rfl) e3_0
  have e4_1 := slot_old ha (by kernel_rfl) e4_0
  have e5_1 := slot_old ha (by kernel_rfl) e5_0
  have H3_1 := hC.holds H3_0
  have H4_1 := hC.holds H4_0
  have H5_1 := hC.holds H5_0
  have e13_1 := (slot_new (t := 13) (i := 1) ha hN_0 (by kernel_rfl) (by kernel_rfl)).trans (show x 1 = .bool false from hall 1 (of_decide_eq_true (by kernel_rfl)))
  clear hall hC ha bb_0 hD_0 e3_0 e4_0 e5_0 H3_0 H4_0 H5_0
  refine wp_cond_false e13_1 ?_
  repeat (first | refine wp_seq ?_ | (refine wp_skip ?_; refine then_n ?_))
  refine wp_region_law hN_1 w.heap.size
    [kIs (.agg #[.bool b1, .slice A1 l1 c1, .bool b1', .slice A1' l1' c1']), kIs (.agg #[.bool b2, .slice A2 l2 c2, .bool b2', .slice A2' l2' c2']), kIs (.agg #[.bool b3, .slice A3 l3 c3, .bool b3', .slice A3' l3' c3']), kLensP [(l1, l1'), (l2, l2'), (l3, l3')], kIs (.bool false), kIs (.bool true), kIs (.bool true), kIs undef, kIs undef, kIs undef, kIs (.bool true), kIs (.bool true), kIs undef, kIs undef, kIs undef, kIs (.bool true), kIs (.bool true), kIs undef, kIs undef, kIs undef, kIs (.bool true)]
    [ [], [], [], [(0, some 14), (1, some 15), (2, some 16)], [(3, some 17)], [(4, some 18)], [(5, some 19)], [], [(7, some 21)], [(8, some 22)], [(6, some 20), (9, some 23)], [(10, some 24)], [], [(12, some 26)], [(13, some 27)], [(11, some 25), (14, some 28)], [(15, some 29)], [], [(17, some 31)], [(18, some 32)], [(16, some 30), (19, some 33)] ]
    [(0, some 14), (1, some 15), (2, some 16), (3, some 17), (4, some 18), (5, some 19), (6, some 20), (7, some 21), (8, some 22), (9, some 23), (10, some 24), (11, some 25), (12, some 26), (13, some 27), (14, some 28), (15, some 29), (16, some 30), (17, some 31), (18, some 32), (19, some 33), (20, some 34)] [(6, true), (11, true), (16, true)] [7, 8, 9, 12, 13, 14, 17, 18, 19] (by kernel_rfl) (by kernel_rfl) (by kernel_rfl) (by kernel_rfl) (by kernel_rfl) (by kernel_rfl) (by kernel_rfl) bb_1.size ?_ ?_
  ·
    refine pk_cons rfl rfl (st_loadV4 H3_1 e3_1 hN_1 (by kernel_rfl) rfl) ?_
    refine pk_cons rfl rfl (st_loadV4 H4_1 e4_1 hN_1 (by kernel_rfl) rfl) ?_
    refine pk_cons rfl rfl (st_loadV4 H5_1 e5_1 hN_1 (by kernel_rfl) rfl) ?_
    refine pk_cons rfl rfl (st_lensP3 hN_1 (by kernel_rfl) (by kernel_rfl) (by kernel_rfl) (by kernel_rfl) (by kernel_rfl) (by kernel_rfl) (by kernel_rfl) (Nat.le_refl _) rfl rfl rfl rfl) ?_
    refine pk_cons rfl rfl (st_call1 hN_1 (by kernel_rfl) (by kernel_rfl) (by kernel_rfl) rfl rfl fun w x v1 hC h1 => ti (few_told h1 (by simp) HF.out)) ?_
    refine pk_cons rfl rfl (st_pure [.bool false] [] (.bool true) rfl hN_1 (by kernel_rfl) (by kernel_rfl) (by kernel_rfl) old0 (by kernel_rfl) (by kernel_rfl) (by kernel_rfl) (fun _ => by kernel_rfl)) ?_
    refine pk_cons rfl rfl (st_pure [.bool true] [] (.bool true) rfl hN_1 (by kernel_rfl) (by kernel_rfl) (by kernel_rfl) old0 (by kernel_rfl) (by kernel_rfl) (by kernel_rfl) (fun _ => by kernel_rfl)) ?_
    refine pk_skip rfl ?_
    refine pk_skip rfl ?_
    refine pk_skip rfl ?_
    refine pk_cons rfl rfl (st_pure [.bool true, undef] [] (.bool true) rfl hN_1 (by kernel_rfl) (by kernel_rfl) (by kernel_rfl) old0 (by kernel_rfl) (by kernel_rfl) (by kernel_rfl) (fun _ => by kernel_rfl)) ?_
    refine pk_cons rfl rfl (st_pure [.bool true] [] (.bool true) rfl hN_1 (by kernel_rfl) (by kernel_rfl) (by kernel_rfl) old0 (by kernel_rfl) (by kernel_rfl) (by kernel_rfl) (fun _ => by kernel_rfl)) ?_
    refine pk_skip rfl ?_
    refine pk_skip rfl ?_
    refine pk_skip rfl ?_
    refine pk_cons rfl rfl (st_pure [.bool true, undef] [] (.bool true) rfl hN_1 (by kernel_rfl) (by kernel_rfl) (by kernel_rfl) old0 (by kernel_rfl) (by kernel_rfl) (by kernel_rfl) (fun _ => by kernel_rfl)) ?_
    refine pk_cons rfl rfl (st_pure [.bool true] [] (.bool true) rfl hN_1 (by kernel_rfl) (by kernel_rfl) (by kernel_rfl) old0 (by kernel_rfl) (by kernel_rfl) (by kernel_rfl) (fun _ => by kernel_rfl)) ?_
    refine pk_skip rfl ?_
    refine pk_skip rfl ?_
    refine pk_skip rfl ?_
    refine pk_cons rfl rfl (st_pure [.bool true, undef] [] (.bool true) rfl hN_1 (by kernel_rfl) (by kernel_rfl) (by kernel_rfl) old0 (by kernel_rfl) (by kernel_rfl) (by kernel_rfl) (fun _ => by kernel_rfl)) ?_
    exact pk_nil rfl
  intro W_2 x hC hall
  refine then_n ?_
  obtain ⟨a_2, ha⟩ : ∃ a, a = putE x a_1 [(0, some 14), (1, some 15), (2, some 16), (3, some 17), (4, some 18), (5, some 19), (6, some 20), (7, some 21), (8, some 22), (9, some 23), (10, some 24), (11, some 25), (12, some 26), (13, some 27), (14, some 28), (15, some 29), (16, some 30), (17, some 31), (18, some 32), (19, some 33), (20, some 34)] := ⟨_, rfl⟩
  rw [← ha]
  have hN_2 := size_behind ha hN_1
  have hD_2 := defers_behind ha hD_1
  have bb_2 := bb_1.trans hC.below
  have e3_2 := slot_old ha (by kernel_rfl) e3_1
  have e4_2 := slot_old ha (by kernel_rfl) e4_1
  have e5_2 := slot_old ha (by kernel_rfl) e5_1
  have e13_2 := slot_old ha (by kernel_rfl) e13_1
  have H3_2 := hC.holds H3_1
  have H4_2 := hC.holds H4_1
  have H5_2 := hC.holds H5_1
  have e34_2 := (slot_new (t := 34) (i := 20) ha hN_1 (by kernel_rfl) (by kernel_rfl)).trans (show x 20 = .bool true from hall 20 (of_decide_eq_true (by kernel_rfl)))
  clear hall hC ha bb_1 hD_1 e3_1 e4_1 e5_1 e13_1 H3_1 H4_1 H5_1
  refine wp_cond_true e34_2 ?_
  repeat (first | refine wp_seq ?_ | (refine wp_skip ?_; refine then_n ?_))
  refine wp_region_law hN_2 w.heap.size
    [kIs (.bool true)]
    [ [] ]
    [(0, some 6)] [] [] (by kernel_rfl) (by kernel_rfl) (by kernel_rfl) (by kernel_rfl) (by kernel_rfl) (by kernel_rfl) (by kernel_rfl) bb_2.size ?_ ?_
  ·
    refine pk_cons rfl rfl (st_pure [] [] (.bool true) rfl hN_2 (by kernel_rfl) (by kernel_rfl) (by kernel_rfl) old0 (by kernel_rfl) (by kernel_rfl) (by kernel_rfl) (fun _ => by kernel_rfl)) ?_
    exact pk_nil rfl
  intro W_3 x hC hall
  refine then_n ?_
  obtain ⟨a_3, ha⟩ : ∃ a, a = putE x a_2 [(0, some 6)] := ⟨_, rfl⟩
  rw [← ha]
  have hN_3 := size_behind ha hN_2
  have hD_3 := defers_behind ha hD_2
  have bb_3 := bb_2.trans hC.below
  have e3_3 := slot_old ha (by kernel_rfl) e3_2
  have e4_3 := slot_old ha (by kernel_rfl) e4_2
  have e5_3 := slot_old ha (by kernel_rfl) e5_2
  have e13_3 := slot_old ha (by kernel_rfl) e13_2
  have e34_3 := slot_old ha (by kernel_rfl) e34_2
  have e6_3 := (slot_new (t := 6) (i := 0) ha hN_2 (by kernel_rfl) (by kernel_rfl)).trans (show x 0 = .bool true from hall 0 (of_decide_eq_true (by kernel_rfl)))
  clear hall hC ha bb_2 hD_2 e3_2 e4_2 e5_2 e13_2 e34_2
  repeat (first | refine wp_seq ?_ | (refine wp_skip ?_; refine then_n ?_))
  refine wp_ret ?_
  repeat (refine then_r ?_)
  exact ret_one (t := 6) rfl hD_3 e6_3 ⟨rfl, bb_3⟩
set_option maxRecDepth 100000 in
set_option maxHeartbeats 16000000 in
theorem lawOrder_no1 {w : World} {A1 A1' A2 A2' A3 A3' : Option Addr} {l1 l1' c1 c1' l2 l2' c2 c2' l3 l3' c3 c3' : Nat} {b1 b1' b2 b2' b3 b3' : Bool} (hf : fewP [(l1, l1'), (l2, l2'), (l3, l3')] = true) (hr1 : ∀ W, Below w.heap.size w W → Calls Tryz.prog 11 #[.agg #[.bool b1, .slice A1 l1 c1, .bool b1', .slice A1' l1' c1']] W (SaysB W false)) (HT : Hid (Tab w ∧ 4 ≤ w.heap.size)) (hm : MaxL w) :
    Calls Tryz.prog 5 #[.agg #[.bool b1, .slice A1 l1 c1, .bool b1', .slice A1' l1' c1'], .agg #[.bool b2, .slice A2 l2 c2, .bool b2', .slice A2' l2' c2'], .agg #[.bool b3, .slice A3 l3 c3, .bool b3', .slice A3' l3' c3']] w fun e w' => e = .returned (.bool true) ∧ Below w.heap.size w w' := by
  have HM := Lib.hid hm
  have haw := fun (W : World) (hW : Below w.heap.size w W) => awake3_any (w := W) (Lib.hid ⟨HT.out.1.below hW HT.out.2, Nat.le_trans HT.out.2 hW.size⟩) (hm.below hW)
  have HA := Lib.hid haw
  clear haw hm
  have HF := Lib.hid hf
  clear hf
  have HR1 := Lib.hid hr1
  clear hr1
  go_enter Tryz.func5, Tryz.ntmps5
  repeat (refine wp_seq ?_)
  refine region_k ?_
  intro K hK
  have HK := Lib.hid hK
  clear hK
  go_wp2
  refine HK.out _ _ ?_
  clear HK
  refine then_n ?_
  obtain ⟨W_0, hW⟩ : ∃ W, W = ((w.alloc (Obj.cells #[Value.bool b1, Value.slice A1 l1 c1, Value.bool b1', Value.slice A1' l1' c1'] 27)).alloc (Obj.cells #[Value.bool b2, Value.slice A2 l2 c2, Value.bool b2', Value.slice A2' l2' c2'] 27)).alloc (Obj.cells #[Value.bool b3, Value.slice A3 l3 c3, Value.bool b3', Value.slice A3' l3' c3'] 27) := ⟨_, rfl⟩
  obtain ⟨bb_0, K0, K1, K2⟩ := three_new4 hW
  rw [← hW]
  clear hW
  refine name_frame (G := fun a => Code.wp _ _ _ a _) ?_
  intro a_0 ha
  have hN_0 : a_0.tmps.size = 120 := by subst ha; kernel_rfl
  have hD_0 : a_0.defers = [] := by subst ha; rfl
  have e3_0 : a_0.eval (.tmp 3) = .pointer (some ⟨w.heap.size, 0, none⟩) := by subst ha; kernel_rfl
  have H3_0 : Holds_ W_0 (w.heap.size) #[.bool b1, .slice A1 l1 c1, .bool b1', .slice A1' l1' c1'] := ⟨⟨_, K0⟩, by simp [noDig]⟩
  have e4_0 : a_0.eval (.tmp 4) = .pointer (some ⟨w.heap.size + 1, 0, none⟩) := by subst ha; kernel_rfl
  have H4_0 : Holds_ W_0 (w.heap.size + 1) #[.bool b2, .slice A2 l2 c2, .bool b2', .slice A2' l2' c2'] := ⟨⟨_, K1⟩, by simp [noDig]⟩
  have e5_0 : a_0.eval (.tmp 5) = .pointer (some ⟨w.heap.size + 1 + 1, 0, none⟩) := by subst ha; kernel_rfl
  have H5_0 : Holds_ W_0 (w.heap.size + 1 + 1) #[.bool b3, .slice A3 l3 c3, .bool b3', .slice A3' l3' c3'] := ⟨⟨_, K2⟩, by simp [noDig]⟩
  clear ha K0 K1 K2
  repeat (first | refine wp_seq ?_ | (refine wp_skip ?_; refine then_n ?_))
  refine wp_region_law hN_0 w.heap.size
    [kIs (.bool true), kIs (.bool false)]
    [ [], [(0, some 12)] ]
    [(0, some 12), (1, some 13)] [] [] (by kernel_rfl) (by kernel_rfl) (by kernel_rfl) (by kernel_rfl) (by kernel_rfl) (by kernel_rfl) (by kernel_rfl) bb_0.size ?_ ?_
  ·
    refine pk_cons rfl rfl (st_call0 [] hN_0 (by kernel_rfl) (by kernel_rfl) rfl rfl fun w x hC => ti (HA.out _ (bb_0.trans hC.below))) ?_
    refine pk_cons rfl rfl (st_pure [.bool true] [] (.bool false) rfl hN_0 (by kernel_rfl) (by kernel_rfl) (by kernel_rfl) old0 (by kernel_rfl) (by kernel_rfl) (by kernel_rfl) (fun _ => by kernel_rfl)) ?_
    exact pk_nil rfl
  intro W_1 x hC hall
  refine then_n ?_
  obtain ⟨a_1, ha⟩ : ∃ a, a = putE x a_0 [(0, some 12), (1, some 13)] := ⟨_, rfl⟩
  rw [← ha]
  have hN_1 := size_behind ha hN_0
  have hD_1 := defers_behind ha hD_0
  have bb_1 := bb_0.trans hC.below
  have e3_1 := slot_old ha (by kernel_rfl) e3_0
  have e4_1 := slot_old ha (by kernel_rfl) e4_0
  have e5_1 := slot_old ha (by kernel_rfl) e5_0
  have H3_1 := hC.holds H3_0
  have H4_1 := hC.holds H4_0
  have H5_1 := hC.holds H5_0
  have e13_1 := (slot_new (t := 13) (i := 1) ha hN_0 (by kernel_rfl) (by kernel_rfl)).trans (show x 1 = .bool false from hall 1 (of_decide_eq_true (by kernel_rfl)))
  clear hall hC ha bb_0 hD_0 e3_0 e4_0 e5_0 H3_0 H4_0 H5_0
  refine wp_cond_false e13_1 ?_
  repeat (first | refine wp_seq ?_ | (refine wp_skip ?_; refine then_n ?_))
  refine wp_region_law hN_1 w.heap.size
    [kIs (.agg #[.bool b1, .slice A1 l1 c1, .bool b1', .slice A1' l1' c1']), kIs (.agg #[.bool b2, .slice A2 l2 c2, .bool b2', .slice A2' l2' c2']), kIs (.agg #[.bool b3, .slice A3 l3 c3, .bool b3', .slice A3' l3' c3']), kLensP [(l1, l1'), (l2, l2'), (l3, l3')], kIs (.bool true), kIs (.bool false), kIs (.bool false), kIs (.agg #[.bool b1, .slice A1 l1 c1, .bool b1', .slice A1' l1' c1']), kIs (.bool false), kIs (.bool true), kIs (.bool true), kIs (.bool true), kIs undef, kIs undef, kIs undef, kIs (.bool true), kIs (.bool true), kIs undef, kIs undef, kIs undef, kIs (.bool true)]
    [ [], [], [], [(0, some 14), (1, some 15), (2, some 16)], [(3, some 17)], [(4, some 18)], [(5, some 19)], [], [(7, some 21)], [(8, some 22)], [(6, some 20), (9, some 23)], [(10, some 24)], [], [(12, some 26)], [(13, some 27)], [(11, some 25), (14, some 28)], [(15, some 29)], [], [(17, some 31)], [(18, some 32)], [(16, some 30), (19, some 33)] ]
    [(0, some 14), (1, some 15), (2, some 16), (3, some 17), (4, some 18), (5, some 19), (6, some 20), (7, some 21), (8, some 22), (9, some 23), (10, some 24), (11, some 25), (12, some 26), (13, some 27), (14, some 28), (15, some 29), (16, some 30), (17, some 31), (18, some 32), (19, some 33), (20, some 34)] [(6, false), (11, true), (16, true)] [12, 13, 14, 17, 18, 19] (by kernel_rfl) (by kernel_rfl) (by kernel_rfl) (by kernel_rfl) (by kernel_rfl) (by kernel_rfl) (by kernel_rfl) bb_1.size ?_ ?_
  ·
    refine pk_cons rfl rfl (st_loadV4 H3_1 e3_1 hN_1 (by kernel_rfl) rfl) ?_
    refine pk_cons rfl rfl (st_loadV4 H4_1 e4_1 hN_1 (by kernel_rfl) rfl) ?_
    refine pk_cons rfl rfl (st_loadV4 H5_1 e5_1 hN_1 (by kernel_rfl) rfl) ?_
    refine pk_cons rfl rfl (st_lensP3 hN_1 (by kernel_rfl) (by kernel_rfl) (by kernel_rfl) (by kernel_rfl) (by kernel_rfl) (by kernel_rfl) (by kernel_rfl) (Nat.le_refl _) rfl rfl rfl rfl) ?_
    refine pk_cons rfl rfl (st_call1 hN_1 (by kernel_rfl) (by kernel_rfl) (by kernel_rfl) rfl rfl fun w x v1 hC h1 => ti (few_told h1 (by simp) HF.out)) ?_
    refine pk_cons rfl rfl (st_pure [.bool true] [] (.bool false) rfl hN_1 (by kernel_rfl) (by kernel_rfl) (by kernel_rfl) old0 (by kernel_rfl) (by kernel_rfl) (by kernel_rfl) (fun _ => by kernel_rfl)) ?_
    refine pk_cons rfl rfl (st_pure [.bool false] [] (.bool false) rfl hN_1 (by kernel_rfl) (by kernel_rfl) (by kernel_rfl) old0 (by kernel_rfl) (by kernel_rfl) (by kernel_rfl) (fun _ => by kernel_rfl)) ?_
    refine pk_cons rfl rfl (st_loadV4 H3_1 e3_1 hN_1 (by kernel_rfl) rfl) ?_
    refine pk_cons rfl rfl (st_call1 hN_1 (by kernel_rfl) (by kernel_rfl) (by kernel_rfl) rfl rfl fun w x v1 hC h1 => ti (right_said HR1 h1 (bb_1.trans hC.below))) ?_
    refine pk_cons rfl rfl (st_pure [.bool false] [] (.bool true) rfl hN_1 (by kernel_rfl) (by kernel_rfl) (by kernel_rfl) old0 (by kernel_rfl) (by kernel_rfl) (by kernel_rfl) (fun _ => by kernel_rfl)) ?_
    refine pk_cons rfl rfl (st_pure [.bool false, .bool true] [] (.bool true) rfl hN_1 (by kernel_rfl) (by kernel_rfl) (by kernel_rfl) old0 (by kernel_rfl) (by kernel_rfl) (by kernel_rfl) (fun _ => by kernel_rfl)) ?_
    refine pk_cons rfl rfl (st_pure [.bool true] [] (.bool true) rfl hN_1 (by kernel_rfl) (by kernel_rfl) (by kernel_rfl) old0 (by kernel_rfl) (by kernel_rfl) (by kernel_rfl) (fun _ => by kernel_rfl)) ?_
    refine pk_skip rfl ?_
    refine pk_skip rfl ?_
    refine pk_skip rfl ?_
    refine pk_cons rfl rfl (st_pure [.bool true, undef] [] (.bool true) rfl hN_1 (by kernel_rfl) (by kernel_rfl) (by kernel_rfl) old0 (by kernel_rfl) (by kernel_rfl) (by kernel_rfl) (fun _ => by kernel_rfl)) ?_
    refine pk_cons rfl rfl (st_pure [.bool true] [] (.bool true) rfl hN_1 (by kernel_rfl) (by kernel_rfl) (by kernel_rfl) old0 (by kernel_rfl) (by kernel_rfl) (by kernel_rfl) (fun _ => by kernel_rfl)) ?_
    refine pk_skip rfl ?_
    refine pk_skip rfl ?_
    refine pk_skip rfl ?_
    refine pk_cons rfl rfl (st_pure [.bool true, undef] [] (.bool true) rfl hN_1 (by kernel_rfl) (by kernel_rfl) (by kernel_rfl) old0 (by kernel_rfl) (by kernel_rfl) (by kernel_rfl) (fun _ => by kernel_rfl)) ?_
    exact pk_nil rfl
  intro W_2 x hC hall
  refine then_n ?_
  obtain ⟨a_2, ha⟩ : ∃ a, a = putE x a_1 [(0, some 14), (1, some 15), (2, some 16), (3, some 17), (4, some 18), (5, some 19), (6, some 20), (7, some 21), (8, some 22), (9, some 23), (10, some 24), (11, some 25), (12, some 26), (13, some 27), (14, some 28), (15, some 29), (16, some 30), (17, some 31), (18, some 32), (19, some 33), (20, some 34)] := ⟨_, rfl⟩
  rw [← ha]
  have hN_2 := size_behind ha hN_1
  have hD_2 := defers_behind ha hD_1
  have bb_2 := bb_1.trans hC.below
  have e3_2 := slot_old ha (by kernel_rfl) e3_1
  have e4_2 := slot_old ha (by kernel_rfl) e4_1
  have e5_2 := slot_old ha (by kernel_rfl) e5_1
  have e13_2 := slot_old ha (by kernel_rfl) e13_1
  have H3_2 := hC.holds H3_1
  have H4_2 := hC.holds H4_1
  have H5_2 := hC.holds H5_1
  have e34_2 := (slot_new (t := 34) (i := 20) ha hN_1 (by kernel_rfl) (by kernel_rfl)).trans (show x 20 = .bool true from hall 20 (of_decide_eq_true (by kernel_rfl)))
  clear hall hC ha bb_1 hD_1 e3_1 e4_1 e5_1 e13_1 H3_1 H4_1 H5_1
  refine wp_cond_true e34_2 ?_
  repeat (first | refine wp_seq ?_ | (refine wp_skip ?_; refine then_n ?_))
  refine wp_region_law hN_2 w.heap.size
    [kIs (.bool true)]
    [ [] ]
    [(0, some 6)] [] [] (by kernel_rfl) (by kernel_rfl) (by kernel_rfl) (by kernel_rfl) (by kernel_rfl) (by kernel_rfl) (by kernel_rfl) bb_2.size ?_ ?_
  ·
    refine pk_cons rfl rfl (st_pure [] [] (.bool true) rfl hN_2 (by kernel_rfl) (by kernel_rfl) (by kernel_rfl) old0 (by kernel_rfl) (by kernel_rfl) (by kernel_rfl) (fun _ => by kernel_rfl)) ?_
    exact pk_nil rfl
  intro W_3 x hC hall
  refine then_n ?_
  obtain ⟨a_3, ha⟩ : ∃ a, a = putE x a_2 [(0, some 6)] := ⟨_, rfl⟩
  rw [← ha]
  have hN_3 := size_behind ha hN_2
  have hD_3 := defers_behind ha hD_2
  have bb_3 := bb_2.trans hC.below
  have e3_3 := slot_old ha (by kernel_rfl) e3_2
  have e4_3 := slot_old ha (by kernel_rfl) e4_2
  have e5_3 := slot_old ha (by kernel_rfl) e5_2
  have e13_3 := slot_old ha (by kernel_rfl) e13_2
  have e34_3 := slot_old ha (by kernel_rfl) e34_2
  have e6_3 := (slot_new (t := 6) (i := 0) ha hN_2 (by kernel_rfl) (by kernel_rfl)).trans (show x 0 = .bool true from hall 0 (of_decide_eq_true (by kernel_rfl)))
  clear hall hC ha bb_2 hD_2 e3_2 e4_2 e5_2 e13_2 e34_2
  repeat (first | refine wp_seq ?_ | (refine wp_skip ?_; refine then_n ?_))
  refine wp_ret ?_
  repeat (refine then_r ?_)
  exact ret_one (t := 6) rfl hD_3 e6_3 ⟨rfl, bb_3⟩
set_option maxRecDepth 100000 in
set_option maxHeartbeats 16000000 in
theorem lawOrder_no2 {w : World} {A1 A1' A2 A2' A3 A3' : Option Addr} {l1 l1' c1 c1' l2 l2' c2 c2' l3 l3' c3 c3' : Nat} {b1 b1' b2 b2' b3 b3' : Bool} (hf : fewP [(l1, l1'), (l2, l2'), (l3, l3')] = true) {a : Rat} (q1 : Pr w (.agg #[.bool b1, .slice A1 l1 c1, .bool b1', .slice A1' l1' c1']) 9 a.num (a.den : Int)) (hr2 : ∀ W, Below w.heap.size w W → Calls Tryz.prog 11 #[.agg #[.bool b2, .slice A2 l2 c2, .bool b2', .slice A2' l2' c2']] W (SaysB W false)) (HT : Hid (Tab w ∧ 4 ≤ w.heap.size)) (hm : MaxL w) :
    Calls Tryz.prog 5 #[.agg #[.bool b1, .slice A1 l1 c1, .bool b1', .slice A1' l1' c1'], .agg #[.bool b2, .slice A2 l2 c2, .bool b2', .slice A2' l2' c2'], .agg #[.bool b3, .slice A3 l3 c3, .bool b3', .slice A3' l3' c3']] w fun e w' => e = .returned (.bool true) ∧ Below w.heap.size w w' := by
  have HM := Lib.hid hm
  have haw := fun (W : World) (hW : Below w.heap.size w W) => awake3_any (w := W) (Lib.hid ⟨HT.out.1.below hW HT.out.2, Nat.le_trans HT.out.2 hW.size⟩) (hm.below hW)
  have HA := Lib.hid haw
  clear haw hm
  have HF := Lib.hid hf
  clear hf
  have hr1 := fun (W : World) (hW : Below w.heap.size w W) => (show Calls Tryz.prog 11 #[.agg #[.bool b1, .slice A1 l1 c1, .bool b1', .slice A1' l1' c1']] W (SaysB W true) from right_9 (q1.below hW))
  have HR1 := Lib.hid hr1
  clear hr1
  have Q1 := Lib.hid q1
  clear q1
  have HR2 := Lib.hid hr2
  clear hr2
  go_enter Tryz.func5, Tryz.ntmps5
  repeat (refine wp_seq ?_)
  refine region_k ?_
  intro K hK
  have HK := Lib.hid hK
  clear hK
  go_wp2
  refine HK.out _ _ ?_
  clear HK
  refine then_n ?_
  obtain ⟨W_0, hW⟩ : ∃ W, W = ((w.alloc (Obj.cells #[Value.bool b1, Value.slice A1 l1 c1, Value.bool b1', Value.slice A1' l1' c1'] 27)).alloc (Obj.cells #[Value.bool b2, Value.slice A2 l2 c2, Value.bool b2', Value.slice A2' l2' c2'] 27)).alloc (Obj.cells #[Value.bool b3, Value.slice A3 l3 c3, Value.bool b3', Value.slice A3' l3' c3'] 27) := ⟨_, rfl⟩
  obtain ⟨bb_0, K0, K1, K2⟩ := three_new4 hW
  rw [← hW]
  clear hW
  refine name_frame (G := fun a => Code.wp _ _ _ a _) ?_
  intro a_0 ha
  have hN_0 : a_0.tmps.size = 120 := by subst ha; kernel_rfl
  have hD_0 : a_0.defers = [] := by subst ha; rfl
  have e3_0 : a_0.eval (.tmp 3) = .pointer (some ⟨w.heap.size, 0, none⟩) := by subst ha; kernel_rfl
  have H3_0 : Holds_ W_0 (w.heap.size) #[.bool b1, .slice A1 l1 c1, .bool b1', .slice A1' l1' c1'] := ⟨⟨_, K0⟩, by simp [noDig]⟩
  have e4_0 : a_0.eval (.tmp 4) = .pointer (some ⟨w.heap.size + 1, 0, none⟩) := by subst ha; kernel_rfl
  have H4_0 : Holds_ W_0 (w.heap.size + 1) #[.bool b2, .slice A2 l2 c2, .bool b2', .slice A2' l2' c2'] := ⟨⟨_, K1⟩, by simp [noDig]⟩
  have e5_0 : a_0.eval (.tmp 5) = .pointer (some ⟨w.heap.size + 1 + 1, 0, none⟩) := by subst ha; kernel_rfl
  have H5_0 : Holds_ W_0 (w.heap.size + 1 + 1) #[.bool b3, .slice A3 l3 c3, .bool b3', .slice A3' l3' c3'] := ⟨⟨_, K2⟩, by simp [noDig]⟩
  clear ha K0 K1 K2
  repeat (first | refine wp_seq ?_ | (refine wp_skip ?_; refine then_n ?_))
  refine wp_region_law hN_0 w.heap.size
    [kIs (.bool true), kIs (.bool false)]
    [ [], [(0, some 12)] ]
    [(0, some 12), (1, some 13)] [] [] (by kernel_rfl) (by kernel_rfl) (by kernel_rfl) (by kernel_rfl) (by kernel_rfl) (by kernel_rfl) (by kernel_rfl) bb_0.size ?_ ?_
  ·
    refine pk_cons rfl rfl (st_call0 [] hN_0 (by kernel_rfl) (by kernel_rfl) rfl rfl fun w x hC => ti (HA.out _ (bb_0.trans hC.below))) ?_
    refine pk_cons rfl rfl (st_pure [.bool true] [] (.bool false) rfl hN_0 (by kernel_rfl) (by kernel_rfl) (by kernel_rfl) old0 (by kernel_rfl) (by kernel_rfl) (by kernel_rfl) (fun _ => by kernel_rfl)) ?_
    exact pk_nil rfl
  intro W_1 x hC hall
  refine then_n ?_
  obtain ⟨a_1, ha⟩ : ∃ a, a = putE x a_0 [(0, some 12), (1, some 13)] := ⟨_, rfl⟩
  rw [← ha]
  have hN_1 := size_behind ha hN_0
  have hD_1 := defers_behind ha hD_0
  have bb_1 := bb_0.trans hC.below
  have e3_1 := slot_old ha (by kernel_rfl) e3_0
  have e4_1 := slot_old ha (by kernel_rfl) e4_0
  have e5_1 := slot_old ha (by kernel_rfl) e5_0
  have H3_1 := hC.holds H3_0
  have H4_1 := hC.holds H4_0
  have H5_1 := hC.holds H5_0
  have e13_1 := (slot_new (t := 13) (i := 1) ha hN_0 (by kernel_rfl) (by kernel_rfl)).trans (show x 1 = .bool false from hall 1 (of_decide_eq_true (by kernel_rfl)))
  clear hall hC ha bb_0 hD_0 e3_0 e4_0 e5_0 H3_0 H4_0 H5_0
  refine wp_cond_false e13_1 ?_
  repeat (first | refine wp_seq ?_ | (refine wp_skip ?_; refine then_n ?_))
  refine wp_region_law hN_1 w.heap.size
    [kIs (.agg #[.bool b1, .slice A1 l1 c1, .bool b1', .slice A1' l1' c1']), kIs (.agg #[.bool b2, .slice A2 l2 c2, .bool b2', .slice A2' l2' c2']), kIs (.agg #[.bool b3, .slice A3 l3 c3, .bool b3', .slice A3' l3' c3']), kLensP [(l1, l1'), (l2, l2'), (l3, l3')], kIs (.bool true), kIs (.bool false), kIs (.bool false), kIs (.agg #[.bool b1, .slice A1 l1 c1, .bool b1', .slice A1' l1' c1']), kIs (.bool true), kIs (.bool false), kIs (.bool false), kIs (.bool false), kIs (.agg #[.bool b2, .slice A2 l2 c2, .bool b2', .slice A2' l2' c2']), kIs (.bool false), kIs (.bool true), kIs (.bool true), kIs (.bool true), kIs undef, kIs undef, kIs undef, kIs (.bool true)]
    [ [], [], [], [(0, some 14), (1, some 15), (2, some 16)], [(3, some 17)], [(4, some 18)], [(5, some 19)], [], [(7, some 21)], [(8, some 22)], [(6, some 20), (9, some 23)], [(10, some 24)], [], [(12, some 26)], [(13, some 27)], [(11, some 25), (14, some 28)], [(15, some 29)], [], [(17, some 31)], [(18, some 32)], [(16, some 30), (19, some 33)] ]
    [(0, some 14), (1, some 15), (2, some 16), (3, some 17), (4, some 18), (5, some 19), (6, some 20), (7, some 21), (8, some 22), (9, some 23), (10, some 24), (11, some 25), (12, some 26), (13, some 27), (14, some 28), (15, some 29), (16, some 30), (17, some 31), (18, some 32), (19, some 33), (20, some 34)] [(6, false), (11, false), (16, true)] [17, 18, 19] (by kernel_rfl) (by kernel_rfl) (by kernel_rfl) (by kernel_rfl) (by kernel_rfl) (by kernel_rfl) (by kernel_rfl) bb_1.size ?_ ?_
  ·
    refine pk_cons rfl rfl (st_loadV4 H3_1 e3_1 hN_1 (by kernel_rfl) rfl) ?_
    refine pk_cons rfl rfl (st_loadV4 H4_1 e4_1 hN_1 (by kernel_rfl) rfl) ?_
    refine pk_cons rfl rfl (st_loadV4 H5_1 e5_1 hN_1 (by kernel_rfl) rfl) ?_
    refine pk_cons rfl rfl (st_lensP3 hN_1 (by kernel_rfl) (by kernel_rfl) (by kernel_rfl) (by kernel_rfl) (by kernel_rfl) (by kernel_rfl) (by kernel_rfl) (Nat.le_refl _) rfl rfl rfl rfl) ?_
    refine pk_cons rfl rfl (st_call1 hN_1 (by kernel_rfl) (by kernel_rfl) (by kernel_rfl) rfl rfl fun w x v1 hC h1 => ti (few_told h1 (by simp) HF.out)) ?_
    refine pk_cons rfl rfl (st_pure [.bool true] [] (.bool false) rfl hN_1 (by kernel_rfl) (by kernel_rfl) (by kernel_rfl) old0 (by kernel_rfl) (by kernel_rfl) (by kernel_rfl) (fun _ => by kernel_rfl)) ?_
    refine pk_cons rfl rfl (st_pure [.bool false] [] (.bool false) rfl hN_1 (by kernel_rfl) (by kernel_rfl) (by kernel_rfl) old0 (by kernel_rfl) (by kernel_rfl) (by kernel_rfl) (fun _ => by kernel_rfl)) ?_
    refine pk_cons rfl rfl (st_loadV4 H3_1 e3_1 hN_1 (by kernel_rfl) rfl) ?_
    refine pk_cons rfl rfl (st_call1 hN_1 (by kernel_rfl) (by kernel_rfl) (by kernel_rfl) rfl rfl fun w x v1 hC h1 => ti (right_said HR1 h1 (bb_1.trans hC.below))) ?_
    refine pk_cons rfl rfl (st_pure [.bool true] [] (.bool false) rfl hN_1 (by kernel_rfl) (by kernel_rfl) (by kernel_rfl) old0 (by kernel_rfl) (by kernel_rfl) (by kernel_rfl) (fun _ => by kernel_rfl)) ?_
    refine pk_cons rfl rfl (st_pure [.bool false, .bool false] [] (.bool false) rfl hN_1 (by kernel_rfl) (by kernel_rfl) (by kernel_rfl) old0 (by kernel_rfl) (by kernel_rfl) (by kernel_rfl) (fun _ => by kernel_rfl)) ?_
    refine pk_cons rfl rfl (st_pure [.bool false] [] (.bool false) rfl hN_1 (by kernel_rfl) (by kernel_rfl) (by kernel_rfl) old0 (by kernel_rfl) (by kernel_rfl) (by kernel_rfl) (fun _ => by kernel_rfl)) ?_
    refine pk_cons rfl rfl (st_loadV4 H4_1 e4_1 hN_1 (by kernel_rfl) rfl) ?_
    refine pk_cons rfl rfl (st_call1 hN_1 (by kernel_rfl) (by kernel_rfl) (by kernel_rfl) rfl rfl fun w x v1 hC h1 => ti (right_said HR2 h1 (bb_1.trans hC.below))) ?_
    refine pk_cons rfl rfl (st_pure [.bool false] [] (.bool true) rfl hN_1 (by kernel_rfl) (by kernel_rfl) (by kernel_rfl) old0 (by kernel_rfl) (by kernel_rfl) (by kernel_rfl) (fun _ => by kernel_rfl)) ?_
    refine pk_cons rfl rfl (st_pure [.bool false, .bool true] [] (.bool true) rfl hN_1 (by kernel_rfl) (by kernel_rfl) (by kernel_rfl) old0 (by kernel_rfl) (by kernel_rfl) (by kernel_rfl) (fun _ => by kernel_rfl)) ?_
    refine pk_cons rfl rfl (st_pure [.bool true] [] (.bool true) rfl hN_1 (by kernel_rfl) (by kernel_rfl) (by kernel_rfl) old0 (by kernel_rfl) (by kernel_rfl) (by kernel_rfl) (fun _ => by kernel_rfl)) ?_
    refine pk_skip rfl ?_
    refine pk_skip rfl ?_
    refine pk_skip rfl ?_
    refine pk_cons rfl rfl (st_pure [.bool true, undef] [] (.bool true) rfl hN_1 (by kernel_rfl) (by kernel_rfl) (by kernel_rfl) old0 (by kernel_rfl) (by kernel_rfl) (by kernel_rfl) (fun _ => by kernel_rfl)) ?_
    exact pk_nil rfl
  intro W_2 x hC hall
  refine then_n ?_
  obtain ⟨a_2, ha⟩ : ∃ a, a = putE x a_1 [(0, some 14), (1, some 15), (2, some 16), (3, some 17), (4, some 18), (5, some 19), (6, some 20), (7, some 21), (8, some 22), (9, some 23), (10, some 24), (11, some 25), (12, some 26), (13, some 27), (14, some 28), (15, some 29), (16, some 30), (17, some 31), (18, some 32), (19, some 33), (20, some 34)] := ⟨_, rfl⟩
  rw [← ha]
  have hN_2 := size_behind ha hN_1
  have hD_2 := defers_behind ha hD_1
  have bb_2 := bb_1.trans hC.below
  have e3_2 := slot_old ha (by kernel_rfl) e3_1
  have e4_2 := slot_old ha (by kernel_rfl) e4_1
  have e5_2 := slot_old ha (by kernel_rfl) e5_1
  have e13_2 := slot_old ha (by kernel_rfl) e13_1
  have H3_2 := hC.holds H3_1
  have H4_2 := hC.holds H4_1
  have H5_2 := hC.holds H5_1
  have e34_2 := (slot_new (t := 34) (i := 20) ha hN_1 (by kernel_rfl) (by kernel_rfl)).trans (show x 20 = .bool true from hall 20 (of_decide_eq_true (by kernel_rfl)))
  clear hall hC ha bb_1 hD_1 e3_1 e4_1 e5_1 e13_1 H3_1 H4_1 H5_1
  refine wp_cond_true e34_2 ?_
  repeat (first | refine wp_seq ?_ | (refine wp_skip ?_; refine then_n ?_))
  refine wp_region_law hN_2 w.heap.size
    [kIs (.bool true)]
    [ [] ]
    [(0, some 6)] [] [] (by kernel_rfl) (by kernel_rfl) (by kernel_rfl) (by kernel_rfl) (by kernel_rfl) (by kernel_rfl) (by kernel_rfl) bb_2.size ?_ ?_
  ·
    refine pk_cons rfl rfl (st_pure [] [] (.bool true) rfl hN_2 (by kernel_rfl) (by kernel_rfl) (by kernel_rfl) old0 (by kernel_rfl) (by kernel_rfl) (by kernel_rfl) (fun _ => by kernel_rfl)) ?_
    exact pk_nil rfl
  intro W_3 x hC hall
  refine then_n ?_
  obtain ⟨a_3, ha⟩ : ∃ a, a = putE x a_2 [(0, some 6)] := ⟨_, rfl⟩
  rw [← ha]
  have hN_3 := size_behind ha hN_2
  have hD_3 := defers_behind ha hD_2
  have bb_3 := bb_2.trans hC.below
  have e3_3 := slot_old ha (by kernel_rfl) e3_2
  have e4_3 := slot_old ha (by kernel_rfl) e4_2
  have e5_3 := slot_old ha (by kernel_rfl) e5_2
  have e13_3 := slot_old ha (by kernel_rfl) e13_2
  have e34_3 := slot_old ha (by kernel_rfl) e34_2
  have e6_3 := (slot_new (t := 6) (i := 0) ha hN_2 (by kernel_rfl) (by kernel_rfl)).trans (show x 0 = .bool true from hall 0 (of_decide_eq_true (by kernel_rfl)))
  clear hall hC ha bb_2 hD_2 e3_2 e4_2 e5_2 e13_2 e34_2
  repeat (first | refine wp_seq ?_ | (refine wp_skip ?_; refine then_n ?_))
  refine wp_ret ?_
  repeat (refine then_r ?_)
  exact ret_one (t := 6) rfl hD_3 e6_3 ⟨rfl, bb_3⟩
set_option maxRecDepth 100000 in
set_option maxHeartbeats 16000000 in
theorem lawOrder_no3 {w : World} {A1 A1' A2 A2' A3 A3' : Option Addr} {l1 l1' c1 c1' l2 l2' c2 c2' l3 l3' c3 c3' : Nat} {b1 b1' b2 b2' b3 b3' : Bool} (hf : fewP [(l1, l1'), (l2, l2'), (l3, l3')] = true) {a : Rat} (q1 : Pr w (.agg #[.bool b1, .slice A1 l1 c1, .bool b1', .slice A1' l1' c1']) 9 a.num (a.den : Int)) {b : Rat} (q2 : Pr w (.agg #[.bool b2, .slice A2 l2 c2, .bool b2', .slice A2' l2' c2']) 9 b.num (b.den : Int)) (hr3 : ∀ W, Below w.heap.size w W → Calls Tryz.prog 11 #[.agg #[.bool b3, .slice A3 l3 c3, .bool b3', .slice A3' l3' c3']] W (SaysB W false)) (HT : Hid (Tab w ∧ 4 ≤ w.heap.size)) (hm : MaxL w) :
    Calls Tryz.prog 5 #[.agg #[.bool b1, .slice A1 l1 c1, .bool b1', .slice A1' l1' c1'], .agg #[.bool b2, .slice A2 l2 c2, .bool b2', .slice A2' l2' c2'], .agg #[.bool b3, .slice A3 l3 c3, .bool b3', .slice A3' l3' c3']] w fun e w' => e = .returned (.bool true) ∧ Below w.heap.size w w' := by
  have HM := Lib.hid hm
  have haw := fun (W : World) (hW : Below w.heap.size w W) => awake3_any (w := W) (Lib.hid ⟨HT.out.1.below hW HT.out.2, Nat.le_trans HT.out.2 hW.size⟩) (hm.below hW)
  have HA := Lib.hid haw
  clear haw hm
  have HF := Lib.hid hf
  clear hf
  have hr1 := fun (W : World) (hW : Below w.heap.size w W) => (show Calls Tryz.prog 11 #[.agg #[.bool b1, .slice A1 l1 c1, .bool b1', .slice A1' l1' c1']] W (SaysB W true) from right_9 (q1.below hW))
  have HR1 := Lib.hid hr1
  clear hr1
  have Q1 := Lib.hid q1
  clear q1
  have hr2 := fun (W : World) (hW : Below w.heap.size w W) => (show Calls Tryz.prog 11 #[.agg #[.bool b2, .slice A2 l2 c2, .bool b2', .slice A2' l2' c2']] W (SaysB W true) from right_9 (q2.below hW))
  have HR2 := Lib.hid hr2
  clear hr2
  have Q2 := Lib.hid q2
  clear q2
  have HR3 := Lib.hid hr3
  clear hr3
  go_enter Tryz.func5, Tryz.ntmps5
  repeat (refine wp_seq ?_)
  refine region_k ?_
  intro K hK
  have HK := Lib.hid hK
  clear hK
  go_wp2
  refine HK.out _ _ ?_
  clear HK
  refine then_n ?_
  obtain ⟨W_0, hW⟩ : ∃ W, W = ((w.alloc (Obj.cells #[Value.bool b1, Value.slice A1 l1 c1, Value.bool b1', Value.slice A1' l1' c1'] 27)).alloc (Obj.cells #[Value.bool b2, Value.slice A2 l2 c2, Value.bool b2', Value.slice A2' l2' c2'] 27)).alloc (Obj.cells #[Value.bool b3, Value.slice A3 l3 c3, Value.bool b3', Value.slice A3' l3' c3'] 27) := ⟨_, rfl⟩
  obtain ⟨bb_0, K0, K1, K2⟩ := three_new4 hW
  rw [← hW]
  clear hW
  refine name_frame (G := fun a => Code.wp _ _ _ a _) ?_
  intro a_0 ha
  have hN_0 : a_0.tmps.size = 120 := by subst ha; kernel_rfl
  have hD_0 : a_0.defers = [] := by subst ha; rfl
  have e3_0 : a_0.eval (.tmp 3) = .pointer (some ⟨w.heap.size, 0, none⟩) := by subst ha; kernel_rfl
  have H3_0 : Holds_ W_0 (w.heap.size) #[.bool b1, .slice A1 l1 c1, .bool b1', .slice A1' l1' c1'] := ⟨⟨_, K0⟩, by simp [noDig]⟩
  have e4_0 : a_0.eval (.tmp 4) = .pointer (some ⟨w.heap.size + 1, 0, none⟩) := by subst ha; kernel_rfl
  have H4_0 : Holds_ W_0 (w.heap.size + 1) #[.bool b2, .slice A2 l2 c2, .bool b2', .slice A2' l2' c2'] := ⟨⟨_, K1⟩, by simp [noDig]⟩
  have e5_0 : a_0.eval (.tmp 5) = .pointer (some ⟨w.heap.size + 1 + 1, 0, none⟩) := by subst ha; kernel_rfl
  have H5_0 : Holds_ W_0 (w.heap.size + 1 + 1) #[.bool b3, .slice A3 l3 c3, .bool b3', .slice A3' l3' c3'] := ⟨⟨_, K2⟩, by simp [noDig]⟩
  clear ha K0 K1 K2
  repeat (first | refine wp_seq ?_ | (refine wp_skip ?_; refine then_n ?_))
  refine wp_region_law hN_0 w.heap.size
    [kIs (.bool true), kIs (.bool false)]
    [ [], [(0, some 12)] ]
    [(0, some 12), (1, some 13)] [] [] (by kernel_rfl) (by kernel_rfl) (by kernel_rfl) (by kernel_rfl) (by kernel_rfl) (by kernel_rfl) (by kernel_rfl) bb_0.size ?_ ?_
  ·
    refine pk_cons rfl rfl (st_call0 [] hN_0 (by kernel_rfl) (by kernel_rfl) rfl rfl fun w x hC => ti (HA.out _ (bb_0.trans hC.below))) ?_
    refine pk_cons rfl rfl (st_pure [.bool true] [] (.bool false) rfl hN_0 (by kernel_rfl) (by kernel_rfl) (by kernel_rfl) old0 (by kernel_rfl) (by kernel_rfl) (by kernel_rfl) (fun _ => by kernel_rfl)) ?_
    exact pk_nil rfl
  intro W_1 x hC hall
  refine then_n ?_
  obtain ⟨a_1, ha⟩ : ∃ a, a = putE x a_0 [(0, some 12), (1, some 13)] := ⟨_, rfl⟩
  rw [← ha]
  have hN_1 := size_behind ha hN_0
  have hD_1 := defers_behind ha hD_0
  have bb_1 := bb_0.trans hC.below
  have e3_1 := slot_old ha (by kernel_rfl) e3_0
  have e4_1 := slot_old ha (by kernel_rfl) e4_0
  have e5_1 := slot_old ha (by kernel_rfl) e5_0
  have H3_1 := hC.holds H3_0
  have H4_1 := hC.holds H4_0
  have H5_1 := hC.holds H5_0
  have e13_1 := (slot_new (t := 13) (i := 1) ha hN_0 (by kernel_rfl) (by kernel_rfl)).trans (show x 1 = .bool false from hall 1 (of_decide_eq_true (by kernel_rfl)))
  clear hall hC ha bb_0 hD_0 e3_0 e4_0 e5_0 H3_0 H4_0 H5_0
  refine wp_cond_false e13_1 ?_
  repeat (first | refine wp_seq ?_ | (refine wp_skip ?_; refine then_n ?_))
  refine wp_region_law hN_1 w.heap.size
    [kIs (.agg #[.bool b1, .slice A1 l1 c1, .bool b1', .slice A1' l1' c1']), kIs (.agg #[.bool b2, .slice A2 l2 c2, .bool b2', .slice A2' l2' c2']), kIs (.agg #[.bool b3, .slice A3 l3 c3, .bool b3', .slice A3' l3' c3']), kLensP [(l1, l1'), (l2, l2'), (l3, l3')], kIs (.bool true), kIs (.bool false), kIs (.bool false), kIs (.agg #[.bool b1, .slice A1 l1 c1, .bool b1', .slice A1' l1' c1']), kIs (.bool true), kIs (.bool false), kIs (.bool false), kIs (.bool false), kIs (.agg #[.bool b2, .slice A2 l2 c2, .bool b2', .slice A2' l2' c2']), kIs (.bool true), kIs (.bool false), kIs (.bool false), kIs (.bool false), kIs (.agg #[.bool b3, .slice A3 l3 c3, .bool b3', .slice A3' l3' c3']), kIs (.bool false), kIs (.bool true), kIs (.bool true)]
    [ [], [], [], [(0, some 14), (1, some 15), (2, some 16)], [(3, some 17)], [(4, some 18)], [(5, some 19)], [], [(7, some 21)], [(8, some 22)], [(6, some 20), (9, some 23)], [(10, some 24)], [], [(12, some 26)], [(13, some 27)], [(11, some 25), (14, some 28)], [(15, some 29)], [], [(17, some 31)], [(18, some 32)], [(16, some 30), (19, some 33)] ]
    [(0, some 14), (1, some 15), (2, some 16), (3, some 17), (4, some 18), (5, some 19), (6, some 20), (7, some 21), (8, some 22), (9, some 23), (10, some 24), (11, some 25), (12, some 26), (13, some 27), (14, some 28), (15, some 29), (16, some 30), (17, some 31), (18, some 32), (19, some 33), (20, some 34)] [(6, false), (11, false), (16, false)] [] (by kernel_rfl) (by kernel_rfl) (by kernel_rfl) (by kernel_rfl) (by kernel_rfl) (by kernel_rfl) (by kernel_rfl) bb_1.size ?_ ?_
  ·
    refine pk_cons rfl rfl (st_loadV4 H3_1 e3_1 hN_1 (by kernel_rfl) rfl) ?_
    refine pk_cons rfl rfl (st_loadV4 H4_1 e4_1 hN_1 (by kernel_rfl) rfl) ?_
    refine pk_cons rfl rfl (st_loadV4 H5_1 e5_1 hN_1 (by kernel_rfl) rfl) ?_
    refine pk_cons rfl rfl (st_lensP3 hN_1 (by kernel_rfl) (by kernel_rfl) (by kernel_rfl) (by kernel_rfl) (by kernel_rfl) (by kernel_rfl) (by kernel_rfl) (Nat.le_refl _) rfl rfl rfl rfl) ?_
    refine pk_cons rfl rfl (st_call1 hN_1 (by kernel_rfl) (by kernel_rfl) (by kernel_rfl) rfl rfl fun w x v1 hC h1 => ti (few_told h1 (by simp) HF.out)) ?_
    refine pk_cons rfl rfl (st_pure [.bool true] [] (.bool false) rfl hN_1 (by kernel_rfl) (by kernel_rfl) (by kernel_rfl) old0 (by kernel_rfl) (by kernel_rfl) (by kernel_rfl) (fun _ => by kernel_rfl)) ?_
    refine pk_cons rfl rfl (st_pure [.bool false] [] (.bool false) rfl hN_1 (by kernel_rfl) (by kernel_rfl) (by kernel_rfl) old0 (by kernel_rfl) (by kernel_rfl) (by kernel_rfl) (fun _ => by kernel_rfl)) ?_
    refine pk_cons rfl rfl (st_loadV4 H3_1 e3_1 hN_1 (by kernel_rfl) rfl) ?_
    refine pk_cons rfl rfl (st_call1 hN_1 (by kernel_rfl) (by kernel_rfl) (by kernel_rfl) rfl rfl fun w x v1 hC h1 => ti (right_said HR1 h1 (bb_1.trans hC.below))) ?_
    refine pk_cons rfl rfl (st_pure [.bool true] [] (.bool false) rfl hN_1 (by kernel_rfl) (by kernel_rfl) (by kernel_rfl) old0 (by kernel_rfl) (by kernel_rfl) (by kernel_rfl) (fun _ => by kernel_rfl)) ?_
    refine pk_cons rfl rfl (st_pure [.bool false, .bool false] [] (.bool false) rfl hN_1 (by kernel_rfl) (by kernel_rfl) (by kernel_rfl) old0 (by kernel_rfl) (by kernel_rfl) (by kernel_rfl) (fun _ => by kernel_rfl)) ?_
    refine pk_cons rfl rfl (st_pure [.bool false] [] (.bool false) rfl hN_1 (by kernel_rfl) (by kernel_rfl) (by kernel_rfl) old0 (by kernel_rfl) (by kernel_rfl) (by kernel_rfl) (fun _ => by kernel_rfl)) ?_
    refine pk_cons rfl rfl (st_loadV4 H4_1 e4_1 hN_1 (by kernel_rfl) rfl) ?_
    refine pk_cons rfl rfl (st_call1 hN_1 (by kernel_rfl) (by kernel_rfl) (by kernel_rfl) rfl rfl fun w x v1 hC h1 => ti (right_said HR2 h1 (bb_1.trans hC.below))) ?_
    refine pk_cons rfl rfl (st_pure [.bool true] [] (.bool false) rfl hN_1 (by kernel_rfl) (by kernel_rfl) (by kernel_rfl) old0 (by kernel_rfl) (by kernel_rfl) (by kernel_rfl) (fun _ => by kernel_rfl)) ?_
    refine pk_cons rfl rfl (st_pure [.bool false, .bool false] [] (.bool false) rfl hN_1 (by kernel_rfl) (by kernel_rfl) (by kernel_rfl) old0 (by kernel_rfl) (by kernel_rfl) (by kernel_rfl) (fun _ => by kernel_rfl)) ?_
    refine pk_cons rfl rfl (st_pure [.bool false] [] (.bool false) rfl hN_1 (by kernel_rfl) (by kernel_rfl) (by kernel_rfl) old0 (by kernel_rfl) (by kernel_rfl) (by kernel_rfl) (fun _ => by kernel_rfl)) ?_
    refine pk_cons rfl rfl (st_loadV4 H5_1 e5_1 hN_1 (by kernel_rfl) rfl) ?_
    refine pk_cons rfl rfl (st_call1 hN_1 (by kernel_rfl) (by kernel_rfl) (by kernel_rfl) rfl rfl fun w x v1 hC h1 => ti (right_said HR3 h1 (bb_1.trans hC.below))) ?_
    refine pk_cons rfl rfl (st_pure [.bool false] [] (.bool true) rfl hN_1 (by kernel_rfl) (by kernel_rfl) (by kernel_rfl) old0 (by kernel_rfl) (by kernel_rfl) (by kernel_rfl) (fun _ => by kernel_rfl)) ?_
    refine pk_cons rfl rfl (st_pure [.bool false, .bool true] [] (.bool true) rfl hN_1 (by kernel_rfl) (by kernel_rfl) (by kernel_rfl) old0 (by kernel_rfl) (by kernel_rfl) (by kernel_rfl) (fun _ => by kernel_rfl)) ?_
    exact pk_nil rfl
  intro W_2 x hC hall
  refine then_n ?_
  obtain ⟨a_2, ha⟩ : ∃ a, a = putE x a_1 [(0, some 14), (1, some 15), (2, some 16), (3, some 17), (4, some 18), (5, some 19), (6, some 20), (7, some 21), (8, some 22), (9, some 23), (10, some 24), (11, some 25), (12, some 26), (13, some 27), (14, some 28), (15, some 29), (16, some 30), (17, some 31), (18, some 32), (19, some 33), (20, some 34)] := ⟨_, rfl⟩
  rw [← ha]
  have hN_2 := size_behind ha hN_1
  have hD_2 := defers_behind ha hD_1
  have bb_2 := bb_1.trans hC.below
  have e3_2 := slot_old ha (by kernel_rfl) e3_1
  have e4_2 := slot_old ha (by kernel_rfl) e4_1
  have e5_2 := slot_old ha (by kernel_rfl) e5_1
  have e13_2 := slot_old ha (by kernel_rfl) e13_1
  have H3_2 := hC.holds H3_1
  have H4_2 := hC.holds H4_1
  have H5_2 := hC.holds H5_1
  have e34_2 := (slot_new (t := 34) (i := 20) ha hN_1 (by kernel_rfl) (by kernel_rfl)).trans (show x 20 = .bool true from hall 20 (of_decide_eq_true (by kernel_rfl)))
  clear hall hC ha bb_1 hD_1 e3_1 e4_1 e5_1 e13_1 H3_1 H4_1 H5_1
  refine wp_cond_true e34_2 ?_
  repeat (first | refine wp_seq ?_ | (refine wp_skip ?_; refine then_n ?_))
  refine wp_region_law hN_2 w.heap.size
    [kIs (.bool true)]
    [ [] ]
    [(0, some 6)] [] [] (by kernel_rfl) (by kernel_rfl) (by kernel_rfl) (by kernel_rfl) (by kernel_rfl) (by kernel_rfl) (by kernel_rfl) bb_2.size ?_ ?_
  ·
    refine pk_cons rfl rfl (st_pure [] [] (.bool true) rfl hN_2 (by kernel_rfl) (by kernel_rfl) (by kernel_rfl) old0 (by kernel_rfl) (by kernel_rfl) (by kernel_rfl) (fun _ => by kernel_rfl)) ?_
    exact pk_nil rfl
  intro W_3 x hC hall
  refine then_n ?_
  obtain ⟨a_3, ha⟩ : ∃ a, a = putE x a_2 [(0, some 6)] := ⟨_, rfl⟩
  rw [← ha]
  have hN_3 := size_behind ha hN_2
  have hD_3 := defers_behind ha hD_2
  have bb_3 := bb_2.trans hC.below
  have e3_3 := slot_old ha (by kernel_rfl) e3_2
  have e4_3 := slot_old ha (by kernel_rfl) e4_2
  have e5_3 := slot_old ha (by kernel_rfl) e5_2
  have e13_3 := slot_old ha (by kernel_rfl) e13_2
  have e34_3 := slot_old ha (by kernel_rfl) e34_2
  have e6_3 := (slot_new (t := 6) (i := 0) ha hN_2 (by kernel_rfl) (by kernel_rfl)).trans (show x 0 = .bool true from hall 0 (of_decide_eq_true (by kernel_rfl)))
  clear hall hC ha bb_2 hD_2 e3_2 e4_2 e5_2 e13_2 e34_2
  repeat (first | refine wp_seq ?_ | (refine wp_skip ?_; refine then_n ?_))
  refine wp_ret ?_
  repeat (refine then_r ?_)
  exact ret_one (t := 6) rfl hD_3 e6_3 ⟨rfl, bb_3⟩
set_option maxRecDepth 100000 in
set_option maxHeartbeats 16000000 in
theorem lawOrder_all {w : World} {A1 A1' A2 A2' A3 A3' : Option Addr} {l1 l1' c1 c1' l2 l2' c2 c2' l3 l3' c3 c3' : Nat} {b1 b1' b2 b2' b3 b3' : Bool} (hf : fewP [(l1, l1'), (l2, l2'), (l3, l3')] = true) {a : Rat} (q1 : Pr w (.agg #[.bool b1, .slice A1 l1 c1, .bool b1', .slice A1' l1' c1']) 9 a.num (a.den : Int)) {b : Rat} (q2 : Pr w (.agg #[.bool b2, .slice A2 l2 c2, .bool b2', .slice A2' l2' c2']) 9 b.num (b.den : Int)) {c : Rat} (q3 : Pr w (.agg #[.bool b3, .slice A3 l3 c3, .bool b3', .slice A3' l3' c3']) 9 c.num (c.den : Int)) (HT : Hid (Tab w ∧ 4 ≤ w.heap.size)) (hm : MaxL w) :
    Calls Tryz.prog 5 #[.agg #[.bool b1, .slice A1 l1 c1, .bool b1', .slice A1' l1' c1'], .agg #[.bool b2, .slice A2 l2 c2, .bool b2', .slice A2' l2' c2'], .agg #[.bool b3, .slice A3 l3 c3, .bool b3', .slice A3' l3' c3']] w fun e w' => e = .returned (.bool true) ∧ Below w.heap.size w w' := by
  have HM := Lib.hid hm
  have haw := fun (W : World) (hW : Below w.heap.size w W) => awake3_any (w := W) (Lib.hid ⟨HT.out.1.below hW HT.out.2, Nat.le_trans HT.out.2 hW.size⟩) (hm.below hW)
  have HA := Lib.hid haw
  clear haw hm
  have HF := Lib.hid hf
  clear hf
  have hr1 := fun (W : World) (hW : Below w.heap.size w W) => (show Calls Tryz.prog 11 #[.agg #[.bool b1, .slice A1 l1 c1, .bool b1', .slice A1' l1' c1']] W (SaysB W true) from right_9 (q1.below hW))
  have HR1 := Lib.hid hr1
  clear hr1
  have Q1 := Lib.hid q1
  clear q1
  have hr2 := fun (W : World) (hW : Below w.heap.size w W) => (show Calls Tryz.prog 11 #[.agg #[.bool b2, .slice A2 l2 c2, .bool b2', .slice A2' l2' c2']] W (SaysB W true) from right_9 (q2.below hW))
  have HR2 := Lib.hid hr2
  clear hr2
  have Q2 := Lib.hid q2
  clear q2
  have hr3 := fun (W : World) (hW : Below w.heap.size w W) => (show Calls Tryz.prog 11 #[.agg #[.bool b3, .slice A3 l3 c3, .bool b3', .slice A3' l3' c3']] W (SaysB W true) from right_9 (q3.below hW))
  have HR3 := Lib.hid hr3
  clear hr3
  have Q3 := Lib.hid q3
  clear q3
  go_enter Tryz.func5, Tryz.ntmps5
  repeat (refine wp_seq ?_)
  refine region_k ?_
  intro K hK
  have HK := Lib.hid hK
  clear hK
  go_wp2
  refine HK.out _ _ ?_
  clear HK
  refine then_n ?_
  obtain ⟨W_0, hW⟩ : ∃ W, W = ((w.alloc (Obj.cells #[Value.bool b1, Value.slice A1 l1 c1, Value.bool b1', Value.slice A1' l1' c1'] 27)).alloc (Obj.cells #[Value.bool b2, Value.slice A2 l2 c2, Value.bool b2', Value.slice A2' l2' c2'] 27)).alloc (Obj.cells #[Value.bool b3, Value.slice A3 l3 c3, Value.bool b3', Value.slice A3' l3' c3'] 27) := ⟨_, rfl⟩
  obtain ⟨bb_0, K0, K1, K2⟩ := three_new4 hW
  rw [← hW]
  clear hW
  refine name_frame (G := fun a => Code.wp _ _ _ a _) ?_
  intro a_0 ha
  have hN_0 : a_0.tmps.size = 120 := by subst ha; kernel_rfl
  have hD_0 : a_0.defers = [] := by subst ha; rfl
  have e3_0 : a_0.eval (.tmp 3) = .pointer (some ⟨w.heap.size, 0, none⟩) := by subst ha; kernel_rfl
  have H3_0 : Holds_ W_0 (w.heap.size) #[.bool b1, .slice A1 l1 c1, .bool b1', .slice A1' l1' c1'] := ⟨⟨_, K0⟩, by simp [noDig]⟩
  have e4_0 : a_0.eval (.tmp 4) = .pointer (some ⟨w.heap.size + 1, 0, none⟩) := by subst ha; kernel_rfl
  have H4_0 : Holds_ W_0 (w.heap.size + 1) #[.bool b2, .slice A2 l2 c2, .bool b2', .slice A2' l2' c2'] := ⟨⟨_, K1⟩, by simp [noDig]⟩
  have e5_0 : a_0.eval (.tmp 5) = .pointer (some ⟨w.heap.size + 1 + 1, 0, none⟩) := by subst ha; kernel_rfl
  have H5_0 : Holds_ W_0 (w.heap.size + 1 + 1) #[.bool b3, .slice A3 l3 c3, .bool b3', .slice A3' l3' c3'] := ⟨⟨_, K2⟩, by simp [noDig]⟩
  clear ha K0 K1 K2
  repeat (first | refine wp_seq ?_ | (refine wp_skip ?_; refine then_n ?_))
  refine wp_region_law hN_0 w.heap.size
    [kIs (.bool true), kIs (.bool false)]
    [ [], [(0, some 12)] ]
    [(0, some 12), (1, some 13)] [] [] (by kernel_rfl) (by kernel_rfl) (by kernel_rfl) (by kernel_rfl) (by kernel_rfl) (by kernel_rfl) (by kernel_rfl) bb_0.size ?_ ?_
  ·
    refine pk_cons rfl rfl (st_call0 [] hN_0 (by kernel_rfl) (by kernel_rfl) rfl rfl fun w x hC => ti (HA.out _ (bb_0.trans hC.below))) ?_
    refine pk_cons rfl rfl (st_pure [.bool true] [] (.bool false) rfl hN_0 (by kernel_rfl) (by kernel_rfl) (by kernel_rfl) old0 (by kernel_rfl) (by kernel_rfl) (by kernel_rfl) (fun _ => by kernel_rfl)) ?_
    exact pk_nil rfl
  intro W_1 x hC hall
  refine then_n ?_
  obtain ⟨a_1, ha⟩ : ∃ a, a = putE x a_0 [(0, some 12), (1, some 13)] := ⟨_, rfl⟩
  rw [← ha]
  have hN_1 := size_behind ha hN_0
  have hD_1 := defers_behind ha hD_0
  have bb_1 := bb_0.trans hC.below
  have e3_1 := slot_old ha (by kernel_rfl) e3_0
  have e4_1 := slot_old ha (by kernel_rfl) e4_0
  have e5_1 := slot_old ha (by kernel_rfl) e5_0
  have H3_1 := hC.holds H3_0
  have H4_1 := hC.holds H4_0
  have H5_1 := hC.holds H5_0
  have e13_1 := (slot_new (t := 13) (i := 1) ha hN_0 (by kernel_rfl) (by kernel_rfl)).trans (show x 1 = .bool false from hall 1 (of_decide_eq_true (by kernel_rfl)))
  clear hall hC ha bb_0 hD_0 e3_0 e4_0 e5_0 H3_0 H4_0 H5_0
  refine wp_cond_false e13_1 ?_
  repeat (first | refine wp_seq ?_ | (refine wp_skip ?_; refine then_n ?_))
  refine wp_region_law hN_1 w.heap.size
    [kIs (.agg #[.bool b1, .slice A1 l1 c1, .bool b1', .slice A1' l1' c1']), kIs (.agg #[.bool b2, .slice A2 l2 c2, .bool b2', .slice A2' l2' c2']), kIs (.agg #[.bool b3, .slice A3 l3 c3, .bool b3', .slice A3' l3' c3']), kLensP [(l1, l1'), (l2, l2'), (l3, l3')], kIs (.bool true), kIs (.bool false), kIs (.bool false), kIs (.agg #[.bool b1, .slice A1 l1 c1, .bool b1', .slice A1' l1' c1']), kIs (.bool true), kIs (.bool false), kIs (.bool false), kIs (.bool false), kIs (.agg #[.bool b2, .slice A2 l2 c2, .bool b2', .slice A2' l2' c2']), kIs (.bool true), kIs (.bool false), kIs (.bool false), kIs (.bool false), kIs (.agg #[.bool b3, .slice A3 l3 c3, .bool b3', .slice A3' l3' c3']), kIs (.bool true), kIs (.bool false), kIs (.bool false)]
    [ [], [], [], [(0, some 14), (1, some 15), (2, some 16)], [(3, some 17)], [(4, some 18)], [(5, some 19)], [], [(7, some 21)], [(8, some 22)], [(6, some 20), (9, some 23)], [(10, some 24)], [], [(12, some 26)], [(13, some 27)], [(11, some 25), (14, some 28)], [(15, some 29)], [], [(17, some 31)], [(18, some 32)], [(16, some 30), (19, some 33)] ]
    [(0, some 14), (1, some 15), (2, some 16), (3, some 17), (4, some 18), (5, some 19), (6, some 20), (7, some 21), (8, some 22), (9, some 23), (10, some 24), (11, some 25), (12, some 26), (13, some 27), (14, some 28), (15, some 29), (16, some 30), (17, some 31), (18, some 32), (19, some 33), (20, some 34)] [(6, false), (11, false), (16, false)] [] (by kernel_rfl) (by kernel_rfl) (by kernel_rfl) (by kernel_rfl) (by kernel_rfl) (by kernel_rfl) (by kernel_rfl) bb_1.size ?_ ?_
  ·
    refine pk_cons rfl rfl (st_loadV4 H3_1 e3_1 hN_1 (by kernel_rfl) rfl) ?_
    refine pk_cons rfl rfl (st_loadV4 H4_1 e4_1 hN_1 (by kernel_rfl) rfl) ?_
    refine pk_cons rfl rfl (st_loadV4 H5_1 e5_1 hN_1 (by kernel_rfl) rfl) ?_
    refine pk_cons rfl rfl (st_lensP3 hN_1 (by kernel_rfl) (by kernel_rfl) (by kernel_rfl) (by kernel_rfl) (by kernel_rfl) (by kernel_rfl) (by kernel_rfl) (Nat.le_refl _) rfl rfl rfl rfl) ?_
    refine pk_cons rfl rfl (st_call1 hN_1 (by kernel_rfl) (by kernel_rfl) (by kernel_rfl) rfl rfl fun w x v1 hC h1 => ti (few_told h1 (by simp) HF.out)) ?_
    refine pk_cons rfl rfl (st_pure [.bool true] [] (.bool false) rfl hN_1 (by kernel_rfl) (by kernel_rfl) (by kernel_rfl) old0 (by kernel_rfl) (by kernel_rfl) (by kernel_rfl) (fun _ => by kernel_rfl)) ?_
    refine pk_cons rfl rfl (st_pure [.bool false] [] (.bool false) rfl hN_1 (by kernel_rfl) (by kernel_rfl) (by kernel_rfl) old0 (by kernel_rfl) (by kernel_rfl) (by kernel_rfl) (fun _ => by kernel_rfl)) ?_
    refine pk_cons rfl rfl (st_loadV4 H3_1 e3_1 hN_1 (by kernel_rfl) rfl) ?_
    refine pk_cons rfl rfl (st_call1 hN_1 (by kernel_rfl) (by kernel_rfl) (by kernel_rfl) rfl rfl fun w x v1 hC h1 => ti (right_said HR1 h1 (bb_1.trans hC.below))) ?_
    refine pk_cons rfl rfl (st_pure [.bool true] [] (.bool false) rfl hN_1 (by kernel_rfl) (by kernel_rfl) (by kernel_rfl) old0 (by kernel_rfl) (by kernel_rfl) (by kernel_rfl) (fun _ => by kernel_rfl)) ?_
    refine pk_cons rfl rfl (st_pure [.bool false, .bool false] [] (.bool false) rfl hN_1 (by kernel_rfl) (by kernel_rfl) (by kernel_rfl) old0 (by kernel_rfl) (by kernel_rfl) (by kernel_rfl) (fun _ => by kernel_rfl)) ?_
    refine pk_cons rfl rfl (st_pure [.bool false] [] (.bool false) rfl hN_1 (by kernel_rfl) (by kernel_rfl) (by kernel_rfl) old0 (by kernel_rfl) (by kernel_rfl) (by kernel_rfl) (fun _ => by kernel_rfl)) ?_
    refine pk_cons rfl rfl (st_loadV4 H4_1 e4_1 hN_1 (by kernel_rfl) rfl) ?_
    refine pk_cons rfl rfl (st_call1 hN_1 (by kernel_rfl) (by kernel_rfl) (by kernel_rfl) rfl rfl fun w x v1 hC h1 => ti (right_said HR2 h1 (bb_1.trans hC.below))) ?_
    refine pk_cons rfl rfl (st_pure [.bool true] [] (.bool false) rfl hN_1 (by kernel_rfl) (by kernel_rfl) (by kernel_rfl) old0 (by kernel_rfl) (by kernel_rfl) (by kernel_rfl) (fun _ => by kernel_rfl)) ?_
    refine pk_cons rfl rfl (st_pure [.bool false, .bool false] [] (.bool false) rfl hN_1 (by kernel_rfl) (by kernel_rfl) (by kernel_rfl) old0 (by kernel_rfl) (by kernel_rfl) (by kernel_rfl) (fun _ => by kernel_rfl)) ?_
    refine pk_cons rfl rfl (st_pure [.bool false] [] (.bool false) rfl hN_1 (by kernel_rfl) (by kernel_rfl) (by kernel_rfl) old0 (by kernel_rfl) (by kernel_rfl) (by kernel_rfl) (fun _ => by kernel_rfl)) ?_
    refine pk_cons rfl rfl (st_loadV4 H5_1 e5_1 hN_1 (by kernel_rfl) rfl) ?_
    refine pk_cons rfl rfl (st_call1 hN_1 (by kernel_rfl) (by kernel_rfl) (by kernel_rfl) rfl rfl fun w x v1 hC h1 => ti (right_said HR3 h1 (bb_1.trans hC.below))) ?_
    refine pk_cons rfl rfl (st_pure [.bool true] [] (.bool false) rfl hN_1 (by kernel_rfl) (by kernel_rfl) (by kernel_rfl) old0 (by kernel_rfl) (by kernel_rfl) (by kernel_rfl) (fun _ => by kernel_rfl)) ?_
    refine pk_cons rfl rfl (st_pure [.bool false, .bool false] [] (.bool false) rfl hN_1 (by kernel_rfl) (by kernel_rfl) (by kernel_rfl) old0 (by kernel_rfl) (by kernel_rfl) (by kernel_rfl) (fun _ => by kernel_rfl)) ?_
    exact pk_nil rfl
  intro W_2 x hC hall
  refine then_n ?_
  obtain ⟨a_2, ha⟩ : ∃ a, a = putE x a_1 [(0, some 14), (1, some 15), (2, some 16), (3, some 17), (4, some 18), (5, some 19), (6, some 20), (7, some 21), (8, some 22), (9, some 23), (10, some 24), (11, some 25), (12, some 26), (13, some 27), (14, some 28), (15, some 29), (16, some 30), (17, some 31), (18, some 32), (19, some 33), (20, some 34)] := ⟨_, rfl⟩
  rw [← ha]
  have hN_2 := size_behind ha hN_1
  have hD_2 := defers_behind ha hD_1
  have bb_2 := bb_1.trans hC.below
  have e3_2 := slot_old ha (by kernel_rfl) e3_1
  have e4_2 := slot_old ha (by kernel_rfl) e4_1
  have e5_2 := slot_old ha (by kernel_rfl) e5_1
  have e13_2 := slot_old ha (by kernel_rfl) e13_1
  have H3_2 := hC.holds H3_1
  have H4_2 := hC.holds H4_1
  have H5_2 := hC.holds H5_1
  have e34_2 := (slot_new (t := 34) (i := 20) ha hN_1 (by kernel_rfl) (by kernel_rfl)).trans (show x 20 = .bool false from hall 20 (of_decide_eq_true (by kernel_rfl)))
  clear hall hC ha bb_1 hD_1 e3_1 e4_1 e5_1 e13_1 H3_1 H4_1 H5_1
  refine wp_cond_false e34_2 ?_
  repeat (first | refine wp_seq ?_ | (refine wp_skip ?_; refine then_n ?_))
  obtain ⟨f1_2, f1'_2⟩ := atR_of H3_2 (Q1.out.below bb_2)
  obtain ⟨f2_2, f2'_2⟩ := atR_of H4_2 (Q2.out.below bb_2)
  obtain ⟨f3_2, f3'_2⟩ := atR_of H5_2 (Q3.out.below bb_2)
  clear H3_2 H4_2 H5_2 HR1 HR2 HR3 HF HA
  have HQ := Lib.hid (show a.num.natAbs < 1000000000 ^ 19 ∧ a.den < 1000000000 ^ 19 from pr_bounds Q1.out)
  rcases q_three a b with hs | hs | hs
  ·
    refine wp_region_law hN_2 w.heap.size
      [kP 9 (a.num) ((a.den : Int)), kP 9 (b.num) ((b.den : Int)), kIs (.int .i64 (-1)), kIs (.int .i64 (-1))]
      [ [], [], [(0, some 35), (1, some 36)], [(2, some 37)] ]
      [(0, some 35), (1, some 36), (2, some 37), (3, some 7)] [] [] (by kernel_rfl) (by kernel_rfl) (by kernel_rfl) (by kernel_rfl) (by kernel_rfl) (by kernel_rfl) (by kernel_rfl) bb_2.size ?_ ?_
    ·
      refine pk_cons rfl rfl (st_load4P f1_2 f1'_2 (by simp) e3_2 hN_2 (by kernel_rfl) rfl) ?_
      refine pk_cons rfl rfl (st_load4P f2_2 f2'_2 (by simp) e4_2 hN_2 (by kernel_rfl) rfl) ?_
      refine pk_cons rfl rfl (st_call2 hN_2 (by kernel_rfl) (by kernel_rfl) (by kernel_rfl) (by kernel_rfl) (by kernel_rfl) rfl rfl rfl fun w x v1 v2 hC h1 h2 => ti (cmpq_is (ordQ_lt hs) (Cmp_9 (pm (by decide) h1) (pm (by decide) h2)))) ?_
      refine pk_cons rfl rfl (st_pure [.int .i64 (-1)] [] (.int .i64 (-1)) rfl hN_2 (by kernel_rfl) (by kernel_rfl) (by kernel_rfl) old0 (by kernel_rfl) (by kernel_rfl) (by kernel_rfl) (fun _ => by kernel_rfl)) ?_
      exact pk_nil rfl
    intro W_3 x hC hall
    refine then_n ?_
    obtain ⟨a_3, ha⟩ : ∃ a, a = putE x a_2 [(0, some 35), (1, some 36), (2, some 37), (3, some 7)] := ⟨_, rfl⟩
    rw [← ha]
    have hN_3 := size_behind ha hN_2
    have hD_3 := defers_behind ha hD_2
    have bb_3 := bb_2.trans hC.below
    have e3_3 := slot_old ha (by kernel_rfl) e3_2
    have e4_3 := slot_old ha (by kernel_rfl) e4_2
    have e5_3 := slot_old ha (by kernel_rfl) e5_2
    have e13_3 := slot_old ha (by kernel_rfl) e13_2
    have e34_3 := slot_old ha (by kernel_rfl) e34_2
    have f1_3 := hC.at0 f1_2
    have f1'_3 := hC.at0 f1'_2
    have f2_3 := hC.at0 f2_2
    have f2'_3 := hC.at0 f2'_2
    have f3_3 := hC.at0 f3_2
    have f3'_3 := hC.at0 f3'_2
    have e7_3 := (slot_new (t := 7) (i := 3) ha hN_2 (by kernel_rfl) (by kernel_rfl)).trans (show x 3 = .int .i64 (-1) from hall 3 (of_decide_eq_true (by kernel_rfl)))
    clear hall hC ha bb_2 hD_2 e3_2 e4_2 e5_2 e13_2 e34_2 f1_2 f1'_2 f2_2 f2'_2 f3_2 f3'_2
    repeat (first | refine wp_seq ?_ | (refine wp_skip ?_; refine then_n ?_))
    by_cases hbc : b ≤ c
    ·
      refine wp_region_law hN_3 w.heap.size
        [kP 9 (b.num) ((b.den : Int)), kP 9 (a.num) ((a.den : Int)), kIs (.int .i64 (1)), kIs (.int .i64 (-1)), kIs (.int .i64 (1)), kIs (.bool false), kIs (.bool false), kIs (.int .i64 (-1)), kIs (.bool false), kP 9 (a.num) ((a.den : Int)), kP 9 (b.num) ((b.den : Int)), kIs (.bool false), kIs (.bool false), kIs (.bool false), kIs (.bool false), kIs (.int .i64 (-1)), kIs (.bool true), kIs (.bool true), kP 9 (b.num) ((b.den : Int)), kP 9 (c.num) ((c.den : Int)), kIs (.int .i64 (ordQ b c)), kIs (.bool true), kIs (.bool true), kIs (.bool true), kP 9 (a.num) ((a.den : Int)), kP 9 (c.num) ((c.den : Int)), kIs (.int .i64 (ordQ a c)), kIs (.bool false), kIs (.bool false), kIs (.bool false), kIs (.bool false), kP 9 (a.num) ((a.den : Int)), kP 9 (c.num) ((c.den : Int)), kPRs [(9, a.num, (a.den : Int)), (9, c.num, (c.den : Int))], kP 19 ((a + c).num) (((a + c).den : Int)), kP 9 (b.num) ((b.den : Int)), kP 9 (c.num) ((c.den : Int)), kPRs [(9, b.num, (b.den : Int)), (9, c.num, (c.den : Int))], kP 19 ((b + c).num) (((b + c).den : Int)), kIs (.int .i64 (-1)), kIs (.int .i64 (-1)), kIs (.bool false), kIs (.bool false)]
        [ [], [], [(0, some 38), (1, some 39)], [], [(3, some 41)], [(2, some 40), (4, some 42)], [(5, some 43)], [], [(7, some 45)], [], [], [(9, some 47), (10, some 48)], [(8, some 46), (11, some 49)], [(6, some 44), (12, some 50)], [(13, some 51)], [], [(15, some 53)], [(16, some 54)], [], [], [(18, some 56), (19, some 57)], [(20, some 58)], [(17, some 55), (21, some 59)], [(22, some 60)], [], [], [(24, some 62), (25, some 63)], [(26, some 64)], [(23, some 61), (27, some 65)], [(14, some 52), (28, some 66)], [(29, some 67)], [], [], [(31, some 69), (32, some 70)], [(33, some 71)], [], [], [(35, some 73), (36, some 74)], [(37, some 75)], [(34, some 72), (38, some 76)], [], [(39, some 77), (40, some 78)], [(30, some 68), (41, some 79)] ]
        [(0, some 38), (1, some 39), (2, some 40), (3, some 41), (4, some 42), (5, some 43), (6, some 44), (7, some 45), (8, some 46), (9, some 47), (10, some 48), (11, some 49), (12, some 50), (13, some 51), (14, some 52), (15, some 53), (16, some 54), (17, some 55), (18, some 56), (19, some 57), (20, some 58), (21, some 59), (22, some 60), (23, some 61), (24, some 62), (25, some 63), (26, some 64), (27, some 65), (28, some 66), (29, some 67), (30, some 68), (31, some 69), (32, some 70), (33, some 71), (34, some 72), (35, some 73), (36, some 74), (37, some 75), (38, some 76), (39, some 77), (40, some 78), (41, some 79), (42, some 80)] [(6, false), (14, false), (17, true), (23, true), (30, false)] [] (by kernel_rfl) (by kernel_rfl) (by kernel_rfl) (by kernel_rfl) (by kernel_rfl) (by kernel_rfl) (by kernel_rfl) bb_3.size ?_ ?_
      ·
        refine pk_cons rfl rfl (st_load4P f2_3 f2'_3 (by simp) e4_3 hN_3 (by kernel_rfl) rfl) ?_
        refine pk_cons rfl rfl (st_load4P f1_3 f1'_3 (by simp) e3_3 hN_3 (by kernel_rfl) rfl) ?_
        refine pk_cons rfl rfl (st_call2 hN_3 (by kernel_rfl) (by kernel_rfl) (by kernel_rfl) (by kernel_rfl) (by kernel_rfl) rfl rfl rfl fun w x v1 v2 hC h1 h2 => ti (cmpq_is (ordQ_gt hs) (Cmp_9 (pm (by decide) h1) (pm (by decide) h2)))) ?_
        refine pk_cons rfl rfl (st_pure [] [(7, .int .i64 (-1))] (.int .i64 (-1)) rfl hN_3 (by kernel_rfl) (by kernel_rfl) (by kernel_rfl) (old1 e7_3) (by kernel_rfl) (by kernel_rfl) (by kernel_rfl) (fun _ => by kernel_rfl)) ?_
        refine pk_cons rfl rfl (st_pure [.int .i64 (-1)] [] (.int .i64 (1)) rfl hN_3 (by kernel_rfl) (by kernel_rfl) (by kernel_rfl) old0 (by kernel_rfl) (by kernel_rfl) (by kernel_rfl) (fun _ => by kernel_rfl)) ?_
        refine pk_cons rfl rfl (st_pure [.int .i64 (1), .int .i64 (1)] [] (.bool false) rfl hN_3 (by kernel_rfl) (by kernel_rfl) (by kernel_rfl) old0 (by kernel_rfl) (by kernel_rfl) (by kernel_rfl) (fun _ => by kernel_rfl)) ?_
        refine pk_cons rfl rfl (st_pure [.bool false] [] (.bool false) rfl hN_3 (by kernel_rfl) (by kernel_rfl) (by kernel_rfl) old0 (by kernel_rfl) (by kernel_rfl) (by kernel_rfl) (fun _ => by kernel_rfl)) ?_
        refine pk_cons rfl rfl (st_pure [] [(7, .int .i64 (-1))] (.int .i64 (-1)) rfl hN_3 (by kernel_rfl) (by kernel_rfl) (by kernel_rfl) (old1 e7_3) (by kernel_rfl) (by kernel_rfl) (by kernel_rfl) (fun _ => by kernel_rfl)) ?_
        refine pk_cons rfl rfl (st_pure [.int .i64 (-1)] [] (.bool false) rfl hN_3 (by kernel_rfl) (by kernel_rfl) (by kernel_rfl) old0 (by kernel_rfl) (by kernel_rfl) (by kernel_rfl) (fun _ => by kernel_rfl)) ?_
        refine pk_cons rfl rfl (st_load4P f1_3 f1'_3 (by simp) e3_3 hN_3 (by kernel_rfl) rfl) ?_
        refine pk_cons rfl rfl (st_load4P f2_3 f2'_3 (by simp) e4_3 hN_3 (by kernel_rfl) rfl) ?_
        refine pk_cons rfl rfl (st_call2 hN_3 (by kernel_rfl) (by kernel_rfl) (by kernel_rfl) (by kernel_rfl) (by kernel_rfl) rfl rfl rfl fun w x v1 v2 hC h1 h2 => ti (lawSame_not (Rat.ne_of_lt hs) (pm (by decide) h1) (pm (by decide) h2))) ?_
        refine pk_cons rfl rfl (st_pure [.bool false, .bool false] [] (.bool false) rfl hN_3 (by kernel_rfl) (by kernel_rfl) (by kernel_rfl) old0 (by kernel_rfl) (by kernel_rfl) (by kernel_rfl) (fun _ => by kernel_rfl)) ?_
        refine pk_cons rfl rfl (st_pure [.bool false, .bool false] [] (.bool false) rfl hN_3 (by kernel_rfl) (by kernel_rfl) (by kernel_rfl) old0 (by kernel_rfl) (by kernel_rfl) (by kernel_rfl) (fun _ => by kernel_rfl)) ?_
        refine pk_cons rfl rfl (st_pure [.bool false] [] (.bool false) rfl hN_3 (by kernel_rfl) (by kernel_rfl) (by kernel_rfl) old0 (by kernel_rfl) (by kernel_rfl) (by kernel_rfl) (fun _ => by kernel_rfl)) ?_
        refine pk_cons rfl rfl (st_pure [] [(7, .int .i64 (-1))] (.int .i64 (-1)) rfl hN_3 (by kernel_rfl) (by kernel_rfl) (by kernel_rfl) (old1 e7_3) (by kernel_rfl) (by kernel_rfl) (by kernel_rfl) (fun _ => by kernel_rfl)) ?_
        refine pk_cons rfl rfl (st_pure [.int .i64 (-1)] [] (.bool true) rfl hN_3 (by kernel_rfl) (by kernel_rfl) (by kernel_rfl) old0 (by kernel_rfl) (by kernel_rfl) (by kernel_rfl) (fun _ => by kernel_rfl)) ?_
        refine pk_cons rfl rfl (st_pure [.bool true] [] (.bool true) rfl hN_3 (by kernel_rfl) (by kernel_rfl) (by kernel_rfl) old0 (by kernel_rfl) (by kernel_rfl) (by kernel_rfl) (fun _ => by kernel_rfl)) ?_
        refine pk_cons rfl rfl (st_load4P f2_3 f2'_3 (by simp) e4_3 hN_3 (by kernel_rfl) rfl) ?_
        refine pk_cons rfl rfl (st_load4P f3_3 f3'_3 (by simp) e5_3 hN_3 (by kernel_rfl) rfl) ?_
        refine pk_cons rfl rfl (st_call2 hN_3 (by kernel_rfl) (by kernel_rfl) (by kernel_rfl) (by kernel_rfl) (by kernel_rfl) rfl rfl rfl fun w x v1 v2 hC h1 h2 => ti (Cmp_9 (pm (by decide) h1) (pm (by decide) h2))) ?_
        refine pk_cons rfl rfl (st_pureV [.int .i64 (ordQ b c)] [] (.bool (decide (ordQ b c ≤ 0))) (.bool true) (congrArg Value.bool (decide_eq_true (ordQ_le hbc))) rfl hN_3 (by kernel_rfl) (by kernel_rfl) (by kernel_rfl) old0 (by kernel_rfl) (by kernel_rfl) (by kernel_rfl) (fun _ => by kernel_rfl)) ?_
        refine pk_cons rfl rfl (st_pure [.bool true, .bool true] [] (.bool true) rfl hN_3 (by kernel_rfl) (by kernel_rfl) (by kernel_rfl) old0 (by kernel_rfl) (by kernel_rfl) (by kernel_rfl) (fun _ => by kernel_rfl)) ?_
        refine pk_cons rfl rfl (st_pure [.bool true] [] (.bool true) rfl hN_3 (by kernel_rfl) (by kernel_rfl) (by kernel_rfl) old0 (by kernel_rfl) (by kernel_rfl) (by kernel_rfl) (fun _ => by kernel_rfl)) ?_
        refine pk_cons rfl rfl (st_load4P f1_3 f1'_3 (by simp) e3_3 hN_3 (by kernel_rfl) rfl) ?_
        refine pk_cons rfl rfl (st_load4P f3_3 f3'_3 (by simp) e5_3 hN_3 (by kernel_rfl) rfl) ?_
        refine pk_cons rfl rfl (st_call2 hN_3 (by kernel_rfl) (by kernel_rfl) (by kernel_rfl) (by kernel_rfl) (by kernel_rfl) rfl rfl rfl fun w x v1 v2 hC h1 h2 => ti (Cmp_9 (pm (by decide) h1) (pm (by decide) h2))) ?_
        refine pk_cons rfl rfl (st_pureV [.int .i64 (ordQ a c)] [] (.bool (decide (ordQ a c > 0))) (.bool false) (congrArg Value.bool (decide_eq_false (Int.not_lt.2 (ordQ_le (Rat.le_trans (Rat.le_of_lt hs) hbc))))) rfl hN_3 (by kernel_rfl) (by kernel_rfl) (by kernel_rfl) old0 (by kernel_rfl) (by kernel_rfl) (by kernel_rfl) (fun _ => by kernel_rfl)) ?_
        refine pk_cons rfl rfl (st_pure [.bool true, .bool false] [] (.bool false) rfl hN_3 (by kernel_rfl) (by kernel_rfl) (by kernel_rfl) old0 (by kernel_rfl) (by kernel_rfl) (by kernel_rfl) (fun _ => by kernel_rfl)) ?_
        refine pk_cons rfl rfl (st_pure [.bool false, .bool false] [] (.bool false) rfl hN_3 (by kernel_rfl) (by kernel_rfl) (by kernel_rfl) old0 (by kernel_rfl) (by kernel_rfl) (by kernel_rfl) (fun _ => by kernel_rfl)) ?_
        refine pk_cons rfl rfl (st_pure [.bool false] [] (.bool false) rfl hN_3 (by kernel_rfl) (by kernel_rfl) (by kernel_rfl) old0 (by kernel_rfl) (by kernel_rfl) (by kernel_rfl) (fun _ => by kernel_rfl)) ?_
        refine pk_cons rfl rfl (st_load4P f1_3 f1'_3 (by simp) e3_3 hN_3 (by kernel_rfl) rfl) ?_
        refine pk_cons rfl rfl (st_load4P f3_3 f3'_3 (by simp) e5_3 hN_3 (by kernel_rfl) rfl) ?_
        refine pk_cons rfl rfl (st_plist2 hN_3 (by kernel_rfl) (by kernel_rfl) (by kernel_rfl) (by kernel_rfl) (Nat.le_refl _) rfl rfl rfl) ?_
        refine pk_cons rfl rfl (st_call1 hN_3 (by kernel_rfl) (by kernel_rfl) (by kernel_rfl) rfl rfl fun w x v1 hC h1 => tp (Add2_9 (plm2 9 h1 (by decide) (by decide)))) ?_
        refine pk_cons rfl rfl (st_load4P f2_3 f2'_3 (by simp) e4_3 hN_3 (by kernel_rfl) rfl) ?_
        refine pk_cons rfl rfl (st_load4P f3_3 f3'_3 (by simp) e5_3 hN_3 (by kernel_rfl) rfl) ?_
        refine pk_cons rfl rfl (st_plist2 hN_3 (by kernel_rfl) (by kernel_rfl) (by kernel_rfl) (by kernel_rfl) (Nat.le_refl _) rfl rfl rfl) ?_
        refine pk_cons rfl rfl (st_call1 hN_3 (by kernel_rfl) (by kernel_rfl) (by kernel_rfl) rfl rfl fun w x v1 hC h1 => tp (Add2_9 (plm2 9 h1 (by decide) (by decide)))) ?_
        refine pk_cons rfl rfl (st_call2 hN_3 (by kernel_rfl) (by kernel_rfl) (by kernel_rfl) (by kernel_rfl) (by kernel_rfl) rfl rfl rfl fun w x v1 v2 hC h1 h2 => ti (cmpq_is (ordQ_lt (Rat.add_lt_add_right.2 hs)) (Cmp_19 (pm (by decide) h1) (pm (by decide) h2)))) ?_
        refine pk_cons rfl rfl (st_pure [] [(7, .int .i64 (-1))] (.int .i64 (-1)) rfl hN_3 (by kernel_rfl) (by kernel_rfl) (by kernel_rfl) (old1 e7_3) (by kernel_rfl) (by kernel_rfl) (by kernel_rfl) (fun _ => by kernel_rfl)) ?_
        refine pk_cons rfl rfl (st_pure [.int .i64 (-1), .int .i64 (-1)] [] (.bool false) rfl hN_3 (by kernel_rfl) (by kernel_rfl) (by kernel_rfl) old0 (by kernel_rfl) (by kernel_rfl) (by kernel_rfl) (fun _ => by kernel_rfl)) ?_
        refine pk_cons rfl rfl (st_pure [.bool false, .bool false] [] (.bool false) rfl hN_3 (by kernel_rfl) (by kernel_rfl) (by kernel_rfl) old0 (by kernel_rfl) (by kernel_rfl) (by kernel_rfl) (fun _ => by kernel_rfl)) ?_
        exact pk_nil rfl
      intro W_4 x hC hall
      refine then_n ?_
      obtain ⟨a_4, ha⟩ : ∃ a, a = putE x a_3 [(0, some 38), (1, some 39), (2, some 40), (3, some 41), (4, some 42), (5, some 43), (6, some 44), (7, some 45), (8, some 46), (9, some 47), (10, some 48), (11, some 49), (12, some 50), (13, some 51), (14, some 52), (15, some 53), (16, some 54), (17, some 55), (18, some 56), (19, some 57), (20, some 58), (21, some 59), (22, some 60), (23, some 61), (24, some 62), (25, some 63), (26, some 64), (27, some 65), (28, some 66), (29, some 67), (30, some 68), (31, some 69), (32, some 70), (33, some 71), (34, some 72), (35, some 73), (36, some 74), (37, some 75), (38, some 76), (39, some 77), (40, some 78), (41, some 79), (42, some 80)] := ⟨_, rfl⟩
      rw [← ha]
      have hN_4 := size_behind ha hN_3
      have hD_4 := defers_behind ha hD_3
      have bb_4 := bb_3.trans hC.below
      have e3_4 := slot_old ha (by kernel_rfl) e3_3
      have e4_4 := slot_old ha (by kernel_rfl) e4_3
      have e5_4 := slot_old ha (by kernel_rfl) e5_3
      have e13_4 := slot_old ha (by kernel_rfl) e13_3
      have e34_4 := slot_old ha (by kernel_rfl) e34_3
      have e7_4 := slot_old ha (by kernel_rfl) e7_3
      have f1_4 := hC.at0 f1_3
      have f1'_4 := hC.at0 f1'_3
      have f2_4 := hC.at0 f2_3
      have f2'_4 := hC.at0 f2'_3
      have f3_4 := hC.at0 f3_3
      have f3'_4 := hC.at0 f3'_3
      have e80_4 := (slot_new (t := 80) (i := 42) ha hN_3 (by kernel_rfl) (by kernel_rfl)).trans (show x 42 = .bool false from hall 42 (of_decide_eq_true (by kernel_rfl)))
      clear hall hC ha bb_3 hD_3 e3_3 e4_3 e5_3 e13_3 e34_3 e7_3 f1_3 f1'_3 f2_3 f2'_3 f3_3 f3'_3
      refine wp_cond_false e80_4 ?_
      repeat (first | refine wp_seq ?_ | (refine wp_skip ?_; refine then_n ?_))
      refine wp_region_law hN_4 w.heap.size
        [kP 9 (a.num) ((a.den : Int)), kZ 10 (zq (a.num) ((a.den : Int))), kP 19 (((a.floor : Int) : Rat).num) ((((a.floor : Int) : Rat).den : Int)), PK.fresh 4, kPutP 3 19 (((a.floor : Int) : Rat).num) ((((a.floor : Int) : Rat).den : Int))]
        [ [], [(0, some 81)], [(1, some 82)], [], [(3, some 8), (2, some 83)] ]
        [(0, some 81), (1, some 82), (2, some 83), (3, some 8), (4, none)] [] [] (by kernel_rfl) (by kernel_rfl) (by kernel_rfl) (by kernel_rfl) (by kernel_rfl) (by kernel_rfl) (by kernel_rfl) bb_4.size ?_ ?_
      ·
        refine pk_cons rfl rfl (st_load4P f1_4 f1'_4 (by simp) e3_4 hN_4 (by kernel_rfl) rfl) ?_
        refine pk_cons rfl rfl (st_call1 hN_4 (by kernel_rfl) (by kernel_rfl) (by kernel_rfl) rfl rfl fun w x v1 hC h1 => tz (Floor_9 (pm (by decide) h1))) ?_
        refine pk_cons rfl rfl (st_call1 hN_4 (by kernel_rfl) (by kernel_rfl) (by kernel_rfl) rfl rfl fun w x v1 hC h1 => tp (wholeF (rr h1) (by decide))) ?_
        refine pk_cons rfl rfl (st_allocP hN_4 (by kernel_rfl) (Nat.le_refl _) rfl) ?_
        refine pk_cons rfl rfl (st_putP hN_4 (by kernel_rfl) (by kernel_rfl) (by kernel_rfl) rfl rfl rfl) ?_
        exact pk_nil rfl
      intro W_5 x hC hall
      refine then_n ?_
      obtain ⟨a_5, ha⟩ : ∃ a, a = putE x a_4 [(0, some 81), (1, some 82), (2, some 83), (3, some 8), (4, none)] := ⟨_, rfl⟩
      rw [← ha]
      have hN_5 := size_behind ha hN_4
      have hD_5 := defers_behind ha hD_4
      have bb_5 := bb_4.trans hC.below
      have e3_5 := slot_old ha (by kernel_rfl) e3_4
      have e4_5 := slot_old ha (by kernel_rfl) e4_4
      have e5_5 := slot_old ha (by kernel_rfl) e5_4
      have e13_5 := slot_old ha (by kernel_rfl) e13_4
      have e34_5 := slot_old ha (by kernel_rfl) e34_4
      have e7_5 := slot_old ha (by kernel_rfl) e7_4
      have e80_5 := slot_old ha (by kernel_rfl) e80_4
      have f1_5 := hC.at0 f1_4
      have f1'_5 := hC.at0 f1'_4
      have f2_5 := hC.at0 f2_4
      have f2'_5 := hC.at0 f2'_4
      have f3_5 := hC.at0 f3_4
      have f3'_5 := hC.at0 f3'_4
      obtain ⟨g8, hx, hge, p8_5, p8'_5⟩ := put_atP (show (kPutP 3 19 (((a.floor : Int) : Rat).num) ((((a.floor : Int) : Rat).den : Int))).sem _ _ _ _ from hall 4 (of_decide_eq_true (by kernel_rfl)))
      have e8_5 := (slot_new (t := 8) (i := 3) ha hN_4 (by kernel_rfl) (by kernel_rfl)).trans hx
      clear hx hge
      clear hall hC ha bb_4 hD_4 e3_4 e4_4 e5_4 e13_4 e34_4 e7_4 e80_4 f1_4 f1'_4 f2_4 f2'_4 f3_4 f3'_4
      repeat (first | refine wp_seq ?_ | (refine wp_skip ?_; refine then_n ?_))
      refine wp_region_law hN_5 w.heap.size
        [kP 9 (a.num) ((a.den : Int)), kP 19 (((a.floor : Int) : Rat).num) ((((a.floor : Int) : Rat).den : Int)), kP 39 ((a + (-((a.floor : Int) : Rat))).num) (((a + (-((a.floor : Int) : Rat))).den : Int)), PK.fresh 4, kPutP 3 39 ((a + (-((a.floor : Int) : Rat))).num) (((a + (-((a.floor : Int) : Rat))).den : Int))]
        [ [], [], [(0, some 84), (1, some 85)], [], [(3, some 9), (2, some 86)] ]
        [(0, some 84), (1, some 85), (2, some 86), (3, some 9), (4, none)] [] [] (by kernel_rfl) (by kernel_rfl) (by kernel_rfl) (by kernel_rfl) (by kernel_rfl) (by kernel_rfl) (by kernel_rfl) bb_5.size ?_ ?_
      ·
        refine pk_cons rfl rfl (st_load4P f1_5 f1'_5 (by simp) e3_5 hN_5 (by kernel_rfl) rfl) ?_
        refine pk_cons rfl rfl (st_load4P p8_5 p8'_5 (by simp) e8_5 hN_5 (by kernel_rfl) rfl) ?_
        refine pk_cons rfl rfl (st_call2 hN_5 (by kernel_rfl) (by kernel_rfl) (by kernel_rfl) (by kernel_rfl) (by kernel_rfl) rfl rfl rfl fun w x v1 v2 hC h1 h2 => tp (Sub_19 (pm (by decide) h1) (pm (by decide) h2))) ?_
        refine pk_cons rfl rfl (st_allocP hN_5 (by kernel_rfl) (Nat.le_refl _) rfl) ?_
        refine pk_cons rfl rfl (st_putP hN_5 (by kernel_rfl) (by kernel_rfl) (by kernel_rfl) rfl rfl rfl) ?_
        exact pk_nil rfl
      intro W_6 x hC hall
      refine then_n ?_
      obtain ⟨a_6, ha⟩ : ∃ a, a = putE x a_5 [(0, some 84), (1, some 85), (2, some 86), (3, some 9), (4, none)] := ⟨_, rfl⟩
      rw [← ha]
      have hN_6 := size_behind ha hN_5
      have hD_6 := defers_behind ha hD_5
      have bb_6 := bb_5.trans hC.below
      have e3_6 := slot_old ha (by kernel_rfl) e3_5
      have e4_6 := slot_old ha (by kernel_rfl) e4_5
      have e5_6 := slot_old ha (by kernel_rfl) e5_5
      have e13_6 := slot_old ha (by kernel_rfl) e13_5
      have e34_6 := slot_old ha (by kernel_rfl) e34_5
      have e7_6 := slot_old ha (by kernel_rfl) e7_5
      have e80_6 := slot_old ha (by kernel_rfl) e80_5
      have e8_6 := slot_old ha (by kernel_rfl) e8_5
      have f1_6 := hC.at0 f1_5
      have f1'_6 := hC.at0 f1'_5
      have f2_6 := hC.at0 f2_5
      have f2'_6 := hC.at0 f2'_5
      have f3_6 := hC.at0 f3_5
      have f3'_6 := hC.at0 f3'_5
      have p8_6 := hC.at0 p8_5
      have p8'_6 := hC.at0 p8'_5
      obtain ⟨g9, hx, hge, p9_6, p9'_6⟩ := put_atP (show (kPutP 3 39 ((a + (-((a.floor : Int) : Rat))).num) (((a + (-((a.floor : Int) : Rat))).den : Int))).sem _ _ _ _ from hall 4 (of_decide_eq_true (by kernel_rfl)))
      have e9_6 := (slot_new (t := 9) (i := 3) ha hN_5 (by kernel_rfl) (by kernel_rfl)).trans hx
      clear hx hge
      clear hall hC ha bb_5 hD_5 e3_5 e4_5 e5_5 e13_5 e34_5 e7_5 e80_5 e8_5 f1_5 f1'_5 f2_5 f2'_5 f3_5 f3'_5 p8_5 p8'_5
      repeat (first | refine wp_seq ?_ | (refine wp_skip ?_; refine then_n ?_))
      refine wp_region_law hN_6 w.heap.size
        [kP 19 (((a.floor : Int) : Rat).num) ((((a.floor : Int) : Rat).den : Int)), kP 9 (a.num) ((a.den : Int)), kIs (.int .i64 (ordQ ((a.floor : Int) : Rat) a)), kIs (.bool false), kIs (.bool false), kP 39 ((a + (-((a.floor : Int) : Rat))).num) (((a + (-((a.floor : Int) : Rat))).den : Int)), kZ 1 ((1 : Int)), kP 9 ((1 : Rat).num) (((1 : Rat).den : Int)), kIs (.int .i64 (ordQ (a + (-((a.floor : Int) : Rat))) (1 : Rat))), kIs (.bool false), kIs (.bool false)]
        [ [], [], [(0, some 87), (1, some 88)], [(2, some 89)], [(3, some 90)], [], [], [(6, some 93)], [(5, some 92), (7, some 94)], [(8, some 95)], [(4, some 91), (9, some 96)] ]
        [(0, some 87), (1, some 88), (2, some 89), (3, some 90), (4, some 91), (5, some 92), (6, some 93), (7, some 94), (8, some 95), (9, some 96), (10, some 97)] [(4, false)] [] (by kernel_rfl) (by kernel_rfl) (by kernel_rfl) (by kernel_rfl) (by kernel_rfl) (by kernel_rfl) (by kernel_rfl) bb_6.size ?_ ?_
      ·
        refine pk_cons rfl rfl (st_load4P p8_6 p8'_6 (by simp) e8_6 hN_6 (by kernel_rfl) rfl) ?_
        refine pk_cons rfl rfl (st_load4P f1_6 f1'_6 (by simp) e3_6 hN_6 (by kernel_rfl) rfl) ?_
        refine pk_cons rfl rfl (st_call2 hN_6 (by kernel_rfl) (by kernel_rfl) (by kernel_rfl) (by kernel_rfl) (by kernel_rfl) rfl rfl rfl fun w x v1 v2 hC h1 h2 => ti (Cmp_19 (pm (by decide) h1) (pm (by decide) h2))) ?_
        refine pk_cons rfl rfl (st_pureV [.int .i64 (ordQ ((a.floor : Int) : Rat) a)] [] (.bool (decide (ordQ ((a.floor : Int) : Rat) a > 0))) (.bool false) (congrArg Value.bool (decide_eq_false (Int.not_lt.2 (ordQ_le (Rat.floor_le a))))) rfl hN_6 (by kernel_rfl) (by kernel_rfl) (by kernel_rfl) old0 (by kernel_rfl) (by kernel_rfl) (by kernel_rfl) (fun _ => by kernel_rfl)) ?_
        refine pk_cons rfl rfl (st_pure [.bool false] [] (.bool false) rfl hN_6 (by kernel_rfl) (by kernel_rfl) (by kernel_rfl) old0 (by kernel_rfl) (by kernel_rfl) (by kernel_rfl) (fun _ => by kernel_rfl)) ?_
        refine pk_cons rfl rfl (st_load4P p9_6 p9'_6 (by simp) e9_6 hN_6 (by kernel_rfl) rfl) ?_
        refine pk_cons rfl rfl (st_call0 [.int .i64 (1)] hN_6 (by kernel_rfl) (by kernel_rfl) rfl rfl fun w x hC => tz (z_of (1) 1 (by decide) (by decide) (by decide))) ?_
        refine pk_cons rfl rfl (st_call1 hN_6 (by kernel_rfl) (by kernel_rfl) (by kernel_rfl) rfl rfl fun w x v1 hC h1 => tp (whole1 (rr h1) (by decide))) ?_
        refine pk_cons rfl rfl (st_call2 hN_6 (by kernel_rfl) (by kernel_rfl) (by kernel_rfl) (by kernel_rfl) (by kernel_rfl) rfl rfl rfl fun w x v1 v2 hC h1 h2 => ti (Cmp_39 (pm (by decide) h1) (pm (by decide) h2))) ?_
        refine pk_cons rfl rfl (st_pureV [.int .i64 (ordQ (a + (-((a.floor : Int) : Rat))) (1 : Rat))] [] (.bool (decide (ordQ (a + (-((a.floor : Int) : Rat))) (1 : Rat) ≥ 0))) (.bool false) (congrArg Value.bool (decide_eq_false (ordQ_ge (floor_gap a)))) rfl hN_6 (by kernel_rfl) (by kernel_rfl) (by kernel_rfl) old0 (by kernel_rfl) (by kernel_rfl) (by kernel_rfl) (fun _ => by kernel_rfl)) ?_
        refine pk_cons rfl rfl (st_pure [.bool false, .bool false] [] (.bool false) rfl hN_6 (by kernel_rfl) (by kernel_rfl) (by kernel_rfl) old0 (by kernel_rfl) (by kernel_rfl) (by kernel_rfl) (fun _ => by kernel_rfl)) ?_
        exact pk_nil rfl
      intro W_7 x hC hall
      refine then_n ?_
      obtain ⟨a_7, ha⟩ : ∃ a, a = putE x a_6 [(0, some 87), (1, some 88), (2, some 89), (3, some 90), (4, some 91), (5, some 92), (6, some 93), (7, some 94), (8, some 95), (9, some 96), (10, some 97)] := ⟨_, rfl⟩
      rw [← ha]
      have hN_7 := size_behind ha hN_6
      have hD_7 := defers_behind ha hD_6
      have bb_7 := bb_6.trans hC.below
      have e3_7 := slot_old ha (by kernel_rfl) e3_6
      have e4_7 := slot_old ha (by kernel_rfl) e4_6
      have e5_7 := slot_old ha (by kernel_rfl) e5_6
      have e13_7 := slot_old ha (by kernel_rfl) e13_6
      have e34_7 := slot_old ha (by kernel_rfl) e34_6
      have e7_7 := slot_old ha (by kernel_rfl) e7_6
      have e80_7 := slot_old ha (by kernel_rfl) e80_6
      have e8_7 := slot_old ha (by kernel_rfl) e8_6
      have e9_7 := slot_old ha (by kernel_rfl) e9_6
      have f1_7 := hC.at0 f1_6
      have f1'_7 := hC.at0 f1'_6
      have f2_7 := hC.at0 f2_6
      have f2'_7 := hC.at0 f2'_6
      have f3_7 := hC.at0 f3_6
      have f3'_7 := hC.at0 f3'_6
      have p8_7 := hC.at0 p8_6
      have p8'_7 := hC.at0 p8'_6
      have p9_7 := hC.at0 p9_6
      have p9'_7 := hC.at0 p9'_6
      have e97_7 := (slot_new (t := 97) (i := 10) ha hN_6 (by kernel_rfl) (by kernel_rfl)).trans (show x 10 = .bool false from hall 10 (of_decide_eq_true (by kernel_rfl)))
      clear hall hC ha bb_6 hD_6 e3_6 e4_6 e5_6 e13_6 e34_6 e7_6 e80_6 e8_6 e9_6 f1_6 f1'_6 f2_6 f2'_6 f3_6 f3'_6 p8_6 p8'_6 p9_6 p9'_6
      refine wp_cond_false e97_7 ?_
      repeat (first | refine wp_seq ?_ | (refine wp_skip ?_; refine then_n ?_))
      refine wp_region_law hN_7 w.heap.size
        [kP 9 (a.num) ((a.den : Int)), kIs (.string (textQ a)), kPT 19 (a.num) ((a.den : Int)) (.bool true), kPT 19 (a.num) ((a.den : Int)) (.bool true), kP 19 (a.num) ((a.den : Int)), kIs (.bool true), PK.fresh 4, kPutP 6 19 (a.num) ((a.den : Int)), kIs (.bool true)]
        [ [], [(0, some 99)], [(1, some 100)], [(2, some 101)], [(3, some 98)], [(3, some 98)], [], [(6, some 10), (4, some 102)], [(5, some 103)] ]
        [(0, some 99), (1, some 100), (2, some 101), (3, some 98), (4, some 102), (5, some 103), (6, some 10), (7, none), (8, some 11)] [] [] (by kernel_rfl) (by kernel_rfl) (by kernel_rfl) (by kernel_rfl) (by kernel_rfl) (by kernel_rfl) (by kernel_rfl) bb_7.size ?_ ?_
      ·
        refine pk_cons rfl rfl (st_load4P f1_7 f1'_7 (by simp) e3_7 hN_7 (by kernel_rfl) rfl) ?_
        refine pk_cons rfl rfl (st_call1 hN_7 (by kernel_rfl) (by kernel_rfl) (by kernel_rfl) rfl rfl fun w x v1 hC h1 => ti (Text_9 (Lib.hid ⟨HT.out.1.below (bb_7.trans hC.below) HT.out.2, Nat.le_trans HT.out.2 (bb_7.trans hC.below).size⟩) (pm (by decide) h1))) ?_
        refine pk_cons rfl rfl (st_call1 hN_7 (by kernel_rfl) (by kernel_rfl) (by kernel_rfl) rfl rfl fun w x v1 hC h1 => tpt (parse_q h1 HQ.out.1 HQ.out.2 (Lib.hid ⟨HT.out.1.below (bb_7.trans hC.below) HT.out.2, Nat.le_trans HT.out.2 (bb_7.trans hC.below).size⟩) (HM.out.below (bb_7.trans hC.below)))) ?_
        refine pk_cons rfl rfl (st_move hN_7 (by kernel_rfl) (by kernel_rfl) rfl rfl) ?_
        refine pk_cons rfl rfl (st_ext hN_7 (by kernel_rfl) (by kernel_rfl) rfl rfl ext_p) ?_
        refine pk_cons rfl rfl (st_ext hN_7 (by kernel_rfl) (by kernel_rfl) rfl rfl ext_v) ?_
        refine pk_cons rfl rfl (st_allocP hN_7 (by kernel_rfl) (Nat.le_refl _) rfl) ?_
        refine pk_cons rfl rfl (st_putP hN_7 (by kernel_rfl) (by kernel_rfl) (by kernel_rfl) rfl rfl rfl) ?_
        refine pk_cons rfl rfl (st_pure [.bool true] [] (.bool true) rfl hN_7 (by kernel_rfl) (by kernel_rfl) (by kernel_rfl) old0 (by kernel_rfl) (by kernel_rfl) (by kernel_rfl) (fun _ => by kernel_rfl)) ?_
        exact pk_nil rfl
      intro W_8 x hC hall
      refine then_n ?_
      obtain ⟨a_8, ha⟩ : ∃ a, a = putE x a_7 [(0, some 99), (1, some 100), (2, some 101), (3, some 98), (4, some 102), (5, some 103), (6, some 10), (7, none), (8, some 11)] := ⟨_, rfl⟩
      rw [← ha]
      have hN_8 := size_behind ha hN_7
      have hD_8 := defers_behind ha hD_7
      have bb_8 := bb_7.trans hC.below
      have e3_8 := slot_old ha (by kernel_rfl) e3_7
      have e4_8 := slot_old ha (by kernel_rfl) e4_7
      have e5_8 := slot_old ha (by kernel_rfl) e5_7
      have e13_8 := slot_old ha (by kernel_rfl) e13_7
      have e34_8 := slot_old ha (by kernel_rfl) e34_7
      have e7_8 := slot_old ha (by kernel_rfl) e7_7
      have e80_8 := slot_old ha (by kernel_rfl) e80_7
      have e8_8 := slot_old ha (by kernel_rfl) e8_7
      have e9_8 := slot_old ha (by kernel_rfl) e9_7
      have e97_8 := slot_old ha (by kernel_rfl) e97_7
      have f1_8 := hC.at0 f1_7
      have f1'_8 := hC.at0 f1'_7
      have f2_8 := hC.at0 f2_7
      have f2'_8 := hC.at0 f2'_7
      have f3_8 := hC.at0 f3_7
      have f3'_8 := hC.at0 f3'_7
      have p8_8 := hC.at0 p8_7
      have p8'_8 := hC.at0 p8'_7
      have p9_8 := hC.at0 p9_7
      have p9'_8 := hC.at0 p9'_7
      obtain ⟨g10, hx, hge, p10_8, p10'_8⟩ := put_atP (show (kPutP 6 19 (a.num) ((a.den : Int))).sem _ _ _ _ from hall 7 (of_decide_eq_true (by kernel_rfl)))
      have e10_8 := (slot_new (t := 10) (i := 6) ha hN_7 (by kernel_rfl) (by kernel_rfl)).trans hx
      clear hx hge
      have e11_8 := (slot_new (t := 11) (i := 8) ha hN_7 (by kernel_rfl) (by kernel_rfl)).trans (show x 8 = .bool true from hall 8 (of_decide_eq_true (by kernel_rfl)))
      clear hall hC ha bb_7 hD_7 e3_7 e4_7 e5_7 e13_7 e34_7 e7_7 e80_7 e8_7 e9_7 e97_7 f1_7 f1'_7 f2_7 f2'_7 f3_7 f3'_7 p8_7 p8'_7 p9_7 p9'_7
      repeat (first | refine wp_seq ?_ | (refine wp_skip ?_; refine then_n ?_))
      refine wp_region_law hN_8 w.heap.size
        [kIs (.bool true), kIs (.bool true), kP 19 (a.num) ((a.den : Int)), kP 9 (a.num) ((a.den : Int)), kIs (.bool true), kIs (.bool true), kIs (.bool true), kP 9 (a.num) ((a.den : Int)), kIs (.string (textQ a)), kP 9 (b.num) ((b.den : Int)), kIs (.string (textQ b)), kIs (.bool false), kIs (.int .i64 (-1)), kIs (.bool false), kIs (.bool true), kIs (.bool true), kIs (.bool true)]
        [ [], [(0, some 104)], [], [], [(2, some 106), (3, some 107)], [(1, some 105), (4, some 108)], [(5, some 109)], [], [(7, some 111)], [], [(9, some 113)], [(8, some 112), (10, some 114)], [], [(12, some 116)], [(11, some 115), (13, some 117)], [(6, some 110), (14, some 118)], [(15, some 119)] ]
        [(0, some 104), (1, some 105), (2, some 106), (3, some 107), (4, some 108), (5, some 109), (6, some 110), (7, some 111), (8, some 112), (9, some 113), (10, some 114), (11, some 115), (12, some 116), (13, some 117), (14, some 118), (15, some 119), (16, some 6)] [(1, true), (6, true)] [] (by kernel_rfl) (by kernel_rfl) (by kernel_rfl) (by kernel_rfl) (by kernel_rfl) (by kernel_rfl) (by kernel_rfl) bb_8.size ?_ ?_
      ·
        refine pk_cons rfl rfl (st_pure [] [(11, .bool true)] (.bool true) rfl hN_8 (by kernel_rfl) (by kernel_rfl) (by kernel_rfl) (old1 e11_8) (by kernel_rfl) (by kernel_rfl) (by kernel_rfl) (fun _ => by kernel_rfl)) ?_
        refine pk_cons rfl rfl (st_pure [.bool true] [] (.bool true) rfl hN_8 (by kernel_rfl) (by kernel_rfl) (by kernel_rfl) old0 (by kernel_rfl) (by kernel_rfl) (by kernel_rfl) (fun _ => by kernel_rfl)) ?_
        refine pk_cons rfl rfl (st_load4P p10_8 p10'_8 (by simp) e10_8 hN_8 (by kernel_rfl) rfl) ?_
        refine pk_cons rfl rfl (st_load4P f1_8 f1'_8 (by simp) e3_8 hN_8 (by kernel_rfl) rfl) ?_
        refine pk_cons rfl rfl (st_call2 hN_8 (by kernel_rfl) (by kernel_rfl) (by kernel_rfl) (by kernel_rfl) (by kernel_rfl) rfl rfl rfl fun w x v1 v2 hC h1 h2 => ti (lawSame_19 (pm (by decide) h1) (pm (by decide) h2))) ?_
        refine pk_cons rfl rfl (st_pure [.bool true, .bool true] [] (.bool true) rfl hN_8 (by kernel_rfl) (by kernel_rfl) (by kernel_rfl) old0 (by kernel_rfl) (by kernel_rfl) (by kernel_rfl) (fun _ => by kernel_rfl)) ?_
        refine pk_cons rfl rfl (st_pure [.bool true] [] (.bool true) rfl hN_8 (by kernel_rfl) (by kernel_rfl) (by kernel_rfl) old0 (by kernel_rfl) (by kernel_rfl) (by kernel_rfl) (fun _ => by kernel_rfl)) ?_
        refine pk_cons rfl rfl (st_load4P f1_8 f1'_8 (by simp) e3_8 hN_8 (by kernel_rfl) rfl) ?_
        refine pk_cons rfl rfl (st_call1 hN_8 (by kernel_rfl) (by kernel_rfl) (by kernel_rfl) rfl rfl fun w x v1 hC h1 => ti (Text_9 (Lib.hid ⟨HT.out.1.below (bb_8.trans hC.below) HT.out.2, Nat.le_trans HT.out.2 (bb_8.trans hC.below).size⟩) (pm (by decide) h1))) ?_
        refine pk_cons rfl rfl (st_load4P f2_8 f2'_8 (by simp) e4_8 hN_8 (by kernel_rfl) rfl) ?_
        refine pk_cons rfl rfl (st_call1 hN_8 (by kernel_rfl) (by kernel_rfl) (by kernel_rfl) rfl rfl fun w x v1 hC h1 => ti (Text_9 (Lib.hid ⟨HT.out.1.below (bb_8.trans hC.below) HT.out.2, Nat.le_trans HT.out.2 (bb_8.trans hC.below).size⟩) (pm (by decide) h1))) ?_
        refine pk_cons rfl rfl (st_pureV [.string (textQ a), .string (textQ b)] [] (.bool ((textQ a).toList == (textQ b).toList)) (.bool false) (congrArg Value.bool (textQ_neq (Rat.ne_of_lt hs))) rfl hN_8 (by kernel_rfl) (by kernel_rfl) (by kernel_rfl) old0 (by kernel_rfl) (by kernel_rfl) (by kernel_rfl) (fun _ => by kernel_rfl)) ?_
        refine pk_cons rfl rfl (st_pure [] [(7, .int .i64 (-1))] (.int .i64 (-1)) rfl hN_8 (by kernel_rfl) (by kernel_rfl) (by kernel_rfl) (old1 e7_8) (by kernel_rfl) (by kernel_rfl) (by kernel_rfl) (fun _ => by kernel_rfl)) ?_
        refine pk_cons rfl rfl (st_pure [.int .i64 (-1)] [] (.bool false) rfl hN_8 (by kernel_rfl) (by kernel_rfl) (by kernel_rfl) old0 (by kernel_rfl) (by kernel_rfl) (by kernel_rfl) (fun _ => by kernel_rfl)) ?_
        refine pk_cons rfl rfl (st_pure [.bool false, .bool false] [] (.bool true) rfl hN_8 (by kernel_rfl) (by kernel_rfl) (by kernel_rfl) old0 (by kernel_rfl) (by kernel_rfl) (by kernel_rfl) (fun _ => by kernel_rfl)) ?_
        refine pk_cons rfl rfl (st_pure [.bool true, .bool true] [] (.bool true) rfl hN_8 (by kernel_rfl) (by kernel_rfl) (by kernel_rfl) old0 (by kernel_rfl) (by kernel_rfl) (by kernel_rfl) (fun _ => by kernel_rfl)) ?_
        refine pk_cons rfl rfl (st_pure [.bool true] [] (.bool true) rfl hN_8 (by kernel_rfl) (by kernel_rfl) (by kernel_rfl) old0 (by kernel_rfl) (by kernel_rfl) (by kernel_rfl) (fun _ => by kernel_rfl)) ?_
        exact pk_nil rfl
      intro W_9 x hC hall
      refine then_n ?_
      obtain ⟨a_9, ha⟩ : ∃ a, a = putE x a_8 [(0, some 104), (1, some 105), (2, some 106), (3, some 107), (4, some 108), (5, some 109), (6, some 110), (7, some 111), (8, some 112), (9, some 113), (10, some 114), (11, some 115), (12, some 116), (13, some 117), (14, some 118), (15, some 119), (16, some 6)] := ⟨_, rfl⟩
      rw [← ha]
      have hN_9 := size_behind ha hN_8
      have hD_9 := defers_behind ha hD_8
      have bb_9 := bb_8.trans hC.below
      have e3_9 := slot_old ha (by kernel_rfl) e3_8
      have e4_9 := slot_old ha (by kernel_rfl) e4_8
      have e5_9 := slot_old ha (by kernel_rfl) e5_8
      have e13_9 := slot_old ha (by kernel_rfl) e13_8
      have e34_9 := slot_old ha (by kernel_rfl) e34_8
      have e7_9 := slot_old ha (by kernel_rfl) e7_8
      have e80_9 := slot_old ha (by kernel_rfl) e80_8
      have e8_9 := slot_old ha (by kernel_rfl) e8_8
      have e9_9 := slot_old ha (by kernel_rfl) e9_8
      have e97_9 := slot_old ha (by kernel_rfl) e97_8
      have e10_9 := slot_old ha (by kernel_rfl) e10_8
      have e11_9 := slot_old ha (by kernel_rfl) e11_8
      have f1_9 := hC.at0 f1_8
      have f1'_9 := hC.at0 f1'_8
      have f2_9 := hC.at0 f2_8
      have f2'_9 := hC.at0 f2'_8
      have f3_9 := hC.at0 f3_8
      have f3'_9 := hC.at0 f3'_8
      have p8_9 := hC.at0 p8_8
      have p8'_9 := hC.at0 p8'_8
      have p9_9 := hC.at0 p9_8
      have p9'_9 := hC.at0 p9'_8
      have p10_9 := hC.at0 p10_8
      have p10'_9 := hC.at0 p10'_8
      have e6_9 := (slot_new (t := 6) (i := 16) ha hN_8 (by kernel_rfl) (by kernel_rfl)).trans (show x 16 = .bool true from hall 16 (of_decide_eq_true (by kernel_rfl)))
      clear hall hC ha bb_8 hD_8 e3_8 e4_8 e5_8 e13_8 e34_8 e7_8 e80_8 e8_8 e9_8 e97_8 e10_8 e11_8 f1_8 f1'_8 f2_8 f2'_8 f3_8 f3'_8 p8_8 p8'_8 p9_8 p9'_8 p10_8 p10'_8
      repeat (first | refine wp_seq ?_ | (refine wp_skip ?_; refine then_n ?_))
      refine wp_ret ?_
      repeat (refine then_r ?_)
      exact ret_one (t := 6) rfl hD_9 e6_9 ⟨rfl, bb_9⟩
    ·
      replace hbc := Rat.not_le.1 hbc
      refine wp_region_law hN_3 w.heap.size
        [kP 9 (b.num) ((b.den : Int)), kP 9 (a.num) ((a.den : Int)), kIs (.int .i64 (1)), kIs (.int .i64 (-1)), kIs (.int .i64 (1)), kIs (.bool false), kIs (.bool false), kIs (.int .i64 (-1)), kIs (.bool false), kP 9 (a.num) ((a.den : Int)), kP 9 (b.num) ((b.den : Int)), kIs (.bool false), kIs (.bool false), kIs (.bool false), kIs (.bool false), kIs (.int .i64 (-1)), kIs (.bool true), kIs (.bool true), kP 9 (b.num) ((b.den : Int)), kP 9 (c.num) ((c.den : Int)), kIs (.int .i64 (ordQ b c)), kIs (.bool false), kIs (.bool false), kIs (.bool false), kIs undef, kIs undef, kIs undef, kIs undef, kIs (.bool false), kIs (.bool false), kIs (.bool false), kP 9 (a.num) ((a.den : Int)), kP 9 (c.num) ((c.den : Int)), kPRs [(9, a.num, (a.den : Int)), (9, c.num, (c.den : Int))], kP 19 ((a + c).num) (((a + c).den : Int)), kP 9 (b.num) ((b.den : Int)), kP 9 (c.num) ((c.den : Int)), kPRs [(9, b.num, (b.den : Int)), (9, c.num, (c.den : Int))], kP 19 ((b + c).num) (((b + c).den : Int)), kIs (.int .i64 (-1)), kIs (.int .i64 (-1)), kIs (.bool false), kIs (.bool false)]
        [ [], [], [(0, some 38), (1, some 39)], [], [(3, some 41)], [(2, some 40), (4, some 42)], [(5, some 43)], [], [(7, some 45)], [], [], [(9, some 47), (10, some 48)], [(8, some 46), (11, some 49)], [(6, some 44), (12, some 50)], [(13, some 51)], [], [(15, some 53)], [(16, some 54)], [], [], [(18, some 56), (19, some 57)], [(20, some 58)], [(17, some 55), (21, some 59)], [(22, some 60)], [], [], [(24, some 62), (25, some 63)], [(26, some 64)], [(23, some 61), (27, some 65)], [(14, some 52), (28, some 66)], [(29, some 67)], [], [], [(31, some 69), (32, some 70)], [(33, some 71)], [], [], [(35, some 73), (36, some 74)], [(37, some 75)], [(34, some 72), (38, some 76)], [], [(39, some 77), (40, some 78)], [(30, some 68), (41, some 79)] ]
        [(0, some 38), (1, some 39), (2, some 40), (3, some 41), (4, some 42), (5, some 43), (6, some 44), (7, some 45), (8, some 46), (9, some 47), (10, some 48), (11, some 49), (12, some 50), (13, some 51), (14, some 52), (15, some 53), (16, some 54), (17, some 55), (18, some 56), (19, some 57), (20, some 58), (21, some 59), (22, some 60), (23, some 61), (24, some 62), (25, some 63), (26, some 64), (27, some 65), (28, some 66), (29, some 67), (30, some 68), (31, some 69), (32, some 70), (33, some 71), (34, some 72), (35, some 73), (36, some 74), (37, some 75), (38, some 76), (39, some 77), (40, some 78), (41, some 79), (42, some 80)] [(6, false), (14, false), (17, true), (23, false), (30, false)] [24, 25, 26, 27] (by kernel_rfl) (by kernel_rfl) (by kernel_rfl) (by kernel_rfl) (by kernel_rfl) (by kernel_rfl) (by kernel_rfl) bb_3.size ?_ ?_
      ·
        refine pk_cons rfl rfl (st_load4P f2_3 f2'_3 (by simp) e4_3 hN_3 (by kernel_rfl) rfl) ?_
        refine pk_cons rfl rfl (st_load4P f1_3 f1'_3 (by simp) e3_3 hN_3 (by kernel_rfl) rfl) ?_
        refine pk_cons rfl rfl (st_call2 hN_3 (by kernel_rfl) (by kernel_rfl) (by kernel_rfl) (by kernel_rfl) (by kernel_rfl) rfl rfl rfl fun w x v1 v2 hC h1 h2 => ti (cmpq_is (ordQ_gt hs) (Cmp_9 (pm (by decide) h1) (pm (by decide) h2)))) ?_
        refine pk_cons rfl rfl (st_pure [] [(7, .int .i64 (-1))] (.int .i64 (-1)) rfl hN_3 (by kernel_rfl) (by kernel_rfl) (by kernel_rfl) (old1 e7_3) (by kernel_rfl) (by kernel_rfl) (by kernel_rfl) (fun _ => by kernel_rfl)) ?_
        refine pk_cons rfl rfl (st_pure [.int .i64 (-1)] [] (.int .i64 (1)) rfl hN_3 (by kernel_rfl) (by kernel_rfl) (by kernel_rfl) old0 (by kernel_rfl) (by kernel_rfl) (by kernel_rfl) (fun _ => by kernel_rfl)) ?_
        refine pk_cons rfl rfl (st_pure [.int .i64 (1), .int .i64 (1)] [] (.bool false) rfl hN_3 (by kernel_rfl) (by kernel_rfl) (by kernel_rfl) old0 (by kernel_rfl) (by kernel_rfl) (by kernel_rfl) (fun _ => by kernel_rfl)) ?_
        refine pk_cons rfl rfl (st_pure [.bool false] [] (.bool false) rfl hN_3 (by kernel_rfl) (by kernel_rfl) (by kernel_rfl) old0 (by kernel_rfl) (by kernel_rfl) (by kernel_rfl) (fun _ => by kernel_rfl)) ?_
        refine pk_cons rfl rfl (st_pure [] [(7, .int .i64 (-1))] (.int .i64 (-1)) rfl hN_3 (by kernel_rfl) (by kernel_rfl) (by kernel_rfl) (old1 e7_3) (by kernel_rfl) (by kernel_rfl) (by kernel_rfl) (fun _ => by kernel_rfl)) ?_
        refine pk_cons rfl rfl (st_pure [.int .i64 (-1)] [] (.bool false) rfl hN_3 (by kernel_rfl) (by kernel_rfl) (by kernel_rfl) old0 (by kernel_rfl) (by kernel_rfl) (by kernel_rfl) (fun _ => by kernel_rfl)) ?_
        refine pk_cons rfl rfl (st_load4P f1_3 f1'_3 (by simp) e3_3 hN_3 (by kernel_rfl) rfl) ?_
        refine pk_cons rfl rfl (st_load4P f2_3 f2'_3 (by simp) e4_3 hN_3 (by kernel_rfl) rfl) ?_
        refine pk_cons rfl rfl (st_call2 hN_3 (by kernel_rfl) (by kernel_rfl) (by kernel_rfl) (by kernel_rfl) (by kernel_rfl) rfl rfl rfl fun w x v1 v2 hC h1 h2 => ti (lawSame_not (Rat.ne_of_lt hs) (pm (by decide) h1) (pm (by decide) h2))) ?_
        refine pk_cons rfl rfl (st_pure [.bool false, .bool false] [] (.bool false) rfl hN_3 (by kernel_rfl) (by kernel_rfl) (by kernel_rfl) old0 (by kernel_rfl) (by kernel_rfl) (by kernel_rfl) (fun _ => by kernel_rfl)) ?_
        refine pk_cons rfl rfl (st_pure [.bool false, .bool false] [] (.bool false) rfl hN_3 (by kernel_rfl) (by kernel_rfl) (by kernel_rfl) old0 (by kernel_rfl) (by kernel_rfl) (by kernel_rfl) (fun _ => by kernel_rfl)) ?_
        refine pk_cons rfl rfl (st_pure [.bool false] [] (.bool false) rfl hN_3 (by kernel_rfl) (by kernel_rfl) (by kernel_rfl) old0 (by kernel_rfl) (by kernel_rfl) (by kernel_rfl) (fun _ => by kernel_rfl)) ?_
        refine pk_cons rfl rfl (st_pure [] [(7, .int .i64 (-1))] (.int .i64 (-1)) rfl hN_3 (by kernel_rfl) (by kernel_rfl) (by kernel_rfl) (old1 e7_3) (by kernel_rfl) (by kernel_rfl) (by kernel_rfl) (fun _ => by kernel_rfl)) ?_
        refine pk_cons rfl rfl (st_pure [.int .i64 (-1)] [] (.bool true) rfl hN_3 (by kernel_rfl) (by kernel_rfl) (by kernel_rfl) old0 (by kernel_rfl) (by kernel_rfl) (by kernel_rfl) (fun _ => by kernel_rfl)) ?_
        refine pk_cons rfl rfl (st_pure [.bool true] [] (.bool true) rfl hN_3 (by kernel_rfl) (by kernel_rfl) (by kernel_rfl) old0 (by kernel_rfl) (by kernel_rfl) (by kernel_rfl) (fun _ => by kernel_rfl)) ?_
        refine pk_cons rfl rfl (st_load4P f2_3 f2'_3 (by simp) e4_3 hN_3 (by kernel_rfl) rfl) ?_
        refine pk_cons rfl rfl (st_load4P f3_3 f3'_3 (by simp) e5_3 hN_3 (by kernel_rfl) rfl) ?_
        refine pk_cons rfl rfl (st_call2 hN_3 (by kernel_rfl) (by kernel_rfl) (by kernel_rfl) (by kernel_rfl) (by kernel_rfl) rfl rfl rfl fun w x v1 v2 hC h1 h2 => ti (Cmp_9 (pm (by decide) h1) (pm (by decide) h2))) ?_
        refine pk_cons rfl rfl (st_pureV [.int .i64 (ordQ b c)] [] (.bool (decide (ordQ b c ≤ 0))) (.bool false) (congrArg Value.bool (decide_eq_false (ordQ_nle hbc))) rfl hN_3 (by kernel_rfl) (by kernel_rfl) (by kernel_rfl) old0 (by kernel_rfl) (by kernel_rfl) (by kernel_rfl) (fun _ => by kernel_rfl)) ?_
        refine pk_cons rfl rfl (st_pure [.bool true, .bool false] [] (.bool false) rfl hN_3 (by kernel_rfl) (by kernel_rfl) (by kernel_rfl) old0 (by kernel_rfl) (by kernel_rfl) (by kernel_rfl) (fun _ => by kernel_rfl)) ?_
        refine pk_cons rfl rfl (st_pure [.bool false] [] (.bool false) rfl hN_3 (by kernel_rfl) (by kernel_rfl) (by kernel_rfl) old0 (by kernel_rfl) (by kernel_rfl) (by kernel_rfl) (fun _ => by kernel_rfl)) ?_
        refine pk_skip rfl ?_
        refine pk_skip rfl ?_
        refine pk_skip rfl ?_
        refine pk_skip rfl ?_
        refine pk_cons rfl rfl (st_pure [.bool false, undef] [] (.bool false) rfl hN_3 (by kernel_rfl) (by kernel_rfl) (by kernel_rfl) old0 (by kernel_rfl) (by kernel_rfl) (by kernel_rfl) (fun _ => by kernel_rfl)) ?_
        refine pk_cons rfl rfl (st_pure [.bool false, .bool false] [] (.bool false) rfl hN_3 (by kernel_rfl) (by kernel_rfl) (by kernel_rfl) old0 (by kernel_rfl) (by kernel_rfl) (by kernel_rfl) (fun _ => by kernel_rfl)) ?_
        refine pk_cons rfl rfl (st_pure [.bool false] [] (.bool false) rfl hN_3 (by kernel_rfl) (by kernel_rfl) (by kernel_rfl) old0 (by kernel_rfl) (by kernel_rfl) (by kernel_rfl) (fun _ => by kernel_rfl)) ?_
        refine pk_cons rfl rfl (st_load4P f1_3 f1'_3 (by simp) e3_3 hN_3 (by kernel_rfl) rfl) ?_
        refine pk_cons rfl rfl (st_load4P f3_3 f3'_3 (by simp) e5_3 hN_3 (by kernel_rfl) rfl) ?_
        refine pk_cons rfl rfl (st_plist2 hN_3 (by kernel_rfl) (by kernel_rfl) (by kernel_rfl) (by kernel_rfl) (Nat.le_refl _) rfl rfl rfl) ?_
        refine pk_cons rfl rfl (st_call1 hN_3 (by kernel_rfl) (by kernel_rfl) (by kernel_rfl) rfl rfl fun w x v1 hC h1 => tp (Add2_9 (plm2 9 h1 (by decide) (by decide)))) ?_
        refine pk_cons rfl rfl (st_load4P f2_3 f2'_3 (by simp) e4_3 hN_3 (by kernel_rfl) rfl) ?_
        refine pk_cons rfl rfl (st_load4P f3_3 f3'_3 (by simp) e5_3 hN_3 (by kernel_rfl) rfl) ?_
        refine pk_cons rfl rfl (st_plist2 hN_3 (by kernel_rfl) (by kernel_rfl) (by kernel_rfl) (by kernel_rfl) (Nat.le_refl _) rfl rfl rfl) ?_
        refine pk_cons rfl rfl (st_call1 hN_3 (by kernel_rfl) (by kernel_rfl) (by kernel_rfl) rfl rfl fun w x v1 hC h1 => tp (Add2_9 (plm2 9 h1 (by decide) (by decide)))) ?_
        refine pk_cons rfl rfl (st_call2 hN_3 (by kernel_rfl) (by kernel_rfl) (by kernel_rfl) (by kernel_rfl) (by kernel_rfl) rfl rfl rfl fun w x v1 v2 hC h1 h2 => ti (cmpq_is (ordQ_lt (Rat.add_lt_add_right.2 hs)) (Cmp_19 (pm (by decide) h1) (pm (by decide) h2)))) ?_
        refine pk_cons rfl rfl (st_pure [] [(7, .int .i64 (-1))] (.int .i64 (-1)) rfl hN_3 (by kernel_rfl) (by kernel_rfl) (by kernel_rfl) (old1 e7_3) (by kernel_rfl) (by kernel_rfl) (by kernel_rfl) (fun _ => by kernel_rfl)) ?_
        refine pk_cons rfl rfl (st_pure [.int .i64 (-1), .int .i64 (-1)] [] (.bool false) rfl hN_3 (by kernel_rfl) (by kernel_rfl) (by kernel_rfl) old0 (by kernel_rfl) (by kernel_rfl) (by kernel_rfl) (fun _ => by kernel_rfl)) ?_
        refine pk_cons rfl rfl (st_pure [.bool false, .bool false] [] (.bool false) rfl hN_3 (by kernel_rfl) (by kernel_rfl) (by kernel_rfl) old0 (by kernel_rfl) (by kernel_rfl) (by kernel_rfl) (fun _ => by kernel_rfl)) ?_
        exact pk_nil rfl
      intro W_4 x hC hall
      refine then_n ?_
      obtain ⟨a_4, ha⟩ : ∃ a, a = putE x a_3 [(0, some 38), (1, some 39), (2, some 40), (3, some 41), (4, some 42), (5, some 43), (6, some 44), (7, some 45), (8, some 46), (9, some 47), (10, some 48), (11, some 49), (12, some 50), (13, some 51), (14, some 52), (15, some 53), (16, some 54), (17, some 55), (18, some 56), (19, some 57), (20, some 58), (21, some 59), (22, some 60), (23, some 61), (24, some 62), (25, some 63), (26, some 64), (27, some 65), (28, some 66), (29, some 67), (30, some 68), (31, some 69), (32, some 70), (33, some 71), (34, some 72), (35, some 73), (36, some 74), (37, some 75), (38, some 76), (39, some 77), (40, some 78), (41, some 79), (42, some 80)] := ⟨_, rfl⟩
      rw [← ha]
      have hN_4 := size_behind ha hN_3
      have hD_4 := defers_behind ha hD_3
      have bb_4 := bb_3.trans hC.below
      have e3_4 := slot_old ha (by kernel_rfl) e3_3
      have e4_4 := slot_old ha (by kernel_rfl) e4_3
      have e5_4 := slot_old ha (by kernel_rfl) e5_3
      have e13_4 := slot_old ha (by kernel_rfl) e13_3
      have e34_4 := slot_old ha (by kernel_rfl) e34_3
      have e7_4 := slot_old ha (by kernel_rfl) e7_3
      have f1_4 := hC.at0 f1_3
      have f1'_4 := hC.at0 f1'_3
      have f2_4 := hC.at0 f2_3
      have f2'_4 := hC.at0 f2'_3
      have f3_4 := hC.at0 f3_3
      have f3'_4 := hC.at0 f3'_3
      have e80_4 := (slot_new (t := 80) (i := 42) ha hN_3 (by kernel_rfl) (by kernel_rfl)).trans (show x 42 = .bool false from hall 42 (of_decide_eq_true (by kernel_rfl)))
      clear hall hC ha bb_3 hD_3 e3_3 e4_3 e5_3 e13_3 e34_3 e7_3 f1_3 f1'_3 f2_3 f2'_3 f3_3 f3'_3
      refine wp_cond_false e80_4 ?_
      repeat (first | refine wp_seq ?_ | (refine wp_skip ?_; refine then_n ?_))
      refine wp_region_law hN_4 w.heap.size
        [kP 9 (a.num) ((a.den : Int)), kZ 10 (zq (a.num) ((a.den : Int))), kP 19 (((a.floor : Int) : Rat).num) ((((a.floor : Int) : Rat).den : Int)), PK.fresh 4, kPutP 3 19 (((a.floor : Int) : Rat).num) ((((a.floor : Int) : Rat).den : Int))]
        [ [], [(0, some 81)], [(1, some 82)], [], [(3, some 8), (2, some 83)] ]
        [(0, some 81), (1, some 82), (2, some 83), (3, some 8), (4, none)] [] [] (by kernel_rfl) (by kernel_rfl) (by kernel_rfl) (by kernel_rfl) (by kernel_rfl) (by kernel_rfl) (by kernel_rfl) bb_4.size ?_ ?_
      ·
        refine pk_cons rfl rfl (st_load4P f1_4 f1'_4 (by simp) e3_4 hN_4 (by kernel_rfl) rfl) ?_
        refine pk_cons rfl rfl (st_call1 hN_4 (by kernel_rfl) (by kernel_rfl) (by kernel_rfl) rfl rfl fun w x v1 hC h1 => tz (Floor_9 (pm (by decide) h1))) ?_
        refine pk_cons rfl rfl (st_call1 hN_4 (by kernel_rfl) (by kernel_rfl) (by kernel_rfl) rfl rfl fun w x v1 hC h1 => tp (wholeF (rr h1) (by decide))) ?_
        refine pk_cons rfl rfl (st_allocP hN_4 (by kernel_rfl) (Nat.le_refl _) rfl) ?_
        refine pk_cons rfl rfl (st_putP hN_4 (by kernel_rfl) (by kernel_rfl) (by kernel_rfl) rfl rfl rfl) ?_
        exact pk_nil rfl
      intro W_5 x hC hall
      refine then_n ?_
      obtain ⟨a_5, ha⟩ : ∃ a, a = putE x a_4 [(0, some 81), (1, some 82), (2, some 83), (3, some 8), (4, none)] := ⟨_, rfl⟩
      rw [← ha]
      have hN_5 := size_behind ha hN_4
      have hD_5 := defers_behind ha hD_4
      have bb_5 := bb_4.trans hC.below
      have e3_5 := slot_old ha (by kernel_rfl) e3_4
      have e4_5 := slot_old ha (by kernel_rfl) e4_4
      have e5_5 := slot_old ha (by kernel_rfl) e5_4
      have e13_5 := slot_old ha (by kernel_rfl) e13_4
      have e34_5 := slot_old ha (by kernel_rfl) e34_4
      have e7_5 := slot_old ha (by kernel_rfl) e7_4
      have e80_5 := slot_old ha (by kernel_rfl) e80_4
      have f1_5 := hC.at0 f1_4
      have f1'_5 := hC.at0 f1'_4
      have f2_5 := hC.at0 f2_4
      have f2'_5 := hC.at0 f2'_4
      have f3_5 := hC.at0 f3_4
      have f3'_5 := hC.at0 f3'_4
      obtain ⟨g8, hx, hge, p8_5, p8'_5⟩ := put_atP (show (kPutP 3 19 (((a.floor : Int) : Rat).num) ((((a.floor : Int) : Rat).den : Int))).sem _ _ _ _ from hall 4 (of_decide_eq_true (by kernel_rfl)))
      have e8_5 := (slot_new (t := 8) (i := 3) ha hN_4 (by kernel_rfl) (by kernel_rfl)).trans hx
      clear hx hge
      clear hall hC ha bb_4 hD_4 e3_4 e4_4 e5_4 e13_4 e34_4 e7_4 e80_4 f1_4 f1'_4 f2_4 f2'_4 f3_4 f3'_4
      repeat (first | refine wp_seq ?_ | (refine wp_skip ?_; refine then_n ?_))
      refine wp_region_law hN_5 w.heap.size
        [kP 9 (a.num) ((a.den : Int)), kP 19 (((a.floor : Int) : Rat).num) ((((a.floor : Int) : Rat).den : Int)), kP 39 ((a + (-((a.floor : Int) : Rat))).num) (((a + (-((a.floor : Int) : Rat))).den : Int)), PK.fresh 4, kPutP 3 39 ((a + (-((a.floor : Int) : Rat))).num) (((a + (-((a.floor : Int) : Rat))).den : Int))]
        [ [], [], [(0, some 84), (1, some 85)], [], [(3, some 9), (2, some 86)] ]
        [(0, some 84), (1, some 85), (2, some 86), (3, some 9), (4, none)] [] [] (by kernel_rfl) (by kernel_rfl) (by kernel_rfl) (by kernel_rfl) (by kernel_rfl) (by kernel_rfl) (by kernel_rfl) bb_5.size ?_ ?_
      ·
        refine pk_cons rfl rfl (st_load4P f1_5 f1'_5 (by simp) e3_5 hN_5 (by kernel_rfl) rfl) ?_
        refine pk_cons rfl rfl (st_load4P p8_5 p8'_5 (by simp) e8_5 hN_5 (by kernel_rfl) rfl) ?_
        refine pk_cons rfl rfl (st_call2 hN_5 (by kernel_rfl) (by kernel_rfl) (by kernel_rfl) (by kernel_rfl) (by kernel_rfl) rfl rfl rfl fun w x v1 v2 hC h1 h2 => tp (Sub_19 (pm (by decide) h1) (pm (by decide) h2))) ?_
        refine pk_cons rfl rfl (st_allocP hN_5 (by kernel_rfl) (Nat.le_refl _) rfl) ?_
        refine pk_cons rfl rfl (st_putP hN_5 (by kernel_rfl) (by kernel_rfl) (by kernel_rfl) rfl rfl rfl) ?_
        exact pk_nil rfl
      intro W_6 x hC hall
      refine then_n ?_
      obtain ⟨a_6, ha⟩ : ∃ a, a = putE x a_5 [(0, some 84), (1, some 85), (2, some 86), (3, some 9), (4, none)] := ⟨_, rfl⟩
      rw [← ha]
      have hN_6 := size_behind ha hN_5
      have hD_6 := defers_behind ha hD_5
      have bb_6 := bb_5.trans hC.below
      have e3_6 := slot_old ha (by kernel_rfl) e3_5
      have e4_6 := slot_old ha (by kernel_rfl) e4_5
      have e5_6 := slot_old ha (by kernel_rfl) e5_5
      have e13_6 := slot_old ha (by kernel_rfl) e13_5
      have e34_6 := slot_old ha (by kernel_rfl) e34_5
      have e7_6 := slot_old ha (by kernel_rfl) e7_5
      have e80_6 := slot_old ha (by kernel_rfl) e80_5
      have e8_6 := slot_old ha (by kernel_rfl) e8_5
      have f1_6 := hC.at0 f1_5
      have f1'_6 := hC.at0 f1'_5
      have f2_6 := hC.at0 f2_5
      have f2'_6 := hC.at0 f2'_5
      have f3_6 := hC.at0 f3_5
      have f3'_6 := hC.at0 f3'_5
      have p8_6 := hC.at0 p8_5
      have p8'_6 := hC.at0 p8'_5
      obtain ⟨g9, hx, hge, p9_6, p9'_6⟩ := put_atP (show (kPutP 3 39 ((a + (-((a.floor : Int) : Rat))).num) (((a + (-((a.floor : Int) : Rat))).den : Int))).sem _ _ _ _ from hall 4 (of_decide_eq_true (by kernel_rfl)))
      have e9_6 := (slot_new (t := 9) (i := 3) ha hN_5 (by kernel_rfl) (by kernel_rfl)).trans hx
      clear hx hge
      clear hall hC ha bb_5 hD_5 e3_5 e4_5 e5_5 e13_5 e34_5 e7_5 e80_5 e8_5 f1_5 f1'_5 f2_5 f2'_5 f3_5 f3'_5 p8_5 p8'_5
      repeat (first | refine wp_seq ?_ | (refine wp_skip ?_; refine then_n ?_))
      refine wp_region_law hN_6 w.heap.size
        [kP 19 (((a.floor : Int) : Rat).num) ((((a.floor : Int) : Rat).den : Int)), kP 9 (a.num) ((a.den : Int)), kIs (.int .i64 (ordQ ((a.floor : Int) : Rat) a)), kIs (.bool false), kIs (.bool false), kP 39 ((a + (-((a.floor : Int) : Rat))).num) (((a + (-((a.floor : Int) : Rat))).den : Int)), kZ 1 ((1 : Int)), kP 9 ((1 : Rat).num) (((1 : Rat).den : Int)), kIs (.int .i64 (ordQ (a + (-((a.floor : Int) : Rat))) (1 : Rat))), kIs (.bool false), kIs (.bool false)]
        [ [], [], [(0, some 87), (1, some 88)], [(2, some 89)], [(3, some 90)], [], [], [(6, some 93)], [(5, some 92), (7, some 94)], [(8, some 95)], [(4, some 91), (9, some 96)] ]
        [(0, some 87), (1, some 88), (2, some 89), (3, some 90), (4, some 91), (5, some 92), (6, some 93), (7, some 94), (8, some 95), (9, some 96), (10, some 97)] [(4, false)] [] (by kernel_rfl) (by kernel_rfl) (by kernel_rfl) (by kernel_rfl) (by kernel_rfl) (by kernel_rfl) (by kernel_rfl) bb_6.size ?_ ?_
      ·
        refine pk_cons rfl rfl (st_load4P p8_6 p8'_6 (by simp) e8_6 hN_6 (by kernel_rfl) rfl) ?_
        refine pk_cons rfl rfl (st_load4P f1_6 f1'_6 (by simp) e3_6 hN_6 (by kernel_rfl) rfl) ?_
        refine pk_cons rfl rfl (st_call2 hN_6 (by kernel_rfl) (by kernel_rfl) (by kernel_rfl) (by kernel_rfl) (by kernel_rfl) rfl rfl rfl fun w x v1 v2 hC h1 h2 => ti (Cmp_19 (pm (by decide) h1) (pm (by decide) h2))) ?_
        refine pk_cons rfl rfl (st_pureV [.int .i64 (ordQ ((a.floor : Int) : Rat) a)] [] (.bool (decide (ordQ ((a.floor : Int) : Rat) a > 0))) (.bool false) (congrArg Value.bool (decide_eq_false (Int.not_lt.2 (ordQ_le (Rat.floor_le a))))) rfl hN_6 (by kernel_rfl) (by kernel_rfl) (by kernel_rfl) old0 (by kernel_rfl) (by kernel_rfl) (by kernel_rfl) (fun _ => by kernel_rfl)) ?_
        refine pk_cons rfl rfl (st_pure [.bool false] [] (.bool false) rfl hN_6 (by kernel_rfl) (by kernel_rfl) (by kernel_rfl) old0 (by kernel_rfl) (by kernel_rfl) (by kernel_rfl) (fun _ => by kernel_rfl)) ?_
        refine pk_cons rfl rfl (st_load4P p9_6 p9'_6 (by simp) e9_6 hN_6 (by kernel_rfl) rfl) ?_
        refine pk_cons rfl rfl (st_call0 [.int .i64 (1)] hN_6 (by kernel_rfl) (by kernel_rfl) rfl rfl fun w x hC => tz (z_of (1) 1 (by decide) (by decide) (by decide))) ?_
        refine pk_cons rfl rfl (st_call1 hN_6 (by kernel_rfl) (by kernel_rfl) (by kernel_rfl) rfl rfl fun w x v1 hC h1 => tp (whole1 (rr h1) (by decide))) ?_
        refine pk_cons rfl rfl (st_call2 hN_6 (by kernel_rfl) (by kernel_rfl) (by kernel_rfl) (by kernel_rfl) (by kernel_rfl) rfl rfl rfl fun w x v1 v2 hC h1 h2 => ti (Cmp_39 (pm (by decide) h1) (pm (by decide) h2))) ?_
        refine pk_cons rfl rfl (st_pureV [.int .i64 (ordQ (a + (-((a.floor : Int) : Rat))) (1 : Rat))] [] (.bool (decide (ordQ (a + (-((a.floor : Int) : Rat))) (1 : Rat) ≥ 0))) (.bool false) (congrArg Value.bool (decide_eq_false (ordQ_ge (floor_gap a)))) rfl hN_6 (by kernel_rfl) (by kernel_rfl) (by kernel_rfl) old0 (by kernel_rfl) (by kernel_rfl) (by kernel_rfl) (fun _ => by kernel_rfl)) ?_
        refine pk_cons rfl rfl (st_pure [.bool false, .bool false] [] (.bool false) rfl hN_6 (by kernel_rfl) (by kernel_rfl) (by kernel_rfl) old0 (by kernel_rfl) (by kernel_rfl) (by kernel_rfl) (fun _ => by kernel_rfl)) ?_
        exact pk_nil rfl
      intro W_7 x hC hall
      refine then_n ?_
      obtain ⟨a_7, ha⟩ : ∃ a, a = putE x a_6 [(0, some 87), (1, some 88), (2, some 89), (3, some 90), (4, some 91), (5, some 92), (6, some 93), (7, some 94), (8, some 95), (9, some 96), (10, some 97)] := ⟨_, rfl⟩
      rw [← ha]
      have hN_7 := size_behind ha hN_6
      have hD_7 := defers_behind ha hD_6
      have bb_7 := bb_6.trans hC.below
      have e3_7 := slot_old ha (by kernel_rfl) e3_6
      have e4_7 := slot_old ha (by kernel_rfl) e4_6
      have e5_7 := slot_old ha (by kernel_rfl) e5_6
      have e13_7 := slot_old ha (by kernel_rfl) e13_6
      have e34_7 := slot_old ha (by kernel_rfl) e34_6
      have e7_7 := slot_old ha (by kernel_rfl) e7_6
      have e80_7 := slot_old ha (by kernel_rfl) e80_6
      have e8_7 := slot_old ha (by kernel_rfl) e8_6
      have e9_7 := slot_old ha (by kernel_rfl) e9_6
      have f1_7 := hC.at0 f1_6
      have f1'_7 := hC.at0 f1'_6
      have f2_7 := hC.at0 f2_6
      have f2'_7 := hC.at0 f2'_6
      have f3_7 := hC.at0 f3_6
      have f3'_7 := hC.at0 f3'_6
      have p8_7 := hC.at0 p8_6
      have p8'_7 := hC.at0 p8'_6
      have p9_7 := hC.at0 p9_6
      have p9'_7 := hC.at0 p9'_6
      have e97_7 := (slot_new (t := 97) (i := 10) ha hN_6 (by kernel_rfl) (by kernel_rfl)).trans (show x 10 = .bool false from hall 10 (of_decide_eq_true (by kernel_rfl)))
      clear hall hC ha bb_6 hD_6 e3_6 e4_6 e5_6 e13_6 e34_6 e7_6 e80_6 e8_6 e9_6 f1_6 f1'_6 f2_6 f2'_6 f3_6 f3'_6 p8_6 p8'_6 p9_6 p9'_6
      refine wp_cond_false e97_7 ?_
      repeat (first | refine wp_seq ?_ | (refine wp_skip ?_; refine then_n ?_))
      refine wp_region_law hN_7 w.heap.size
        [kP 9 (a.num) ((a.den : Int)), kIs (.string (textQ a)), kPT 19 (a.num) ((a.den : Int)) (.bool true), kPT 19 (a.num) ((a.den : Int)) (.bool true), kP 19 (a.num) ((a.den : Int)), kIs (.bool true), PK.fresh 4, kPutP 6 19 (a.num) ((a.den : Int)), kIs (.bool true)]
        [ [], [(0, some 99)], [(1, some 100)], [(2, some 101)], [(3, some 98)], [(3, some 98)], [], [(6, some 10), (4, some 102)], [(5, some 103)] ]
        [(0, some 99), (1, some 100), (2, some 101), (3, some 98), (4, some 102), (5, some 103), (6, some 10), (7, none), (8, some 11)] [] [] (by kernel_rfl) (by kernel_rfl) (by kernel_rfl) (by kernel_rfl) (by kernel_rfl) (by kernel_rfl) (by kernel_rfl) bb_7.size ?_ ?_
      ·
        refine pk_cons rfl rfl (st_load4P f1_7 f1'_7 (by simp) e3_7 hN_7 (by kernel_rfl) rfl) ?_
        refine pk_cons rfl rfl (st_call1 hN_7 (by kernel_rfl) (by kernel_rfl) (by kernel_rfl) rfl rfl fun w x v1 hC h1 => ti (Text_9 (Lib.hid ⟨HT.out.1.below (bb_7.trans hC.below) HT.out.2, Nat.le_trans HT.out.2 (bb_7.trans hC.below).size⟩) (pm (by decide) h1))) ?_
        refine pk_cons rfl rfl (st_call1 hN_7 (by kernel_rfl) (by kernel_rfl) (by kernel_rfl) rfl rfl fun w x v1 hC h1 => tpt (parse_q h1 HQ.out.1 HQ.out.2 (Lib.hid ⟨HT.out.1.below (bb_7.trans hC.below) HT.out.2, Nat.le_trans HT.out.2 (bb_7.trans hC.below).size⟩) (HM.out.below (bb_7.trans hC.below)))) ?_
        refine pk_cons rfl rfl (st_move hN_7 (by kernel_rfl) (by kernel_rfl) rfl rfl) ?_
        refine pk_cons rfl rfl (st_ext hN_7 (by kernel_rfl) (by kernel_rfl) rfl rfl ext_p) ?_
        refine pk_cons rfl rfl (st_ext hN_7 (by kernel_rfl) (by kernel_rfl) rfl rfl ext_v) ?_
        refine pk_cons rfl rfl (st_allocP hN_7 (by kernel_rfl) (Nat.le_refl _) rfl) ?_
        refine pk_cons rfl rfl (st_putP hN_7 (by kernel_rfl) (by kernel_rfl) (by kernel_rfl) rfl rfl rfl) ?_
        refine pk_cons rfl rfl (st_pure [.bool true] [] (.bool true) rfl hN_7 (by kernel_rfl) (by kernel_rfl) (by kernel_rfl) old0 (by kernel_rfl) (by kernel_rfl) (by kernel_rfl) (fun _ => by kernel_rfl)) ?_
        exact pk_nil rfl
      intro W_8 x hC hall
      refine then_n ?_
      obtain ⟨a_8, ha⟩ : ∃ a, a = putE x a_7 [(0, some 99), (1, some 100), (2, some 101), (3, some 98), (4, some 102), (5, some 103), (6, some 10), (7, none), (8, some 11)] := ⟨_, rfl⟩
      rw [← ha]
      have hN_8 := size_behind ha hN_7
      have hD_8 := defers_behind ha hD_7
      have bb_8 := bb_7.trans hC.below
      have e3_8 := slot_old ha (by kernel_rfl) e3_7
      have e4_8 := slot_old ha (by kernel_rfl) e4_7
      have e5_8 := slot_old ha (by kernel_rfl) e5_7
      have e13_8 := slot_old ha (by kernel_rfl) e13_7
      have e34_8 := slot_old ha (by kernel_rfl) e34_7
      have e7_8 := slot_old ha (by kernel_rfl) e7_7
      have e80_8 := slot_old ha (by kernel_rfl) e80_7
      have e8_8 := slot_old ha (by kernel_rfl) e8_7
      have e9_8 := slot_old ha (by kernel_rfl) e9_7
      have e97_8 := slot_old ha (by kernel_rfl) e97_7
      have f1_8 := hC.at0 f1_7
      have f1'_8 := hC.at0 f1'_7
      have f2_8 := hC.at0 f2_7
      have f2'_8 := hC.at0 f2'_7
      have f3_8 := hC.at0 f3_7
      have f3'_8 := hC.at0 f3'_7
      have p8_8 := hC.at0 p8_7
      have p8'_8 := hC.at0 p8'_7
      have p9_8 := hC.at0 p9_7
      have p9'_8 := hC.at0 p9'_7
      obtain ⟨g10, hx, hge, p10_8, p10'_8⟩ := put_atP (show (kPutP 6 19 (a.num) ((a.den : Int))).sem _ _ _ _ from hall 7 (of_decide_eq_true (by kernel_rfl)))
      have e10_8 := (slot_new (t := 10) (i := 6) ha hN_7 (by kernel_rfl) (by kernel_rfl)).trans hx
      clear hx hge
      have e11_8 := (slot_new (t := 11) (i := 8) ha hN_7 (by kernel_rfl) (by kernel_rfl)).trans (show x 8 = .bool true from hall 8 (of_decide_eq_true (by kernel_rfl)))
      clear hall hC ha bb_7 hD_7 e3_7 e4_7 e5_7 e13_7 e34_7 e7_7 e80_7 e8_7 e9_7 e97_7 f1_7 f1'_7 f2_7 f2'_7 f3_7 f3'_7 p8_7 p8'_7 p9_7 p9'_7
      repeat (first | refine wp_seq ?_ | (refine wp_skip ?_; refine then_n ?_))
      refine wp_region_law hN_8 w.heap.size
        [kIs (.bool true), kIs (.bool true), kP 19 (a.num) ((a.den : Int)), kP 9 (a.num) ((a.den : Int)), kIs (.bool true), kIs (.bool true), kIs (.bool true), kP 9 (a.num) ((a.den : Int)), kIs (.string (textQ a)), kP 9 (b.num) ((b.den : Int)), kIs (.string (textQ b)), kIs (.bool false), kIs (.int .i64 (-1)), kIs (.bool false), kIs (.bool true), kIs (.bool true), kIs (.bool true)]
        [ [], [(0, some 104)], [], [], [(2, some 106), (3, some 107)], [(1, some 105), (4, some 108)], [(5, some 109)], [], [(7, some 111)], [], [(9, some 113)], [(8, some 112), (10, some 114)], [], [(12, some 116)], [(11, some 115), (13, some 117)], [(6, some 110), (14, some 118)], [(15, some 119)] ]
        [(0, some 104), (1, some 105), (2, some 106), (3, some 107), (4, some 108), (5, some 109), (6, some 110), (7, some 111), (8, some 112), (9, some 113), (10, some 114), (11, some 115), (12, some 116), (13, some 117), (14, some 118), (15, some 119), (16, some 6)] [(1, true), (6, true)] [] (by kernel_rfl) (by kernel_rfl) (by kernel_rfl) (by kernel_rfl) (by kernel_rfl) (by kernel_rfl) (by kernel_rfl) bb_8.size ?_ ?_
      ·
        refine pk_cons rfl rfl (st_pure [] [(11, .bool true)] (.bool true) rfl hN_8 (by kernel_rfl) (by kernel_rfl) (by kernel_rfl) (old1 e11_8) (by kernel_rfl) (by kernel_rfl) (by kernel_rfl) (fun _ => by kernel_rfl)) ?_
        refine pk_cons rfl rfl (st_pure [.bool true] [] (.bool true) rfl hN_8 (by kernel_rfl) (by kernel_rfl) (by kernel_rfl) old0 (by kernel_rfl) (by kernel_rfl) (by kernel_rfl) (fun _ => by kernel_rfl)) ?_
        refine pk_cons rfl rfl (st_load4P p10_8 p10'_8 (by simp) e10_8 hN_8 (by kernel_rfl) rfl) ?_
        refine pk_cons rfl rfl (st_load4P f1_8 f1'_8 (by simp) e3_8 hN_8 (by kernel_rfl) rfl) ?_
        refine pk_cons rfl rfl (st_call2 hN_8 (by kernel_rfl) (by kernel_rfl) (by kernel_rfl) (by kernel_rfl) (by kernel_rfl) rfl rfl rfl fun w x v1 v2 hC h1 h2 => ti (lawSame_19 (pm (by decide) h1) (pm (by decide) h2))) ?_
        refine pk_cons rfl rfl (st_pure [.bool true, .bool true] [] (.bool true) rfl hN_8 (by kernel_rfl) (by kernel_rfl) (by kernel_rfl) old0 (by kernel_rfl) (by kernel_rfl) (by kernel_rfl) (fun _ => by kernel_rfl)) ?_
        refine pk_cons rfl rfl (st_pure [.bool true] [] (.bool true) rfl hN_8 (by kernel_rfl) (by kernel_rfl) (by kernel_rfl) old0 (by kernel_rfl) (by kernel_rfl) (by kernel_rfl) (fun _ => by kernel_rfl)) ?_
        refine pk_cons rfl rfl (st_load4P f1_8 f1'_8 (by simp) e3_8 hN_8 (by kernel_rfl) rfl) ?_
        refine pk_cons rfl rfl (st_call1 hN_8 (by kernel_rfl) (by kernel_rfl) (by kernel_rfl) rfl rfl fun w x v1 hC h1 => ti (Text_9 (Lib.hid ⟨HT.out.1.below (bb_8.trans hC.below) HT.out.2, Nat.le_trans HT.out.2 (bb_8.trans hC.below).size⟩) (pm (by decide) h1))) ?_
        refine pk_cons rfl rfl (st_load4P f2_8 f2'_8 (by simp) e4_8 hN_8 (by kernel_rfl) rfl) ?_
        refine pk_cons rfl rfl (st_call1 hN_8 (by kernel_rfl) (by kernel_rfl) (by kernel_rfl) rfl rfl fun w x v1 hC h1 => ti (Text_9 (Lib.hid ⟨HT.out.1.below (bb_8.trans hC.below) HT.out.2, Nat.le_trans HT.out.2 (bb_8.trans hC.below).size⟩) (pm (by decide) h1))) ?_
        refine pk_cons rfl rfl (st_pureV [.string (textQ a), .string (textQ b)] [] (.bool ((textQ a).toList == (textQ b).toList)) (.bool false) (congrArg Value.bool (textQ_neq (Rat.ne_of_lt hs))) rfl hN_8 (by kernel_rfl) (by kernel_rfl) (by kernel_rfl) old0 (by kernel_rfl) (by kernel_rfl) (by kernel_rfl) (fun _ => by kernel_rfl)) ?_
        refine pk_cons rfl rfl (st_pure [] [(7, .int .i64 (-1))] (.int .i64 (-1)) rfl hN_8 (by kernel_rfl) (by kernel_rfl) (by kernel_rfl) (old1 e7_8) (by kernel_rfl) (by kernel_rfl) (by kernel_rfl) (fun _ => by kernel_rfl)) ?_
        refine pk_cons rfl rfl (st_pure [.int .i64 (-1)] [] (.bool false) rfl hN_8 (by kernel_rfl) (by kernel_rfl) (by kernel_rfl) old0 (by kernel_rfl) (by kernel_rfl) (by kernel_rfl) (fun _ => by kernel_rfl)) ?_
        refine pk_cons rfl rfl (st_pure [.bool false, .bool false] [] (.bool true) rfl hN_8 (by kernel_rfl) (by kernel_rfl) (by kernel_rfl) old0 (by kernel_rfl) (by kernel_rfl) (by kernel_rfl) (fun _ => by kernel_rfl)) ?_
        refine pk_cons rfl rfl (st_pure [.bool true, .bool true] [] (.bool true) rfl hN_8 (by kernel_rfl) (by kernel_rfl) (by kernel_rfl) old0 (by kernel_rfl) (by kernel_rfl) (by kernel_rfl) (fun _ => by kernel_rfl)) ?_
        refine pk_cons rfl rfl (st_pure [.bool true] [] (.bool true) rfl hN_8 (by kernel_rfl) (by kernel_rfl) (by kernel_rfl) old0 (by kernel_rfl) (by kernel_rfl) (by kernel_rfl) (fun _ => by kernel_rfl)) ?_
        exact pk_nil rfl
      intro W_9 x hC hall
      refine then_n ?_
      obtain ⟨a_9, ha⟩ : ∃ a, a = putE x a_8 [(0, some 104), (1, some 105), (2, some 106), (3, some 107), (4, some 108), (5, some 109), (6, some 110), (7, some 111), (8, some 112), (9, some 113), (10, some 114), (11, some 115), (12, some 116), (13, some 117), (14, some 118), (15, some 119), (16, some 6)] := ⟨_, rfl⟩
      rw [← ha]
      have hN_9 := size_behind ha hN_8
      have hD_9 := defers_behind ha hD_8
      have bb_9 := bb_8.trans hC.below
      have e3_9 := slot_old ha (by kernel_rfl) e3_8
      have e4_9 := slot_old ha (by kernel_rfl) e4_8
      have e5_9 := slot_old ha (by kernel_rfl) e5_8
      have e13_9 := slot_old ha (by kernel_rfl) e13_8
      have e34_9 := slot_old ha (by kernel_rfl) e34_8
      have e7_9 := slot_old ha (by kernel_rfl) e7_8
      have e80_9 := slot_old ha (by kernel_rfl) e80_8
      have e8_9 := slot_old ha (by kernel_rfl) e8_8
      have e9_9 := slot_old ha (by kernel_rfl) e9_8
      have e97_9 := slot_old ha (by kernel_rfl) e97_8
      have e10_9 := slot_old ha (by kernel_rfl) e10_8
      have e11_9 := slot_old ha (by kernel_rfl) e11_8
      have f1_9 := hC.at0 f1_8
      have f1'_9 := hC.at0 f1'_8
      have f2_9 := hC.at0 f2_8
      have f2'_9 := hC.at0 f2'_8
      have f3_9 := hC.at0 f3_8
      have f3'_9 := hC.at0 f3'_8
      have p8_9 := hC.at0 p8_8
      have p8'_9 := hC.at0 p8'_8
      have p9_9 := hC.at0 p9_8
      have p9'_9 := hC.at0 p9'_8
      have p10_9 := hC.at0 p10_8
      have p10'_9 := hC.at0 p10'_8
      have e6_9 := (slot_new (t := 6) (i := 16) ha hN_8 (by kernel_rfl) (by kernel_rfl)).trans (show x 16 = .bool true from hall 16 (of_decide_eq_true (by kernel_rfl)))
      clear hall hC ha bb_8 hD_8 e3_8 e4_8 e5_8 e13_8 e34_8 e7_8 e80_8 e8_8 e9_8 e97_8 e10_8 e11_8 f1_8 f1'_8 f2_8 f2'_8 f3_8 f3'_8 p8_8 p8'_8 p9_8 p9'_8 p10_8 p10'_8
      repeat (first | refine wp_seq ?_ | (refine wp_skip ?_; refine then_n ?_))
      refine wp_ret ?_
      repeat (refine then_r ?_)
      exact ret_one (t := 6) rfl hD_9 e6_9 ⟨rfl, bb_9⟩
  ·
    refine wp_region_law hN_2 w.heap.size
      [kP 9 (a.num) ((a.den : Int)), kP 9 (b.num) ((b.den : Int)), kIs (.int .i64 (0)), kIs (.int .i64 (0))]
      [ [], [], [(0, some 35), (1, some 36)], [(2, some 37)] ]
      [(0, some 35), (1, some 36), (2, some 37), (3, some 7)] [] [] (by kernel_rfl) (by kernel_rfl) (by kernel_rfl) (by kernel_rfl) (by kernel_rfl) (by kernel_rfl) (by kernel_rfl) bb_2.size ?_ ?_
    ·
      refine pk_cons rfl rfl (st_load4P f1_2 f1'_2 (by simp) e3_2 hN_2 (by kernel_rfl) rfl) ?_
      refine pk_cons rfl rfl (st_load4P f2_2 f2'_2 (by simp) e4_2 hN_2 (by kernel_rfl) rfl) ?_
      refine pk_cons rfl rfl (st_call2 hN_2 (by kernel_rfl) (by kernel_rfl) (by kernel_rfl) (by kernel_rfl) (by kernel_rfl) rfl rfl rfl fun w x v1 v2 hC h1 h2 => ti (cmpq_is (ordQ_eq hs) (Cmp_9 (pm (by decide) h1) (pm (by decide) h2)))) ?_
      refine pk_cons rfl rfl (st_pure [.int .i64 (0)] [] (.int .i64 (0)) rfl hN_2 (by kernel_rfl) (by kernel_rfl) (by kernel_rfl) old0 (by kernel_rfl) (by kernel_rfl) (by kernel_rfl) (fun _ => by kernel_rfl)) ?_
      exact pk_nil rfl
    intro W_3 x hC hall
    refine then_n ?_
    obtain ⟨a_3, ha⟩ : ∃ a, a = putE x a_2 [(0, some 35), (1, some 36), (2, some 37), (3, some 7)] := ⟨_, rfl⟩
    rw [← ha]
    have hN_3 := size_behind ha hN_2
    have hD_3 := defers_behind ha hD_2
    have bb_3 := bb_2.trans hC.below
    have e3_3 := slot_old ha (by kernel_rfl) e3_2
    have e4_3 := slot_old ha (by kernel_rfl) e4_2
    have e5_3 := slot_old ha (by kernel_rfl) e5_2
    have e13_3 := slot_old ha (by kernel_rfl) e13_2
    have e34_3 := slot_old ha (by kernel_rfl) e34_2
    have f1_3 := hC.at0 f1_2
    have f1'_3 := hC.at0 f1'_2
    have f2_3 := hC.at0 f2_2
    have f2'_3 := hC.at0 f2'_2
    have f3_3 := hC.at0 f3_2
    have f3'_3 := hC.at0 f3'_2
    have e7_3 := (slot_new (t := 7) (i := 3) ha hN_2 (by kernel_rfl) (by kernel_rfl)).trans (show x 3 = .int .i64 (0) from hall 3 (of_decide_eq_true (by kernel_rfl)))
    clear hall hC ha bb_2 hD_2 e3_2 e4_2 e5_2 e13_2 e34_2 f1_2 f1'_2 f2_2 f2'_2 f3_2 f3'_2
    repeat (first | refine wp_seq ?_ | (refine wp_skip ?_; refine then_n ?_))
    by_cases hbc : b ≤ c
    ·
      refine wp_region_law hN_3 w.heap.size
        [kP 9 (b.num) ((b.den : Int)), kP 9 (a.num) ((a.den : Int)), kIs (.int .i64 (0)), kIs (.int .i64 (0)), kIs (.int .i64 (0)), kIs (.bool false), kIs (.bool false), kIs (.int .i64 (0)), kIs (.bool true), kP 9 (a.num) ((a.den : Int)), kP 9 (b.num) ((b.den : Int)), kIs (.bool true), kIs (.bool false), kIs (.bool false), kIs (.bool false), kIs (.int .i64 (0)), kIs (.bool true), kIs (.bool true), kP 9 (b.num) ((b.den : Int)), kP 9 (c.num) ((c.den : Int)), kIs (.int .i64 (ordQ b c)), kIs (.bool true), kIs (.bool true), kIs (.bool true), kP 9 (a.num) ((a.den : Int)), kP 9 (c.num) ((c.den : Int)), kIs (.int .i64 (ordQ a c)), kIs (.bool false), kIs (.bool false), kIs (.bool false), kIs (.bool false), kP 9 (a.num) ((a.den : Int)), kP 9 (c.num) ((c.den : Int)), kPRs [(9, a.num, (a.den : Int)), (9, c.num, (c.den : Int))], kP 19 ((a + c).num) (((a + c).den : Int)), kP 9 (b.num) ((b.den : Int)), kP 9 (c.num) ((c.den : Int)), kPRs [(9, b.num, (b.den : Int)), (9, c.num, (c.den : Int))], kP 19 ((b + c).num) (((b + c).den : Int)), kIs (.int .i64 (0)), kIs (.int .i64 (0)), kIs (.bool false), kIs (.bool false)]
        [ [], [], [(0, some 38), (1, some 39)], [], [(3, some 41)], [(2, some 40), (4, some 42)], [(5, some 43)], [], [(7, some 45)], [], [], [(9, some 47), (10, some 48)], [(8, some 46), (11, some 49)], [(6, some 44), (12, some 50)], [(13, some 51)], [], [(15, some 53)], [(16, some 54)], [], [], [(18, some 56), (19, some 57)], [(20, some 58)], [(17, some 55), (21, some 59)], [(22, some 60)], [], [], [(24, some 62), (25, some 63)], [(26, some 64)], [(23, some 61), (27, some 65)], [(14, some 52), (28, some 66)], [(29, some 67)], [], [], [(31, some 69), (32, some 70)], [(33, some 71)], [], [], [(35, some 73), (36, some 74)], [(37, some 75)], [(34, some 72), (38, some 76)], [], [(39, some 77), (40, some 78)], [(30, some 68), (41, some 79)] ]
        [(0, some 38), (1, some 39), (2, some 40), (3, some 41), (4, some 42), (5, some 43), (6, some 44), (7, some 45), (8, some 46), (9, some 47), (10, some 48), (11, some 49), (12, some 50), (13, some 51), (14, some 52), (15, some 53), (16, some 54), (17, some 55), (18, some 56), (19, some 57), (20, some 58), (21, some 59), (22, some 60), (23, some 61), (24, some 62), (25, some 63), (26, some 64), (27, some 65), (28, some 66), (29, some 67), (30, some 68), (31, some 69), (32, some 70), (33, some 71), (34, some 72), (35, some 73), (36, some 74), (37, some 75), (38, some 76), (39, some 77), (40, some 78), (41, some 79), (42, some 80)] [(6, false), (14, false), (17, true), (23, true), (30, false)] [] (by kernel_rfl) (by kernel_rfl) (by kernel_rfl) (by kernel_rfl) (by kernel_rfl) (by kernel_rfl) (by kernel_rfl) bb_3.size ?_ ?_
      ·
        refine pk_cons rfl rfl (st_load4P f2_3 f2'_3 (by simp) e4_3 hN_3 (by kernel_rfl) rfl) ?_
        refine pk_cons rfl rfl (st_load4P f1_3 f1'_3 (by simp) e3_3 hN_3 (by kernel_rfl) rfl) ?_
        refine pk_cons rfl rfl (st_call2 hN_3 (by kernel_rfl) (by kernel_rfl) (by kernel_rfl) (by kernel_rfl) (by kernel_rfl) rfl rfl rfl fun w x v1 v2 hC h1 h2 => ti (cmpq_is (ordQ_eq hs.symm) (Cmp_9 (pm (by decide) h1) (pm (by decide) h2)))) ?_
        refine pk_cons rfl rfl (st_pure [] [(7, .int .i64 (0))] (.int .i64 (0)) rfl hN_3 (by kernel_rfl) (by kernel_rfl) (by kernel_rfl) (old1 e7_3) (by kernel_rfl) (by kernel_rfl) (by kernel_rfl) (fun _ => by kernel_rfl)) ?_
        refine pk_cons rfl rfl (st_pure [.int .i64 (0)] [] (.int .i64 (0)) rfl hN_3 (by kernel_rfl) (by kernel_rfl) (by kernel_rfl) old0 (by kernel_rfl) (by kernel_rfl) (by kernel_rfl) (fun _ => by kernel_rfl)) ?_
        refine pk_cons rfl rfl (st_pure [.int .i64 (0), .int .i64 (0)] [] (.bool false) rfl hN_3 (by kernel_rfl) (by kernel_rfl) (by kernel_rfl) old0 (by kernel_rfl) (by kernel_rfl) (by kernel_rfl) (fun _ => by kernel_rfl)) ?_
        refine pk_cons rfl rfl (st_pure [.bool false] [] (.bool false) rfl hN_3 (by kernel_rfl) (by kernel_rfl) (by kernel_rfl) old0 (by kernel_rfl) (by kernel_rfl) (by kernel_rfl) (fun _ => by kernel_rfl)) ?_
        refine pk_cons rfl rfl (st_pure [] [(7, .int .i64 (0))] (.int .i64 (0)) rfl hN_3 (by kernel_rfl) (by kernel_rfl) (by kernel_rfl) (old1 e7_3) (by kernel_rfl) (by kernel_rfl) (by kernel_rfl) (fun _ => by kernel_rfl)) ?_
        refine pk_cons rfl rfl (st_pure [.int .i64 (0)] [] (.bool true) rfl hN_3 (by kernel_rfl) (by kernel_rfl) (by kernel_rfl) old0 (by kernel_rfl) (by kernel_rfl) (by kernel_rfl) (fun _ => by kernel_rfl)) ?_
        refine pk_cons rfl rfl (st_load4P f1_3 f1'_3 (by simp) e3_3 hN_3 (by kernel_rfl) rfl) ?_
        refine pk_cons rfl rfl (st_load4P f2_3 f2'_3 (by simp) e4_3 hN_3 (by kernel_rfl) rfl) ?_
        refine pk_cons rfl rfl (st_call2 hN_3 (by kernel_rfl) (by kernel_rfl) (by kernel_rfl) (by kernel_rfl) (by kernel_rfl) rfl rfl rfl fun w x v1 v2 hC h1 h2 => ti (lawSame_9 (pm (by decide) (pe (hs) h1)) (pm (by decide) h2))) ?_
        refine pk_cons rfl rfl (st_pure [.bool true, .bool true] [] (.bool false) rfl hN_3 (by kernel_rfl) (by kernel_rfl) (by kernel_rfl) old0 (by kernel_rfl) (by kernel_rfl) (by kernel_rfl) (fun _ => by kernel_rfl)) ?_
        refine pk_cons rfl rfl (st_pure [.bool false, .bool false] [] (.bool false) rfl hN_3 (by kernel_rfl) (by kernel_rfl) (by kernel_rfl) old0 (by kernel_rfl) (by kernel_rfl) (by kernel_rfl) (fun _ => by kernel_rfl)) ?_
        refine pk_cons rfl rfl (st_pure [.bool false] [] (.bool false) rfl hN_3 (by kernel_rfl) (by kernel_rfl) (by kernel_rfl) old0 (by kernel_rfl) (by kernel_rfl) (by kernel_rfl) (fun _ => by kernel_rfl)) ?_
        refine pk_cons rfl rfl (st_pure [] [(7, .int .i64 (0))] (.int .i64 (0)) rfl hN_3 (by kernel_rfl) (by kernel_rfl) (by kernel_rfl) (old1 e7_3) (by kernel_rfl) (by kernel_rfl) (by kernel_rfl) (fun _ => by kernel_rfl)) ?_
        refine pk_cons rfl rfl (st_pure [.int .i64 (0)] [] (.bool true) rfl hN_3 (by kernel_rfl) (by kernel_rfl) (by kernel_rfl) old0 (by kernel_rfl) (by kernel_rfl) (by kernel_rfl) (fun _ => by kernel_rfl)) ?_
        refine pk_cons rfl rfl (st_pure [.bool true] [] (.bool true) rfl hN_3 (by kernel_rfl) (by kernel_rfl) (by kernel_rfl) old0 (by kernel_rfl) (by kernel_rfl) (by kernel_rfl) (fun _ => by kernel_rfl)) ?_
        refine pk_cons rfl rfl (st_load4P f2_3 f2'_3 (by simp) e4_3 hN_3 (by kernel_rfl) rfl) ?_
        refine pk_cons rfl rfl (st_load4P f3_3 f3'_3 (by simp) e5_3 hN_3 (by kernel_rfl) rfl) ?_
        refine pk_cons rfl rfl (st_call2 hN_3 (by kernel_rfl) (by kernel_rfl) (by kernel_rfl) (by kernel_rfl) (by kernel_rfl) rfl rfl rfl fun w x v1 v2 hC h1 h2 => ti (Cmp_9 (pm (by decide) h1) (pm (by decide) h2))) ?_
        refine pk_cons rfl rfl (st_pureV [.int .i64 (ordQ b c)] [] (.bool (decide (ordQ b c ≤ 0))) (.bool true) (congrArg Value.bool (decide_eq_true (ordQ_le hbc))) rfl hN_3 (by kernel_rfl) (by kernel_rfl) (by kernel_rfl) old0 (by kernel_rfl) (by kernel_rfl) (by kernel_rfl) (fun _ => by kernel_rfl)) ?_
        refine pk_cons rfl rfl (st_pure [.bool true, .bool true] [] (.bool true) rfl hN_3 (by kernel_rfl) (by kernel_rfl) (by kernel_rfl) old0 (by kernel_rfl) (by kernel_rfl) (by kernel_rfl) (fun _ => by kernel_rfl)) ?_
        refine pk_cons rfl rfl (st_pure [.bool true] [] (.bool true) rfl hN_3 (by kernel_rfl) (by kernel_rfl) (by kernel_rfl) old0 (by kernel_rfl) (by kernel_rfl) (by kernel_rfl) (fun _ => by kernel_rfl)) ?_
        refine pk_cons rfl rfl (st_load4P f1_3 f1'_3 (by simp) e3_3 hN_3 (by kernel_rfl) rfl) ?_
        refine pk_cons rfl rfl (st_load4P f3_3 f3'_3 (by simp) e5_3 hN_3 (by kernel_rfl) rfl) ?_
        refine pk_cons rfl rfl (st_call2 hN_3 (by kernel_rfl) (by kernel_rfl) (by kernel_rfl) (by kernel_rfl) (by kernel_rfl) rfl rfl rfl fun w x v1 v2 hC h1 h2 => ti (Cmp_9 (pm (by decide) h1) (pm (by decide) h2))) ?_
        refine pk_cons rfl rfl (st_pureV [.int .i64 (ordQ a c)] [] (.bool (decide (ordQ a c > 0))) (.bool false) (congrArg Value.bool (decide_eq_false (Int.not_lt.2 (ordQ_le (Rat.le_trans (hs ▸ Rat.le_refl) hbc))))) rfl hN_3 (by kernel_rfl) (by kernel_rfl) (by kernel_rfl) old0 (by kernel_rfl) (by kernel_rfl) (by kernel_rfl) (fun _ => by kernel_rfl)) ?_
        refine pk_cons rfl rfl (st_pure [.bool true, .bool false] [] (.bool false) rfl hN_3 (by kernel_rfl) (by kernel_rfl) (by kernel_rfl) old0 (by kernel_rfl) (by kernel_rfl) (by kernel_rfl) (fun _ => by kernel_rfl)) ?_
        refine pk_cons rfl rfl (st_pure [.bool false, .bool false] [] (.bool false) rfl hN_3 (by kernel_rfl) (by kernel_rfl) (by kernel_rfl) old0 (by kernel_rfl) (by kernel_rfl) (by kernel_rfl) (fun _ => by kernel_rfl)) ?_
        refine pk_cons rfl rfl (st_pure [.bool false] [] (.bool false) rfl hN_3 (by kernel_rfl) (by kernel_rfl) (by kernel_rfl) old0 (by kernel_rfl) (by kernel_rfl) (by kernel_rfl) (fun _ => by kernel_rfl)) ?_
        refine pk_cons rfl rfl (st_load4P f1_3 f1'_3 (by simp) e3_3 hN_3 (by kernel_rfl) rfl) ?_
        refine pk_cons rfl rfl (st_load4P f3_3 f3'_3 (by simp) e5_3 hN_3 (by kernel_rfl) rfl) ?_
        refine pk_cons rfl rfl (st_plist2 hN_3 (by kernel_rfl) (by kernel_rfl) (by kernel_rfl) (by kernel_rfl) (Nat.le_refl _) rfl rfl rfl) ?_
        refine pk_cons rfl rfl (st_call1 hN_3 (by kernel_rfl) (by kernel_rfl) (by kernel_rfl) rfl rfl fun w x v1 hC h1 => tp (Add2_9 (plm2 9 h1 (by decide) (by decide)))) ?_
        refine pk_cons rfl rfl (st_load4P f2_3 f2'_3 (by simp) e4_3 hN_3 (by kernel_rfl) rfl) ?_
        refine pk_cons rfl rfl (st_load4P f3_3 f3'_3 (by simp) e5_3 hN_3 (by kernel_rfl) rfl) ?_
        refine pk_cons rfl rfl (st_plist2 hN_3 (by kernel_rfl) (by kernel_rfl) (by kernel_rfl) (by kernel_rfl) (Nat.le_refl _) rfl rfl rfl) ?_
        refine pk_cons rfl rfl (st_call1 hN_3 (by kernel_rfl) (by kernel_rfl) (by kernel_rfl) rfl rfl fun w x v1 hC h1 => tp (Add2_9 (plm2 9 h1 (by decide) (by decide)))) ?_
        refine pk_cons rfl rfl (st_call2 hN_3 (by kernel_rfl) (by kernel_rfl) (by kernel_rfl) (by kernel_rfl) (by kernel_rfl) rfl rfl rfl fun w x v1 v2 hC h1 h2 => ti (cmpq_is (ordQ_eq (by rw [hs])) (Cmp_19 (pm (by decide) h1) (pm (by decide) h2)))) ?_
        refine pk_cons rfl rfl (st_pure [] [(7, .int .i64 (0))] (.int .i64 (0)) rfl hN_3 (by kernel_rfl) (by kernel_rfl) (by kernel_rfl) (old1 e7_3) (by kernel_rfl) (by kernel_rfl) (by kernel_rfl) (fun _ => by kernel_rfl)) ?_
        refine pk_cons rfl rfl (st_pure [.int .i64 (0), .int .i64 (0)] [] (.bool false) rfl hN_3 (by kernel_rfl) (by kernel_rfl) (by kernel_rfl) old0 (by kernel_rfl) (by kernel_rfl) (by kernel_rfl) (fun _ => by kernel_rfl)) ?_
        refine pk_cons rfl rfl (st_pure [.bool false, .bool false] [] (.bool false) rfl hN_3 (by kernel_rfl) (by kernel_rfl) (by kernel_rfl) old0 (by kernel_rfl) (by kernel_rfl) (by kernel_rfl) (fun _ => by kernel_rfl)) ?_
        exact pk_nil rfl
      intro W_4 x hC hall
      refine then_n ?_
      obtain ⟨a_4, ha⟩ : ∃ a, a = putE x a_3 [(0, some 38), (1, some 39), (2, some 40), (3, some 41), (4, some 42), (5, some 43), (6, some 44), (7, some 45), (8, some 46), (9, some 47), (10, some 48), (11, some 49), (12, some 50), (13, some 51), (14, some 52), (15, some 53), (16, some 54), (17, some 55), (18, some 56), (19, some 57), (20, some 58), (21, some 59), (22, some 60), (23, some 61), (24, some 62), (25, some 63), (26, some 64), (27, some 65), (28, some 66), (29, some 67), (30, some 68), (31, some 69), (32, some 70), (33, some 71), (34, some 72), (35, some 73), (36, some 74), (37, some 75), (38, some 76), (39, some 77), (40, some 78), (41, some 79), (42, some 80)] := ⟨_, rfl⟩
      rw [← ha]
      have hN_4 := size_behind ha hN_3
      have hD_4 := defers_behind ha hD_3
      have bb_4 := bb_3.trans hC.below
      have e3_4 := slot_old ha (by kernel_rfl) e3_3
      have e4_4 := slot_old ha (by kernel_rfl) e4_3
      have e5_4 := slot_old ha (by kernel_rfl) e5_3
      have e13_4 := slot_old ha (by kernel_rfl) e13_3
      have e34_4 := slot_old ha (by kernel_rfl) e34_3
      have e7_4 := slot_old ha (by kernel_rfl) e7_3
      have f1_4 := hC.at0 f1_3
      have f1'_4 := hC.at0 f1'_3
      have f2_4 := hC.at0 f2_3
      have f2'_4 := hC.at0 f2'_3
      have f3_4 := hC.at0 f3_3
      have f3'_4 := hC.at0 f3'_3
      have e80_4 := (slot_new (t := 80) (i := 42) ha hN_3 (by kernel_rfl) (by kernel_rfl)).trans (show x 42 = .bool false from hall 42 (of_decide_eq_true (by kernel_rfl)))
      clear hall hC ha bb_3 hD_3 e3_3 e4_3 e5_3 e13_3 e34_3 e7_3 f1_3 f1'_3 f2_3 f2'_3 f3_3 f3'_3
      refine wp_cond_false e80_4 ?_
      repeat (first | refine wp_seq ?_ | (refine wp_skip ?_; refine then_n ?_))
      refine wp_region_law hN_4 w.heap.size
        [kP 9 (a.num) ((a.den : Int)), kZ 10 (zq (a.num) ((a.den : Int))), kP 19 (((a.floor : Int) : Rat).num) ((((a.floor : Int) : Rat).den : Int)), PK.fresh 4, kPutP 3 19 (((a.floor : Int) : Rat).num) ((((a.floor : Int) : Rat).den : Int))]
        [ [], [(0, some 81)], [(1, some 82)], [], [(3, some 8), (2, some 83)] ]
        [(0, some 81), (1, some 82), (2, some 83), (3, some 8), (4, none)] [] [] (by kernel_rfl) (by kernel_rfl) (by kernel_rfl) (by kernel_rfl) (by kernel_rfl) (by kernel_rfl) (by kernel_rfl) bb_4.size ?_ ?_
      ·
        refine pk_cons rfl rfl (st_load4P f1_4 f1'_4 (by simp) e3_4 hN_4 (by kernel_rfl) rfl) ?_
        refine pk_cons rfl rfl (st_call1 hN_4 (by kernel_rfl) (by kernel_rfl) (by kernel_rfl) rfl rfl fun w x v1 hC h1 => tz (Floor_9 (pm (by decide) h1))) ?_
        refine pk_cons rfl rfl (st_call1 hN_4 (by kernel_rfl) (by kernel_rfl) (by kernel_rfl) rfl rfl fun w x v1 hC h1 => tp (wholeF (rr h1) (by decide))) ?_
        refine pk_cons rfl rfl (st_allocP hN_4 (by kernel_rfl) (Nat.le_refl _) rfl) ?_
        refine pk_cons rfl rfl (st_putP hN_4 (by kernel_rfl) (by kernel_rfl) (by kernel_rfl) rfl rfl rfl) ?_
        exact pk_nil rfl
      intro W_5 x hC hall
      refine then_n ?_
      obtain ⟨a_5, ha⟩ : ∃ a, a = putE x a_4 [(0, some 81), (1, some 82), (2, some 83), (3, some 8), (4, none)] := ⟨_, rfl⟩
      rw [← ha]
      have hN_5 := size_behind ha hN_4
      have hD_5 := defers_behind ha hD_4
      have bb_5 := bb_4.trans hC.below
      have e3_5 := slot_old ha (by kernel_rfl) e3_4
      have e4_5 := slot_old ha (by kernel_rfl) e4_4
      have e5_5 := slot_old ha (by kernel_rfl) e5_4
      have e13_5 := slot_old ha (by kernel_rfl) e13_4
      have e34_5 := slot_old ha (by kernel_rfl) e34_4
      have e7_5 := slot_old ha (by kernel_rfl) e7_4
      have e80_5 := slot_old ha (by kernel_rfl) e80_4
      have f1_5 := hC.at0 f1_4
      have f1'_5 := hC.at0 f1'_4
      have f2_5 := hC.at0 f2_4
      have f2'_5 := hC.at0 f2'_4
      have f3_5 := hC.at0 f3_4
      have f3'_5 := hC.at0 f3'_4
      obtain ⟨g8, hx, hge, p8_5, p8'_5⟩ := put_atP (show (kPutP 3 19 (((a.floor : Int) : Rat).num) ((((a.floor : Int) : Rat).den : Int))).sem _ _ _ _ from hall 4 (of_decide_eq_true (by kernel_rfl)))
      have e8_5 := (slot_new (t := 8) (i := 3) ha hN_4 (by kernel_rfl) (by kernel_rfl)).trans hx
      clear hx hge
      clear hall hC ha bb_4 hD_4 e3_4 e4_4 e5_4 e13_4 e34_4 e7_4 e80_4 f1_4 f1'_4 f2_4 f2'_4 f3_4 f3'_4
      repeat (first | refine wp_seq ?_ | (refine wp_skip ?_; refine then_n ?_))
      refine wp_region_law hN_5 w.heap.size
        [kP 9 (a.num) ((a.den : Int)), kP 19 (((a.floor : Int) : Rat).num) ((((a.floor : Int) : Rat).den : Int)), kP 39 ((a + (-((a.floor : Int) : Rat))).num) (((a + (-((a.floor : Int) : Rat))).den : Int)), PK.fresh 4, kPutP 3 39 ((a + (-((a.floor : Int) : Rat))).num) (((a + (-((a.floor : Int) : Rat))).den : Int))]
        [ [], [], [(0, some 84), (1, some 85)], [], [(3, some 9), (2, some 86)] ]
        [(0, some 84), (1, some 85), (2, some 86), (3, some 9), (4, none)] [] [] (by kernel_rfl) (by kernel_rfl) (by kernel_rfl) (by kernel_rfl) (by kernel_rfl) (by kernel_rfl) (by kernel_rfl) bb_5.size ?_ ?_
      ·
        refine pk_cons rfl rfl (st_load4P f1_5 f1'_5 (by simp) e3_5 hN_5 (by kernel_rfl) rfl) ?_
        refine pk_cons rfl rfl (st_load4P p8_5 p8'_5 (by simp) e8_5 hN_5 (by kernel_rfl) rfl) ?_
        refine pk_cons rfl rfl (st_call2 hN_5 (by kernel_rfl) (by kernel_rfl) (by kernel_rfl) (by kernel_rfl) (by kernel_rfl) rfl rfl rfl fun w x v1 v2 hC h1 h2 => tp (Sub_19 (pm (by decide) h1) (pm (by decide) h2))) ?_
        refine pk_cons rfl rfl (st_allocP hN_5 (by kernel_rfl) (Nat.le_refl _) rfl) ?_
        refine pk_cons rfl rfl (st_putP hN_5 (by kernel_rfl) (by kernel_rfl) (by kernel_rfl) rfl rfl rfl) ?_
        exact pk_nil rfl
      intro W_6 x hC hall
      refine then_n ?_
      obtain ⟨a_6, ha⟩ : ∃ a, a = putE x a_5 [(0, some 84), (1, some 85), (2, some 86), (3, some 9), (4, none)] := ⟨_, rfl⟩
      rw [← ha]
      have hN_6 := size_behind ha hN_5
      have hD_6 := defers_behind ha hD_5
      have bb_6 := bb_5.trans hC.below
      have e3_6 := slot_old ha (by kernel_rfl) e3_5
      have e4_6 := slot_old ha (by kernel_rfl) e4_5
      have e5_6 := slot_old ha (by kernel_rfl) e5_5
      have e13_6 := slot_old ha (by kernel_rfl) e13_5
      have e34_6 := slot_old ha (by kernel_rfl) e34_5
      have e7_6 := slot_old ha (by kernel_rfl) e7_5
      have e80_6 := slot_old ha (by kernel_rfl) e80_5
      have e8_6 := slot_old ha (by kernel_rfl) e8_5
      have f1_6 := hC.at0 f1_5
      have f1'_6 := hC.at0 f1'_5
      have f2_6 := hC.at0 f2_5
      have f2'_6 := hC.at0 f2'_5
      have f3_6 := hC.at0 f3_5
      have f3'_6 := hC.at0 f3'_5
      have p8_6 := hC.at0 p8_5
      have p8'_6 := hC.at0 p8'_5
      obtain ⟨g9, hx, hge, p9_6, p9'_6⟩ := put_atP (show (kPutP 3 39 ((a + (-((a.floor : Int) : Rat))).num) (((a + (-((a.floor : Int) : Rat))).den : Int))).sem _ _ _ _ from hall 4 (of_decide_eq_true (by kernel_rfl)))
      have e9_6 := (slot_new (t := 9) (i := 3) ha hN_5 (by kernel_rfl) (by kernel_rfl)).trans hx
      clear hx hge
      clear hall hC ha bb_5 hD_5 e3_5 e4_5 e5_5 e13_5 e34_5 e7_5 e80_5 e8_5 f1_5 f1'_5 f2_5 f2'_5 f3_5 f3'_5 p8_5 p8'_5
      repeat (first | refine wp_seq ?_ | (refine wp_skip ?_; refine then_n ?_))
      refine wp_region_law hN_6 w.heap.size
        [kP 19 (((a.floor : Int) : Rat).num) ((((a.floor : Int) : Rat).den : Int)), kP 9 (a.num) ((a.den : Int)), kIs (.int .i64 (ordQ ((a.floor : Int) : Rat) a)), kIs (.bool false), kIs (.bool false), kP 39 ((a + (-((a.floor : Int) : Rat))).num) (((a + (-((a.floor : Int) : Rat))).den : Int)), kZ 1 ((1 : Int)), kP 9 ((1 : Rat).num) (((1 : Rat).den : Int)), kIs (.int .i64 (ordQ (a + (-((a.floor : Int) : Rat))) (1 : Rat))), kIs (.bool false), kIs (.bool false)]
        [ [], [], [(0, some 87), (1, some 88)], [(2, some 89)], [(3, some 90)], [], [], [(6, some 93)], [(5, some 92), (7, some 94)], [(8, some 95)], [(4, some 91), (9, some 96)] ]
        [(0, some 87), (1, some 88), (2, some 89), (3, some 90), (4, some 91), (5, some 92), (6, some 93), (7, some 94), (8, some 95), (9, some 96), (10, some 97)] [(4, false)] [] (by kernel_rfl) (by kernel_rfl) (by kernel_rfl) (by kernel_rfl) (by kernel_rfl) (by kernel_rfl) (by kernel_rfl) bb_6.size ?_ ?_
      ·
        refine pk_cons rfl rfl (st_load4P p8_6 p8'_6 (by simp) e8_6 hN_6 (by kernel_rfl) rfl) ?_
        refine pk_cons rfl rfl (st_load4P f1_6 f1'_6 (by simp) e3_6 hN_6 (by kernel_rfl) rfl) ?_
        refine pk_cons rfl rfl (st_call2 hN_6 (by kernel_rfl) (by kernel_rfl) (by kernel_rfl) (by kernel_rfl) (by kernel_rfl) rfl rfl rfl fun w x v1 v2 hC h1 h2 => ti (Cmp_19 (pm (by decide) h1) (pm (by decide) h2))) ?_
        refine pk_cons rfl rfl (st_pureV [.int .i64 (ordQ ((a.floor : Int) : Rat) a)] [] (.bool (decide (ordQ ((a.floor : Int) : Rat) a > 0))) (.bool false) (congrArg Value.bool (decide_eq_false (Int.not_lt.2 (ordQ_le (Rat.floor_le a))))) rfl hN_6 (by kernel_rfl) (by kernel_rfl) (by kernel_rfl) old0 (by kernel_rfl) (by kernel_rfl) (by kernel_rfl) (fun _ => by kernel_rfl)) ?_
        refine pk_cons rfl rfl (st_pure [.bool false] [] (.bool false) rfl hN_6 (by kernel_rfl) (by kernel_rfl) (by kernel_rfl) old0 (by kernel_rfl) (by kernel_rfl) (by kernel_rfl) (fun _ => by kernel_rfl)) ?_
        refine pk_cons rfl rfl (st_load4P p9_6 p9'_6 (by simp) e9_6 hN_6 (by kernel_rfl) rfl) ?_
        refine pk_cons rfl rfl (st_call0 [.int .i64 (1)] hN_6 (by kernel_rfl) (by kernel_rfl) rfl rfl fun w x hC => tz (z_of (1) 1 (by decide) (by decide) (by decide))) ?_
        refine pk_cons rfl rfl (st_call1 hN_6 (by kernel_rfl) (by kernel_rfl) (by kernel_rfl) rfl rfl fun w x v1 hC h1 => tp (whole1 (rr h1) (by decide))) ?_
        refine pk_cons rfl rfl (st_call2 hN_6 (by kernel_rfl) (by kernel_rfl) (by kernel_rfl) (by kernel_rfl) (by kernel_rfl) rfl rfl rfl fun w x v1 v2 hC h1 h2 => ti (Cmp_39 (pm (by decide) h1) (pm (by decide) h2))) ?_
        refine pk_cons rfl rfl (st_pureV [.int .i64 (ordQ (a + (-((a.floor : Int) : Rat))) (1 : Rat))] [] (.bool (decide (ordQ (a + (-((a.floor : Int) : Rat))) (1 : Rat) ≥ 0))) (.bool false) (congrArg Value.bool (decide_eq_false (ordQ_ge (floor_gap a)))) rfl hN_6 (by kernel_rfl) (by kernel_rfl) (by kernel_rfl) old0 (by kernel_rfl) (by kernel_rfl) (by kernel_rfl) (fun _ => by kernel_rfl)) ?_
        refine pk_cons rfl rfl (st_pure [.bool false, .bool false] [] (.bool false) rfl hN_6 (by kernel_rfl) (by kernel_rfl) (by kernel_rfl) old0 (by kernel_rfl) (by kernel_rfl) (by kernel_rfl) (fun _ => by kernel_rfl)) ?_
        exact pk_nil rfl
      intro W_7 x hC hall
      refine then_n ?_
      obtain ⟨a_7, ha⟩ : ∃ a, a = putE x a_6 [(0, some 87), (1, some 88), (2, some 89), (3, some 90), (4, some 91), (5, some 92), (6, some 93), (7, some 94), (8, some 95), (9, some 96), (10, some 97)] := ⟨_, rfl⟩
      rw [← ha]
      have hN_7 := size_behind ha hN_6
      have hD_7 := defers_behind ha hD_6
      have bb_7 := bb_6.trans hC.below
      have e3_7 := slot_old ha (by kernel_rfl) e3_6
      have e4_7 := slot_old ha (by kernel_rfl) e4_6
      have e5_7 := slot_old ha (by kernel_rfl) e5_6
      have e13_7 := slot_old ha (by kernel_rfl) e13_6
      have e34_7 := slot_old ha (by kernel_rfl) e34_6
      have e7_7 := slot_old ha (by kernel_rfl) e7_6
      have e80_7 := slot_old ha (by kernel_rfl) e80_6
      have e8_7 := slot_old ha (by kernel_rfl) e8_6
      have e9_7 := slot_old ha (by kernel_rfl) e9_6
      have f1_7 := hC.at0 f1_6
      have f1'_7 := hC.at0 f1'_6
      have f2_7 := hC.at0 f2_6
      have f2'_7 := hC.at0 f2'_6
      have f3_7 := hC.at0 f3_6
      have f3'_7 := hC.at0 f3'_6
      have p8_7 := hC.at0 p8_6
      have p8'_7 := hC.at0 p8'_6
      have p9_7 := hC.at0 p9_6
      have p9'_7 := hC.at0 p9'_6
      have e97_7 := (slot_new (t := 97) (i := 10) ha hN_6 (by kernel_rfl) (by kernel_rfl)).trans (show x 10 = .bool false from hall 10 (of_decide_eq_true (by kernel_rfl)))
      clear hall hC ha bb_6 hD_6 e3_6 e4_6 e5_6 e13_6 e34_6 e7_6 e80_6 e8_6 e9_6 f1_6 f1'_6 f2_6 f2'_6 f3_6 f3'_6 p8_6 p8'_6 p9_6 p9'_6
      refine wp_cond_false e97_7 ?_
      repeat (first | refine wp_seq ?_ | (refine wp_skip ?_; refine then_n ?_))
      refine wp_region_law hN_7 w.heap.size
        [kP 9 (a.num) ((a.den : Int)), kIs (.string (textQ a)), kPT 19 (a.num) ((a.den : Int)) (.bool true), kPT 19 (a.num) ((a.den : Int)) (.bool true), kP 19 (a.num) ((a.den : Int)), kIs (.bool true), PK.fresh 4, kPutP 6 19 (a.num) ((a.den : Int)), kIs (.bool true)]
        [ [], [(0, some 99)], [(1, some 100)], [(2, some 101)], [(3, some 98)], [(3, some 98)], [], [(6, some 10), (4, some 102)], [(5, some 103)] ]
        [(0, some 99), (1, some 100), (2, some 101), (3, some 98), (4, some 102), (5, some 103), (6, some 10), (7, none), (8, some 11)] [] [] (by kernel_rfl) (by kernel_rfl) (by kernel_rfl) (by kernel_rfl) (by kernel_rfl) (by kernel_rfl) (by kernel_rfl) bb_7.size ?_ ?_
      ·
        refine pk_cons rfl rfl (st_load4P f1_7 f1'_7 (by simp) e3_7 hN_7 (by kernel_rfl) rfl) ?_
        refine pk_cons rfl rfl (st_call1 hN_7 (by kernel_rfl) (by kernel_rfl) (by kernel_rfl) rfl rfl fun w x v1 hC h1 => ti (Text_9 (Lib.hid ⟨HT.out.1.below (bb_7.trans hC.below) HT.out.2, Nat.le_trans HT.out.2 (bb_7.trans hC.below).size⟩) (pm (by decide) h1))) ?_
        refine pk_cons rfl rfl (st_call1 hN_7 (by kernel_rfl) (by kernel_rfl) (by kernel_rfl) rfl rfl fun w x v1 hC h1 => tpt (parse_q h1 HQ.out.1 HQ.out.2 (Lib.hid ⟨HT.out.1.below (bb_7.trans hC.below) HT.out.2, Nat.le_trans HT.out.2 (bb_7.trans hC.below).size⟩) (HM.out.below (bb_7.trans hC.below)))) ?_
        refine pk_cons rfl rfl (st_move hN_7 (by kernel_rfl) (by kernel_rfl) rfl rfl) ?_
        refine pk_cons rfl rfl (st_ext hN_7 (by kernel_rfl) (by kernel_rfl) rfl rfl ext_p) ?_
        refine pk_cons rfl rfl (st_ext hN_7 (by kernel_rfl) (by kernel_rfl) rfl rfl ext_v) ?_
        refine pk_cons rfl rfl (st_allocP hN_7 (by kernel_rfl) (Nat.le_refl _) rfl) ?_
        refine pk_cons rfl rfl (st_putP hN_7 (by kernel_rfl) (by kernel_rfl) (by kernel_rfl) rfl rfl rfl) ?_
        refine pk_cons rfl rfl (st_pure [.bool true] [] (.bool true) rfl hN_7 (by kernel_rfl) (by kernel_rfl) (by kernel_rfl) old0 (by kernel_rfl) (by kernel_rfl) (by kernel_rfl) (fun _ => by kernel_rfl)) ?_
        exact pk_nil rfl
      intro W_8 x hC hall
      refine then_n ?_
      obtain ⟨a_8, ha⟩ : ∃ a, a = putE x a_7 [(0, some 99), (1, some 100), (2, some 101), (3, some 98), (4, some 102), (5, some 103), (6, some 10), (7, none), (8, some 11)] := ⟨_, rfl⟩
      rw [← ha]
      have hN_8 := size_behind ha hN_7
      have hD_8 := defers_behind ha hD_7
      have bb_8 := bb_7.trans hC.below
      have e3_8 := slot_old ha (by kernel_rfl) e3_7
      have e4_8 := slot_old ha (by kernel_rfl) e4_7
      have e5_8 := slot_old ha (by kernel_rfl) e5_7
      have e13_8 := slot_old ha (by kernel_rfl) e13_7
      have e34_8 := slot_old ha (by kernel_rfl) e34_7
      have e7_8 := slot_old ha (by kernel_rfl) e7_7
      have e80_8 := slot_old ha (by kernel_rfl) e80_7
      have e8_8 := slot_old ha (by kernel_rfl) e8_7
      have e9_8 := slot_old ha (by kernel_rfl) e9_7
      have e97_8 := slot_old ha (by kernel_rfl) e97_7
      have f1_8 := hC.at0 f1_7
      have f1'_8 := hC.at0 f1'_7
      have f2_8 := hC.at0 f2_7
      have f2'_8 := hC.at0 f2'_7
      have f3_8 := hC.at0 f3_7
      have f3'_8 := hC.at0 f3'_7
      have p8_8 := hC.at0 p8_7
      have p8'_8 := hC.at0 p8'_7
      have p9_8 := hC.at0 p9_7
      have p9'_8 := hC.at0 p9'_7
      obtain ⟨g10, hx, hge, p10_8, p10'_8⟩ := put_atP (show (kPutP 6 19 (a.num) ((a.den : Int))).sem _ _ _ _ from hall 7 (of_decide_eq_true (by kernel_rfl)))
      have e10_8 := (slot_new (t := 10) (i := 6) ha hN_7 (by kernel_rfl) (by kernel_rfl)).trans hx
      clear hx hge
      have e11_8 := (slot_new (t := 11) (i := 8) ha hN_7 (by kernel_rfl) (by kernel_rfl)).trans (show x 8 = .bool true from hall 8 (of_decide_eq_true (by kernel_rfl)))
      clear hall hC ha bb_7 hD_7 e3_7 e4_7 e5_7 e13_7 e34_7 e7_7 e80_7 e8_7 e9_7 e97_7 f1_7 f1'_7 f2_7 f2'_7 f3_7 f3'_7 p8_7 p8'_7 p9_7 p9'_7
      repeat (first | refine wp_seq ?_ | (refine wp_skip ?_; refine then_n ?_))
      refine wp_region_law hN_8 w.heap.size
        [kIs (.bool true), kIs (.bool true), kP 19 (a.num) ((a.den : Int)), kP 9 (a.num) ((a.den : Int)), kIs (.bool true), kIs (.bool true), kIs (.bool true), kP 9 (a.num) ((a.den : Int)), kIs (.string (textQ a)), kP 9 (b.num) ((b.den : Int)), kIs (.string (textQ b)), kIs (.bool true), kIs (.int .i64 (0)), kIs (.bool true), kIs (.bool true), kIs (.bool true), kIs (.bool true)]
        [ [], [(0, some 104)], [], [], [(2, some 106), (3, some 107)], [(1, some 105), (4, some 108)], [(5, some 109)], [], [(7, some 111)], [], [(9, some 113)], [(8, some 112), (10, some 114)], [], [(12, some 116)], [(11, some 115), (13, some 117)], [(6, some 110), (14, some 118)], [(15, some 119)] ]
        [(0, some 104), (1, some 105), (2, some 106), (3, some 107), (4, some 108), (5, some 109), (6, some 110), (7, some 111), (8, some 112), (9, some 113), (10, some 114), (11, some 115), (12, some 116), (13, some 117), (14, some 118), (15, some 119), (16, some 6)] [(1, true), (6, true)] [] (by kernel_rfl) (by kernel_rfl) (by kernel_rfl) (by kernel_rfl) (by kernel_rfl) (by kernel_rfl) (by kernel_rfl) bb_8.size ?_ ?_
      ·
        refine pk_cons rfl rfl (st_pure [] [(11, .bool true)] (.bool true) rfl hN_8 (by kernel_rfl) (by kernel_rfl) (by kernel_rfl) (old1 e11_8) (by kernel_rfl) (by kernel_rfl) (by kernel_rfl) (fun _ => by kernel_rfl)) ?_
        refine pk_cons rfl rfl (st_pure [.bool true] [] (.bool true) rfl hN_8 (by kernel_rfl) (by kernel_rfl) (by kernel_rfl) old0 (by kernel_rfl) (by kernel_rfl) (by kernel_rfl) (fun _ => by kernel_rfl)) ?_
        refine pk_cons rfl rfl (st_load4P p10_8 p10'_8 (by simp) e10_8 hN_8 (by kernel_rfl) rfl) ?_
        refine pk_cons rfl rfl (st_load4P f1_8 f1'_8 (by simp) e3_8 hN_8 (by kernel_rfl) rfl) ?_
        refine pk_cons rfl rfl (st_call2 hN_8 (by kernel_rfl) (by kernel_rfl) (by kernel_rfl) (by kernel_rfl) (by kernel_rfl) rfl rfl rfl fun w x v1 v2 hC h1 h2 => ti (lawSame_19 (pm (by decide) h1) (pm (by decide) h2))) ?_
        refine pk_cons rfl rfl (st_pure [.bool true, .bool true] [] (.bool true) rfl hN_8 (by kernel_rfl) (by kernel_rfl) (by kernel_rfl) old0 (by kernel_rfl) (by kernel_rfl) (by kernel_rfl) (fun _ => by kernel_rfl)) ?_
        refine pk_cons rfl rfl (st_pure [.bool true] [] (.bool true) rfl hN_8 (by kernel_rfl) (by kernel_rfl) (by kernel_rfl) old0 (by kernel_rfl) (by kernel_rfl) (by kernel_rfl) (fun _ => by kernel_rfl)) ?_
        refine pk_cons rfl rfl (st_load4P f1_8 f1'_8 (by simp) e3_8 hN_8 (by kernel_rfl) rfl) ?_
        refine pk_cons rfl rfl (st_call1 hN_8 (by kernel_rfl) (by kernel_rfl) (by kernel_rfl) rfl rfl fun w x v1 hC h1 => ti (Text_9 (Lib.hid ⟨HT.out.1.below (bb_8.trans hC.below) HT.out.2, Nat.le_trans HT.out.2 (bb_8.trans hC.below).size⟩) (pm (by decide) h1))) ?_
        refine pk_cons rfl rfl (st_load4P f2_8 f2'_8 (by simp) e4_8 hN_8 (by kernel_rfl) rfl) ?_
        refine pk_cons rfl rfl (st_call1 hN_8 (by kernel_rfl) (by kernel_rfl) (by kernel_rfl) rfl rfl fun w x v1 hC h1 => ti (Text_9 (Lib.hid ⟨HT.out.1.below (bb_8.trans hC.below) HT.out.2, Nat.le_trans HT.out.2 (bb_8.trans hC.below).size⟩) (pm (by decide) h1))) ?_
        refine pk_cons rfl rfl (st_pureV [.string (textQ a), .string (textQ b)] [] (.bool ((textQ a).toList == (textQ b).toList)) (.bool true) (congrArg Value.bool (by rw [hs]; exact beq_self_eq_true _)) rfl hN_8 (by kernel_rfl) (by kernel_rfl) (by kernel_rfl) old0 (by kernel_rfl) (by kernel_rfl) (by kernel_rfl) (fun _ => by kernel_rfl)) ?_
        refine pk_cons rfl rfl (st_pure [] [(7, .int .i64 (0))] (.int .i64 (0)) rfl hN_8 (by kernel_rfl) (by kernel_rfl) (by kernel_rfl) (old1 e7_8) (by kernel_rfl) (by kernel_rfl) (by kernel_rfl) (fun _ => by kernel_rfl)) ?_
        refine pk_cons rfl rfl (st_pure [.int .i64 (0)] [] (.bool true) rfl hN_8 (by kernel_rfl) (by kernel_rfl) (by kernel_rfl) old0 (by kernel_rfl) (by kernel_rfl) (by kernel_rfl) (fun _ => by kernel_rfl)) ?_
        refine pk_cons rfl rfl (st_pure [.bool true, .bool true] [] (.bool true) rfl hN_8 (by kernel_rfl) (by kernel_rfl) (by kernel_rfl) old0 (by kernel_rfl) (by kernel_rfl) (by kernel_rfl) (fun _ => by kernel_rfl)) ?_
        refine pk_cons rfl rfl (st_pure [.bool true, .bool true] [] (.bool true) rfl hN_8 (by kernel_rfl) (by kernel_rfl) (by kernel_rfl) old0 (by kernel_rfl) (by kernel_rfl) (by kernel_rfl) (fun _ => by kernel_rfl)) ?_
        refine pk_cons rfl rfl (st_pure [.bool true] [] (.bool true) rfl hN_8 (by kernel_rfl) (by kernel_rfl) (by kernel_rfl) old0 (by kernel_rfl) (by kernel_rfl) (by kernel_rfl) (fun _ => by kernel_rfl)) ?_
        exact pk_nil rfl
      intro W_9 x hC hall
      refine then_n ?_
      obtain ⟨a_9, ha⟩ : ∃ a, a = putE x a_8 [(0, some 104), (1, some 105), (2, some 106), (3, some 107), (4, some 108), (5, some 109), (6, some 110), (7, some 111), (8, some 112), (9, some 113), (10, some 114), (11, some 115), (12, some 116), (13, some 117), (14, some 118), (15, some 119), (16, some 6)] := ⟨_, rfl⟩
      rw [← ha]
      have hN_9 := size_behind ha hN_8
      have hD_9 := defers_behind ha hD_8
      have bb_9 := bb_8.trans hC.below
      have e3_9 := slot_old ha (by kernel_rfl) e3_8
      have e4_9 := slot_old ha (by kernel_rfl) e4_8
      have e5_9 := slot_old ha (by kernel_rfl) e5_8
      have e13_9 := slot_old ha (by kernel_rfl) e13_8
      have e34_9 := slot_old ha (by kernel_rfl) e34_8
      have e7_9 := slot_old ha (by kernel_rfl) e7_8
      have e80_9 := slot_old ha (by kernel_rfl) e80_8
      have e8_9 := slot_old ha (by kernel_rfl) e8_8
      have e9_9 := slot_old ha (by kernel_rfl) e9_8
      have e97_9 := slot_old ha (by kernel_rfl) e97_8
      have e10_9 := slot_old ha (by kernel_rfl) e10_8
      have e11_9 := slot_old ha (by kernel_rfl) e11_8
      have f1_9 := hC.at0 f1_8
      have f1'_9 := hC.at0 f1'_8
      have f2_9 := hC.at0 f2_8
      have f2'_9 := hC.at0 f2'_8
      have f3_9 := hC.at0 f3_8
      have f3'_9 := hC.at0 f3'_8
      have p8_9 := hC.at0 p8_8
      have p8'_9 := hC.at0 p8'_8
      have p9_9 := hC.at0 p9_8
      have p9'_9 := hC.at0 p9'_8
      have p10_9 := hC.at0 p10_8
      have p10'_9 := hC.at0 p10'_8
      have e6_9 := (slot_new (t := 6) (i := 16) ha hN_8 (by kernel_rfl) (by kernel_rfl)).trans (show x 16 = .bool true from hall 16 (of_decide_eq_true (by kernel_rfl)))
      clear hall hC ha bb_8 hD_8 e3_8 e4_8 e5_8 e13_8 e34_8 e7_8 e80_8 e8_8 e9_8 e97_8 e10_8 e11_8 f1_8 f1'_8 f2_8 f2'_8 f3_8 f3'_8 p8_8 p8'_8 p9_8 p9'_8 p10_8 p10'_8
      repeat (first | refine wp_seq ?_ | (refine wp_skip ?_; refine then_n ?_))
      refine wp_ret ?_
      repeat (refine then_r ?_)
      exact ret_one (t := 6) rfl hD_9 e6_9 ⟨rfl, bb_9⟩
    ·
      replace hbc := Rat.not_le.1 hbc
      refine wp_region_law hN_3 w.heap.size
        [kP 9 (b.num) ((b.den : Int)), kP 9 (a.num) ((a.den : Int)), kIs (.int .i64 (0)), kIs (.int .i64 (0)), kIs (.int .i64 (0)), kIs (.bool false), kIs (.bool false), kIs (.int .i64 (0)), kIs (.bool true), kP 9 (a.num) ((a.den : Int)), kP 9 (b.num) ((b.den : Int)), kIs (.bool true), kIs (.bool false), kIs (.bool false), kIs (.bool false), kIs (.int .i64 (0)), kIs (.bool true), kIs (.bool true), kP 9 (b.num) ((b.den : Int)), kP 9 (c.num) ((c.den : Int)), kIs (.int .i64 (ordQ b c)), kIs (.bool false), kIs (.bool false), kIs (.bool false), kIs undef, kIs undef, kIs undef, kIs undef, kIs (.bool false), kIs (.bool false), kIs (.bool false), kP 9 (a.num) ((a.den : Int)), kP 9 (c.num) ((c.den : Int)), kPRs [(9, a.num, (a.den : Int)), (9, c.num, (c.den : Int))], kP 19 ((a + c).num) (((a + c).den : Int)), kP 9 (b.num) ((b.den : Int)), kP 9 (c.num) ((c.den : Int)), kPRs [(9, b.num, (b.den : Int)), (9, c.num, (c.den : Int))], kP 19 ((b + c).num) (((b + c).den : Int)), kIs (.int .i64 (0)), kIs (.int .i64 (0)), kIs (.bool false), kIs (.bool false)]
        [ [], [], [(0, some 38), (1, some 39)], [], [(3, some 41)], [(2, some 40), (4, some 42)], [(5, some 43)], [], [(7, some 45)], [], [], [(9, some 47), (10, some 48)], [(8, some 46), (11, some 49)], [(6, some 44), (12, some 50)], [(13, some 51)], [], [(15, some 53)], [(16, some 54)], [], [], [(18, some 56), (19, some 57)], [(20, some 58)], [(17, some 55), (21, some 59)], [(22, some 60)], [], [], [(24, some 62), (25, some 63)], [(26, some 64)], [(23, some 61), (27, some 65)], [(14, some 52), (28, some 66)], [(29, some 67)], [], [], [(31, some 69), (32, some 70)], [(33, some 71)], [], [], [(35, some 73), (36, some 74)], [(37, some 75)], [(34, some 72), (38, some 76)], [], [(39, some 77), (40, some 78)], [(30, some 68), (41, some 79)] ]
        [(0, some 38), (1, some 39), (2, some 40), (3, some 41), (4, some 42), (5, some 43), (6, some 44), (7, some 45), (8, some 46), (9, some 47), (10, some 48), (11, some 49), (12, some 50), (13, some 51), (14, some 52), (15, some 53), (16, some 54), (17, some 55), (18, some 56), (19, some 57), (20, some 58), (21, some 59), (22, some 60), (23, some 61), (24, some 62), (25, some 63), (26, some 64), (27, some 65), (28, some 66), (29, some 67), (30, some 68), (31, some 69), (32, some 70), (33, some 71), (34, some 72), (35, some 73), (36, some 74), (37, some 75), (38, some 76), (39, some 77), (40, some 78), (41, some 79), (42, some 80)] [(6, false), (14, false), (17, true), (23, false), (30, false)] [24, 25, 26, 27] (by kernel_rfl) (by kernel_rfl) (by kernel_rfl) (by kernel_rfl) (by kernel_rfl) (by kernel_rfl) (by kernel_rfl) bb_3.size ?_ ?_
      ·
        refine pk_cons rfl rfl (st_load4P f2_3 f2'_3 (by simp) e4_3 hN_3 (by kernel_rfl) rfl) ?_
        refine pk_cons rfl rfl (st_load4P f1_3 f1'_3 (by simp) e3_3 hN_3 (by kernel_rfl) rfl) ?_
        refine pk_cons rfl rfl (st_call2 hN_3 (by kernel_rfl) (by kernel_rfl) (by kernel_rfl) (by kernel_rfl) (by kernel_rfl) rfl rfl rfl fun w x v1 v2 hC h1 h2 => ti (cmpq_is (ordQ_eq hs.symm) (Cmp_9 (pm (by decide) h1) (pm (by decide) h2)))) ?_
        refine pk_cons rfl rfl (st_pure [] [(7, .int .i64 (0))] (.int .i64 (0)) rfl hN_3 (by kernel_rfl) (by kernel_rfl) (by kernel_rfl) (old1 e7_3) (by kernel_rfl) (by kernel_rfl) (by kernel_rfl) (fun _ => by kernel_rfl)) ?_
        refine pk_cons rfl rfl (st_pure [.int .i64 (0)] [] (.int .i64 (0)) rfl hN_3 (by kernel_rfl) (by kernel_rfl) (by kernel_rfl) old0 (by kernel_rfl) (by kernel_rfl) (by kernel_rfl) (fun _ => by kernel_rfl)) ?_
        refine pk_cons rfl rfl (st_pure [.int .i64 (0), .int .i64 (0)] [] (.bool false) rfl hN_3 (by kernel_rfl) (by kernel_rfl) (by kernel_rfl) old0 (by kernel_rfl) (by kernel_rfl) (by kernel_rfl) (fun _ => by kernel_rfl)) ?_
        refine pk_cons rfl rfl (st_pure [.bool false] [] (.bool false) rfl hN_3 (by kernel_rfl) (by kernel_rfl) (by kernel_rfl) old0 (by kernel_rfl) (by kernel_rfl) (by kernel_rfl) (fun _ => by kernel_rfl)) ?_
        refine pk_cons rfl rfl (st_pure [] [(7, .int .i64 (0))] (.int .i64 (0)) rfl hN_3 (by kernel_rfl) (by kernel_rfl) (by kernel_rfl) (old1 e7_3) (by kernel_rfl) (by kernel_rfl) (by kernel_rfl) (fun _ => by kernel_rfl)) ?_
        refine pk_cons rfl rfl (st_pure [.int .i64 (0)] [] (.bool true) rfl hN_3 (by kernel_rfl) (by kernel_rfl) (by kernel_rfl) old0 (by kernel_rfl) (by kernel_rfl) (by kernel_rfl) (fun _ => by kernel_rfl)) ?_
        refine pk_cons rfl rfl (st_load4P f1_3 f1'_3 (by simp) e3_3 hN_3 (by kernel_rfl) rfl) ?_
        refine pk_cons rfl rfl (st_load4P f2_3 f2'_3 (by simp) e4_3 hN_3 (by kernel_rfl) rfl) ?_
        refine pk_cons rfl rfl (st_call2 hN_3 (by kernel_rfl) (by kernel_rfl) (by kernel_rfl) (by kernel_rfl) (by kernel_rfl) rfl rfl rfl fun w x v1 v2 hC h1 h2 => ti (lawSame_9 (pm (by decide) (pe (hs) h1)) (pm (by decide) h2))) ?_
        refine pk_cons rfl rfl (st_pure [.bool true, .bool true] [] (.bool false) rfl hN_3 (by kernel_rfl) (by kernel_rfl) (by kernel_rfl) old0 (by kernel_rfl) (by kernel_rfl) (by kernel_rfl) (fun _ => by kernel_rfl)) ?_
        refine pk_cons rfl rfl (st_pure [.bool false, .bool false] [] (.bool false) rfl hN_3 (by kernel_rfl) (by kernel_rfl) (by kernel_rfl) old0 (by kernel_rfl) (by kernel_rfl) (by kernel_rfl) (fun _ => by kernel_rfl)) ?_
        refine pk_cons rfl rfl (st_pure [.bool false] [] (.bool false) rfl hN_3 (by kernel_rfl) (by kernel_rfl) (by kernel_rfl) old0 (by kernel_rfl) (by kernel_rfl) (by kernel_rfl) (fun _ => by kernel_rfl)) ?_
        refine pk_cons rfl rfl (st_pure [] [(7, .int .i64 (0))] (.int .i64 (0)) rfl hN_3 (by kernel_rfl) (by kernel_rfl) (by kernel_rfl) (old1 e7_3) (by kernel_rfl) (by kernel_rfl) (by kernel_rfl) (fun _ => by kernel_rfl)) ?_
        refine pk_cons rfl rfl (st_pure [.int .i64 (0)] [] (.bool true) rfl hN_3 (by kernel_rfl) (by kernel_rfl) (by kernel_rfl) old0 (by kernel_rfl) (by kernel_rfl) (by kernel_rfl) (fun _ => by kernel_rfl)) ?_
        refine pk_cons rfl rfl (st_pure [.bool true] [] (.bool true) rfl hN_3 (by kernel_rfl) (by kernel_rfl) (by kernel_rfl) old0 (by kernel_rfl) (by kernel_rfl) (by kernel_rfl) (fun _ => by kernel_rfl)) ?_
        refine pk_cons rfl rfl (st_load4P f2_3 f2'_3 (by simp) e4_3 hN_3 (by kernel_rfl) rfl) ?_
        refine pk_cons rfl rfl (st_load4P f3_3 f3'_3 (by simp) e5_3 hN_3 (by kernel_rfl) rfl) ?_
        refine pk_cons rfl rfl (st_call2 hN_3 (by kernel_rfl) (by kernel_rfl) (by kernel_rfl) (by kernel_rfl) (by kernel_rfl) rfl rfl rfl fun w x v1 v2 hC h1 h2 => ti (Cmp_9 (pm (by decide) h1) (pm (by decide) h2))) ?_
        refine pk_cons rfl rfl (st_pureV [.int .i64 (ordQ b c)] [] (.bool (decide (ordQ b c ≤ 0))) (.bool false) (congrArg Value.bool (decide_eq_false (ordQ_nle hbc))) rfl hN_3 (by kernel_rfl) (by kernel_rfl) (by kernel_rfl) old0 (by kernel_rfl) (by kernel_rfl) (by kernel_rfl) (fun _ => by kernel_rfl)) ?_
        refine pk_cons rfl rfl (st_pure [.bool true, .bool false] [] (.bool false) rfl hN_3 (by kernel_rfl) (by kernel_rfl) (by kernel_rfl) old0 (by kernel_rfl) (by kernel_rfl) (by kernel_rfl) (fun _ => by kernel_rfl)) ?_
        refine pk_cons rfl rfl (st_pure [.bool false] [] (.bool false) rfl hN_3 (by kernel_rfl) (by kernel_rfl) (by kernel_rfl) old0 (by kernel_rfl) (by kernel_rfl) (by kernel_rfl) (fun _ => by kernel_rfl)) ?_
        refine pk_skip rfl ?_
        refine pk_skip rfl ?_
        refine pk_skip rfl ?_
        refine pk_skip rfl ?_
        refine pk_cons rfl rfl (st_pure [.bool false, undef] [] (.bool false) rfl hN_3 (by kernel_rfl) (by kernel_rfl) (by kernel_rfl) old0 (by kernel_rfl) (by kernel_rfl) (by kernel_rfl) (fun _ => by kernel_rfl)) ?_
        refine pk_cons rfl rfl (st_pure [.bool false, .bool false] [] (.bool false) rfl hN_3 (by kernel_rfl) (by kernel_rfl) (by kernel_rfl) old0 (by kernel_rfl) (by kernel_rfl) (by kernel_rfl) (fun _ => by kernel_rfl)) ?_
        refine pk_cons rfl rfl (st_pure [.bool false] [] (.bool false) rfl hN_3 (by kernel_rfl) (by kernel_rfl) (by kernel_rfl) old0 (by kernel_rfl) (by kernel_rfl) (by kernel_rfl) (fun _ => by kernel_rfl)) ?_
        refine pk_cons rfl rfl (st_load4P f1_3 f1'_3 (by simp) e3_3 hN_3 (by kernel_rfl) rfl) ?_
        refine pk_cons rfl rfl (st_load4P f3_3 f3'_3 (by simp) e5_3 hN_3 (by kernel_rfl) rfl) ?_
        refine pk_cons rfl rfl (st_plist2 hN_3 (by kernel_rfl) (by kernel_rfl) (by kernel_rfl) (by kernel_rfl) (Nat.le_refl _) rfl rfl rfl) ?_
        refine pk_cons rfl rfl (st_call1 hN_3 (by kernel_rfl) (by kernel_rfl) (by kernel_rfl) rfl rfl fun w x v1 hC h1 => tp (Add2_9 (plm2 9 h1 (by decide) (by decide)))) ?_
        refine pk_cons rfl rfl (st_load4P f2_3 f2'_3 (by simp) e4_3 hN_3 (by kernel_rfl) rfl) ?_
        refine pk_cons rfl rfl (st_load4P f3_3 f3'_3 (by simp) e5_3 hN_3 (by kernel_rfl) rfl) ?_
        refine pk_cons rfl rfl (st_plist2 hN_3 (by kernel_rfl) (by kernel_rfl) (by kernel_rfl) (by kernel_rfl) (Nat.le_refl _) rfl rfl rfl) ?_
        refine pk_cons rfl rfl (st_call1 hN_3 (by kernel_rfl) (by kernel_rfl) (by kernel_rfl) rfl rfl fun w x v1 hC h1 => tp (Add2_9 (plm2 9 h1 (by decide) (by decide)))) ?_
        refine pk_cons rfl rfl (st_call2 hN_3 (by kernel_rfl) (by kernel_rfl) (by kernel_rfl) (by kernel_rfl) (by kernel_rfl) rfl rfl rfl fun w x v1 v2 hC h1 h2 => ti (cmpq_is (ordQ_eq (by rw [hs])) (Cmp_19 (pm (by decide) h1) (pm (by decide) h2)))) ?_
        refine pk_cons rfl rfl (st_pure [] [(7, .int .i64 (0))] (.int .i64 (0)) rfl hN_3 (by kernel_rfl) (by kernel_rfl) (by kernel_rfl) (old1 e7_3) (by kernel_rfl) (by kernel_rfl) (by kernel_rfl) (fun _ => by kernel_rfl)) ?_
        refine pk_cons rfl rfl (st_pure [.int .i64 (0), .int .i64 (0)] [] (.bool false) rfl hN_3 (by kernel_rfl) (by kernel_rfl) (by kernel_rfl) old0 (by kernel_rfl) (by kernel_rfl) (by kernel_rfl) (fun _ => by kernel_rfl)) ?_
        refine pk_cons rfl rfl (st_pure [.bool false, .bool false] [] (.bool false) rfl hN_3 (by kernel_rfl) (by kernel_rfl) (by kernel_rfl) old0 (by kernel_rfl) (by kernel_rfl) (by kernel_rfl) (fun _ => by kernel_rfl)) ?_
        exact pk_nil rfl
      intro W_4 x hC hall
      refine then_n ?_
      obtain ⟨a_4, ha⟩ : ∃ a, a = putE x a_3 [(0, some 38), (1, some 39), (2, some 40), (3, some 41), (4, some 42), (5, some 43), (6, some 44), (7, some 45), (8, some 46), (9, some 47), (10, some 48), (11, some 49), (12, some 50), (13, some 51), (14, some 52), (15, some 53), (16, some 54), (17, some 55), (18, some 56), (19, some 57), (20, some 58), (21, some 59), (22, some 60), (23, some 61), (24, some 62), (25, some 63), (26, some 64), (27, some 65), (28, some 66), (29, some 67), (30, some 68), (31, some 69), (32, some 70), (33, some 71), (34, some 72), (35, some 73), (36, some 74), (37, some 75), (38, some 76), (39, some 77), (40, some 78), (41, some 79), (42, some 80)] := ⟨_, rfl⟩
      rw [← ha]
      have hN_4 := size_behind ha hN_3
      have hD_4 := defers_behind ha hD_3
      have bb_4 := bb_3.trans hC.below
      have e3_4 := slot_old ha (by kernel_rfl) e3_3
      have e4_4 := slot_old ha (by kernel_rfl) e4_3
      have e5_4 := slot_old ha (by kernel_rfl) e5_3
      have e13_4 := slot_old ha (by kernel_rfl) e13_3
      have e34_4 := slot_old ha (by kernel_rfl) e34_3
      have e7_4 := slot_old ha (by kernel_rfl) e7_3
      have f1_4 := hC.at0 f1_3
      have f1'_4 := hC.at0 f1'_3
      have f2_4 := hC.at0 f2_3
      have f2'_4 := hC.at0 f2'_3
      have f3_4 := hC.at0 f3_3
      have f3'_4 := hC.at0 f3'_3
      have e80_4 := (slot_new (t := 80) (i := 42) ha hN_3 (by kernel_rfl) (by kernel_rfl)).trans (show x 42 = .bool false from hall 42 (of_decide_eq_true (by kernel_rfl)))
      clear hall hC ha bb_3 hD_3 e3_3 e4_3 e5_3 e13_3 e34_3 e7_3 f1_3 f1'_3 f2_3 f2'_3 f3_3 f3'_3
      refine wp_cond_false e80_4 ?_
      repeat (first | refine wp_seq ?_ | (refine wp_skip ?_; refine then_n ?_))
      refine wp_region_law hN_4 w.heap.size
        [kP 9 (a.num) ((a.den : Int)), kZ 10 (zq (a.num) ((a.den : Int))), kP 19 (((a.floor : Int) : Rat).num) ((((a.floor : Int) : Rat).den : Int)), PK.fresh 4, kPutP 3 19 (((a.floor : Int) : Rat).num) ((((a.floor : Int) : Rat).den : Int))]
        [ [], [(0, some 81)], [(1, some 82)], [], [(3, some 8), (2, some 83)] ]
        [(0, some 81), (1, some 82), (2, some 83), (3, some 8), (4, none)] [] [] (by kernel_rfl) (by kernel_rfl) (by kernel_rfl) (by kernel_rfl) (by kernel_rfl) (by kernel_rfl) (by kernel_rfl) bb_4.size ?_ ?_
      ·
        refine pk_cons rfl rfl (st_load4P f1_4 f1'_4 (by simp) e3_4 hN_4 (by kernel_rfl) rfl) ?_
        refine pk_cons rfl rfl (st_call1 hN_4 (by kernel_rfl) (by kernel_rfl) (by kernel_rfl) rfl rfl fun w x v1 hC h1 => tz (Floor_9 (pm (by decide) h1))) ?_
        refine pk_cons rfl rfl (st_call1 hN_4 (by kernel_rfl) (by kernel_rfl) (by kernel_rfl) rfl rfl fun w x v1 hC h1 => tp (wholeF (rr h1) (by decide))) ?_
        refine pk_cons rfl rfl (st_allocP hN_4 (by kernel_rfl) (Nat.le_refl _) rfl) ?_
        refine pk_cons rfl rfl (st_putP hN_4 (by kernel_rfl) (by kernel_rfl) (by kernel_rfl) rfl rfl rfl) ?_
        exact pk_nil rfl
      intro W_5 x hC hall
      refine then_n ?_
      obtain ⟨a_5, ha⟩ : ∃ a, a = putE x a_4 [(0, some 81), (1, some 82), (2, some 83), (3, some 8), (4, none)] := ⟨_, rfl⟩
      rw [← ha]
      have hN_5 := size_behind ha hN_4
      have hD_5 := defers_behind ha hD_4
      have bb_5 := bb_4.trans hC.below
      have e3_5 := slot_old ha (by kernel_rfl) e3_4
      have e4_5 := slot_old ha (by kernel_rfl) e4_4
      have e5_5 := slot_old ha (by kernel_rfl) e5_4
      have e13_5 := slot_old ha (by kernel_rfl) e13_4
      have e34_5 := slot_old ha (by kernel_rfl) e34_4
      have e7_5 := slot_old ha (by kernel_rfl) e7_4
      have e80_5 := slot_old ha (by kernel_rfl) e80_4
      have f1_5 := hC.at0 f1_4
      have f1'_5 := hC.at0 f1'_4
      have f2_5 := hC.at0 f2_4
      have f2'_5 := hC.at0 f2'_4
      have f3_5 := hC.at0 f3_4
      have f3'_5 := hC.at0 f3'_4
      obtain ⟨g8, hx, hge, p8_5, p8'_5⟩ := put_atP (show (kPutP 3 19 (((a.floor : Int) : Rat).num) ((((a.floor : Int) : Rat).den : Int))).sem _ _ _ _ from hall 4 (of_decide_eq_true (by kernel_rfl)))
      have e8_5 := (slot_new (t := 8) (i := 3) ha hN_4 (by kernel_rfl) (by kernel_rfl)).trans hx
      clear hx hge
      clear hall hC ha bb_4 hD_4 e3_4 e4_4 e5_4 e13_4 e34_4 e7_4 e80_4 f1_4 f1'_4 f2_4 f2'_4 f3_4 f3'_4
      repeat (first | refine wp_seq ?_ | (refine wp_skip ?_; refine then_n ?_))
      refine wp_region_law hN_5 w.heap.size
        [kP 9 (a.num) ((a.den : Int)), kP 19 (((a.floor : Int) : Rat).num) ((((a.floor : Int) : Rat).den : Int)), kP 39 ((a + (-((a.floor : Int) : Rat))).num) (((a + (-((a.floor : Int) : Rat))).den : Int)), PK.fresh 4, kPutP 3 39 ((a + (-((a.floor : Int) : Rat))).num) (((a + (-((a.floor : Int) : Rat))).den : Int))]
        [ [], [], [(0, some 84), (1, some 85)], [], [(3, some 9), (2, some 86)] ]
        [(0, some 84), (1, some 85), (2, some 86), (3, some 9), (4, none)] [] [] (by kernel_rfl) (by kernel_rfl) (by kernel_rfl) (by kernel_rfl) (by kernel_rfl) (by kernel_rfl) (by kernel_rfl) bb_5.size ?_ ?_
      ·
        refine pk_cons rfl rfl (st_load4P f1_5 f1'_5 (by simp) e3_5 hN_5 (by kernel_rfl) rfl) ?_
        refine pk_cons rfl rfl (st_load4P p8_5 p8'_5 (by simp) e8_5 hN_5 (by kernel_rfl) rfl) ?_
        refine pk_cons rfl rfl (st_call2 hN_5 (by kernel_rfl) (by kernel_rfl) (by kernel_rfl) (by kernel_rfl) (by kernel_rfl) rfl rfl rfl fun w x v1 v2 hC h1 h2 => tp (Sub_19 (pm (by decide) h1) (pm (by decide) h2))) ?_
        refine pk_cons rfl rfl (st_allocP hN_5 (by kernel_rfl) (Nat.le_refl _) rfl) ?_
        refine pk_cons rfl rfl (st_putP hN_5 (by kernel_rfl) (by kernel_rfl) (by kernel_rfl) rfl rfl rfl) ?_
        exact pk_nil rfl
      intro W_6 x hC hall
      refine then_n ?_
      obtain ⟨a_6, ha⟩ : ∃ a, a = putE x a_5 [(0, some 84), (1, some 85), (2, some 86), (3, some 9), (4, none)] := ⟨_, rfl⟩
      rw [← ha]
      have hN_6 := size_behind ha hN_5
      have hD_6 := defers_behind ha hD_5
      have bb_6 := bb_5.trans hC.below
      have e3_6 := slot_old ha (by kernel_rfl) e3_5
      have e4_6 := slot_old ha (by kernel_rfl) e4_5
      have e5_6 := slot_old ha (by kernel_rfl) e5_5
      have e13_6 := slot_old ha (by kernel_rfl) e13_5
      have e34_6 := slot_old ha (by kernel_rfl) e34_5
      have e7_6 := slot_old ha (by kernel_rfl) e7_5
      have e80_6 := slot_old ha (by kernel_rfl) e80_5
      have e8_6 := slot_old ha (by kernel_rfl) e8_5
      have f1_6 := hC.at0 f1_5
      have f1'_6 := hC.at0 f1'_5
      have f2_6 := hC.at0 f2_5
      have f2'_6 := hC.at0 f2'_5
      have f3_6 := hC.at0 f3_5
      have f3'_6 := hC.at0 f3'_5
      have p8_6 := hC.at0 p8_5
      have p8'_6 := hC.at0 p8'_5
      obtain ⟨g9, hx, hge, p9_6, p9'_6⟩ := put_atP (show (kPutP 3 39 ((a + (-((a.floor : Int) : Rat))).num) (((a + (-((a.floor : Int) : Rat))).den : Int))).sem _ _ _ _ from hall 4 (of_decide_eq_true (by kernel_rfl)))
      have e9_6 := (slot_new (t := 9) (i := 3) ha hN_5 (by kernel_rfl) (by kernel_rfl)).trans hx
      clear hx hge
      clear hall hC ha bb_5 hD_5 e3_5 e4_5 e5_5 e13_5 e34_5 e7_5 e80_5 e8_5 f1_5 f1'_5 f2_5 f2'_5 f3_5 f3'_5 p8_5 p8'_5
      repeat (first | refine wp_seq ?_ | (refine wp_skip ?_; refine then_n ?_))
      refine wp_region_law hN_6 w.heap.size
        [kP 19 (((a.floor : Int) : Rat).num) ((((a.floor : Int) : Rat).den : Int)), kP 9 (a.num) ((a.den : Int)), kIs (.int .i64 (ordQ ((a.floor : Int) : Rat) a)), kIs (.bool false), kIs (.bool false), kP 39 ((a + (-((a.floor : Int) : Rat))).num) (((a + (-((a.floor : Int) : Rat))).den : Int)), kZ 1 ((1 : Int)), kP 9 ((1 : Rat).num) (((1 : Rat).den : Int)), kIs (.int .i64 (ordQ (a + (-((a.floor : Int) : Rat))) (1 : Rat))), kIs (.bool false), kIs (.bool false)]
        [ [], [], [(0, some 87), (1, some 88)], [(2, some 89)], [(3, some 90)], [], [], [(6, some 93)], [(5, some 92), (7, some 94)], [(8, some 95)], [(4, some 91), (9, some 96)] ]
        [(0, some 87), (1, some 88), (2, some 89), (3, some 90), (4, some 91), (5, some 92), (6, some 93), (7, some 94), (8, some 95), (9, some 96), (10, some 97)] [(4, false)] [] (by kernel_rfl) (by kernel_rfl) (by kernel_rfl) (by kernel_rfl) (by kernel_rfl) (by kernel_rfl) (by kernel_rfl) bb_6.size ?_ ?_
      ·
        refine pk_cons rfl rfl (st_load4P p8_6 p8'_6 (by simp) e8_6 hN_6 (by kernel_rfl) rfl) ?_
        refine pk_cons rfl rfl (st_load4P f1_6 f1'_6 (by simp) e3_6 hN_6 (by kernel_rfl) rfl) ?_
        refine pk_cons rfl rfl (st_call2 hN_6 (by kernel_rfl) (by kernel_rfl) (by kernel_rfl) (by kernel_rfl) (by kernel_rfl) rfl rfl rfl fun w x v1 v2 hC h1 h2 => ti (Cmp_19 (pm (by decide) h1) (pm (by decide) h2))) ?_
        refine pk_cons rfl rfl (st_pureV [.int .i64 (ordQ ((a.floor : Int) : Rat) a)] [] (.bool (decide (ordQ ((a.floor : Int) : Rat) a > 0))) (.bool false) (congrArg Value.bool (decide_eq_false (Int.not_lt.2 (ordQ_le (Rat.floor_le a))))) rfl hN_6 (by kernel_rfl) (by kernel_rfl) (by kernel_rfl) old0 (by kernel_rfl) (by kernel_rfl) (by kernel_rfl) (fun _ => by kernel_rfl)) ?_
        refine pk_cons rfl rfl (st_pure [.bool false] [] (.bool false) rfl hN_6 (by kernel_rfl) (by kernel_rfl) (by kernel_rfl) old0 (by kernel_rfl) (by kernel_rfl) (by kernel_rfl) (fun _ => by kernel_rfl)) ?_
        refine pk_cons rfl rfl (st_load4P p9_6 p9'_6 (by simp) e9_6 hN_6 (by kernel_rfl) rfl) ?_
        refine pk_cons rfl rfl (st_call0 [.int .i64 (1)] hN_6 (by kernel_rfl) (by kernel_rfl) rfl rfl fun w x hC => tz (z_of (1) 1 (by decide) (by decide) (by decide))) ?_
        refine pk_cons rfl rfl (st_call1 hN_6 (by kernel_rfl) (by kernel_rfl) (by kernel_rfl) rfl rfl fun w x v1 hC h1 => tp (whole1 (rr h1) (by decide))) ?_
        refine pk_cons rfl rfl (st_call2 hN_6 (by kernel_rfl) (by kernel_rfl) (by kernel_rfl) (by kernel_rfl) (by kernel_rfl) rfl rfl rfl fun w x v1 v2 hC h1 h2 => ti (Cmp_39 (pm (by decide) h1) (pm (by decide) h2))) ?_
        refine pk_cons rfl rfl (st_pureV [.int .i64 (ordQ (a + (-((a.floor : Int) : Rat))) (1 : Rat))] [] (.bool (decide (ordQ (a + (-((a.floor : Int) : Rat))) (1 : Rat) ≥ 0))) (.bool false) (congrArg Value.bool (decide_eq_false (ordQ_ge (floor_gap a)))) rfl hN_6 (by kernel_rfl) (by kernel_rfl) (by kernel_rfl) old0 (by kernel_rfl) (by kernel_rfl) (by kernel_rfl) (fun _ => by kernel_rfl)) ?_
        refine pk_cons rfl rfl (st_pure [.bool false, .bool false] [] (.bool false) rfl hN_6 (by kernel_rfl) (by kernel_rfl) (by kernel_rfl) old0 (by kernel_rfl) (by kernel_rfl) (by kernel_rfl) (fun _ => by kernel_rfl)) ?_
        exact pk_nil rfl
      intro W_7 x hC hall
      refine then_n ?_
      obtain ⟨a_7, ha⟩ : ∃ a, a = putE x a_6 [(0, some 87), (1, some 88), (2, some 89), (3, some 90), (4, some 91), (5, some 92), (6, some 93), (7, some 94), (8, some 95), (9, some 96), (10, some 97)] := ⟨_, rfl⟩
      rw [← ha]
      have hN_7 := size_behind ha hN_6
      have hD_7 := defers_behind ha hD_6
      have bb_7 := bb_6.trans hC.below
      have e3_7 := slot_old ha (by kernel_rfl) e3_6
      have e4_7 := slot_old ha (by kernel_rfl) e4_6
      have e5_7 := slot_old ha (by kernel_rfl) e5_6
      have e13_7 := slot_old ha (by kernel_rfl) e13_6
      have e34_7 := slot_old ha (by kernel_rfl) e34_6
      have e7_7 := slot_old ha (by kernel_rfl) e7_6
      have e80_7 := slot_old ha (by kernel_rfl) e80_6
      have e8_7 := slot_old ha (by kernel_rfl) e8_6
      have e9_7 := slot_old ha (by kernel_rfl) e9_6
      have f1_7 := hC.at0 f1_6
      have f1'_7 := hC.at0 f1'_6
      have f2_7 := hC.at0 f2_6
      have f2'_7 := hC.at0 f2'_6
      have f3_7 := hC.at0 f3_6
      have f3'_7 := hC.at0 f3'_6
      have p8_7 := hC.at0 p8_6
      have p8'_7 := hC.at0 p8'_6
      have p9_7 := hC.at0 p9_6
      have p9'_7 := hC.at0 p9'_6
      have e97_7 := (slot_new (t := 97) (i := 10) ha hN_6 (by kernel_rfl) (by kernel_rfl)).trans (show x 10 = .bool false from hall 10 (of_decide_eq_true (by kernel_rfl)))
      clear hall hC ha bb_6 hD_6 e3_6 e4_6 e5_6 e13_6 e34_6 e7_6 e80_6 e8_6 e9_6 f1_6 f1'_6 f2_6 f2'_6 f3_6 f3'_6 p8_6 p8'_6 p9_6 p9'_6
      refine wp_cond_false e97_7 ?_
      repeat (first | refine wp_seq ?_ | (refine wp_skip ?_; refine then_n ?_))
      refine wp_region_law hN_7 w.heap.size
        [kP 9 (a.num) ((a.den : Int)), kIs (.string (textQ a)), kPT 19 (a.num) ((a.den : Int)) (.bool true), kPT 19 (a.num) ((a.den : Int)) (.bool true), kP 19 (a.num) ((a.den : Int)), kIs (.bool true), PK.fresh 4, kPutP 6 19 (a.num) ((a.den : Int)), kIs (.bool true)]
        [ [], [(0, some 99)], [(1, some 100)], [(2, some 101)], [(3, some 98)], [(3, some 98)], [], [(6, some 10), (4, some 102)], [(5, some 103)] ]
        [(0, some 99), (1, some 100), (2, some 101), (3, some 98), (4, some 102), (5, some 103), (6, some 10), (7, none), (8, some 11)] [] [] (by kernel_rfl) (by kernel_rfl) (by kernel_rfl) (by kernel_rfl) (by kernel_rfl) (by kernel_rfl) (by kernel_rfl) bb_7.size ?_ ?_
      ·
        refine pk_cons rfl rfl (st_load4P f1_7 f1'_7 (by simp) e3_7 hN_7 (by kernel_rfl) rfl) ?_
        refine pk_cons rfl rfl (st_call1 hN_7 (by kernel_rfl) (by kernel_rfl) (by kernel_rfl) rfl rfl fun w x v1 hC h1 => ti (Text_9 (Lib.hid ⟨HT.out.1.below (bb_7.trans hC.below) HT.out.2, Nat.le_trans HT.out.2 (bb_7.trans hC.below).size⟩) (pm (by decide) h1))) ?_
        refine pk_cons rfl rfl (st_call1 hN_7 (by kernel_rfl) (by kernel_rfl) (by kernel_rfl) rfl rfl fun w x v1 hC h1 => tpt (parse_q h1 HQ.out.1 HQ.out.2 (Lib.hid ⟨HT.out.1.below (bb_7.trans hC.below) HT.out.2, Nat.le_trans HT.out.2 (bb_7.trans hC.below).size⟩) (HM.out.below (bb_7.trans hC.below)))) ?_
        refine pk_cons rfl rfl (st_move hN_7 (by kernel_rfl) (by kernel_rfl) rfl rfl) ?_
        refine pk_cons rfl rfl (st_ext hN_7 (by kernel_rfl) (by kernel_rfl) rfl rfl ext_p) ?_
        refine pk_cons rfl rfl (st_ext hN_7 (by kernel_rfl) (by kernel_rfl) rfl rfl ext_v) ?_
        refine pk_cons rfl rfl (st_allocP hN_7 (by kernel_rfl) (Nat.le_refl _) rfl) ?_
        refine pk_cons rfl rfl (st_putP hN_7 (by kernel_rfl) (by kernel_rfl) (by kernel_rfl) rfl rfl rfl) ?_
        refine pk_cons rfl rfl (st_pure [.bool true] [] (.bool true) rfl hN_7 (by kernel_rfl) (by kernel_rfl) (by kernel_rfl) old0 (by kernel_rfl) (by kernel_rfl) (by kernel_rfl) (fun _ => by kernel_rfl)) ?_
        exact pk_nil rfl
      intro W_8 x hC hall
      refine then_n ?_
      obtain ⟨a_8, ha⟩ : ∃ a, a = putE x a_7 [(0, some 99), (1, some 100), (2, some 101), (3, some 98), (4, some 102), (5, some 103), (6, some 10), (7, none), (8, some 11)] := ⟨_, rfl⟩
      rw [← ha]
      have hN_8 := size_behind ha hN_7
      have hD_8 := defers_behind ha hD_7
      have bb_8 := bb_7.trans hC.below
      have e3_8 := slot_old ha (by kernel_rfl) e3_7
      have e4_8 := slot_old ha (by kernel_rfl) e4_7
      have e5_8 := slot_old ha (by kernel_rfl) e5_7
      have e13_8 := slot_old ha (by kernel_rfl) e13_7
      have e34_8 := slot_old ha (by kernel_rfl) e34_7
      have e7_8 := slot_old ha (by kernel_rfl) e7_7
      have e80_8 := slot_old ha (by kernel_rfl) e80_7
      have e8_8 := slot_old ha (by kernel_rfl) e8_7
      have e9_8 := slot_old ha (by kernel_rfl) e9_7
      have e97_8 := slot_old ha (by kernel_rfl) e97_7
      have f1_8 := hC.at0 f1_7
      have f1'_8 := hC.at0 f1'_7
      have f2_8 := hC.at0 f2_7
      have f2'_8 := hC.at0 f2'_7
      have f3_8 := hC.at0 f3_7
      have f3'_8 := hC.at0 f3'_7
      have p8_8 := hC.at0 p8_7
      have p8'_8 := hC.at0 p8'_7
      have p9_8 := hC.at0 p9_7
      have p9'_8 := hC.at0 p9'_7
      obtain ⟨g10, hx, hge, p10_8, p10'_8⟩ := put_atP (show (kPutP 6 19 (a.num) ((a.den : Int))).sem _ _ _ _ from hall 7 (of_decide_eq_true (by kernel_rfl)))
      have e10_8 := (slot_new (t := 10) (i := 6) ha hN_7 (by kernel_rfl) (by kernel_rfl)).trans hx
      clear hx hge
      have e11_8 := (slot_new (t := 11) (i := 8) ha hN_7 (by kernel_rfl) (by kernel_rfl)).trans (show x 8 = .bool true from hall 8 (of_decide_eq_true (by kernel_rfl)))
      clear hall hC ha bb_7 hD_7 e3_7 e4_7 e5_7 e13_7 e34_7 e7_7 e80_7 e8_7 e9_7 e97_7 f1_7 f1'_7 f2_7 f2'_7 f3_7 f3'_7 p8_7 p8'_7 p9_7 p9'_7
      repeat (first | refine wp_seq ?_ | (refine wp_skip ?_; refine then_n ?_))
      refine wp_region_law hN_8 w.heap.size
        [kIs (.bool true), kIs (.bool true), kP 19 (a.num) ((a.den : Int)), kP 9 (a.num) ((a.den : Int)), kIs (.bool true), kIs (.bool true), kIs (.bool true), kP 9 (a.num) ((a.den : Int)), kIs (.string (textQ a)), kP 9 (b.num) ((b.den : Int)), kIs (.string (textQ b)), kIs (.bool true), kIs (.int .i64 (0)), kIs (.bool true), kIs (.bool true), kIs (.bool true), kIs (.bool true)]
        [ [], [(0, some 104)], [], [], [(2, some 106), (3, some 107)], [(1, some 105), (4, some 108)], [(5, some 109)], [], [(7, some 111)], [], [(9, some 113)], [(8, some 112), (10, some 114)], [], [(12, some 116)], [(11, some 115), (13, some 117)], [(6, some 110), (14, some 118)], [(15, some 119)] ]
        [(0, some 104), (1, some 105), (2, some 106), (3, some 107), (4, some 108), (5, some 109), (6, some 110), (7, some 111), (8, some 112), (9, some 113), (10, some 114), (11, some 115), (12, some 116), (13, some 117), (14, some 118), (15, some 119), (16, some 6)] [(1, true), (6, true)] [] (by kernel_rfl) (by kernel_rfl) (by kernel_rfl) (by kernel_rfl) (by kernel_rfl) (by kernel_rfl) (by kernel_rfl) bb_8.size ?_ ?_
      ·
        refine pk_cons rfl rfl (st_pure [] [(11, .bool true)] (.bool true) rfl hN_8 (by kernel_rfl) (by kernel_rfl) (by kernel_rfl) (old1 e11_8) (by kernel_rfl) (by kernel_rfl) (by kernel_rfl) (fun _ => by kernel_rfl)) ?_
        refine pk_cons rfl rfl (st_pure [.bool true] [] (.bool true) rfl hN_8 (by kernel_rfl) (by kernel_rfl) (by kernel_rfl) old0 (by kernel_rfl) (by kernel_rfl) (by kernel_rfl) (fun _ => by kernel_rfl)) ?_
        refine pk_cons rfl rfl (st_load4P p10_8 p10'_8 (by simp) e10_8 hN_8 (by kernel_rfl) rfl) ?_
        refine pk_cons rfl rfl (st_load4P f1_8 f1'_8 (by simp) e3_8 hN_8 (by kernel_rfl) rfl) ?_
        refine pk_cons rfl rfl (st_call2 hN_8 (by kernel_rfl) (by kernel_rfl) (by kernel_rfl) (by kernel_rfl) (by kernel_rfl) rfl rfl rfl fun w x v1 v2 hC h1 h2 => ti (lawSame_19 (pm (by decide) h1) (pm (by decide) h2))) ?_
        refine pk_cons rfl rfl (st_pure [.bool true, .bool true] [] (.bool true) rfl hN_8 (by kernel_rfl) (by kernel_rfl) (by kernel_rfl) old0 (by kernel_rfl) (by kernel_rfl) (by kernel_rfl) (fun _ => by kernel_rfl)) ?_
        refine pk_cons rfl rfl (st_pure [.bool true] [] (.bool true) rfl hN_8 (by kernel_rfl) (by kernel_rfl) (by kernel_rfl) old0 (by kernel_rfl) (by kernel_rfl) (by kernel_rfl) (fun _ => by kernel_rfl)) ?_
        refine pk_cons rfl rfl (st_load4P f1_8 f1'_8 (by simp) e3_8 hN_8 (by kernel_rfl) rfl) ?_
        refine pk_cons rfl rfl (st_call1 hN_8 (by kernel_rfl) (by kernel_rfl) (by kernel_rfl) rfl rfl fun w x v1 hC h1 => ti (Text_9 (Lib.hid ⟨HT.out.1.below (bb_8.trans hC.below) HT.out.2, Nat.le_trans HT.out.2 (bb_8.trans hC.below).size⟩) (pm (by decide) h1))) ?_
        refine pk_cons rfl rfl (st_load4P f2_8 f2'_8 (by simp) e4_8 hN_8 (by kernel_rfl) rfl) ?_
        refine pk_cons rfl rfl (st_call1 hN_8 (by kernel_rfl) (by kernel_rfl) (by kernel_rfl) rfl rfl fun w x v1 hC h1 => ti (Text_9 (Lib.hid ⟨HT.out.1.below (bb_8.trans hC.below) HT.out.2, Nat.le_trans HT.out.2 (bb_8.trans hC.below).size⟩) (pm (by decide) h1))) ?_
        refine pk_cons rfl rfl (st_pureV [.string (textQ a), .string (textQ b)] [] (.bool ((textQ a).toList == (textQ b).toList)) (.bool true) (congrArg Value.bool (by rw [hs]; exact beq_self_eq_true _)) rfl hN_8 (by kernel_rfl) (by kernel_rfl) (by kernel_rfl) old0 (by kernel_rfl) (by kernel_rfl) (by kernel_rfl) (fun _ => by kernel_rfl)) ?_
        refine pk_cons rfl rfl (st_pure [] [(7, .int .i64 (0))] (.int .i64 (0)) rfl hN_8 (by kernel_rfl) (by kernel_rfl) (by kernel_rfl) (old1 e7_8) (by kernel_rfl) (by kernel_rfl) (by kernel_rfl) (fun _ => by kernel_rfl)) ?_
        refine pk_cons rfl rfl (st_pure [.int .i64 (0)] [] (.bool true) rfl hN_8 (by kernel_rfl) (by kernel_rfl) (by kernel_rfl) old0 (by kernel_rfl) (by kernel_rfl) (by kernel_rfl) (fun _ => by kernel_rfl)) ?_
        refine pk_cons rfl rfl (st_pure [.bool true, .bool true] [] (.bool true) rfl hN_8 (by kernel_rfl) (by kernel_rfl) (by kernel_rfl) old0 (by kernel_rfl) (by kernel_rfl) (by kernel_rfl) (fun _ => by kernel_rfl)) ?_
        refine pk_cons rfl rfl (st_pure [.bool true, .bool true] [] (.bool true) rfl hN_8 (by kernel_rfl) (by kernel_rfl) (by kernel_rfl) old0 (by kernel_rfl) (by kernel_rfl) (by kernel_rfl) (fun _ => by kernel_rfl)) ?_
        refine pk_cons rfl rfl (st_pure [.bool true] [] (.bool true) rfl hN_8 (by kernel_rfl) (by kernel_rfl) (by kernel_rfl) old0 (by kernel_rfl) (by kernel_rfl) (by kernel_rfl) (fun _ => by kernel_rfl)) ?_
        exact pk_nil rfl
      intro W_9 x hC hall
      refine then_n ?_
      obtain ⟨a_9, ha⟩ : ∃ a, a = putE x a_8 [(0, some 104), (1, some 105), (2, some 106), (3, some 107), (4, some 108), (5, some 109), (6, some 110), (7, some 111), (8, some 112), (9, some 113), (10, some 114), (11, some 115), (12, some 116), (13, some 117), (14, some 118), (15, some 119), (16, some 6)] := ⟨_, rfl⟩
      rw [← ha]
      have hN_9 := size_behind ha hN_8
      have hD_9 := defers_behind ha hD_8
      have bb_9 := bb_8.trans hC.below
      have e3_9 := slot_old ha (by kernel_rfl) e3_8
      have e4_9 := slot_old ha (by kernel_rfl) e4_8
      have e5_9 := slot_old ha (by kernel_rfl) e5_8
      have e13_9 := slot_old ha (by kernel_rfl) e13_8
      have e34_9 := slot_old ha (by kernel_rfl) e34_8
      have e7_9 := slot_old ha (by kernel_rfl) e7_8
      have e80_9 := slot_old ha (by kernel_rfl) e80_8
      have e8_9 := slot_old ha (by kernel_rfl) e8_8
      have e9_9 := slot_old ha (by kernel_rfl) e9_8
      have e97_9 := slot_old ha (by kernel_rfl) e97_8
      have e10_9 := slot_old ha (by kernel_rfl) e10_8
      have e11_9 := slot_old ha (by kernel_rfl) e11_8
      have f1_9 := hC.at0 f1_8
      have f1'_9 := hC.at0 f1'_8
      have f2_9 := hC.at0 f2_8
      have f2'_9 := hC.at0 f2'_8
      have f3_9 := hC.at0 f3_8
      have f3'_9 := hC.at0 f3'_8
      have p8_9 := hC.at0 p8_8
      have p8'_9 := hC.at0 p8'_8
      have p9_9 := hC.at0 p9_8
      have p9'_9 := hC.at0 p9'_8
      have p10_9 := hC.at0 p10_8
      have p10'_9 := hC.at0 p10'_8
      have e6_9 := (slot_new (t := 6) (i := 16) ha hN_8 (by kernel_rfl) (by kernel_rfl)).trans (show x 16 = .bool true from hall 16 (of_decide_eq_true (by kernel_rfl)))
      clear hall hC ha bb_8 hD_8 e3_8 e4_8 e5_8 e13_8 e34_8 e7_8 e80_8 e8_8 e9_8 e97_8 e10_8 e11_8 f1_8 f1'_8 f2_8 f2'_8 f3_8 f3'_8 p8_8 p8'_8 p9_8 p9'_8 p10_8 p10'_8
      repeat (first | refine wp_seq ?_ | (refine wp_skip ?_; refine then_n ?_))
      refine wp_ret ?_
      repeat (refine then_r ?_)
      exact ret_one (t := 6) rfl hD_9 e6_9 ⟨rfl, bb_9⟩
  ·
    refine wp_region_law hN_2 w.heap.size
      [kP 9 (a.num) ((a.den : Int)), kP 9 (b.num) ((b.den : Int)), kIs (.int .i64 (1)), kIs (.int .i64 (1))]
      [ [], [], [(0, some 35), (1, some 36)], [(2, some 37)] ]
      [(0, some 35), (1, some 36), (2, some 37), (3, some 7)] [] [] (by kernel_rfl) (by kernel_rfl) (by kernel_rfl) (by kernel_rfl) (by kernel_rfl) (by kernel_rfl) (by kernel_rfl) bb_2.size ?_ ?_
    ·
      refine pk_cons rfl rfl (st_load4P f1_2 f1'_2 (by simp) e3_2 hN_2 (by kernel_rfl) rfl) ?_
      refine pk_cons rfl rfl (st_load4P f2_2 f2'_2 (by simp) e4_2 hN_2 (by kernel_rfl) rfl) ?_
      refine pk_cons rfl rfl (st_call2 hN_2 (by kernel_rfl) (by kernel_rfl) (by kernel_rfl) (by kernel_rfl) (by kernel_rfl) rfl rfl rfl fun w x v1 v2 hC h1 h2 => ti (cmpq_is (ordQ_gt hs) (Cmp_9 (pm (by decide) h1) (pm (by decide) h2)))) ?_
      refine pk_cons rfl rfl (st_pure [.int .i64 (1)] [] (.int .i64 (1)) rfl hN_2 (by kernel_rfl) (by kernel_rfl) (by kernel_rfl) old0 (by kernel_rfl) (by kernel_rfl) (by kernel_rfl) (fun _ => by kernel_rfl)) ?_
      exact pk_nil rfl
    intro W_3 x hC hall
    refine then_n ?_
    obtain ⟨a_3, ha⟩ : ∃ a, a = putE x a_2 [(0, some 35), (1, some 36), (2, some 37), (3, some 7)] := ⟨_, rfl⟩
    rw [← ha]
    have hN_3 := size_behind ha hN_2
    have hD_3 := defers_behind ha hD_2
    have bb_3 := bb_2.trans hC.below
    have e3_3 := slot_old ha (by kernel_rfl) e3_2
    have e4_3 := slot_old ha (by kernel_rfl) e4_2
    have e5_3 := slot_old ha (by kernel_rfl) e5_2
    have e13_3 := slot_old ha (by kernel_rfl) e13_2
    have e34_3 := slot_old ha (by kernel_rfl) e34_2
    have f1_3 := hC.at0 f1_2
    have f1'_3 := hC.at0 f1'_2
    have f2_3 := hC.at0 f2_2
    have f2'_3 := hC.at0 f2'_2
    have f3_3 := hC.at0 f3_2
    have f3'_3 := hC.at0 f3'_2
    have e7_3 := (slot_new (t := 7) (i := 3) ha hN_2 (by kernel_rfl) (by kernel_rfl)).trans (show x 3 = .int .i64 (1) from hall 3 (of_decide_eq_true (by kernel_rfl)))
    clear hall hC ha bb_2 hD_2 e3_2 e4_2 e5_2 e13_2 e34_2 f1_2 f1'_2 f2_2 f2'_2 f3_2 f3'_2
    repeat (first | refine wp_seq ?_ | (refine wp_skip ?_; refine then_n ?_))
    refine wp_region_law hN_3 w.heap.size
      [kP 9 (b.num) ((b.den : Int)), kP 9 (a.num) ((a.den : Int)), kIs (.int .i64 (-1)), kIs (.int .i64 (1)), kIs (.int .i64 (-1)), kIs (.bool false), kIs (.bool false), kIs (.int .i64 (1)), kIs (.bool false), kP 9 (a.num) ((a.den : Int)), kP 9 (b.num) ((b.den : Int)), kIs (.bool false), kIs (.bool false), kIs (.bool false), kIs (.bool false), kIs (.int .i64 (1)), kIs (.bool false), kIs (.bool false), kIs undef, kIs undef, kIs undef, kIs undef, kIs (.bool false), kIs (.bool false), kIs undef, kIs undef, kIs undef, kIs undef, kIs (.bool false), kIs (.bool false), kIs (.bool false), kP 9 (a.num) ((a.den : Int)), kP 9 (c.num) ((c.den : Int)), kPRs [(9, a.num, (a.den : Int)), (9, c.num, (c.den : Int))], kP 19 ((a + c).num) (((a + c).den : Int)), kP 9 (b.num) ((b.den : Int)), kP 9 (c.num) ((c.den : Int)), kPRs [(9, b.num, (b.den : Int)), (9, c.num, (c.den : Int))], kP 19 ((b + c).num) (((b + c).den : Int)), kIs (.int .i64 (1)), kIs (.int .i64 (1)), kIs (.bool false), kIs (.bool false)]
      [ [], [], [(0, some 38), (1, some 39)], [], [(3, some 41)], [(2, some 40), (4, some 42)], [(5, some 43)], [], [(7, some 45)], [], [], [(9, some 47), (10, some 48)], [(8, some 46), (11, some 49)], [(6, some 44), (12, some 50)], [(13, some 51)], [], [(15, some 53)], [(16, some 54)], [], [], [(18, some 56), (19, some 57)], [(20, some 58)], [(17, some 55), (21, some 59)], [(22, some 60)], [], [], [(24, some 62), (25, some 63)], [(26, some 64)], [(23, some 61), (27, some 65)], [(14, some 52), (28, some 66)], [(29, some 67)], [], [], [(31, some 69), (32, some 70)], [(33, some 71)], [], [], [(35, some 73), (36, some 74)], [(37, some 75)], [(34, some 72), (38, some 76)], [], [(39, some 77), (40, some 78)], [(30, some 68), (41, some 79)] ]
      [(0, some 38), (1, some 39), (2, some 40), (3, some 41), (4, some 42), (5, some 43), (6, some 44), (7, some 45), (8, some 46), (9, some 47), (10, some 48), (11, some 49), (12, some 50), (13, some 51), (14, some 52), (15, some 53), (16, some 54), (17, some 55), (18, some 56), (19, some 57), (20, some 58), (21, some 59), (22, some 60), (23, some 61), (24, some 62), (25, some 63), (26, some 64), (27, some 65), (28, some 66), (29, some 67), (30, some 68), (31, some 69), (32, some 70), (33, some 71), (34, some 72), (35, some 73), (36, some 74), (37, some 75), (38, some 76), (39, some 77), (40, some 78), (41, some 79), (42, some 80)] [(6, false), (14, false), (17, false), (23, false), (30, false)] [18, 19, 20, 21, 24, 25, 26, 27] (by kernel_rfl) (by kernel_rfl) (by kernel_rfl) (by kernel_rfl) (by kernel_rfl) (by kernel_rfl) (by kernel_rfl) bb_3.size ?_ ?_
    ·
      refine pk_cons rfl rfl (st_load4P f2_3 f2'_3 (by simp) e4_3 hN_3 (by kernel_rfl) rfl) ?_
      refine pk_cons rfl rfl (st_load4P f1_3 f1'_3 (by simp) e3_3 hN_3 (by kernel_rfl) rfl) ?_
      refine pk_cons rfl rfl (st_call2 hN_3 (by kernel_rfl) (by kernel_rfl) (by kernel_rfl) (by kernel_rfl) (by kernel_rfl) rfl rfl rfl fun w x v1 v2 hC h1 h2 => ti (cmpq_is (ordQ_lt hs) (Cmp_9 (pm (by decide) h1) (pm (by decide) h2)))) ?_
      refine pk_cons rfl rfl (st_pure [] [(7, .int .i64 (1))] (.int .i64 (1)) rfl hN_3 (by kernel_rfl) (by kernel_rfl) (by kernel_rfl) (old1 e7_3) (by kernel_rfl) (by kernel_rfl) (by kernel_rfl) (fun _ => by kernel_rfl)) ?_
      refine pk_cons rfl rfl (st_pure [.int .i64 (1)] [] (.int .i64 (-1)) rfl hN_3 (by kernel_rfl) (by kernel_rfl) (by kernel_rfl) old0 (by kernel_rfl) (by kernel_rfl) (by kernel_rfl) (fun _ => by kernel_rfl)) ?_
      refine pk_cons rfl rfl (st_pure [.int .i64 (-1), .int .i64 (-1)] [] (.bool false) rfl hN_3 (by kernel_rfl) (by kernel_rfl) (by kernel_rfl) old0 (by kernel_rfl) (by kernel_rfl) (by kernel_rfl) (fun _ => by kernel_rfl)) ?_
      refine pk_cons rfl rfl (st_pure [.bool false] [] (.bool false) rfl hN_3 (by kernel_rfl) (by kernel_rfl) (by kernel_rfl) old0 (by kernel_rfl) (by kernel_rfl) (by kernel_rfl) (fun _ => by kernel_rfl)) ?_
      refine pk_cons rfl rfl (st_pure [] [(7, .int .i64 (1))] (.int .i64 (1)) rfl hN_3 (by kernel_rfl) (by kernel_rfl) (by kernel_rfl) (old1 e7_3) (by kernel_rfl) (by kernel_rfl) (by kernel_rfl) (fun _ => by kernel_rfl)) ?_
      refine pk_cons rfl rfl (st_pure [.int .i64 (1)] [] (.bool false) rfl hN_3 (by kernel_rfl) (by kernel_rfl) (by kernel_rfl) old0 (by kernel_rfl) (by kernel_rfl) (by kernel_rfl) (fun _ => by kernel_rfl)) ?_
      refine pk_cons rfl rfl (st_load4P f1_3 f1'_3 (by simp) e3_3 hN_3 (by kernel_rfl) rfl) ?_
      refine pk_cons rfl rfl (st_load4P f2_3 f2'_3 (by simp) e4_3 hN_3 (by kernel_rfl) rfl) ?_
      refine pk_cons rfl rfl (st_call2 hN_3 (by kernel_rfl) (by kernel_rfl) (by kernel_rfl) (by kernel_rfl) (by kernel_rfl) rfl rfl rfl fun w x v1 v2 hC h1 h2 => ti (lawSame_not (Rat.ne_of_gt hs) (pm (by decide) h1) (pm (by decide) h2))) ?_
      refine pk_cons rfl rfl (st_pure [.bool false, .bool false] [] (.bool false) rfl hN_3 (by kernel_rfl) (by kernel_rfl) (by kernel_rfl) old0 (by kernel_rfl) (by kernel_rfl) (by kernel_rfl) (fun _ => by kernel_rfl)) ?_
      refine pk_cons rfl rfl (st_pure [.bool false, .bool false] [] (.bool false) rfl hN_3 (by kernel_rfl) (by kernel_rfl) (by kernel_rfl) old0 (by kernel_rfl) (by kernel_rfl) (by kernel_rfl) (fun _ => by kernel_rfl)) ?_
      refine pk_cons rfl rfl (st_pure [.bool false] [] (.bool false) rfl hN_3 (by kernel_rfl) (by kernel_rfl) (by kernel_rfl) old0 (by kernel_rfl) (by kernel_rfl) (by kernel_rfl) (fun _ => by kernel_rfl)) ?_
      refine pk_cons rfl rfl (st_pure [] [(7, .int .i64 (1))] (.int .i64 (1)) rfl hN_3 (by kernel_rfl) (by kernel_rfl) (by kernel_rfl) (old1 e7_3) (by kernel_rfl) (by kernel_rfl) (by kernel_rfl) (fun _ => by kernel_rfl)) ?_
      refine pk_cons rfl rfl (st_pure [.int .i64 (1)] [] (.bool false) rfl hN_3 (by kernel_rfl) (by kernel_rfl) (by kernel_rfl) old0 (by kernel_rfl) (by kernel_rfl) (by kernel_rfl) (fun _ => by kernel_rfl)) ?_
      refine pk_cons rfl rfl (st_pure [.bool false] [] (.bool false) rfl hN_3 (by kernel_rfl) (by kernel_rfl) (by kernel_rfl) old0 (by kernel_rfl) (by kernel_rfl) (by kernel_rfl) (fun _ => by kernel_rfl)) ?_
      refine pk_skip rfl ?_
      refine pk_skip rfl ?_
      refine pk_skip rfl ?_
      refine pk_skip rfl ?_
      refine pk_cons rfl rfl (st_pure [.bool false, undef] [] (.bool false) rfl hN_3 (by kernel_rfl) (by kernel_rfl) (by kernel_rfl) old0 (by kernel_rfl) (by kernel_rfl) (by kernel_rfl) (fun _ => by kernel_rfl)) ?_
      refine pk_cons rfl rfl (st_pure [.bool false] [] (.bool false) rfl hN_3 (by kernel_rfl) (by kernel_rfl) (by kernel_rfl) old0 (by kernel_rfl) (by kernel_rfl) (by kernel_rfl) (fun _ => by kernel_rfl)) ?_
      refine pk_skip rfl ?_
      refine pk_skip rfl ?_
      refine pk_skip rfl ?_
      refine pk_skip rfl ?_
      refine pk_cons rfl rfl (st_pure [.bool false, undef] [] (.bool false) rfl hN_3 (by kernel_rfl) (by kernel_rfl) (by kernel_rfl) old0 (by kernel_rfl) (by kernel_rfl) (by kernel_rfl) (fun _ => by kernel_rfl)) ?_
      refine pk_cons rfl rfl (st_pure [.bool false, .bool false] [] (.bool false) rfl hN_3 (by kernel_rfl) (by kernel_rfl) (by kernel_rfl) old0 (by kernel_rfl) (by kernel_rfl) (by kernel_rfl) (fun _ => by kernel_rfl)) ?_
      refine pk_cons rfl rfl (st_pure [.bool false] [] (.bool false) rfl hN_3 (by kernel_rfl) (by kernel_rfl) (by kernel_rfl) old0 (by kernel_rfl) (by kernel_rfl) (by kernel_rfl) (fun _ => by kernel_rfl)) ?_
      refine pk_cons rfl rfl (st_load4P f1_3 f1'_3 (by simp) e3_3 hN_3 (by kernel_rfl) rfl) ?_
      refine pk_cons rfl rfl (st_load4P f3_3 f3'_3 (by simp) e5_3 hN_3 (by kernel_rfl) rfl) ?_
      refine pk_cons rfl rfl (st_plist2 hN_3 (by kernel_rfl) (by kernel_rfl) (by kernel_rfl) (by kernel_rfl) (Nat.le_refl _) rfl rfl rfl) ?_
      refine pk_cons rfl rfl (st_call1 hN_3 (by kernel_rfl) (by kernel_rfl) (by kernel_rfl) rfl rfl fun w x v1 hC h1 => tp (Add2_9 (plm2 9 h1 (by decide) (by decide)))) ?_
      refine pk_cons rfl rfl (st_load4P f2_3 f2'_3 (by simp) e4_3 hN_3 (by kernel_rfl) rfl) ?_
      refine pk_cons rfl rfl (st_load4P f3_3 f3'_3 (by simp) e5_3 hN_3 (by kernel_rfl) rfl) ?_
      refine pk_cons rfl rfl (st_plist2 hN_3 (by kernel_rfl) (by kernel_rfl) (by kernel_rfl) (by kernel_rfl) (Nat.le_refl _) rfl rfl rfl) ?_
      refine pk_cons rfl rfl (st_call1 hN_3 (by kernel_rfl) (by kernel_rfl) (by kernel_rfl) rfl rfl fun w x v1 hC h1 => tp (Add2_9 (plm2 9 h1 (by decide) (by decide)))) ?_
      refine pk_cons rfl rfl (st_call2 hN_3 (by kernel_rfl) (by kernel_rfl) (by kernel_rfl) (by kernel_rfl) (by kernel_rfl) rfl rfl rfl fun w x v1 v2 hC h1 h2 => ti (cmpq_is (ordQ_gt (Rat.add_lt_add_right.2 hs)) (Cmp_19 (pm (by decide) h1) (pm (by decide) h2)))) ?_
      refine pk_cons rfl rfl (st_pure [] [(7, .int .i64 (1))] (.int .i64 (1)) rfl hN_3 (by kernel_rfl) (by kernel_rfl) (by kernel_rfl) (old1 e7_3) (by kernel_rfl) (by kernel_rfl) (by kernel_rfl) (fun _ => by kernel_rfl)) ?_
      refine pk_cons rfl rfl (st_pure [.int .i64 (1), .int .i64 (1)] [] (.bool false) rfl hN_3 (by kernel_rfl) (by kernel_rfl) (by kernel_rfl) old0 (by kernel_rfl) (by kernel_rfl) (by kernel_rfl) (fun _ => by kernel_rfl)) ?_
      refine pk_cons rfl rfl (st_pure [.bool false, .bool false] [] (.bool false) rfl hN_3 (by kernel_rfl) (by kernel_rfl) (by kernel_rfl) old0 (by kernel_rfl) (by kernel_rfl) (by kernel_rfl) (fun _ => by kernel_rfl)) ?_
      exact pk_nil rfl
    intro W_4 x hC hall
    refine then_n ?_
    obtain ⟨a_4, ha⟩ : ∃ a, a = putE x a_3 [(0, some 38), (1, some 39), (2, some 40), (3, some 41), (4, some 42), (5, some 43), (6, some 44), (7, some 45), (8, some 46), (9, some 47), (10, some 48), (11, some 49), (12, some 50), (13, some 51), (14, some 52), (15, some 53), (16, some 54), (17, some 55), (18, some 56), (19, some 57), (20, some 58), (21, some 59), (22, some 60), (23, some 61), (24, some 62), (25, some 63), (26, some 64), (27, some 65), (28, some 66), (29, some 67), (30, some 68), (31, some 69), (32, some 70), (33, some 71), (34, some 72), (35, some 73), (36, some 74), (37, some 75), (38, some 76), (39, some 77), (40, some 78), (41, some 79), (42, some 80)] := ⟨_, rfl⟩
    rw [← ha]
    have hN_4 := size_behind ha hN_3
    have hD_4 := defers_behind ha hD_3
    have bb_4 := bb_3.trans hC.below
    have e3_4 := slot_old ha (by kernel_rfl) e3_3
    have e4_4 := slot_old ha (by kernel_rfl) e4_3
    have e5_4 := slot_old ha (by kernel_rfl) e5_3
    have e13_4 := slot_old ha (by kernel_rfl) e13_3
    have e34_4 := slot_old ha (by kernel_rfl) e34_3
    have e7_4 := slot_old ha (by kernel_rfl) e7_3
    have f1_4 := hC.at0 f1_3
    have f1'_4 := hC.at0 f1'_3
    have f2_4 := hC.at0 f2_3
    have f2'_4 := hC.at0 f2'_3
    have f3_4 := hC.at0 f3_3
    have f3'_4 := hC.at0 f3'_3
    have e80_4 := (slot_new (t := 80) (i := 42) ha hN_3 (by kernel_rfl) (by kernel_rfl)).trans (show x 42 = .bool false from hall 42 (of_decide_eq_true (by kernel_rfl)))
    clear hall hC ha bb_3 hD_3 e3_3 e4_3 e5_3 e13_3 e34_3 e7_3 f1_3 f1'_3 f2_3 f2'_3 f3_3 f3'_3
    refine wp_cond_false e80_4 ?_
    repeat (first | refine wp_seq ?_ | (refine wp_skip ?_; refine then_n ?_))
    refine wp_region_law hN_4 w.heap.size
      [kP 9 (a.num) ((a.den : Int)), kZ 10 (zq (a.num) ((a.den : Int))), kP 19 (((a.floor : Int) : Rat).num) ((((a.floor : Int) : Rat).den : Int)), PK.fresh 4, kPutP 3 19 (((a.floor : Int) : Rat).num) ((((a.floor : Int) : Rat).den : Int))]
      [ [], [(0, some 81)], [(1, some 82)], [], [(3, some 8), (2, some 83)] ]
      [(0, some 81), (1, some 82), (2, some 83), (3, some 8), (4, none)] [] [] (by kernel_rfl) (by kernel_rfl) (by kernel_rfl) (by kernel_rfl) (by kernel_rfl) (by kernel_rfl) (by kernel_rfl) bb_4.size ?_ ?_
    ·
      refine pk_cons rfl rfl (st_load4P f1_4 f1'_4 (by simp) e3_4 hN_4 (by kernel_rfl) rfl) ?_
      refine pk_cons rfl rfl (st_call1 hN_4 (by kernel_rfl) (by kernel_rfl) (by kernel_rfl) rfl rfl fun w x v1 hC h1 => tz (Floor_9 (pm (by decide) h1))) ?_
      refine pk_cons rfl rfl (st_call1 hN_4 (by kernel_rfl) (by kernel_rfl) (by kernel_rfl) rfl rfl fun w x v1 hC h1 => tp (wholeF (rr h1) (by decide))) ?_
      refine pk_cons rfl rfl (st_allocP hN_4 (by kernel_rfl) (Nat.le_refl _) rfl) ?_
      refine pk_cons rfl rfl (st_putP hN_4 (by kernel_rfl) (by kernel_rfl) (by kernel_rfl) rfl rfl rfl) ?_
      exact pk_nil rfl
    intro W_5 x hC hall
    refine then_n ?_
    obtain ⟨a_5, ha⟩ : ∃ a, a = putE x a_4 [(0, some 81), (1, some 82), (2, some 83), (3, some 8), (4, none)] := ⟨_, rfl⟩
    rw [← ha]
    have hN_5 := size_behind ha hN_4
    have hD_5 := defers_behind ha hD_4
    have bb_5 := bb_4.trans hC.below
    have e3_5 := slot_old ha (by kernel_rfl) e3_4
    have e4_5 := slot_old ha (by kernel_rfl) e4_4
    have e5_5 := slot_old ha (by kernel_rfl) e5_4
    have e13_5 := slot_old ha (by kernel_rfl) e13_4
    have e34_5 := slot_old ha (by kernel_rfl) e34_4
    have e7_5 := slot_old ha (by kernel_rfl) e7_4
    have e80_5 := slot_old ha (by kernel_rfl) e80_4
    have f1_5 := hC.at0 f1_4
    have f1'_5 := hC.at0 f1'_4
    have f2_5 := hC.at0 f2_4
    have f2'_5 := hC.at0 f2'_4
    have f3_5 := hC.at0 f3_4
    have f3'_5 := hC.at0 f3'_4
    obtain ⟨g8, hx, hge, p8_5, p8'_5⟩ := put_atP (show (kPutP 3 19 (((a.floor : Int) : Rat).num) ((((a.floor : Int) : Rat).den : Int))).sem _ _ _ _ from hall 4 (of_decide_eq_true (by kernel_rfl)))
    have e8_5 := (slot_new (t := 8) (i := 3) ha hN_4 (by kernel_rfl) (by kernel_rfl)).trans hx
    clear hx hge
    clear hall hC ha bb_4 hD_4 e3_4 e4_4 e5_4 e13_4 e34_4 e7_4 e80_4 f1_4 f1'_4 f2_4 f2'_4 f3_4 f3'_4
    repeat (first | refine wp_seq ?_ | (refine wp_skip ?_; refine then_n ?_))
    refine wp_region_law hN_5 w.heap.size
      [kP 9 (a.num) ((a.den : Int)), kP 19 (((a.floor : Int) : Rat).num) ((((a.floor : Int) : Rat).den : Int)), kP 39 ((a + (-((a.floor : Int) : Rat))).num) (((a + (-((a.floor : Int) : Rat))).den : Int)), PK.fresh 4, kPutP 3 39 ((a + (-((a.floor : Int) : Rat))).num) (((a + (-((a.floor : Int) : Rat))).den : Int))]
      [ [], [], [(0, some 84), (1, some 85)], [], [(3, some 9), (2, some 86)] ]
      [(0, some 84), (1, some 85), (2, some 86), (3, some 9), (4, none)] [] [] (by kernel_rfl) (by kernel_rfl) (by kernel_rfl) (by kernel_rfl) (by kernel_rfl) (by kernel_rfl) (by kernel_rfl) bb_5.size ?_ ?_
    ·
      refine pk_cons rfl rfl (st_load4P f1_5 f1'_5 (by simp) e3_5 hN_5 (by kernel_rfl) rfl) ?_
      refine pk_cons rfl rfl (st_load4P p8_5 p8'_5 (by simp) e8_5 hN_5 (by kernel_rfl) rfl) ?_
      refine pk_cons rfl rfl (st_call2 hN_5 (by kernel_rfl) (by kernel_rfl) (by kernel_rfl) (by kernel_rfl) (by kernel_rfl) rfl rfl rfl fun w x v1 v2 hC h1 h2 => tp (Sub_19 (pm (by decide) h1) (pm (by decide) h2))) ?_
      refine pk_cons rfl rfl (st_allocP hN_5 (by kernel_rfl) (Nat.le_refl _) rfl) ?_
      refine pk_cons rfl rfl (st_putP hN_5 (by kernel_rfl) (by kernel_rfl) (by kernel_rfl) rfl rfl rfl) ?_
      exact pk_nil rfl
    intro W_6 x hC hall
    refine then_n ?_
    obtain ⟨a_6, ha⟩ : ∃ a, a = putE x a_5 [(0, some 84), (1, some 85), (2, some 86), (3, some 9), (4, none)] := ⟨_, rfl⟩
    rw [← ha]
    have hN_6 := size_behind ha hN_5
    have hD_6 := defers_behind ha hD_5
    have bb_6 := bb_5.trans hC.below
    have e3_6 := slot_old ha (by kernel_rfl) e3_5
    have e4_6 := slot_old ha (by kernel_rfl) e4_5
    have e5_6 := slot_old ha (by kernel_rfl) e5_5
    have e13_6 := slot_old ha (by kernel_rfl) e13_5
    have e34_6 := slot_old ha (by kernel_rfl) e34_5
    have e7_6 := slot_old ha (by kernel_rfl) e7_5
    have e80_6 := slot_old ha (by kernel_rfl) e80_5
    have e8_6 := slot_old ha (by kernel_rfl) e8_5
    have f1_6 := hC.at0 f1_5
    have f1'_6 := hC.at0 f1'_5
    have f2_6 := hC.at0 f2_5
    have f2'_6 := hC.at0 f2'_5
    have f3_6 := hC.at0 f3_5
    have f3'_6 := hC.at0 f3'_5
    have p8_6 := hC.at0 p8_5
    have p8'_6 := hC.at0 p8'_5
    obtain ⟨g9, hx, hge, p9_6, p9'_6⟩ := put_atP (show (kPutP 3 39 ((a + (-((a.floor : Int) : Rat))).num) (((a + (-((a.floor : Int) : Rat))).den : Int))).sem _ _ _ _ from hall 4 (of_decide_eq_true (by kernel_rfl)))
    have e9_6 := (slot_new (t := 9) (i := 3) ha hN_5 (by kernel_rfl) (by kernel_rfl)).trans hx
    clear hx hge
    clear hall hC ha bb_5 hD_5 e3_5 e4_5 e5_5 e13_5 e34_5 e7_5 e80_5 e8_5 f1_5 f1'_5 f2_5 f2'_5 f3_5 f3'_5 p8_5 p8'_5
    repeat (first | refine wp_seq ?_ | (refine wp_skip ?_; refine then_n ?_))
    refine wp_region_law hN_6 w.heap.size
      [kP 19 (((a.floor : Int) : Rat).num) ((((a.floor : Int) : Rat).den : Int)), kP 9 (a.num) ((a.den : Int)), kIs (.int .i64 (ordQ ((a.floor : Int) : Rat) a)), kIs (.bool false), kIs (.bool false), kP 39 ((a + (-((a.floor : Int) : Rat))).num) (((a + (-((a.floor : Int) : Rat))).den : Int)), kZ 1 ((1 : Int)), kP 9 ((1 : Rat).num) (((1 : Rat).den : Int)), kIs (.int .i64 (ordQ (a + (-((a.floor : Int) : Rat))) (1 : Rat))), kIs (.bool false), kIs (.bool false)]
      [ [], [], [(0, some 87), (1, some 88)], [(2, some 89)], [(3, some 90)], [], [], [(6, some 93)], [(5, some 92), (7, some 94)], [(8, some 95)], [(4, some 91), (9, some 96)] ]
      [(0, some 87), (1, some 88), (2, some 89), (3, some 90), (4, some 91), (5, some 92), (6, some 93), (7, some 94), (8, some 95), (9, some 96), (10, some 97)] [(4, false)] [] (by kernel_rfl) (by kernel_rfl) (by kernel_rfl) (by kernel_rfl) (by kernel_rfl) (by kernel_rfl) (by kernel_rfl) bb_6.size ?_ ?_
    ·
      refine pk_cons rfl rfl (st_load4P p8_6 p8'_6 (by simp) e8_6 hN_6 (by kernel_rfl) rfl) ?_
      refine pk_cons rfl rfl (st_load4P f1_6 f1'_6 (by simp) e3_6 hN_6 (by kernel_rfl) rfl) ?_
      refine pk_cons rfl rfl (st_call2 hN_6 (by kernel_rfl) (by kernel_rfl) (by kernel_rfl) (by kernel_rfl) (by kernel_rfl) rfl rfl rfl fun w x v1 v2 hC h1 h2 => ti (Cmp_19 (pm (by decide) h1) (pm (by decide) h2))) ?_
      refine pk_cons rfl rfl (st_pureV [.int .i64 (ordQ ((a.floor : Int) : Rat) a)] [] (.bool (decide (ordQ ((a.floor : Int) : Rat) a > 0))) (.bool false) (congrArg Value.bool (decide_eq_false (Int.not_lt.2 (ordQ_le (Rat.floor_le a))))) rfl hN_6 (by kernel_rfl) (by kernel_rfl) (by kernel_rfl) old0 (by kernel_rfl) (by kernel_rfl) (by kernel_rfl) (fun _ => by kernel_rfl)) ?_
      refine pk_cons rfl rfl (st_pure [.bool false] [] (.bool false) rfl hN_6 (by kernel_rfl) (by kernel_rfl) (by kernel_rfl) old0 (by kernel_rfl) (by kernel_rfl) (by kernel_rfl) (fun _ => by kernel_rfl)) ?_
      refine pk_cons rfl rfl (st_load4P p9_6 p9'_6 (by simp) e9_6 hN_6 (by kernel_rfl) rfl) ?_
      refine pk_cons rfl rfl (st_call0 [.int .i64 (1)] hN_6 (by kernel_rfl) (by kernel_rfl) rfl rfl fun w x hC => tz (z_of (1) 1 (by decide) (by decide) (by decide))) ?_
      refine pk_cons rfl rfl (st_call1 hN_6 (by kernel_rfl) (by kernel_rfl) (by kernel_rfl) rfl rfl fun w x v1 hC h1 => tp (whole1 (rr h1) (by decide))) ?_
      refine pk_cons rfl rfl (st_call2 hN_6 (by kernel_rfl) (by kernel_rfl) (by kernel_rfl) (by kernel_rfl) (by kernel_rfl) rfl rfl rfl fun w x v1 v2 hC h1 h2 => ti (Cmp_39 (pm (by decide) h1) (pm (by decide) h2))) ?_
      refine pk_cons rfl rfl (st_pureV [.int .i64 (ordQ (a + (-((a.floor : Int) : Rat))) (1 : Rat))] [] (.bool (decide (ordQ (a + (-((a.floor : Int) : Rat))) (1 : Rat) ≥ 0))) (.bool false) (congrArg Value.bool (decide_eq_false (ordQ_ge (floor_gap a)))) rfl hN_6 (by kernel_rfl) (by kernel_rfl) (by kernel_rfl) old0 (by kernel_rfl) (by kernel_rfl) (by kernel_rfl) (fun _ => by kernel_rfl)) ?_
      refine pk_cons rfl rfl (st_pure [.bool false, .bool false] [] (.bool false) rfl hN_6 (by kernel_rfl) (by kernel_rfl) (by kernel_rfl) old0 (by kernel_rfl) (by kernel_rfl) (by kernel_rfl) (fun _ => by kernel_rfl)) ?_
      exact pk_nil rfl
    intro W_7 x hC hall
    refine then_n ?_
    obtain ⟨a_7, ha⟩ : ∃ a, a = putE x a_6 [(0, some 87), (1, some 88), (2, some 89), (3, some 90), (4, some 91), (5, some 92), (6, some 93), (7, some 94), (8, some 95), (9, some 96), (10, some 97)] := ⟨_, rfl⟩
    rw [← ha]
    have hN_7 := size_behind ha hN_6
    have hD_7 := defers_behind ha hD_6
    have bb_7 := bb_6.trans hC.below
    have e3_7 := slot_old ha (by kernel_rfl) e3_6
    have e4_7 := slot_old ha (by kernel_rfl) e4_6
    have e5_7 := slot_old ha (by kernel_rfl) e5_6
    have e13_7 := slot_old ha (by kernel_rfl) e13_6
    have e34_7 := slot_old ha (by kernel_rfl) e34_6
    have e7_7 := slot_old ha (by kernel_rfl) e7_6
    have e80_7 := slot_old ha (by kernel_rfl) e80_6
    have e8_7 := slot_old ha (by kernel_rfl) e8_6
    have e9_7 := slot_old ha (by kernel_rfl) e9_6
    have f1_7 := hC.at0 f1_6
    have f1'_7 := hC.at0 f1'_6
    have f2_7 := hC.at0 f2_6
    have f2'_7 := hC.at0 f2'_6
    have f3_7 := hC.at0 f3_6
    have f3'_7 := hC.at0 f3'_6
    have p8_7 := hC.at0 p8_6
    have p8'_7 := hC.at0 p8'_6
    have p9_7 := hC.at0 p9_6
    have p9'_7 := hC.at0 p9'_6
    have e97_7 := (slot_new (t := 97) (i := 10) ha hN_6 (by kernel_rfl) (by kernel_rfl)).trans (show x 10 = .bool false from hall 10 (of_decide_eq_true (by kernel_rfl)))
    clear hall hC ha bb_6 hD_6 e3_6 e4_6 e5_6 e13_6 e34_6 e7_6 e80_6 e8_6 e9_6 f1_6 f1'_6 f2_6 f2'_6 f3_6 f3'_6 p8_6 p8'_6 p9_6 p9'_6
    refine wp_cond_false e97_7 ?_
    repeat (first | refine wp_seq ?_ | (refine wp_skip ?_; refine then_n ?_))
    refine wp_region_law hN_7 w.heap.size
      [kP 9 (a.num) ((a.den : Int)), kIs (.string (textQ a)), kPT 19 (a.num) ((a.den : Int)) (.bool true), kPT 19 (a.num) ((a.den : Int)) (.bool true), kP 19 (a.num) ((a.den : Int)), kIs (.bool true), PK.fresh 4, kPutP 6 19 (a.num) ((a.den : Int)), kIs (.bool true)]
      [ [], [(0, some 99)], [(1, some 100)], [(2, some 101)], [(3, some 98)], [(3, some 98)], [], [(6, some 10), (4, some 102)], [(5, some 103)] ]
      [(0, some 99), (1, some 100), (2, some 101), (3, some 98), (4, some 102), (5, some 103), (6, some 10), (7, none), (8, some 11)] [] [] (by kernel_rfl) (by kernel_rfl) (by kernel_rfl) (by kernel_rfl) (by kernel_rfl) (by kernel_rfl) (by kernel_rfl) bb_7.size ?_ ?_
    ·
      refine pk_cons rfl rfl (st_load4P f1_7 f1'_7 (by simp) e3_7 hN_7 (by kernel_rfl) rfl) ?_
      refine pk_cons rfl rfl (st_call1 hN_7 (by kernel_rfl) (by kernel_rfl) (by kernel_rfl) rfl rfl fun w x v1 hC h1 => ti (Text_9 (Lib.hid ⟨HT.out.1.below (bb_7.trans hC.below) HT.out.2, Nat.le_trans HT.out.2 (bb_7.trans hC.below).size⟩) (pm (by decide) h1))) ?_
      refine pk_cons rfl rfl (st_call1 hN_7 (by kernel_rfl) (by kernel_rfl) (by kernel_rfl) rfl rfl fun w x v1 hC h1 => tpt (parse_q h1 HQ.out.1 HQ.out.2 (Lib.hid ⟨HT.out.1.below (bb_7.trans hC.below) HT.out.2, Nat.le_trans HT.out.2 (bb_7.trans hC.below).size⟩) (HM.out.below (bb_7.trans hC.below)))) ?_
      refine pk_cons rfl rfl (st_move hN_7 (by kernel_rfl) (by kernel_rfl) rfl rfl) ?_
      refine pk_cons rfl rfl (st_ext hN_7 (by kernel_rfl) (by kernel_rfl) rfl rfl ext_p) ?_
      refine pk_cons rfl rfl (st_ext hN_7 (by kernel_rfl) (by kernel_rfl) rfl rfl ext_v) ?_
      refine pk_cons rfl rfl (st_allocP hN_7 (by kernel_rfl) (Nat.le_refl _) rfl) ?_
      refine pk_cons rfl rfl (st_putP hN_7 (by kernel_rfl) (by kernel_rfl) (by kernel_rfl) rfl rfl rfl) ?_
      refine pk_cons rfl rfl (st_pure [.bool true] [] (.bool true) rfl hN_7 (by kernel_rfl) (by kernel_rfl) (by kernel_rfl) old0 (by kernel_rfl) (by kernel_rfl) (by kernel_rfl) (fun _ => by kernel_rfl)) ?_
      exact pk_nil rfl
    intro W_8 x hC hall
    refine then_n ?_
    obtain ⟨a_8, ha⟩ : ∃ a, a = putE x a_7 [(0, some 99), (1, some 100), (2, some 101), (3, some 98), (4, some 102), (5, some 103), (6, some 10), (7, none), (8, some 11)] := ⟨_, rfl⟩
    rw [← ha]
    have hN_8 := size_behind ha hN_7
    have hD_8 := defers_behind ha hD_7
    have bb_8 := bb_7.trans hC.below
    have e3_8 := slot_old ha (by kernel_rfl) e3_7
    have e4_8 := slot_old ha (by kernel_rfl) e4_7
    have e5_8 := slot_old ha (by kernel_rfl) e5_7
    have e13_8 := slot_old ha (by kernel_rfl) e13_7
    have e34_8 := slot_old ha (by kernel_rfl) e34_7
    have e7_8 := slot_old ha (by kernel_rfl) e7_7
    have e80_8 := slot_old ha (by kernel_rfl) e80_7
    have e8_8 := slot_old ha (by kernel_rfl) e8_7
    have e9_8 := slot_old ha (by kernel_rfl) e9_7
    have e97_8 := slot_old ha (by kernel_rfl) e97_7
    have f1_8 := hC.at0 f1_7
    have f1'_8 := hC.at0 f1'_7
    have f2_8 := hC.at0 f2_7
    have f2'_8 := hC.at0 f2'_7
    have f3_8 := hC.at0 f3_7
    have f3'_8 := hC.at0 f3'_7
    have p8_8 := hC.at0 p8_7
    have p8'_8 := hC.at0 p8'_7
    have p9_8 := hC.at0 p9_7
    have p9'_8 := hC.at0 p9'_7
    obtain ⟨g10, hx, hge, p10_8, p10'_8⟩ := put_atP (show (kPutP 6 19 (a.num) ((a.den : Int))).sem _ _ _ _ from hall 7 (of_decide_eq_true (by kernel_rfl)))
    have e10_8 := (slot_new (t := 10) (i := 6) ha hN_7 (by kernel_rfl) (by kernel_rfl)).trans hx
    clear hx hge
    have e11_8 := (slot_new (t := 11) (i := 8) ha hN_7 (by kernel_rfl) (by kernel_rfl)).trans (show x 8 = .bool true from hall 8 (of_decide_eq_true (by kernel_rfl)))
    clear hall hC ha bb_7 hD_7 e3_7 e4_7 e5_7 e13_7 e34_7 e7_7 e80_7 e8_7 e9_7 e97_7 f1_7 f1'_7 f2_7 f2'_7 f3_7 f3'_7 p8_7 p8'_7 p9_7 p9'_7
    repeat (first | refine wp_seq ?_ | (refine wp_skip ?_; refine then_n ?_))
    refine wp_region_law hN_8 w.heap.size
      [kIs (.bool true), kIs (.bool true), kP 19 (a.num) ((a.den : Int)), kP 9 (a.num) ((a.den : Int)), kIs (.bool true), kIs (.bool true), kIs (.bool true), kP 9 (a.num) ((a.den : Int)), kIs (.string (textQ a)), kP 9 (b.num) ((b.den : Int)), kIs (.string (textQ b)), kIs (.bool false), kIs (.int .i64 (1)), kIs (.bool false), kIs (.bool true), kIs (.bool true), kIs (.bool true)]
      [ [], [(0, some 104)], [], [], [(2, some 106), (3, some 107)], [(1, some 105), (4, some 108)], [(5, some 109)], [], [(7, some 111)], [], [(9, some 113)], [(8, some 112), (10, some 114)], [], [(12, some 116)], [(11, some 115), (13, some 117)], [(6, some 110), (14, some 118)], [(15, some 119)] ]
      [(0, some 104), (1, some 105), (2, some 106), (3, some 107), (4, some 108), (5, some 109), (6, some 110), (7, some 111), (8, some 112), (9, some 113), (10, some 114), (11, some 115), (12, some 116), (13, some 117), (14, some 118), (15, some 119), (16, some 6)] [(1, true), (6, true)] [] (by kernel_rfl) (by kernel_rfl) (by kernel_rfl) (by kernel_rfl) (by kernel_rfl) (by kernel_rfl) (by kernel_rfl) bb_8.size ?_ ?_
    ·
      refine pk_cons rfl rfl (st_pure [] [(11, .bool true)] (.bool true) rfl hN_8 (by kernel_rfl) (by kernel_rfl) (by kernel_rfl) (old1 e11_8) (by kernel_rfl) (by kernel_rfl) (by kernel_rfl) (fun _ => by kernel_rfl)) ?_
      refine pk_cons rfl rfl (st_pure [.bool true] [] (.bool true) rfl hN_8 (by kernel_rfl) (by kernel_rfl) (by kernel_rfl) old0 (by kernel_rfl) (by kernel_rfl) (by kernel_rfl) (fun _ => by kernel_rfl)) ?_
      refine pk_cons rfl rfl (st_load4P p10_8 p10'_8 (by simp) e10_8 hN_8 (by kernel_rfl) rfl) ?_
      refine pk_cons rfl rfl (st_load4P f1_8 f1'_8 (by simp) e3_8 hN_8 (by kernel_rfl) rfl) ?_
      refine pk_cons rfl rfl (st_call2 hN_8 (by kernel_rfl) (by kernel_rfl) (by kernel_rfl) (by kernel_rfl) (by kernel_rfl) rfl rfl rfl fun w x v1 v2 hC h1 h2 => ti (lawSame_19 (pm (by decide) h1) (pm (by decide) h2))) ?_
      refine pk_cons rfl rfl (st_pure [.bool true, .bool true] [] (.bool true) rfl hN_8 (by kernel_rfl) (by kernel_rfl) (by kernel_rfl) old0 (by kernel_rfl) (by kernel_rfl) (by kernel_rfl) (fun _ => by kernel_rfl)) ?_
      refine pk_cons rfl rfl (st_pure [.bool true] [] (.bool true) rfl hN_8 (by kernel_rfl) (by kernel_rfl) (by kernel_rfl) old0 (by kernel_rfl) (by kernel_rfl) (by kernel_rfl) (fun _ => by kernel_rfl)) ?_
      refine pk_cons rfl rfl (st_load4P f1_8 f1'_8 (by simp) e3_8 hN_8 (by kernel_rfl) rfl) ?_
      refine pk_cons rfl rfl (st_call1 hN_8 (by kernel_rfl) (by kernel_rfl) (by kernel_rfl) rfl rfl fun w x v1 hC h1 => ti (Text_9 (Lib.hid ⟨HT.out.1.below (bb_8.trans hC.below) HT.out.2, Nat.le_trans HT.out.2 (bb_8.trans hC.below).size⟩) (pm (by decide) h1))) ?_
      refine pk_cons rfl rfl (st_load4P f2_8 f2'_8 (by simp) e4_8 hN_8 (by kernel_rfl) rfl) ?_
      refine pk_cons rfl rfl (st_call1 hN_8 (by kernel_rfl) (by kernel_rfl) (by kernel_rfl) rfl rfl fun w x v1 hC h1 => ti (Text_9 (Lib.hid ⟨HT.out.1.below (bb_8.trans hC.below) HT.out.2, Nat.le_trans HT.out.2 (bb_8.trans hC.below).size⟩) (pm (by decide) h1))) ?_
      refine pk_cons rfl rfl (st_pureV [.string (textQ a), .string (textQ b)] [] (.bool ((textQ a).toList == (textQ b).toList)) (.bool false) (congrArg Value.bool (textQ_neq (Rat.ne_of_gt hs))) rfl hN_8 (by kernel_rfl) (by kernel_rfl) (by kernel_rfl) old0 (by kernel_rfl) (by kernel_rfl) (by kernel_rfl) (fun _ => by kernel_rfl)) ?_
      refine pk_cons rfl rfl (st_pure [] [(7, .int .i64 (1))] (.int .i64 (1)) rfl hN_8 (by kernel_rfl) (by kernel_rfl) (by kernel_rfl) (old1 e7_8) (by kernel_rfl) (by kernel_rfl) (by kernel_rfl) (fun _ => by kernel_rfl)) ?_
      refine pk_cons rfl rfl (st_pure [.int .i64 (1)] [] (.bool false) rfl hN_8 (by kernel_rfl) (by kernel_rfl) (by kernel_rfl) old0 (by kernel_rfl) (by kernel_rfl) (by kernel_rfl) (fun _ => by kernel_rfl)) ?_
      refine pk_cons rfl rfl (st_pure [.bool false, .bool false] [] (.bool true) rfl hN_8 (by kernel_rfl) (by kernel_rfl) (by kernel_rfl) old0 (by kernel_rfl) (by kernel_rfl) (by kernel_rfl) (fun _ => by kernel_rfl)) ?_
      refine pk_cons rfl rfl (st_pure [.bool true, .bool true] [] (.bool true) rfl hN_8 (by kernel_rfl) (by kernel_rfl) (by kernel_rfl) old0 (by kernel_rfl) (by kernel_rfl) (by kernel_rfl) (fun _ => by kernel_rfl)) ?_
      refine pk_cons rfl rfl (st_pure [.bool true] [] (.bool true) rfl hN_8 (by kernel_rfl) (by kernel_rfl) (by kernel_rfl) old0 (by kernel_rfl) (by kernel_rfl) (by kernel_rfl) (fun _ => by kernel_rfl)) ?_
      exact pk_nil rfl
    intro W_9 x hC hall
    refine then_n ?_
    obtain ⟨a_9, ha⟩ : ∃ a, a = putE x a_8 [(0, some 104), (1, some 105), (2, some 106), (3, some 107), (4, some 108), (5, some 109), (6, some 110), (7, some 111), (8, some 112), (9, some 113), (10, some 114), (11, some 115), (12, some 116), (13, some 117), (14, some 118), (15, some 119), (16, some 6)] := ⟨_, rfl⟩
    rw [← ha]
    have hN_9 := size_behind ha hN_8
    have hD_9 := defers_behind ha hD_8
    have bb_9 := bb_8.trans hC.below
    have e3_9 := slot_old ha (by kernel_rfl) e3_8
    have e4_9 := slot_old ha (by kernel_rfl) e4_8
    have e5_9 := slot_old ha (by kernel_rfl) e5_8
    have e13_9 := slot_old ha (by kernel_rfl) e13_8
    have e34_9 := slot_old ha (by kernel_rfl) e34_8
    have e7_9 := slot_old ha (by kernel_rfl) e7_8
    have e80_9 := slot_old ha (by kernel_rfl) e80_8
    have e8_9 := slot_old ha (by kernel_rfl) e8_8
    have e9_9 := slot_old ha (by kernel_rfl) e9_8
    have e97_9 := slot_old ha (by kernel_rfl) e97_8
    have e10_9 := slot_old ha (by kernel_rfl) e10_8
    have e11_9 := slot_old ha (by kernel_rfl) e11_8
    have f1_9 := hC.at0 f1_8
    have f1'_9 := hC.at0 f1'_8
    have f2_9 := hC.at0 f2_8
    have f2'_9 := hC.at0 f2'_8
    have f3_9 := hC.at0 f3_8
    have f3'_9 := hC.at0 f3'_8
    have p8_9 := hC.at0 p8_8
    have p8'_9 := hC.at0 p8'_8
    have p9_9 := hC.at0 p9_8
    have p9'_9 := hC.at0 p9'_8
    have p10_9 := hC.at0 p10_8
    have p10'_9 := hC.at0 p10'_8
    have e6_9 := (slot_new (t := 6) (i := 16) ha hN_8 (by kernel_rfl) (by kernel_rfl)).trans (show x 16 = .bool true from hall 16 (of_decide_eq_true (by kernel_rfl)))
    clear hall hC ha bb_8 hD_8 e3_8 e4_8 e5_8 e13_8 e34_8 e7_8 e80_8 e8_8 e9_8 e97_8 e10_8 e11_8 f1_8 f1'_8 f2_8 f2'_8 f3_8 f3'_8 p8_8 p8'_8 p9_8 p9'_8 p10_8 p10'_8
    repeat (first | refine wp_seq ?_ | (refine wp_skip ?_; refine then_n ?_))
    refine wp_ret ?_
    repeat (refine then_r ?_)
    exact ret_one (t := 6) rfl hD_9 e6_9 ⟨rfl, bb_9⟩
end Go.Proofs.YthgclmkhmcfflaaGreatDoor

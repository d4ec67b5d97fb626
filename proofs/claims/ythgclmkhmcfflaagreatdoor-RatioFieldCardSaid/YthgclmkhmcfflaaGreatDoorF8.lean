/- RatioField, its row and its card: for every three ratios the call returns true; the ratios read behind the call as they read before. Conditions: those of the given row and card: the three tables of the library are laid as the program's text lays them. Awake of layer 3, and the law RatioField, walked: of any three ratios the call returns true. Premises: the table of powers of ten reads as it is laid; the library's cell internal/bytealg.MaxLen holds some int. A ratio that came in, opened; the wrap of a law's row with the world's shape kept beside the laid tables; the library's cell that its search asks. No condition. -/
import Derived.Test.YthgclmkhmcfflaaGreatDoorTie
import Derived.Test.YthgclmkhmcfflaaGreatDoorCards
import Derived.SevenTiedAt
import Derived.Shelf.Vars
import Derived.Test.YthgclmkhmcfflaaGreatDoorF1
import Derived.Test.YthgclmkhmcfflaaGreatDoorF2
import Derived.Test.YthgclmkhmcfflaaGreatDoorF3
import Derived.Test.YthgclmkhmcfflaaGreatDoorF4
import Derived.Test.YthgclmkhmcfflaaGreatDoorF5
import Derived.Test.YthgclmkhmcfflaaGreatDoorF6
import Derived.Test.YthgclmkhmcfflaaGreatDoorF7
namespace Go.Proofs.YthgclmkhmcfflaaGreatDoor
open Go.RowKit
set_option maxRecDepth 100000 in
set_option maxHeartbeats 8000000 in
theorem awake3_any {w : World} (HT : Hid (Tab w ∧ 4 ≤ w.heap.size)) (hm : MaxL w) : Calls Tryz.prog 6 #[] w fun e w' => e = .returned (.bool true) ∧ Below w.heap.size w w' := by
  have HM := Lib.hid hm
  clear hm
  go_enter Tryz.func6, Tryz.ntmps6
  repeat (refine wp_seq ?_)
  refine region_k ?_
  intro K hK
  have HK := Lib.hid hK
  clear hK
  go_wp2
  refine HK.out _ _ ?_
  clear HK
  refine then_n ?_
  have bb_0 : Below w.heap.size w w := Below.refl _ _
  refine name_frame (G := fun a => Code.wp _ _ _ a _) ?_
  intro a_0 ha
  have hN_0 : a_0.tmps.size = 33 := by subst ha; kernel_rfl
  have hD_0 : a_0.defers = [] := by subst ha; rfl
  clear ha
  repeat (first | refine wp_seq ?_ | (refine wp_skip ?_; refine then_n ?_))
  refine wp_region_law hN_0 w.heap.size
    [kZ 1 ((6 : Int)), kZ 1 ((-4 : Int)), kPT 9 (awQ.num) ((awQ.den : Int)) (.int .i64 (0)), kPT 9 (awQ.num) ((awQ.den : Int)) (.int .i64 (0)), kP 9 (awQ.num) ((awQ.den : Int)), kIs (.int .i64 (0)), PK.fresh 4, kPutP 6 9 (awQ.num) ((awQ.den : Int)), kIs (.int .i64 (0))]
    [ [], [], [(0, some 6), (1, some 7)], [(2, some 8)], [(3, some 5)], [(3, some 5)], [], [(6, some 1), (4, some 9)], [(5, some 10)] ]
    [(0, some 6), (1, some 7), (2, some 8), (3, some 5), (4, some 9), (5, some 10), (6, some 1), (7, none), (8, some 2)] [] [] (by kernel_rfl) (by kernel_rfl) (by kernel_rfl) (by kernel_rfl) (by kernel_rfl) (by kernel_rfl) (by kernel_rfl) bb_0.size ?_ ?_
  ·
    refine pk_cons rfl rfl (st_call0 [.int .i64 (6)] hN_0 (by kernel_rfl) (by kernel_rfl) rfl rfl fun w x hC => tz (z_of (6) 1 (by decide) (by decide) (by decide))) ?_
    refine pk_cons rfl rfl (st_call0 [Value.int IntKind.i64 (-4)] hN_0 (by kernel_rfl) (by kernel_rfl) rfl rfl fun w x hC => tz (z_of (-4) 1 (by decide) (by decide) (by decide))) ?_
    refine pk_cons rfl rfl (st_call2 hN_0 (by kernel_rfl) (by kernel_rfl) (by kernel_rfl) (by kernel_rfl) (by kernel_rfl) rfl rfl rfl fun w x v1 v2 hC h1 h2 => tpt (told_of6 (rr h1) (rr h2))) ?_
    refine pk_cons rfl rfl (st_move hN_0 (by kernel_rfl) (by kernel_rfl) rfl rfl) ?_
    refine pk_cons rfl rfl (st_ext hN_0 (by kernel_rfl) (by kernel_rfl) rfl rfl ext_p) ?_
    refine pk_cons rfl rfl (st_ext hN_0 (by kernel_rfl) (by kernel_rfl) rfl rfl ext_v) ?_
    refine pk_cons rfl rfl (st_allocP hN_0 (by kernel_rfl) (Nat.le_refl _) rfl) ?_
    refine pk_cons rfl rfl (st_putP hN_0 (by kernel_rfl) (by kernel_rfl) (by kernel_rfl) rfl rfl rfl) ?_
    refine pk_cons rfl rfl (st_pure [.int .i64 (0)] [] (.int .i64 (0)) rfl hN_0 (by kernel_rfl) (by kernel_rfl) (by kernel_rfl) old0 (by kernel_rfl) (by kernel_rfl) (by kernel_rfl) (fun _ => by kernel_rfl)) ?_
    exact pk_nil rfl
  intro W_1 x hC hall
  refine then_n ?_
  obtain ⟨a_1, ha⟩ : ∃ a, a = putE x a_0 [(0, some 6), (1, some 7), (2, some 8), (3, some 5), (4, some 9), (5, some 10), (6, some 1), (7, none), (8, some 2)] := ⟨_, rfl⟩
  rw [← ha]
  have hN_1 := size_behind ha hN_0
  have hD_1 := defers_behind ha hD_0
  have bb_1 := bb_0.trans hC.below
  obtain ⟨g1, hx, hge, p1_1, p1'_1⟩ := put_atP (show (kPutP 6 9 (awQ.num) ((awQ.den : Int))).sem _ _ _ _ from hall 7 (of_decide_eq_true (by kernel_rfl)))
  have e1_1 := (slot_new (t := 1) (i := 6) ha hN_0 (by kernel_rfl) (by kernel_rfl)).trans hx
  clear hx hge
  have e2_1 := (slot_new (t := 2) (i := 8) ha hN_0 (by kernel_rfl) (by kernel_rfl)).trans (show x 8 = .int .i64 (0) from hall 8 (of_decide_eq_true (by kernel_rfl)))
  clear hall hC ha bb_0 hD_0
  repeat (first | refine wp_seq ?_ | (refine wp_skip ?_; refine then_n ?_))
  refine wp_region_law hN_1 w.heap.size
    [kPT 9 ((0 : Rat).num) (((0 : Rat).den : Int)) (.bool false), kPT 9 ((0 : Rat).num) (((0 : Rat).den : Int)) (.bool false), kP 9 ((0 : Rat).num) (((0 : Rat).den : Int)), kIs (.bool false), PK.fresh 4, kPutP 4 9 ((0 : Rat).num) (((0 : Rat).den : Int)), kIs (.bool false)]
    [ [], [(0, some 12)], [(1, some 11)], [(1, some 11)], [], [(4, some 3), (2, some 13)], [(3, some 14)] ]
    [(0, some 12), (1, some 11), (2, some 13), (3, some 14), (4, some 3), (5, none), (6, some 4)] [] [] (by kernel_rfl) (by kernel_rfl) (by kernel_rfl) (by kernel_rfl) (by kernel_rfl) (by kernel_rfl) (by kernel_rfl) bb_1.size ?_ ?_
  ·
    refine pk_cons rfl rfl (st_call0 [Value.string { data := #[54, 47, 52] }] hN_1 (by kernel_rfl) (by kernel_rfl) rfl rfl fun w x hC => tpt (parse_six (Lib.hid ⟨HT.out.1.below (bb_1.trans hC.below) HT.out.2, Nat.le_trans HT.out.2 (bb_1.trans hC.below).size⟩) (HM.out.below (bb_1.trans hC.below)))) ?_
    refine pk_cons rfl rfl (st_move hN_1 (by kernel_rfl) (by kernel_rfl) rfl rfl) ?_
    refine pk_cons rfl rfl (st_ext hN_1 (by kernel_rfl) (by kernel_rfl) rfl rfl ext_p) ?_
    refine pk_cons rfl rfl (st_ext hN_1 (by kernel_rfl) (by kernel_rfl) rfl rfl ext_v) ?_
    refine pk_cons rfl rfl (st_allocP hN_1 (by kernel_rfl) (Nat.le_refl _) rfl) ?_
    refine pk_cons rfl rfl (st_putP hN_1 (by kernel_rfl) (by kernel_rfl) (by kernel_rfl) rfl rfl rfl) ?_
    refine pk_cons rfl rfl (st_pure [.bool false] [] (.bool false) rfl hN_1 (by kernel_rfl) (by kernel_rfl) (by kernel_rfl) old0 (by kernel_rfl) (by kernel_rfl) (by kernel_rfl) (fun _ => by kernel_rfl)) ?_
    exact pk_nil rfl
  intro W_2 x hC hall
  refine then_n ?_
  obtain ⟨a_2, ha⟩ : ∃ a, a = putE x a_1 [(0, some 12), (1, some 11), (2, some 13), (3, some 14), (4, some 3), (5, none), (6, some 4)] := ⟨_, rfl⟩
  rw [← ha]
  have hN_2 := size_behind ha hN_1
  have hD_2 := defers_behind ha hD_1
  have bb_2 := bb_1.trans hC.below
  have e1_2 := slot_old ha (by kernel_rfl) e1_1
  have e2_2 := slot_old ha (by kernel_rfl) e2_1
  have p1_2 := hC.at0 p1_1
  have p1'_2 := hC.at0 p1'_1
  obtain ⟨g3, hx, hge, p3_2, p3'_2⟩ := put_atP (show (kPutP 4 9 ((0 : Rat).num) (((0 : Rat).den : Int))).sem _ _ _ _ from hall 5 (of_decide_eq_true (by kernel_rfl)))
  have e3_2 := (slot_new (t := 3) (i := 4) ha hN_1 (by kernel_rfl) (by kernel_rfl)).trans hx
  clear hx hge
  have e4_2 := (slot_new (t := 4) (i := 6) ha hN_1 (by kernel_rfl) (by kernel_rfl)).trans (show x 6 = .bool false from hall 6 (of_decide_eq_true (by kernel_rfl)))
  clear hall hC ha bb_1 hD_1 e1_1 e2_1 p1_1 p1'_1
  repeat (first | refine wp_seq ?_ | (refine wp_skip ?_; refine then_n ?_))
  refine wp_region_law hN_2 w.heap.size
    [kIs (.int .i64 (0)), kIs (.bool true), kIs (.bool true), kP 9 (awQ.num) ((awQ.den : Int)), kIs (.string (textQ awQ)), kIs (.bool true), kIs (.bool true), kIs (.bool true), kP 9 (awQ.num) ((awQ.den : Int)), kZ 10 (zq (awQ.num) ((awQ.den : Int))), kZ 1 ((-2 : Int)), kIs (.int .i64 (0)), kIs (.bool true), kIs (.bool true), kIs (.bool true), kIs (.bool false), kIs (.bool true), kIs (.bool true), kIs (.bool true)]
    [ [], [(0, some 15)], [(1, some 16)], [], [(3, some 18)], [(4, some 19)], [(2, some 17), (5, some 20)], [(6, some 21)], [], [(8, some 23)], [], [(9, some 24), (10, some 25)], [(11, some 26)], [(7, some 22), (12, some 27)], [(13, some 28)], [], [(15, some 30)], [(14, some 29), (16, some 31)], [(17, some 32)] ]
    [(0, some 15), (1, some 16), (2, some 17), (3, some 18), (4, some 19), (5, some 20), (6, some 21), (7, some 22), (8, some 23), (9, some 24), (10, some 25), (11, some 26), (12, some 27), (13, some 28), (14, some 29), (15, some 30), (16, some 31), (17, some 32), (18, some 0)] [(2, true), (7, true), (14, true)] [] (by kernel_rfl) (by kernel_rfl) (by kernel_rfl) (by kernel_rfl) (by kernel_rfl) (by kernel_rfl) (by kernel_rfl) bb_2.size ?_ ?_
  ·
    refine pk_cons rfl rfl (st_pure [] [(2, .int .i64 (0))] (.int .i64 (0)) rfl hN_2 (by kernel_rfl) (by kernel_rfl) (by kernel_rfl) (old1 e2_2) (by kernel_rfl) (by kernel_rfl) (by kernel_rfl) (fun _ => by kernel_rfl)) ?_
    refine pk_cons rfl rfl (st_pure [.int .i64 (0)] [] (.bool true) rfl hN_2 (by kernel_rfl) (by kernel_rfl) (by kernel_rfl) old0 (by kernel_rfl) (by kernel_rfl) (by kernel_rfl) (fun _ => by kernel_rfl)) ?_
    refine pk_cons rfl rfl (st_pure [.bool true] [] (.bool true) rfl hN_2 (by kernel_rfl) (by kernel_rfl) (by kernel_rfl) old0 (by kernel_rfl) (by kernel_rfl) (by kernel_rfl) (fun _ => by kernel_rfl)) ?_
    refine pk_cons rfl rfl (st_load4P p1_2 p1'_2 (by simp) e1_2 hN_2 (by kernel_rfl) rfl) ?_
    refine pk_cons rfl rfl (st_call1 hN_2 (by kernel_rfl) (by kernel_rfl) (by kernel_rfl) rfl rfl fun w x v1 hC h1 => ti (Text_9 (Lib.hid ⟨HT.out.1.below (bb_2.trans hC.below) HT.out.2, Nat.le_trans HT.out.2 (bb_2.trans hC.below).size⟩) (pm (by decide) h1))) ?_
    refine pk_cons rfl rfl (st_pureV [.string (textQ awQ)] [] (.bool ((textQ awQ).toList == (⟨#[45, 51, 47, 50]⟩ : ByteArray).toList)) (.bool true) (congrArg Value.bool (beq_iff_eq.2 awQ_text)) rfl hN_2 (by kernel_rfl) (by kernel_rfl) (by kernel_rfl) old0 (by kernel_rfl) (by kernel_rfl) (by kernel_rfl) (fun _ => by kernel_rfl)) ?_
    refine pk_cons rfl rfl (st_pure [.bool true, .bool true] [] (.bool true) rfl hN_2 (by kernel_rfl) (by kernel_rfl) (by kernel_rfl) old0 (by kernel_rfl) (by kernel_rfl) (by kernel_rfl) (fun _ => by kernel_rfl)) ?_
    refine pk_cons rfl rfl (st_pure [.bool true] [] (.bool true) rfl hN_2 (by kernel_rfl) (by kernel_rfl) (by kernel_rfl) old0 (by kernel_rfl) (by kernel_rfl) (by kernel_rfl) (fun _ => by kernel_rfl)) ?_
    refine pk_cons rfl rfl (st_load4P p1_2 p1'_2 (by simp) e1_2 hN_2 (by kernel_rfl) rfl) ?_
    refine pk_cons rfl rfl (st_call1 hN_2 (by kernel_rfl) (by kernel_rfl) (by kernel_rfl) rfl rfl fun w x v1 hC h1 => tz (Floor_9 (pm (by decide) h1))) ?_
    refine pk_cons rfl rfl (st_call0 [Value.int IntKind.i64 (-2)] hN_2 (by kernel_rfl) (by kernel_rfl) rfl rfl fun w x hC => tz (z_of (-2) 1 (by decide) (by decide) (by decide))) ?_
    refine pk_cons rfl rfl (st_call2 hN_2 (by kernel_rfl) (by kernel_rfl) (by kernel_rfl) (by kernel_rfl) (by kernel_rfl) rfl rfl rfl fun w x v1 v2 hC h1 h2 => ti (cmp_is (ord_eq awQ_floor) (z_cmp (rz h1) (rz h2) (by decide) (by decide)))) ?_
    refine pk_cons rfl rfl (st_pure [.int .i64 (0)] [] (.bool true) rfl hN_2 (by kernel_rfl) (by kernel_rfl) (by kernel_rfl) old0 (by kernel_rfl) (by kernel_rfl) (by kernel_rfl) (fun _ => by kernel_rfl)) ?_
    refine pk_cons rfl rfl (st_pure [.bool true, .bool true] [] (.bool true) rfl hN_2 (by kernel_rfl) (by kernel_rfl) (by kernel_rfl) old0 (by kernel_rfl) (by kernel_rfl) (by kernel_rfl) (fun _ => by kernel_rfl)) ?_
    refine pk_cons rfl rfl (st_pure [.bool true] [] (.bool true) rfl hN_2 (by kernel_rfl) (by kernel_rfl) (by kernel_rfl) old0 (by kernel_rfl) (by kernel_rfl) (by kernel_rfl) (fun _ => by kernel_rfl)) ?_
    refine pk_cons rfl rfl (st_pure [] [(4, .bool false)] (.bool false) rfl hN_2 (by kernel_rfl) (by kernel_rfl) (by kernel_rfl) (old1 e4_2) (by kernel_rfl) (by kernel_rfl) (by kernel_rfl) (fun _ => by kernel_rfl)) ?_
    refine pk_cons rfl rfl (st_pure [.bool false] [] (.bool true) rfl hN_2 (by kernel_rfl) (by kernel_rfl) (by kernel_rfl) old0 (by kernel_rfl) (by kernel_rfl) (by kernel_rfl) (fun _ => by kernel_rfl)) ?_
    refine pk_cons rfl rfl (st_pure [.bool true, .bool true] [] (.bool true) rfl hN_2 (by kernel_rfl) (by kernel_rfl) (by kernel_rfl) old0 (by kernel_rfl) (by kernel_rfl) (by kernel_rfl) (fun _ => by kernel_rfl)) ?_
    refine pk_cons rfl rfl (st_pure [.bool true] [] (.bool true) rfl hN_2 (by kernel_rfl) (by kernel_rfl) (by kernel_rfl) old0 (by kernel_rfl) (by kernel_rfl) (by kernel_rfl) (fun _ => by kernel_rfl)) ?_
    exact pk_nil rfl
  intro W_3 x hC hall
  refine then_n ?_
  obtain ⟨a_3, ha⟩ : ∃ a, a = putE x a_2 [(0, some 15), (1, some 16), (2, some 17), (3, some 18), (4, some 19), (5, some 20), (6, some 21), (7, some 22), (8, some 23), (9, some 24), (10, some 25), (11, some 26), (12, some 27), (13, some 28), (14, some 29), (15, some 30), (16, some 31), (17, some 32), (18, some 0)] := ⟨_, rfl⟩
  rw [← ha]
  have hN_3 := size_behind ha hN_2
  have hD_3 := defers_behind ha hD_2
  have bb_3 := bb_2.trans hC.below
  have e1_3 := slot_old ha (by kernel_rfl) e1_2
  have e2_3 := slot_old ha (by kernel_rfl) e2_2
  have e3_3 := slot_old ha (by kernel_rfl) e3_2
  have e4_3 := slot_old ha (by kernel_rfl) e4_2
  have p1_3 := hC.at0 p1_2
  have p1'_3 := hC.at0 p1'_2
  have p3_3 := hC.at0 p3_2
  have p3'_3 := hC.at0 p3'_2
  have e0_3 := (slot_new (t := 0) (i := 18) ha hN_2 (by kernel_rfl) (by kernel_rfl)).trans (show x 18 = .bool true from hall 18 (of_decide_eq_true (by kernel_rfl)))
  clear hall hC ha bb_2 hD_2 e1_2 e2_2 e3_2 e4_2 p1_2 p1'_2 p3_2 p3'_2
  repeat (first | refine wp_seq ?_ | (refine wp_skip ?_; refine then_n ?_))
  refine wp_ret ?_
  repeat (refine then_r ?_)
  exact ret_one (t := 0) rfl hD_3 e0_3 ⟨rfl, bb_3⟩
set_option maxRecDepth 100000 in
set_option maxHeartbeats 16000000 in
theorem lawField_great {w : World} {A1 A1' A2 A2' A3 A3' : Option Addr} {l1 l1' c1 c1' l2 l2' c2 c2' l3 l3' c3 c3' : Nat} {b1 b1' b2 b2' b3 b3' : Bool} (hf : fewP [(l1, l1'), (l2, l2'), (l3, l3')] = false) (HT : Hid (Tab w ∧ 4 ≤ w.heap.size)) (hm : MaxL w) :
    Calls Tryz.prog 4 #[.agg #[.bool b1, .slice A1 l1 c1, .bool b1', .slice A1' l1' c1'], .agg #[.bool b2, .slice A2 l2 c2, .bool b2', .slice A2' l2' c2'], .agg #[.bool b3, .slice A3 l3 c3, .bool b3', .slice A3' l3' c3']] w fun e w' => e = .returned (.bool true) ∧ Below w.heap.size w w' := by
  have HM := Lib.hid hm
  have haw := fun (W : World) (hW : Below w.heap.size w W) => awake3_any (w := W) (Lib.hid ⟨HT.out.1.below hW HT.out.2, Nat.le_trans HT.out.2 hW.size⟩) (hm.below hW)
  have HA := Lib.hid haw
  clear haw hm
  have HF := Lib.hid hf
  clear hf
  go_enter Tryz.func4, Tryz.ntmps4
  repeat (refine wp_seq ?_)
  refine region_k ?_
  intro K hK
  have HK := Lib.hid hK
  clear hK
  go_wp2
  refine HK.out _ _ ?_
  clear HK
  refine then_n ?_
  obtain ⟨W_0, hW⟩ : ∃ W, W = ((w.alloc (Obj.cells #[Value.bool b1, Value.slice A1 l1 c1, Value.bool b1', Value.slice A1' l1' c1'] 27)).alloc (Obj.cells #[Value.bool b2, Value.slice A2 l2 c2, Value.bool b2', Value.slice A2' l2' c2'] 27)).alloc (Obj.cells #[Value.bool b3, Value.slice A3 l3 c3, Value.bool b3', Value.slice A3' l3' c3'] 27) := ⟨_, rfl⟩
  obtain ⟨bb_0, K0, K1, K2⟩ := three_new4 hW
  rw [← hW]
  clear hW
  refine name_frame (G := fun a => Code.wp _ _ _ a _) ?_
  intro a_0 ha
  have hN_0 : a_0.tmps.size = 159 := by subst ha; kernel_rfl
  have hD_0 : a_0.defers = [] := by subst ha; rfl
  have e3_0 : a_0.eval (.tmp 3) = .pointer (some ⟨w.heap.size, 0, none⟩) := by subst ha; kernel_rfl
  have H3_0 : Holds_ W_0 (w.heap.size) #[.bool b1, .slice A1 l1 c1, .bool b1', .slice A1' l1' c1'] := ⟨⟨_, K0⟩, by simp [noDig]⟩
  have e4_0 : a_0.eval (.tmp 4) = .pointer (some ⟨w.heap.size + 1, 0, none⟩) := by subst ha; kernel_rfl
  have H4_0 : Holds_ W_0 (w.heap.size + 1) #[.bool b2, .slice A2 l2 c2, .bool b2', .slice A2' l2' c2'] := ⟨⟨_, K1⟩, by simp [noDig]⟩
  have e5_0 : a_0.eval (.tmp 5) = .pointer (some ⟨w.heap.size + 1 + 1, 0, none⟩) := by subst ha; kernel_rfl
  have H5_0 : Holds_ W_0 (w.heap.size + 1 + 1) #[.bool b3, .slice A3 l3 c3, .bool b3', .slice A3' l3' c3'] := ⟨⟨_, K2⟩, by simp [noDig]⟩
  clear ha K0 K1 K2
  repeat (first | refine wp_seq ?_ | (refine wp_skip ?_; refine then_n ?_))
  refine wp_region_law hN_0 w.heap.size
    [kIs (.bool true), kIs (.bool false)]
    [ [], [(0, some 12)] ]
    [(0, some 12), (1, some 13)] [] [] (by kernel_rfl) (by kernel_rfl) (by kernel_rfl) (by kernel_rfl) (by kernel_rfl) (by kernel_rfl) (by kernel_rfl) bb_0.size ?_ ?_
  ·
    refine pk_cons rfl rfl (st_call0 [] hN_0 (by kernel_rfl) (by kernel_rfl) rfl rfl fun w x hC => ti (HA.out _ (bb_0.trans hC.below))) ?_
    refine pk_cons rfl rfl (st_pure [.bool true] [] (.bool false) rfl hN_0 (by kernel_rfl) (by kernel_rfl) (by kernel_rfl) old0 (by kernel_rfl) (by kernel_rfl) (by kernel_rfl) (fun _ => by kernel_rfl)) ?_
    exact pk_nil rfl
  intro W_1 x hC hall
  refine then_n ?_
  obtain ⟨a_1, ha⟩ : ∃ a, a = putE x a_0 [(0, some 12), (1, some 13)] := ⟨_, rfl⟩
  rw [← ha]
  have hN_1 := size_behind ha hN_0
  have hD_1 := defers_behind ha hD_0
  have bb_1 := bb_0.trans hC.below
  have e3_1 := slot_old ha (by kernel_rfl) e3_0
  have e4_1 := slot_old ha (by kernel_rfl) e4_0
  have e5_1 := slot_old ha (by kernel_rfl) e5_0
  have H3_1 := hC.holds H3_0
  have H4_1 := hC.holds H4_0
  have H5_1 := hC.holds H5_0
  have e13_1 := (slot_new (t := 13) (i := 1) ha hN_0 (by kernel_rfl) (by kernel_rfl)).trans (show x 1 = .bool false from hall 1 (of_decide_eq_true (by kernel_rfl)))
  clear hall hC ha bb_0 hD_0 e3_0 e4_0 e5_0 H3_0 H4_0 H5_0
  refine wp_cond_false e13_1 ?_
  repeat (first | refine wp_seq ?_ | (refine wp_skip ?_; refine then_n ?_))
  refine wp_region_law hN_1 w.heap.size
    [kIs (.agg #[.bool b1, .slice A1 l1 c1, .bool b1', .slice A1' l1' c1']), kIs (.agg #[.bool b2, .slice A2 l2 c2, .bool b2', .slice A2' l2' c2']), kIs (.agg #[.bool b3, .slice A3 l3 c3, .bool b3', .slice A3' l3' c3']), kLensP [(l1, l1'), (l2, l2'), (l3, l3')], kIs (.bool false), kIs (.bool true), kIs (.bool true), kIs undef, kIs undef, kIs undef, kIs (.bool true), kIs (.bool true), kIs undef, kIs undef, kIs undef, kIs (.bool true), kIs (.bool true), kIs undef, kIs undef, kIs undef, kIs (.bool true)]
    [ [], [], [], [(0, some 14), (1, some 15), (2, some 16)], [(3, some 17)], [(4, some 18)], [(5, some 19)], [], [(7, some 21)], [(8, some 22)], [(6, some 20), (9, some 23)], [(10, some 24)], [], [(12, some 26)], [(13, some 27)], [(11, some 25), (14, some 28)], [(15, some 29)], [], [(17, some 31)], [(18, some 32)], [(16, some 30), (19, some 33)] ]
    [(0, some 14), (1, some 15), (2, some 16), (3, some 17), (4, some 18), (5, some 19), (6, some 20), (7, some 21), (8, some 22), (9, some 23), (10, some 24), (11, some 25), (12, some 26), (13, some 27), (14, some 28), (15, some 29), (16, some 30), (17, some 31), (18, some 32), (19, some 33), (20, some 34)] [(6, true), (11, true), (16, true)] [7, 8, 9, 12, 13, 14, 17, 18, 19] (by kernel_rfl) (by kernel_rfl) (by kernel_rfl) (by kernel_rfl) (by kernel_rfl) (by kernel_rfl) (by kernel_rfl) bb_1.size ?_ ?_
  ·
    refine pk_cons rfl rfl (st_loadV4 H3_1 e3_1 hN_1 (by kernel_rfl) rfl) ?_
    refine pk_cons rfl rfl (st_loadV4 H4_1 e4_1 hN_1 (by kernel_rfl) rfl) ?_
    refine pk_cons rfl rfl (st_loadV4 H5_1 e5_1 hN_1 (by kernel_rfl) rfl) ?_
    refine pk_cons rfl rfl (st_lensP3 hN_1 (by kernel_rfl) (by kernel_rfl) (by kernel_rfl) (by kernel_rfl) (by kernel_rfl) (by kernel_rfl) (by kernel_rfl) (Nat.le_refl _) rfl rfl rfl rfl) ?_
    refine pk_cons rfl rfl (st_call1 hN_1 (by kernel_rfl) (by kernel_rfl) (by kernel_rfl) rfl rfl fun w x v1 hC h1 => ti (few_told h1 (by simp) HF.out)) ?_
    refine pk_cons rfl rfl (st_pure [.bool false] [] (.bool true) rfl hN_1 (by kernel_rfl) (by kernel_rfl) (by kernel_rfl) old0 (by kernel_rfl) (by kernel_rfl) (by kernel_rfl) (fun _ => by kernel_rfl)) ?_
    refine pk_cons rfl rfl (st_pure [.bool true] [] (.bool true) rfl hN_1 (by kernel_rfl) (by kernel_rfl) (by kernel_rfl) old0 (by kernel_rfl) (by kernel_rfl) (by kernel_rfl) (fun _ => by kernel_rfl)) ?_
    refine pk_skip rfl ?_
    refine pk_skip rfl ?_
    refine pk_skip rfl ?_
    refine pk_cons rfl rfl (st_pure [.bool true, undef] [] (.bool true) rfl hN_1 (by kernel_rfl) (by kernel_rfl) (by kernel_rfl) old0 (by kernel_rfl) (by kernel_rfl) (by kernel_rfl) (fun _ => by kernel_rfl)) ?_
    refine pk_cons rfl rfl (st_pure [.bool true] [] (.bool true) rfl hN_1 (by kernel_rfl) (by kernel_rfl) (by kernel_rfl) old0 (by kernel_rfl) (by kernel_rfl) (by kernel_rfl) (fun _ => by kernel_rfl)) ?_
    refine pk_skip rfl ?_
    refine pk_skip rfl ?_
    refine pk_skip rfl ?_
    refine pk_cons rfl rfl (st_pure [.bool true, undef] [] (.bool true) rfl hN_1 (by kernel_rfl) (by kernel_rfl) (by kernel_rfl) old0 (by kernel_rfl) (by kernel_rfl) (by kernel_rfl) (fun _ => by kernel_rfl)) ?_
    refine pk_cons rfl rfl (st_pure [.bool true] [] (.bool true) rfl hN_1 (by kernel_rfl) (by kernel_rfl) (by kernel_rfl) old0 (by kernel_rfl) (by kernel_rfl) (by kernel_rfl) (fun _ => by kernel_rfl)) ?_
    refine pk_skip rfl ?_
    refine pk_skip rfl ?_
    refine pk_skip rfl ?_
    refine pk_cons rfl rfl (st_pure [.bool true, undef] [] (.bool true) rfl hN_1 (by kernel_rfl) (by kernel_rfl) (by kernel_rfl) old0 (by kernel_rfl) (by kernel_rfl) (by kernel_rfl) (fun _ => by kernel_rfl)) ?_
    exact pk_nil rfl
  intro W_2 x hC hall
  refine then_n ?_
  obtain ⟨a_2, ha⟩ : ∃ a, a = putE x a_1 [(0, some 14), (1, some 15), (2, some 16), (3, some 17), (4, some 18), (5, some 19), (6, some 20), (7, some 21), (8, some 22), (9, some 23), (10, some 24), (11, some 25), (12, some 26), (13, some 27), (14, some 28), (15, some 29), (16, some 30), (17, some 31), (18, some 32), (19, some 33), (20, some 34)] := ⟨_, rfl⟩
  rw [← ha]
  have hN_2 := size_behind ha hN_1
  have hD_2 := defers_behind ha hD_1
  have bb_2 := bb_1.trans hC.below
  have e3_2 := slot_old ha (by kernel_rfl) e3_1
  have e4_2 := slot_old ha (by kernel_rfl) e4_1
  have e5_2 := slot_old ha (by kernel_rfl) e5_1
  have e13_2 := slot_old ha (by kernel_rfl) e13_1
  have H3_2 := hC.holds H3_1
  have H4_2 := hC.holds H4_1
  have H5_2 := hC.holds H5_1
  have e34_2 := (slot_new (t := 34) (i := 20) ha hN_1 (by kernel_rfl) (by kernel_rfl)).trans (show x 20 = .bool true from hall 20 (of_decide_eq_true (by kernel_rfl)))
  clear hall hC ha bb_1 hD_1 e3_1 e4_1 e5_1 e13_1 H3_1 H4_1 H5_1
  refine wp_cond_true e34_2 ?_
  repeat (first | refine wp_seq ?_ | (refine wp_skip ?_; refine then_n ?_))
  refine wp_region_law hN_2 w.heap.size
    [kIs (.bool true)]
    [ [] ]
    [(0, some 6)] [] [] (by kernel_rfl) (by kernel_rfl) (by kernel_rfl) (by kernel_rfl) (by kernel_rfl) (by kernel_rfl) (by kernel_rfl) bb_2.size ?_ ?_
  ·
    refine pk_cons rfl rfl (st_pure [] [] (.bool true) rfl hN_2 (by kernel_rfl) (by kernel_rfl) (by kernel_rfl) old0 (by kernel_rfl) (by kernel_rfl) (by kernel_rfl) (fun _ => by kernel_rfl)) ?_
    exact pk_nil rfl
  intro W_3 x hC hall
  refine then_n ?_
  obtain ⟨a_3, ha⟩ : ∃ a, a = putE x a_2 [(0, some 6)] := ⟨_, rfl⟩
  rw [← ha]
  have hN_3 := size_behind ha hN_2
  have hD_3 := defers_behind ha hD_2
  have bb_3 := bb_2.trans hC.below
  have e3_3 := slot_old ha (by kernel_rfl) e3_2
  have e4_3 := slot_old ha (by kernel_rfl) e4_2
  have e5_3 := slot_old ha (by kernel_rfl) e5_2
  have e13_3 := slot_old ha (by kernel_rfl) e13_2
  have e34_3 := slot_old ha (by kernel_rfl) e34_2
  have e6_3 := (slot_new (t := 6) (i := 0) ha hN_2 (by kernel_rfl) (by kernel_rfl)).trans (show x 0 = .bool true from hall 0 (of_decide_eq_true (by kernel_rfl)))
  clear hall hC ha bb_2 hD_2 e3_2 e4_2 e5_2 e13_2 e34_2
  repeat (first | refine wp_seq ?_ | (refine wp_skip ?_; refine then_n ?_))
  refine wp_ret ?_
  repeat (refine then_r ?_)
  exact ret_one (t := 6) rfl hD_3 e6_3 ⟨rfl, bb_3⟩
set_option maxRecDepth 100000 in
set_option maxHeartbeats 16000000 in
theorem lawField_no1 {w : World} {A1 A1' A2 A2' A3 A3' : Option Addr} {l1 l1' c1 c1' l2 l2' c2 c2' l3 l3' c3 c3' : Nat} {b1 b1' b2 b2' b3 b3' : Bool} (hf : fewP [(l1, l1'), (l2, l2'), (l3, l3')] = true) (hr1 : ∀ W, Below w.heap.size w W → Calls Tryz.prog 11 #[.agg #[.bool b1, .slice A1 l1 c1, .bool b1', .slice A1' l1' c1']] W (SaysB W false)) (HT : Hid (Tab w ∧ 4 ≤ w.heap.size)) (hm : MaxL w) :
    Calls Tryz.prog 4 #[.agg #[.bool b1, .slice A1 l1 c1, .bool b1', .slice A1' l1' c1'], .agg #[.bool b2, .slice A2 l2 c2, .bool b2', .slice A2' l2' c2'], .agg #[.bool b3, .slice A3 l3 c3, .bool b3', .slice A3' l3' c3']] w fun e w' => e = .returned (.bool true) ∧ Below w.heap.size w w' := by
  have HM := Lib.hid hm
  have haw := fun (W : World) (hW : Below w.heap.size w W) => awake3_any (w := W) (Lib.hid ⟨HT.out.1.below hW HT.out.2, Nat.le_trans HT.out.2 hW.size⟩) (hm.below hW)
  have HA := Lib.hid haw
  clear haw hm
  have HF := Lib.hid hf
  clear hf
  have HR1 := Lib.hid hr1
  clear hr1
  go_enter Tryz.func4, Tryz.ntmps4
  repeat (refine wp_seq ?_)
  refine region_k ?_
  intro K hK
  have HK := Lib.hid hK
  clear hK
  go_wp2
  refine HK.out _ _ ?_
  clear HK
  refine then_n ?_
  obtain ⟨W_0, hW⟩ : ∃ W, W = ((w.alloc (Obj.cells #[Value.bool b1, Value.slice A1 l1 c1, Value.bool b1', Value.slice A1' l1' c1'] 27)).alloc (Obj.cells #[Value.bool b2, Value.slice A2 l2 c2, Value.bool b2', Value.slice A2' l2' c2'] 27)).alloc (Obj.cells #[Value.bool b3, Value.slice A3 l3 c3, Value.bool b3', Value.slice A3' l3' c3'] 27) := ⟨_, rfl⟩
  obtain ⟨bb_0, K0, K1, K2⟩ := three_new4 hW
  rw [← hW]
  clear hW
  refine name_frame (G := fun a => Code.wp _ _ _ a _) ?_
  intro a_0 ha
  have hN_0 : a_0.tmps.size = 159 := by subst ha; kernel_rfl
  have hD_0 : a_0.defers = [] := by subst ha; rfl
  have e3_0 : a_0.eval (.tmp 3) = .pointer (some ⟨w.heap.size, 0, none⟩) := by subst ha; kernel_rfl
  have H3_0 : Holds_ W_0 (w.heap.size) #[.bool b1, .slice A1 l1 c1, .bool b1', .slice A1' l1' c1'] := ⟨⟨_, K0⟩, by simp [noDig]⟩
  have e4_0 : a_0.eval (.tmp 4) = .pointer (some ⟨w.heap.size + 1, 0, none⟩) := by subst ha; kernel_rfl
  have H4_0 : Holds_ W_0 (w.heap.size + 1) #[.bool b2, .slice A2 l2 c2, .bool b2', .slice A2' l2' c2'] := ⟨⟨_, K1⟩, by simp [noDig]⟩
  have e5_0 : a_0.eval (.tmp 5) = .pointer (some ⟨w.heap.size + 1 + 1, 0, none⟩) := by subst ha; kernel_rfl
  have H5_0 : Holds_ W_0 (w.heap.size + 1 + 1) #[.bool b3, .slice A3 l3 c3, .bool b3', .slice A3' l3' c3'] := ⟨⟨_, K2⟩, by simp [noDig]⟩
  clear ha K0 K1 K2
  repeat (first | refine wp_seq ?_ | (refine wp_skip ?_; refine then_n ?_))
  refine wp_region_law hN_0 w.heap.size
    [kIs (.bool true), kIs (.bool false)]
    [ [], [(0, some 12)] ]
    [(0, some 12), (1, some 13)] [] [] (by kernel_rfl) (by kernel_rfl) (by kernel_rfl) (by kernel_rfl) (by kernel_rfl) (by kernel_rfl) (by kernel_rfl) bb_0.size ?_ ?_
  ·
    refine pk_cons rfl rfl (st_call0 [] hN_0 (by kernel_rfl) (by kernel_rfl) rfl rfl fun w x hC => ti (HA.out _ (bb_0.trans hC.below))) ?_
    refine pk_cons rfl rfl (st_pure [.bool true] [] (.bool false) rfl hN_0 (by kernel_rfl) (by kernel_rfl) (by kernel_rfl) old0 (by kernel_rfl) (by kernel_rfl) (by kernel_rfl) (fun _ => by kernel_rfl)) ?_
    exact pk_nil rfl
  intro W_1 x hC hall
  refine then_n ?_
  obtain ⟨a_1, ha⟩ : ∃ a, a = putE x a_0 [(0, some 12), (1, some 13)] := ⟨_, rfl⟩
  rw [← ha]
  have hN_1 := size_behind ha hN_0
  have hD_1 := defers_behind ha hD_0
  have bb_1 := bb_0.trans hC.below
  have e3_1 := slot_old ha (by kernel_rfl) e3_0
  have e4_1 := slot_old ha (by kernel_rfl) e4_0
  have e5_1 := slot_old ha (by kernel_rfl) e5_0
  have H3_1 := hC.holds H3_0
  have H4_1 := hC.holds H4_0
  have H5_1 := hC.holds H5_0
  have e13_1 := (slot_new (t := 13) (i := 1) ha hN_0 (by kernel_rfl) (by kernel_rfl)).trans (show x 1 = .bool false from hall 1 (of_decide_eq_true (by kernel_rfl)))
  clear hall hC ha bb_0 hD_0 e3_0 e4_0 e5_0 H3_0 H4_0 H5_0
  refine wp_cond_false e13_1 ?_
  repeat (first | refine wp_seq ?_ | (refine wp_skip ?_; refine then_n ?_))
  refine wp_region_law hN_1 w.heap.size
    [kIs (.agg #[.bool b1, .slice A1 l1 c1, .bool b1', .slice A1' l1' c1']), kIs (.agg #[.bool b2, .slice A2 l2 c2, .bool b2', .slice A2' l2' c2']), kIs (.agg #[.bool b3, .slice A3 l3 c3, .bool b3', .slice A3' l3' c3']), kLensP [(l1, l1'), (l2, l2'), (l3, l3')], kIs (.bool true), kIs (.bool false), kIs (.bool false), kIs (.agg #[.bool b1, .slice A1 l1 c1, .bool b1', .slice A1' l1' c1']), kIs (.bool false), kIs (.bool true), kIs (.bool true), kIs (.bool true), kIs undef, kIs undef, kIs undef, kIs (.bool true), kIs (.bool true), kIs undef, kIs undef, kIs undef, kIs (.bool true)]
    [ [], [], [], [(0, some 14), (1, some 15), (2, some 16)], [(3, some 17)], [(4, some 18)], [(5, some 19)], [], [(7, some 21)], [(8, some 22)], [(6, some 20), (9, some 23)], [(10, some 24)], [], [(12, some 26)], [(13, some 27)], [(11, some 25), (14, some 28)], [(15, some 29)], [], [(17, some 31)], [(18, some 32)], [(16, some 30), (19, some 33)] ]
    [(0, some 14), (1, some 15), (2, some 16), (3, some 17), (4, some 18), (5, some 19), (6, some 20), (7, some 21), (8, some 22), (9, some 23), (10, some 24), (11, some 25), (12, some 26), (13, some 27), (14, some 28), (15, some 29), (16, some 30), (17, some 31), (18, some 32), (19, some 33), (20, some 34)] [(6, false), (11, true), (16, true)] [12, 13, 14, 17, 18, 19] (by kernel_rfl) (by kernel_rfl) (by kernel_rfl) (by kernel_rfl) (by kernel_rfl) (by kernel_rfl) (by kernel_rfl) bb_1.size ?_ ?_
  ·
    refine pk_cons rfl rfl (st_loadV4 H3_1 e3_1 hN_1 (by kernel_rfl) rfl) ?_
    refine pk_cons rfl rfl (st_loadV4 H4_1 e4_1 hN_1 (by kernel_rfl) rfl) ?_
    refine pk_cons rfl rfl (st_loadV4 H5_1 e5_1 hN_1 (by kernel_rfl) rfl) ?_
    refine pk_cons rfl rfl (st_lensP3 hN_1 (by kernel_rfl) (by kernel_rfl) (by kernel_rfl) (by kernel_rfl) (by kernel_rfl) (by kernel_rfl) (by kernel_rfl) (Nat.le_refl _) rfl rfl rfl rfl) ?_
    refine pk_cons rfl rfl (st_call1 hN_1 (by kernel_rfl) (by kernel_rfl) (by kernel_rfl) rfl rfl fun w x v1 hC h1 => ti (few_told h1 (by simp) HF.out)) ?_
    refine pk_cons rfl rfl (st_pure [.bool true] [] (.bool false) rfl hN_1 (by kernel_rfl) (by kernel_rfl) (by kernel_rfl) old0 (by kernel_rfl) (by kernel_rfl) (by kernel_rfl) (fun _ => by kernel_rfl)) ?_
    refine pk_cons rfl rfl (st_pure [.bool false] [] (.bool false) rfl hN_1 (by kernel_rfl) (by kernel_rfl) (by kernel_rfl) old0 (by kernel_rfl) (by kernel_rfl) (by kernel_rfl) (fun _ => by kernel_rfl)) ?_
    refine pk_cons rfl rfl (st_loadV4 H3_1 e3_1 hN_1 (by kernel_rfl) rfl) ?_
    refine pk_cons rfl rfl (st_call1 hN_1 (by kernel_rfl) (by kernel_rfl) (by kernel_rfl) rfl rfl fun w x v1 hC h1 => ti (right_said HR1 h1 (bb_1.trans hC.below))) ?_
    refine pk_cons rfl rfl (st_pure [.bool false] [] (.bool true) rfl hN_1 (by kernel_rfl) (by kernel_rfl) (by kernel_rfl) old0 (by kernel_rfl) (by kernel_rfl) (by kernel_rfl) (fun _ => by kernel_rfl)) ?_
    refine pk_cons rfl rfl (st_pure [.bool false, .bool true] [] (.bool true) rfl hN_1 (by kernel_rfl) (by kernel_rfl) (by kernel_rfl) old0 (by kernel_rfl) (by kernel_rfl) (by kernel_rfl) (fun _ => by kernel_rfl)) ?_
    refine pk_cons rfl rfl (st_pure [.bool true] [] (.bool true) rfl hN_1 (by kernel_rfl) (by kernel_rfl) (by kernel_rfl) old0 (by kernel_rfl) (by kernel_rfl) (by kernel_rfl) (fun _ => by kernel_rfl)) ?_
    refine pk_skip rfl ?_
    refine pk_skip rfl ?_
    refine pk_skip rfl ?_
    refine pk_cons rfl rfl (st_pure [.bool true, undef] [] (.bool true) rfl hN_1 (by kernel_rfl) (by kernel_rfl) (by kernel_rfl) old0 (by kernel_rfl) (by kernel_rfl) (by kernel_rfl) (fun _ => by kernel_rfl)) ?_
    refine pk_cons rfl rfl (st_pure [.bool true] [] (.bool true) rfl hN_1 (by kernel_rfl) (by kernel_rfl) (by kernel_rfl) old0 (by kernel_rfl) (by kernel_rfl) (by kernel_rfl) (fun _ => by kernel_rfl)) ?_
    refine pk_skip rfl ?_
    refine pk_skip rfl ?_
    refine pk_skip rfl ?_
    refine pk_cons rfl rfl (st_pure [.bool true, undef] [] (.bool true) rfl hN_1 (by kernel_rfl) (by kernel_rfl) (by kernel_rfl) old0 (by kernel_rfl) (by kernel_rfl) (by kernel_rfl) (fun _ => by kernel_rfl)) ?_
    exact pk_nil rfl
  intro W_2 x hC hall
  refine then_n ?_
  obtain ⟨a_2, ha⟩ : ∃ a, a = putE x a_1 [(0, some 14), (1, some 15), (2, some 16), (3, some 17), (4, some 18), (5, some 19), (6, some 20), (7, some 21), (8, some 22), (9, some 23), (10, some 24), (11, some 25), (12, some 26), (13, some 27), (14, some 28), (15, some 29), (16, some 30), (17, some 31), (18, some 32), (19, some 33), (20, some 34)] := ⟨_, rfl⟩
  rw [← ha]
  have hN_2 := size_behind ha hN_1
  have hD_2 := defers_behind ha hD_1
  have bb_2 := bb_1.trans hC.below
  have e3_2 := slot_old ha (by kernel_rfl) e3_1
  have e4_2 := slot_old ha (by kernel_rfl) e4_1
  have e5_2 := slot_old ha (by kernel_rfl) e5_1
  have e13_2 := slot_old ha (by kernel_rfl) e13_1
  have H3_2 := hC.holds H3_1
  have H4_2 := hC.holds H4_1
  have H5_2 := hC.holds H5_1
  have e34_2 := (slot_new (t := 34) (i := 20) ha hN_1 (by kernel_rfl) (by kernel_rfl)).trans (show x 20 = .bool true from hall 20 (of_decide_eq_true (by kernel_rfl)))
  clear hall hC ha bb_1 hD_1 e3_1 e4_1 e5_1 e13_1 H3_1 H4_1 H5_1
  refine wp_cond_true e34_2 ?_
  repeat (first | refine wp_seq ?_ | (refine wp_skip ?_; refine then_n ?_))
  refine wp_region_law hN_2 w.heap.size
    [kIs (.bool true)]
    [ [] ]
    [(0, some 6)] [] [] (by kernel_rfl) (by kernel_rfl) (by kernel_rfl) (by kernel_rfl) (by kernel_rfl) (by kernel_rfl) (by kernel_rfl) bb_2.size ?_ ?_
  ·
    refine pk_cons rfl rfl (st_pure [] [] (.bool true) rfl hN_2 (by kernel_rfl) (by kernel_rfl) (by kernel_rfl) old0 (by kernel_rfl) (by kernel_rfl) (by kernel_rfl) (fun _ => by kernel_rfl)) ?_
    exact pk_nil rfl
  intro W_3 x hC hall
  refine then_n ?_
  obtain ⟨a_3, ha⟩ : ∃ a, a = putE x a_2 [(0, some 6)] := ⟨_, rfl⟩
  rw [← ha]
  have hN_3 := size_behind ha hN_2
  have hD_3 := defers_behind ha hD_2
  have bb_3 := bb_2.trans hC.below
  have e3_3 := slot_old ha (by kernel_rfl) e3_2
  have e4_3 := slot_old ha (by kernel_rfl) e4_2
  have e5_3 := slot_old ha (by kernel_rfl) e5_2
  have e13_3 := slot_old ha (by kernel_rfl) e13_2
  have e34_3 := slot_old ha (by kernel_rfl) e34_2
  have e6_3 := (slot_new (t := 6) (i := 0) ha hN_2 (by kernel_rfl) (by kernel_rfl)).trans (show x 0 = .bool true from hall 0 (of_decide_eq_true (by kernel_rfl)))
  clear hall hC ha bb_2 hD_2 e3_2 e4_2 e5_2 e13_2 e34_2
  repeat (first | refine wp_seq ?_ | (refine wp_skip ?_; refine then_n ?_))
  refine wp_ret ?_
  repeat (refine then_r ?_)
  exact ret_one (t := 6) rfl hD_3 e6_3 ⟨rfl, bb_3⟩
set_option maxRecDepth 100000 in
set_option maxHeartbeats 16000000 in
theorem lawField_no2 {w : World} {A1 A1' A2 A2' A3 A3' : Option Addr} {l1 l1' c1 c1' l2 l2' c2 c2' l3 l3' c3 c3' : Nat} {b1 b1' b2 b2' b3 b3' : Bool} (hf : fewP [(l1, l1'), (l2, l2'), (l3, l3')] = true) {a : Rat} (q1 : Pr w (.agg #[.bool b1, .slice A1 l1 c1, .bool b1', .slice A1' l1' c1']) 9 a.num (a.den : Int)) (hr2 : ∀ W, Below w.heap.size w W → Calls Tryz.prog 11 #[.agg #[.bool b2, .slice A2 l2 c2, .bool b2', .slice A2' l2' c2']] W (SaysB W false)) (HT : Hid (Tab w ∧ 4 ≤ w.heap.size)) (hm : MaxL w) :
    Calls Tryz.prog 4 #[.agg #[.bool b1, .slice A1 l1 c1, .bool b1', .slice A1' l1' c1'], .agg #[.bool b2, .slice A2 l2 c2, .bool b2', .slice A2' l2' c2'], .agg #[.bool b3, .slice A3 l3 c3, .bool b3', .slice A3' l3' c3']] w fun e w' => e = .returned (.bool true) ∧ Below w.heap.size w w' := by
  have HM := Lib.hid hm
  have haw := fun (W : World) (hW : Below w.heap.size w W) => awake3_any (w := W) (Lib.hid ⟨HT.out.1.below hW HT.out.2, Nat.le_trans HT.out.2 hW.size⟩) (hm.below hW)
  have HA := Lib.hid haw
  clear haw hm
  have HF := Lib.hid hf
  clear hf
  have hr1 := fun (W : World) (hW : Below w.heap.size w W) => (show Calls Tryz.prog 11 #[.agg #[.bool b1, .slice A1 l1 c1, .bool b1', .slice A1' l1' c1']] W (SaysB W true) from right_9 (q1.below hW))
  have HR1 := Lib.hid hr1
  clear hr1
  have Q1 := Lib.hid q1
  clear q1
  have HR2 := Lib.hid hr2
  clear hr2
  go_enter Tryz.func4, Tryz.ntmps4
  repeat (refine wp_seq ?_)
  refine region_k ?_
  intro K hK
  have HK := Lib.hid hK
  clear hK
  go_wp2
  refine HK.out _ _ ?_
  clear HK
  refine then_n ?_
  obtain ⟨W_0, hW⟩ : ∃ W, W = ((w.alloc (Obj.cells #[Value.bool b1, Value.slice A1 l1 c1, Value.bool b1', Value.slice A1' l1' c1'] 27)).alloc (Obj.cells #[Value.bool b2, Value.slice A2 l2 c2, Value.bool b2', Value.slice A2' l2' c2'] 27)).alloc (Obj.cells #[Value.bool b3, Value.slice A3 l3 c3, Value.bool b3', Value.slice A3' l3' c3'] 27) := ⟨_, rfl⟩
  obtain ⟨bb_0, K0, K1, K2⟩ := three_new4 hW
  rw [← hW]
  clear hW
  refine name_frame (G := fun a => Code.wp _ _ _ a _) ?_
  intro a_0 ha
  have hN_0 : a_0.tmps.size = 159 := by subst ha; kernel_rfl
  have hD_0 : a_0.defers = [] := by subst ha; rfl
  have e3_0 : a_0.eval (.tmp 3) = .pointer (some ⟨w.heap.size, 0, none⟩) := by subst ha; kernel_rfl
  have H3_0 : Holds_ W_0 (w.heap.size) #[.bool b1, .slice A1 l1 c1, .bool b1', .slice A1' l1' c1'] := ⟨⟨_, K0⟩, by simp [noDig]⟩
  have e4_0 : a_0.eval (.tmp 4) = .pointer (some ⟨w.heap.size + 1, 0, none⟩) := by subst ha; kernel_rfl
  have H4_0 : Holds_ W_0 (w.heap.size + 1) #[.bool b2, .slice A2 l2 c2, .bool b2', .slice A2' l2' c2'] := ⟨⟨_, K1⟩, by simp [noDig]⟩
  have e5_0 : a_0.eval (.tmp 5) = .pointer (some ⟨w.heap.size + 1 + 1, 0, none⟩) := by subst ha; kernel_rfl
  have H5_0 : Holds_ W_0 (w.heap.size + 1 + 1) #[.bool b3, .slice A3 l3 c3, .bool b3', .slice A3' l3' c3'] := ⟨⟨_, K2⟩, by simp [noDig]⟩
  clear ha K0 K1 K2
  repeat (first | refine wp_seq ?_ | (refine wp_skip ?_; refine then_n ?_))
  refine wp_region_law hN_0 w.heap.size
    [kIs (.bool true), kIs (.bool false)]
    [ [], [(0, some 12)] ]
    [(0, some 12), (1, some 13)] [] [] (by kernel_rfl) (by kernel_rfl) (by kernel_rfl) (by kernel_rfl) (by kernel_rfl) (by kernel_rfl) (by kernel_rfl) bb_0.size ?_ ?_
  ·
    refine pk_cons rfl rfl (st_call0 [] hN_0 (by kernel_rfl) (by kernel_rfl) rfl rfl fun w x hC => ti (HA.out _ (bb_0.trans hC.below))) ?_
    refine pk_cons rfl rfl (st_pure [.bool true] [] (.bool false) rfl hN_0 (by kernel_rfl) (by kernel_rfl) (by kernel_rfl) old0 (by kernel_rfl) (by kernel_rfl) (by kernel_rfl) (fun _ => by kernel_rfl)) ?_
    exact pk_nil rfl
  intro W_1 x hC hall
  refine then_n ?_
  obtain ⟨a_1, ha⟩ : ∃ a, a = putE x a_0 [(0, some 12), (1, some 13)] := ⟨_, rfl⟩
  rw [← ha]
  have hN_1 := size_behind ha hN_0
  have hD_1 := defers_behind ha hD_0
  have bb_1 := bb_0.trans hC.below
  have e3_1 := slot_old ha (by kernel_rfl) e3_0
  have e4_1 := slot_old ha (by kernel_rfl) e4_0
  have e5_1 := slot_old ha (by kernel_rfl) e5_0
  have H3_1 := hC.holds H3_0
  have H4_1 := hC.holds H4_0
  have H5_1 := hC.holds H5_0
  have e13_1 := (slot_new (t := 13) (i := 1) ha hN_0 (by kernel_rfl) (by kernel_rfl)).trans (show x 1 = .bool false from hall 1 (of_decide_eq_true (by kernel_rfl)))
  clear hall hC ha bb_0 hD_0 e3_0 e4_0 e5_0 H3_0 H4_0 H5_0
  refine wp_cond_false e13_1 ?_
  repeat (first | refine wp_seq ?_ | (refine wp_skip ?_; refine then_n ?_))
  refine wp_region_law hN_1 w.heap.size
    [kIs (.agg #[.bool b1, .slice A1 l1 c1, .bool b1', .slice A1' l1' c1']), kIs (.agg #[.bool b2, .slice A2 l2 c2, .bool b2', .slice A2' l2' c2']), kIs (.agg #[.bool b3, .slice A3 l3 c3, .bool b3', .slice A3' l3' c3']), kLensP [(l1, l1'), (l2, l2'), (l3, l3')], kIs (.bool true), kIs (.bool false), kIs (.bool false), kIs (.agg #[.bool b1, .slice A1 l1 c1, .bool b1', .slice A1' l1' c1']), kIs (.bool true), kIs (.bool false), kIs (.bool false), kIs (.bool false), kIs (.agg #[.bool b2, .slice A2 l2 c2, .bool b2', .slice A2' l2' c2']), kIs (.bool false), kIs (.bool true), kIs (.bool true), kIs (.bool true), kIs undef, kIs undef, kIs undef, kIs (.bool true)]
    [ [], [], [], [(0, some 14), (1, some 15), (2, some 16)], [(3, some 17)], [(4, some 18)], [(5, some 19)], [], [(7, some 21)], [(8, some 22)], [(6, some 20), (9, some 23)], [(10, some 24)], [], [(12, some 26)], [(13, some 27)], [(11, some 25), (14, some 28)], [(15, some 29)], [], [(17, some 31)], [(18, some 32)], [(16, some 30), (19, some 33)] ]
    [(0, some 14), (1, some 15), (2, some 16), (3, some 17), (4, some 18), (5, some 19), (6, some 20), (7, some 21), (8, some 22), (9, some 23), (10, some 24), (11, some 25), (12, some 26), (13, some 27), (14, some 28), (15, some 29), (16, some 30), (17, some 31), (18, some 32), (19, some 33), (20, some 34)] [(6, false), (11, false), (16, true)] [17, 18, 19] (by kernel_rfl) (by kernel_rfl) (by kernel_rfl) (by kernel_rfl) (by kernel_rfl) (by kernel_rfl) (by kernel_rfl) bb_1.size ?_ ?_
  ·
    refine pk_cons rfl rfl (st_loadV4 H3_1 e3_1 hN_1 (by kernel_rfl) rfl) ?_
    refine pk_cons rfl rfl (st_loadV4 H4_1 e4_1 hN_1 (by kernel_rfl) rfl) ?_
    refine pk_cons rfl rfl (st_loadV4 H5_1 e5_1 hN_1 (by kernel_rfl) rfl) ?_
    refine pk_cons rfl rfl (st_lensP3 hN_1 (by kernel_rfl) (by kernel_rfl) (by kernel_rfl) (by kernel_rfl) (by kernel_rfl) (by kernel_rfl) (by kernel_rfl) (Nat.le_refl _) rfl rfl rfl rfl) ?_
    refine pk_cons rfl rfl (st_call1 hN_1 (by kernel_rfl) (by kernel_rfl) (by kernel_rfl) rfl rfl fun w x v1 hC h1 => ti (few_told h1 (by simp) HF.out)) ?_
    refine pk_cons rfl rfl (st_pure [.bool true] [] (.bool false) rfl hN_1 (by kernel_rfl) (by kernel_rfl) (by kernel_rfl) old0 (by kernel_rfl) (by kernel_rfl) (by kernel_rfl) (fun _ => by kernel_rfl)) ?_
    refine pk_cons rfl rfl (st_pure [.bool false] [] (.bool false) rfl hN_1 (by kernel_rfl) (by kernel_rfl) (by kernel_rfl) old0 (by kernel_rfl) (by kernel_rfl) (by kernel_rfl) (fun _ => by kernel_rfl)) ?_
    refine pk_cons rfl rfl (st_loadV4 H3_1 e3_1 hN_1 (by kernel_rfl) rfl) ?_
    refine pk_cons rfl rfl (st_call1 hN_1 (by kernel_rfl) (by kernel_rfl) (by kernel_rfl) rfl rfl fun w x v1 hC h1 => ti (right_said HR1 h1 (bb_1.trans hC.below))) ?_
    refine pk_cons rfl rfl (st_pure [.bool true] [] (.bool false) rfl hN_1 (by kernel_rfl) (by kernel_rfl) (by kernel_rfl) old0 (by kernel_rfl) (by kernel_rfl) (by kernel_rfl) (fun _ => by kernel_rfl)) ?_
    refine pk_cons rfl rfl (st_pure [.bool false, .bool false] [] (.bool false) rfl hN_1 (by kernel_rfl) (by kernel_rfl) (by kernel_rfl) old0 (by kernel_rfl) (by kernel_rfl) (by kernel_rfl) (fun _ => by kernel_rfl)) ?_
    refine pk_cons rfl rfl (st_pure [.bool false] [] (.bool false) rfl hN_1 (by kernel_rfl) (by kernel_rfl) (by kernel_rfl) old0 (by kernel_rfl) (by kernel_rfl) (by kernel_rfl) (fun _ => by kernel_rfl)) ?_
    refine pk_cons rfl rfl (st_loadV4 H4_1 e4_1 hN_1 (by kernel_rfl) rfl) ?_
    refine pk_cons rfl rfl (st_call1 hN_1 (by kernel_rfl) (by kernel_rfl) (by kernel_rfl) rfl rfl fun w x v1 hC h1 => ti (right_said HR2 h1 (bb_1.trans hC.below))) ?_
    refine pk_cons rfl rfl (st_pure [.bool false] [] (.bool true) rfl hN_1 (by kernel_rfl) (by kernel_rfl) (by kernel_rfl) old0 (by kernel_rfl) (by kernel_rfl) (by kernel_rfl) (fun _ => by kernel_rfl)) ?_
    refine pk_cons rfl rfl (st_pure [.bool false, .bool true] [] (.bool true) rfl hN_1 (by kernel_rfl) (by kernel_rfl) (by kernel_rfl) old0 (by kernel_rfl) (by kernel_rfl) (by kernel_rfl) (fun _ => by kernel_rfl)) ?_
    refine pk_cons rfl rfl (st_pure [.bool true] [] (.bool true) rfl hN_1 (by kernel_rfl) (by kernel_rfl) (by kernel_rfl) old0 (by kernel_rfl) (by kernel_rfl) (by kernel_rfl) (fun _ => by kernel_rfl)) ?_
    refine pk_skip rfl ?_
    refine pk_skip rfl ?_
    refine pk_skip rfl ?_
    refine pk_cons rfl rfl (st_pure [.bool true, undef] [] (.bool true) rfl hN_1 (by kernel_rfl) (by kernel_rfl) (by kernel_rfl) old0 (by kernel_rfl) (by kernel_rfl) (by kernel_rfl) (fun _ => by kernel_rfl)) ?_
    exact pk_nil rfl
  intro W_2 x hC hall
  refine then_n ?_
  obtain ⟨a_2, ha⟩ : ∃ a, a = putE x a_1 [(0, some 14), (1, some 15), (2, some 16), (3, some 17), (4, some 18), (5, some 19), (6, some 20), (7, some 21), (8, some 22), (9, some 23), (10, some 24), (11, some 25), (12, some 26), (13, some 27), (14, some 28), (15, some 29), (16, some 30), (17, some 31), (18, some 32), (19, some 33), (20, some 34)] := ⟨_, rfl⟩
  rw [← ha]
  have hN_2 := size_behind ha hN_1
  have hD_2 := defers_behind ha hD_1
  have bb_2 := bb_1.trans hC.below
  have e3_2 := slot_old ha (by kernel_rfl) e3_1
  have e4_2 := slot_old ha (by kernel_rfl) e4_1
  have e5_2 := slot_old ha (by kernel_rfl) e5_1
  have e13_2 := slot_old ha (by kernel_rfl) e13_1
  have H3_2 := hC.holds H3_1
  have H4_2 := hC.holds H4_1
  have H5_2 := hC.holds H5_1
  have e34_2 := (slot_new (t := 34) (i := 20) ha hN_1 (by kernel_rfl) (by kernel_rfl)).trans (show x 20 = .bool true from hall 20 (of_decide_eq_true (by kernel_rfl)))
  clear hall hC ha bb_1 hD_1 e3_1 e4_1 e5_1 e13_1 H3_1 H4_1 H5_1
  refine wp_cond_true e34_2 ?_
  repeat (first | refine wp_seq ?_ | (refine wp_skip ?_; refine then_n ?_))
  refine wp_region_law hN_2 w.heap.size
    [kIs (.bool true)]
    [ [] ]
    [(0, some 6)] [] [] (by kernel_rfl) (by kernel_rfl) (by kernel_rfl) (by kernel_rfl) (by kernel_rfl) (by kernel_rfl) (by kernel_rfl) bb_2.size ?_ ?_
  ·
    refine pk_cons rfl rfl (st_pure [] [] (.bool true) rfl hN_2 (by kernel_rfl) (by kernel_rfl) (by kernel_rfl) old0 (by kernel_rfl) (by kernel_rfl) (by kernel_rfl) (fun _ => by kernel_rfl)) ?_
    exact pk_nil rfl
  intro W_3 x hC hall
  refine then_n ?_
  obtain ⟨a_3, ha⟩ : ∃ a, a = putE x a_2 [(0, some 6)] := ⟨_, rfl⟩
  rw [← ha]
  have hN_3 := size_behind ha hN_2
  have hD_3 := defers_behind ha hD_2
  have bb_3 := bb_2.trans hC.below
  have e3_3 := slot_old ha (by kernel_rfl) e3_2
  have e4_3 := slot_old ha (by kernel_rfl) e4_2
  have e5_3 := slot_old ha (by kernel_rfl) e5_2
  have e13_3 := slot_old ha (by kernel_rfl) e13_2
  have e34_3 := slot_old ha (by kernel_rfl) e34_2
  have e6_3 := (slot_new (t := 6) (i := 0) ha hN_2 (by kernel_rfl) (by kernel_rfl)).trans (show x 0 = .bool true from hall 0 (of_decide_eq_true (by kernel_rfl)))
  clear hall hC ha bb_2 hD_2 e3_2 e4_2 e5_2 e13_2 e34_2
  repeat (first | refine wp_seq ?_ | (refine wp_skip ?_; refine then_n ?_))
  refine wp_ret ?_
  repeat (refine then_r ?_)
  exact ret_one (t := 6) rfl hD_3 e6_3 ⟨rfl, bb_3⟩
set_option maxRecDepth 100000 in
set_option maxHeartbeats 16000000 in
theorem lawField_no3 {w : World} {A1 A1' A2 A2' A3 A3' : Option Addr} {l1 l1' c1 c1' l2 l2' c2 c2' l3 l3' c3 c3' : Nat} {b1 b1' b2 b2' b3 b3' : Bool} (hf : fewP [(l1, l1'), (l2, l2'), (l3, l3')] = true) {a : Rat} (q1 : Pr w (.agg #[.bool b1, .slice A1 l1 c1, .bool b1', .slice A1' l1' c1']) 9 a.num (a.den : Int)) {b : Rat} (q2 : Pr w (.agg #[.bool b2, .slice A2 l2 c2, .bool b2', .slice A2' l2' c2']) 9 b.num (b.den : Int)) (hr3 : ∀ W, Below w.heap.size w W → Calls Tryz.prog 11 #[.agg #[.bool b3, .slice A3 l3 c3, .bool b3', .slice A3' l3' c3']] W (SaysB W false)) (HT : Hid (Tab w ∧ 4 ≤ w.heap.size)) (hm : MaxL w) :
    Calls Tryz.prog 4 #[.agg #[.bool b1, .slice A1 l1 c1, .bool b1', .slice A1' l1' c1'], .agg #[.bool b2, .slice A2 l2 c2, .bool b2', .slice A2' l2' c2'], .agg #[.bool b3, .slice A3 l3 c3, .bool b3', .slice A3' l3' c3']] w fun e w' => e = .returned (.bool true) ∧ Below w.heap.size w w' := by
  have HM := Lib.hid hm
  have haw := fun (W : World) (hW : Below w.heap.size w W) => awake3_any (w := W) (Lib.hid ⟨HT.out.1.below hW HT.out.2, Nat.le_trans HT.out.2 hW.size⟩) (hm.below hW)
  have HA := Lib.hid haw
  clear haw hm
  have HF := Lib.hid hf
  clear hf
  have hr1 := fun (W : World) (hW : Below w.heap.size w W) => (show Calls Tryz.prog 11 #[.agg #[.bool b1, .slice A1 l1 c1, .bool b1', .slice A1' l1' c1']] W (SaysB W true) from right_9 (q1.below hW))
  have HR1 := Lib.hid hr1
  clear hr1
  have Q1 := Lib.hid q1
  clear q1
  have hr2 := fun (W : World) (hW : Below w.heap.size w W) => (show Calls Tryz.prog 11 #[.agg #[.bool b2, .slice A2 l2 c2, .bool b2', .slice A2' l2' c2']] W (SaysB W true) from right_9 (q2.below hW))
  have HR2 := Lib.hid hr2
  clear hr2
  have Q2 := Lib.hid q2
  clear q2
  have HR3 := Lib.hid hr3
  clear hr3
  go_enter Tryz.func4, Tryz.ntmps4
  repeat (refine wp_seq ?_)
  refine region_k ?_
  intro K hK
  have HK := Lib.hid hK
  clear hK
  go_wp2
  refine HK.out _ _ ?_
  clear HK
  refine then_n ?_
  obtain ⟨W_0, hW⟩ : ∃ W, W = ((w.alloc (Obj.cells #[Value.bool b1, Value.slice A1 l1 c1, Value.bool b1', Value.slice A1' l1' c1'] 27)).alloc (Obj.cells #[Value.bool b2, Value.slice A2 l2 c2, Value.bool b2', Value.slice A2' l2' c2'] 27)).alloc (Obj.cells #[Value.bool b3, Value.slice A3 l3 c3, Value.bool b3', Value.slice A3' l3' c3'] 27) := ⟨_, rfl⟩
  obtain ⟨bb_0, K0, K1, K2⟩ := three_new4 hW
  rw [← hW]
  clear hW
  refine name_frame (G := fun a => Code.wp _ _ _ a _) ?_
  intro a_0 ha
  have hN_0 : a_0.tmps.size = 159 := by subst ha; kernel_rfl
  have hD_0 : a_0.defers = [] := by subst ha; rfl
  have e3_0 : a_0.eval (.tmp 3) = .pointer (some ⟨w.heap.size, 0, none⟩) := by subst ha; kernel_rfl
  have H3_0 : Holds_ W_0 (w.heap.size) #[.bool b1, .slice A1 l1 c1, .bool b1', .slice A1' l1' c1'] := ⟨⟨_, K0⟩, by simp [noDig]⟩
  have e4_0 : a_0.eval (.tmp 4) = .pointer (some ⟨w.heap.size + 1, 0, none⟩) := by subst ha; kernel_rfl
  have H4_0 : Holds_ W_0 (w.heap.size + 1) #[.bool b2, .slice A2 l2 c2, .bool b2', .slice A2' l2' c2'] := ⟨⟨_, K1⟩, by simp [noDig]⟩
  have e5_0 : a_0.eval (.tmp 5) = .pointer (some ⟨w.heap.size + 1 + 1, 0, none⟩) := by subst ha; kernel_rfl
  have H5_0 : Holds_ W_0 (w.heap.size + 1 + 1) #[.bool b3, .slice A3 l3 c3, .bool b3', .slice A3' l3' c3'] := ⟨⟨_, K2⟩, by simp [noDig]⟩
  clear ha K0 K1 K2
  repeat (first | refine wp_seq ?_ | (refine wp_skip ?_; refine then_n ?_))
  refine wp_region_law hN_0 w.heap.size
    [kIs (.bool true), kIs (.bool false)]
    [ [], [(0, some 12)] ]
    [(0, some 12), (1, some 13)] [] [] (by kernel_rfl) (by kernel_rfl) (by kernel_rfl) (by kernel_rfl) (by kernel_rfl) (by kernel_rfl) (by kernel_rfl) bb_0.size ?_ ?_
  ·
    refine pk_cons rfl rfl (st_call0 [] hN_0 (by kernel_rfl) (by kernel_rfl) rfl rfl fun w x hC => ti (HA.out _ (bb_0.trans hC.below))) ?_
    refine pk_cons rfl rfl (st_pure [.bool true] [] (.bool false) rfl hN_0 (by kernel_rfl) (by kernel_rfl) (by kernel_rfl) old0 (by kernel_rfl) (by kernel_rfl) (by kernel_rfl) (fun _ => by kernel_rfl)) ?_
    exact pk_nil rfl
  intro W_1 x hC hall
  refine then_n ?_
  obtain ⟨a_1, ha⟩ : ∃ a, a = putE x a_0 [(0, some 12), (1, some 13)] := ⟨_, rfl⟩
  rw [← ha]
  have hN_1 := size_behind ha hN_0
  have hD_1 := defers_behind ha hD_0
  have bb_1 := bb_0.trans hC.below
  have e3_1 := slot_old ha (by kernel_rfl) e3_0
  have e4_1 := slot_old ha (by kernel_rfl) e4_0
  have e5_1 := slot_old ha (by kernel_rfl) e5_0
  have H3_1 := hC.holds H3_0
  have H4_1 := hC.holds H4_0
  have H5_1 := hC.holds H5_0
  have e13_1 := (slot_new (t := 13) (i := 1) ha hN_0 (by kernel_rfl) (by kernel_rfl)).trans (show x 1 = .bool false from hall 1 (of_decide_eq_true (by kernel_rfl)))
  clear hall hC ha bb_0 hD_0 e3_0 e4_0 e5_0 H3_0 H4_0 H5_0
  refine wp_cond_false e13_1 ?_
  repeat (first | refine wp_seq ?_ | (refine wp_skip ?_; refine then_n ?_))
  refine wp_region_law hN_1 w.heap.size
    [kIs (.agg #[.bool b1, .slice A1 l1 c1, .bool b1', .slice A1' l1' c1']), kIs (.agg #[.bool b2, .slice A2 l2 c2, .bool b2', .slice A2' l2' c2']), kIs (.agg #[.bool b3, .slice A3 l3 c3, .bool b3', .slice A3' l3' c3']), kLensP [(l1, l1'), (l2, l2'), (l3, l3')], kIs (.bool true), kIs (.bool false), kIs (.bool false), kIs (.agg #[.bool b1, .slice A1 l1 c1, .bool b1', .slice A1' l1' c1']), kIs (.bool true), kIs (.bool false), kIs (.bool false), kIs (.bool false), kIs (.agg #[.bool b2, .slice A2 l2 c2, .bool b2', .slice A2' l2' c2']), kIs (.bool true), kIs (.bool false), kIs (.bool false), kIs (.bool false), kIs (.agg #[.bool b3, .slice A3 l3 c3, .bool b3', .slice A3' l3' c3']), kIs (.bool false), kIs (.bool true), kIs (.bool true)]
    [ [], [], [], [(0, some 14), (1, some 15), (2, some 16)], [(3, some 17)], [(4, some 18)], [(5, some 19)], [], [(7, some 21)], [(8, some 22)], [(6, some 20), (9, some 23)], [(10, some 24)], [], [(12, some 26)], [(13, some 27)], [(11, some 25), (14, some 28)], [(15, some 29)], [], [(17, some 31)], [(18, some 32)], [(16, some 30), (19, some 33)] ]
    [(0, some 14), (1, some 15), (2, some 16), (3, some 17), (4, some 18), (5, some 19), (6, some 20), (7, some 21), (8, some 22), (9, some 23), (10, some 24), (11, some 25), (12, some 26), (13, some 27), (14, some 28), (15, some 29), (16, some 30), (17, some 31), (18, some 32), (19, some 33), (20, some 34)] [(6, false), (11, false), (16, false)] [] (by kernel_rfl) (by kernel_rfl) (by kernel_rfl) (by kernel_rfl) (by kernel_rfl) (by kernel_rfl) (by kernel_rfl) bb_1.size ?_ ?_
  ·
    refine pk_cons rfl rfl (st_loadV4 H3_1 e3_1 hN_1 (by kernel_rfl) rfl) ?_
    refine pk_cons rfl rfl (st_loadV4 H4_1 e4_1 hN_1 (by kernel_rfl) rfl) ?_
    refine pk_cons rfl rfl (st_loadV4 H5_1 e5_1 hN_1 (by kernel_rfl) rfl) ?_
    refine pk_cons rfl rfl (st_lensP3 hN_1 (by kernel_rfl) (by kernel_rfl) (by kernel_rfl) (by kernel_rfl) (by kernel_rfl) (by kernel_rfl) (by kernel_rfl) (Nat.le_refl _) rfl rfl rfl rfl) ?_
    refine pk_cons rfl rfl (st_call1 hN_1 (by kernel_rfl) (by kernel_rfl) (by kernel_rfl) rfl rfl fun w x v1 hC h1 => ti (few_told h1 (by simp) HF.out)) ?_
    refine pk_cons rfl rfl (st_pure [.bool true] [] (.bool false) rfl hN_1 (by kernel_rfl) (by kernel_rfl) (by kernel_rfl) old0 (by kernel_rfl) (by kernel_rfl) (by kernel_rfl) (fun _ => by kernel_rfl)) ?_
    refine pk_cons rfl rfl (st_pure [.bool false] [] (.bool false) rfl hN_1 (by kernel_rfl) (by kernel_rfl) (by kernel_rfl) old0 (by kernel_rfl) (by kernel_rfl) (by kernel_rfl) (fun _ => by kernel_rfl)) ?_
    refine pk_cons rfl rfl (st_loadV4 H3_1 e3_1 hN_1 (by kernel_rfl) rfl) ?_
    refine pk_cons rfl rfl (st_call1 hN_1 (by kernel_rfl) (by kernel_rfl) (by kernel_rfl) rfl rfl fun w x v1 hC h1 => ti (right_said HR1 h1 (bb_1.trans hC.below))) ?_
    refine pk_cons rfl rfl (st_pure [.bool true] [] (.bool false) rfl hN_1 (by kernel_rfl) (by kernel_rfl) (by kernel_rfl) old0 (by kernel_rfl) (by kernel_rfl) (by kernel_rfl) (fun _ => by kernel_rfl)) ?_
    refine pk_cons rfl rfl (st_pure [.bool false, .bool false] [] (.bool false) rfl hN_1 (by kernel_rfl) (by kernel_rfl) (by kernel_rfl) old0 (by kernel_rfl) (by kernel_rfl) (by kernel_rfl) (fun _ => by kernel_rfl)) ?_
    refine pk_cons rfl rfl (st_pure [.bool false] [] (.bool false) rfl hN_1 (by kernel_rfl) (by kernel_rfl) (by kernel_rfl) old0 (by kernel_rfl) (by kernel_rfl) (by kernel_rfl) (fun _ => by kernel_rfl)) ?_
    refine pk_cons rfl rfl (st_loadV4 H4_1 e4_1 hN_1 (by kernel_rfl) rfl) ?_
    refine pk_cons rfl rfl (st_call1 hN_1 (by kernel_rfl) (by kernel_rfl) (by kernel_rfl) rfl rfl fun w x v1 hC h1 => ti (right_said HR2 h1 (bb_1.trans hC.below))) ?_
    refine pk_cons rfl rfl (st_pure [.bool true] [] (.bool false) rfl hN_1 (by kernel_rfl) (by kernel_rfl) (by kernel_rfl) old0 (by kernel_rfl) (by kernel_rfl) (by kernel_rfl) (fun _ => by kernel_rfl)) ?_
    refine pk_cons rfl rfl (st_pure [.bool false, .bool false] [] (.bool false) rfl hN_1 (by kernel_rfl) (by kernel_rfl) (by kernel_rfl) old0 (by kernel_rfl) (by kernel_rfl) (by kernel_rfl) (fun _ => by kernel_rfl)) ?_
    refine pk_cons rfl rfl (st_pure [.bool false] [] (.bool false) rfl hN_1 (by kernel_rfl) (by kernel_rfl) (by kernel_rfl) old0 (by kernel_rfl) (by kernel_rfl) (by kernel_rfl) (fun _ => by kernel_rfl)) ?_
    refine pk_cons rfl rfl (st_loadV4 H5_1 e5_1 hN_1 (by kernel_rfl) rfl) ?_
    refine pk_cons rfl rfl (st_call1 hN_1 (by kernel_rfl) (by kernel_rfl) (by kernel_rfl) rfl rfl fun w x v1 hC h1 => ti (right_said HR3 h1 (bb_1.trans hC.below))) ?_
    refine pk_cons rfl rfl (st_pure [.bool false] [] (.bool true) rfl hN_1 (by kernel_rfl) (by kernel_rfl) (by kernel_rfl) old0 (by kernel_rfl) (by kernel_rfl) (by kernel_rfl) (fun _ => by kernel_rfl)) ?_
    refine pk_cons rfl rfl (st_pure [.bool false, .bool true] [] (.bool true) rfl hN_1 (by kernel_rfl) (by kernel_rfl) (by kernel_rfl) old0 (by kernel_rfl) (by kernel_rfl) (by kernel_rfl) (fun _ => by kernel_rfl)) ?_
    exact pk_nil rfl
  intro W_2 x hC hall
  refine then_n ?_
  obtain ⟨a_2, ha⟩ : ∃ a, a = putE x a_1 [(0, some 14), (1, some 15), (2, some 16), (3, some 17), (4, some 18), (5, some 19), (6, some 20), (7, some 21), (8, some 22), (9, some 23), (10, some 24), (11, some 25), (12, some 26), (13, some 27), (14, some 28), (15, some 29), (16, some 30), (17, some 31), (18, some 32), (19, some 33), (20, some 34)] := ⟨_, rfl⟩
  rw [← ha]
  have hN_2 := size_behind ha hN_1
  have hD_2 := defers_behind ha hD_1
  have bb_2 := bb_1.trans hC.below
  have e3_2 := slot_old ha (by kernel_rfl) e3_1
  have e4_2 := slot_old ha (by kernel_rfl) e4_1
  have e5_2 := slot_old ha (by kernel_rfl) e5_1
  have e13_2 := slot_old ha (by kernel_rfl) e13_1
  have H3_2 := hC.holds H3_1
  have H4_2 := hC.holds H4_1
  have H5_2 := hC.holds H5_1
  have e34_2 := (slot_new (t := 34) (i := 20) ha hN_1 (by kernel_rfl) (by kernel_rfl)).trans (show x 20 = .bool true from hall 20 (of_decide_eq_true (by kernel_rfl)))
  clear hall hC ha bb_1 hD_1 e3_1 e4_1 e5_1 e13_1 H3_1 H4_1 H5_1
  refine wp_cond_true e34_2 ?_
  repeat (first | refine wp_seq ?_ | (refine wp_skip ?_; refine then_n ?_))
  refine wp_region_law hN_2 w.heap.size
    [kIs (.bool true)]
    [ [] ]
    [(0, some 6)] [] [] (by kernel_rfl) (by kernel_rfl) (by kernel_rfl) (by kernel_rfl) (by kernel_rfl) (by kernel_rfl) (by kernel_rfl) bb_2.size ?_ ?_
  ·
    refine pk_cons rfl rfl (st_pure [] [] (.bool true) rfl hN_2 (by kernel_rfl) (by kernel_rfl) (by kernel_rfl) old0 (by kernel_rfl) (by kernel_rfl) (by kernel_rfl) (fun _ => by kernel_rfl)) ?_
    exact pk_nil rfl
  intro W_3 x hC hall
  refine then_n ?_
  obtain ⟨a_3, ha⟩ : ∃ a, a = putE x a_2 [(0, some 6)] := ⟨_, rfl⟩
  rw [← ha]
  have hN_3 := size_behind ha hN_2
  have hD_3 := defers_behind ha hD_2
  have bb_3 := bb_2.trans hC.below
  have e3_3 := slot_old ha (by kernel_rfl) e3_2
  have e4_3 := slot_old ha (by kernel_rfl) e4_2
  have e5_3 := slot_old ha (by kernel_rfl) e5_2
  have e13_3 := slot_old ha (by kernel_rfl) e13_2
  have e34_3 := slot_old ha (by kernel_rfl) e34_2
  have e6_3 := (slot_new (t := 6) (i := 0) ha hN_2 (by kernel_rfl) (by kernel_rfl)).trans (show x 0 = .bool true from hall 0 (of_decide_eq_true (by kernel_rfl)))
  clear hall hC ha bb_2 hD_2 e3_2 e4_2 e5_2 e13_2 e34_2
  repeat (first | refine wp_seq ?_ | (refine wp_skip ?_; refine then_n ?_))
  refine wp_ret ?_
  repeat (refine then_r ?_)
  exact ret_one (t := 6) rfl hD_3 e6_3 ⟨rfl, bb_3⟩
set_option maxRecDepth 100000 in
set_option maxHeartbeats 16000000 in
theorem lawField_all {w : World} {A1 A1' A2 A2' A3 A3' : Option Addr} {l1 l1' c1 c1' l2 l2' c2 c2' l3 l3' c3 c3' : Nat} {b1 b1' b2 b2' b3 b3' : Bool} (hf : fewP [(l1, l1'), (l2, l2'), (l3, l3')] = true) {a : Rat} (q1 : Pr w (.agg #[.bool b1, .slice A1 l1 c1, .bool b1', .slice A1' l1' c1']) 9 a.num (a.den : Int)) {b : Rat} (q2 : Pr w (.agg #[.bool b2, .slice A2 l2 c2, .bool b2', .slice A2' l2' c2']) 9 b.num (b.den : Int)) {c : Rat} (q3 : Pr w (.agg #[.bool b3, .slice A3 l3 c3, .bool b3', .slice A3' l3' c3']) 9 c.num (c.den : Int)) (HT : Hid (Tab w ∧ 4 ≤ w.heap.size)) (hm : MaxL w) :
    Calls Tryz.prog 4 #[.agg #[.bool b1, .slice A1 l1 c1, .bool b1', .slice A1' l1' c1'], .agg #[.bool b2, .slice A2 l2 c2, .bool b2', .slice A2' l2' c2'], .agg #[.bool b3, .slice A3 l3 c3, .bool b3', .slice A3' l3' c3']] w fun e w' => e = .returned (.bool true) ∧ Below w.heap.size w w' := by
  have HM := Lib.hid hm
  have haw := fun (W : World) (hW : Below w.heap.size w W) => awake3_any (w := W) (Lib.hid ⟨HT.out.1.below hW HT.out.2, Nat.le_trans HT.out.2 hW.size⟩) (hm.below hW)
  have HA := Lib.hid haw
  clear haw hm
  have HF := Lib.hid hf
  clear hf
  have hr1 := fun (W : World) (hW : Below w.heap.size w W) => (show Calls Tryz.prog 11 #[.agg #[.bool b1, .slice A1 l1 c1, .bool b1', .slice A1' l1' c1']] W (SaysB W true) from right_9 (q1.below hW))
  have HR1 := Lib.hid hr1
  clear hr1
  have Q1 := Lib.hid q1
  clear q1
  have hr2 := fun (W : World) (hW : Below w.heap.size w W) => (show Calls Tryz.prog 11 #[.agg #[.bool b2, .slice A2 l2 c2, .bool b2', .slice A2' l2' c2']] W (SaysB W true) from right_9 (q2.below hW))
  have HR2 := Lib.hid hr2
  clear hr2
  have Q2 := Lib.hid q2
  clear q2
  have hr3 := fun (W : World) (hW : Below w.heap.size w W) => (show Calls Tryz.prog 11 #[.agg #[.bool b3, .slice A3 l3 c3, .bool b3', .slice A3' l3' c3']] W (SaysB W true) from right_9 (q3.below hW))
  have HR3 := Lib.hid hr3
  clear hr3
  have Q3 := Lib.hid q3
  clear q3
  go_enter Tryz.func4, Tryz.ntmps4
  repeat (refine wp_seq ?_)
  refine region_k ?_
  intro K hK
  have HK := Lib.hid hK
  clear hK
  go_wp2
  refine HK.out _ _ ?_
  clear HK
  refine then_n ?_
  obtain ⟨W_0, hW⟩ : ∃ W, W = ((w.alloc (Obj.cells #[Value.bool b1, Value.slice A1 l1 c1, Value.bool b1', Value.slice A1' l1' c1'] 27)).alloc (Obj.cells #[Value.bool b2, Value.slice A2 l2 c2, Value.bool b2', Value.slice A2' l2' c2'] 27)).alloc (Obj.cells #[Value.bool b3, Value.slice A3 l3 c3, Value.bool b3', Value.slice A3' l3' c3'] 27) := ⟨_, rfl⟩
  obtain ⟨bb_0, K0, K1, K2⟩ := three_new4 hW
  rw [← hW]
  clear hW
  refine name_frame (G := fun a => Code.wp _ _ _ a _) ?_
  intro a_0 ha
  have hN_0 : a_0.tmps.size = 159 := by subst ha; kernel_rfl
  have hD_0 : a_0.defers = [] := by subst ha; rfl
  have e3_0 : a_0.eval (.tmp 3) = .pointer (some ⟨w.heap.size, 0, none⟩) := by subst ha; kernel_rfl
  have H3_0 : Holds_ W_0 (w.heap.size) #[.bool b1, .slice A1 l1 c1, .bool b1', .slice A1' l1' c1'] := ⟨⟨_, K0⟩, by simp [noDig]⟩
  have e4_0 : a_0.eval (.tmp 4) = .pointer (some ⟨w.heap.size + 1, 0, none⟩) := by subst ha; kernel_rfl
  have H4_0 : Holds_ W_0 (w.heap.size + 1) #[.bool b2, .slice A2 l2 c2, .bool b2', .slice A2' l2' c2'] := ⟨⟨_, K1⟩, by simp [noDig]⟩
  have e5_0 : a_0.eval (.tmp 5) = .pointer (some ⟨w.heap.size + 1 + 1, 0, none⟩) := by subst ha; kernel_rfl
  have H5_0 : Holds_ W_0 (w.heap.size + 1 + 1) #[.bool b3, .slice A3 l3 c3, .bool b3', .slice A3' l3' c3'] := ⟨⟨_, K2⟩, by simp [noDig]⟩
  clear ha K0 K1 K2
  repeat (first | refine wp_seq ?_ | (refine wp_skip ?_; refine then_n ?_))
  refine wp_region_law hN_0 w.heap.size
    [kIs (.bool true), kIs (.bool false)]
    [ [], [(0, some 12)] ]
    [(0, some 12), (1, some 13)] [] [] (by kernel_rfl) (by kernel_rfl) (by kernel_rfl) (by kernel_rfl) (by kernel_rfl) (by kernel_rfl) (by kernel_rfl) bb_0.size ?_ ?_
  ·
    refine pk_cons rfl rfl (st_call0 [] hN_0 (by kernel_rfl) (by kernel_rfl) rfl rfl fun w x hC => ti (HA.out _ (bb_0.trans hC.below))) ?_
    refine pk_cons rfl rfl (st_pure [.bool true] [] (.bool false) rfl hN_0 (by kernel_rfl) (by kernel_rfl) (by kernel_rfl) old0 (by kernel_rfl) (by kernel_rfl) (by kernel_rfl) (fun _ => by kernel_rfl)) ?_
    exact pk_nil rfl
  intro W_1 x hC hall
  refine then_n ?_
  obtain ⟨a_1, ha⟩ : ∃ a, a = putE x a_0 [(0, some 12), (1, some 13)] := ⟨_, rfl⟩
  rw [← ha]
  have hN_1 := size_behind ha hN_0
  have hD_1 := defers_behind ha hD_0
  have bb_1 := bb_0.trans hC.below
  have e3_1 := slot_old ha (by kernel_rfl) e3_0
  have e4_1 := slot_old ha (by kernel_rfl) e4_0
  have e5_1 := slot_old ha (by kernel_rfl) e5_0
  have H3_1 := hC.holds H3_0
  have H4_1 := hC.holds H4_0
  have H5_1 := hC.holds H5_0
  have e13_1 := (slot_new (t := 13) (i := 1) ha hN_0 (by kernel_rfl) (by kernel_rfl)).trans (show x 1 = .bool false from hall 1 (of_decide_eq_true (by kernel_rfl)))
  clear hall hC ha bb_0 hD_0 e3_0 e4_0 e5_0 H3_0 H4_0 H5_0
  refine wp_cond_false e13_1 ?_
  repeat (first | refine wp_seq ?_ | (refine wp_skip ?_; refine then_n ?_))
  refine wp_region_law hN_1 w.heap.size
    [kIs (.agg #[.bool b1, .slice A1 l1 c1, .bool b1', .slice A1' l1' c1']), kIs (.agg #[.bool b2, .slice A2 l2 c2, .bool b2', .slice A2' l2' c2']), kIs (.agg #[.bool b3, .slice A3 l3 c3, .bool b3', .slice A3' l3' c3']), kLensP [(l1, l1'), (l2, l2'), (l3, l3')], kIs (.bool true), kIs (.bool false), kIs (.bool false), kIs (.agg #[.bool b1, .slice A1 l1 c1, .bool b1', .slice A1' l1' c1']), kIs (.bool true), kIs (.bool false), kIs (.bool false), kIs (.bool false), kIs (.agg #[.bool b2, .slice A2 l2 c2, .bool b2', .slice A2' l2' c2']), kIs (.bool true), kIs (.bool false), kIs (.bool false), kIs (.bool false), kIs (.agg #[.bool b3, .slice A3 l3 c3, .bool b3', .slice A3' l3' c3']), kIs (.bool true), kIs (.bool false), kIs (.bool false)]
    [ [], [], [], [(0, some 14), (1, some 15), (2, some 16)], [(3, some 17)], [(4, some 18)], [(5, some 19)], [], [(7, some 21)], [(8, some 22)], [(6, some 20), (9, some 23)], [(10, some 24)], [], [(12, some 26)], [(13, some 27)], [(11, some 25), (14, some 28)], [(15, some 29)], [], [(17, some 31)], [(18, some 32)], [(16, some 30), (19, some 33)] ]
    [(0, some 14), (1, some 15), (2, some 16), (3, some 17), (4, some 18), (5, some 19), (6, some 20), (7, some 21), (8, some 22), (9, some 23), (10, some 24), (11, some 25), (12, some 26), (13, some 27), (14, some 28), (15, some 29), (16, some 30), (17, some 31), (18, some 32), (19, some 33), (20, some 34)] [(6, false), (11, false), (16, false)] [] (by kernel_rfl) (by kernel_rfl) (by kernel_rfl) (by kernel_rfl) (by kernel_rfl) (by kernel_rfl) (by kernel_rfl) bb_1.size ?_ ?_
  ·
    refine pk_cons rfl rfl (st_loadV4 H3_1 e3_1 hN_1 (by kernel_rfl) rfl) ?_
    refine pk_cons rfl rfl (st_loadV4 H4_1 e4_1 hN_1 (by kernel_rfl) rfl) ?_
    refine pk_cons rfl rfl (st_loadV4 H5_1 e5_1 hN_1 (by kernel_rfl) rfl) ?_
    refine pk_cons rfl rfl (st_lensP3 hN_1 (by kernel_rfl) (by kernel_rfl) (by kernel_rfl) (by kernel_rfl) (by kernel_rfl) (by kernel_rfl) (by kernel_rfl) (Nat.le_refl _) rfl rfl rfl rfl) ?_
    refine pk_cons rfl rfl (st_call1 hN_1 (by kernel_rfl) (by kernel_rfl) (by kernel_rfl) rfl rfl fun w x v1 hC h1 => ti (few_told h1 (by simp) HF.out)) ?_
    refine pk_cons rfl rfl (st_pure [.bool true] [] (.bool false) rfl hN_1 (by kernel_rfl) (by kernel_rfl) (by kernel_rfl) old0 (by kernel_rfl) (by kernel_rfl) (by kernel_rfl) (fun _ => by kernel_rfl)) ?_
    refine pk_cons rfl rfl (st_pure [.bool false] [] (.bool false) rfl hN_1 (by kernel_rfl) (by kernel_rfl) (by kernel_rfl) old0 (by kernel_rfl) (by kernel_rfl) (by kernel_rfl) (fun _ => by kernel_rfl)) ?_
    refine pk_cons rfl rfl (st_loadV4 H3_1 e3_1 hN_1 (by kernel_rfl) rfl) ?_
    refine pk_cons rfl rfl (st_call1 hN_1 (by kernel_rfl) (by kernel_rfl) (by kernel_rfl) rfl rfl fun w x v1 hC h1 => ti (right_said HR1 h1 (bb_1.trans hC.below))) ?_
    refine pk_cons rfl rfl (st_pure [.bool true] [] (.bool false) rfl hN_1 (by kernel_rfl) (by kernel_rfl) (by kernel_rfl) old0 (by kernel_rfl) (by kernel_rfl) (by kernel_rfl) (fun _ => by kernel_rfl)) ?_
    refine pk_cons rfl rfl (st_pure [.bool false, .bool false] [] (.bool false) rfl hN_1 (by kernel_rfl) (by kernel_rfl) (by kernel_rfl) old0 (by kernel_rfl) (by kernel_rfl) (by kernel_rfl) (fun _ => by kernel_rfl)) ?_
    refine pk_cons rfl rfl (st_pure [.bool false] [] (.bool false) rfl hN_1 (by kernel_rfl) (by kernel_rfl) (by kernel_rfl) old0 (by kernel_rfl) (by kernel_rfl) (by kernel_rfl) (fun _ => by kernel_rfl)) ?_
    refine pk_cons rfl rfl (st_loadV4 H4_1 e4_1 hN_1 (by kernel_rfl) rfl) ?_
    refine pk_cons rfl rfl (st_call1 hN_1 (by kernel_rfl) (by kernel_rfl) (by kernel_rfl) rfl rfl fun w x v1 hC h1 => ti (right_said HR2 h1 (bb_1.trans hC.below))) ?_
    refine pk_cons rfl rfl (st_pure [.bool true] [] (.bool false) rfl hN_1 (by kernel_rfl) (by kernel_rfl) (by kernel_rfl) old0 (by kernel_rfl) (by kernel_rfl) (by kernel_rfl) (fun _ => by kernel_rfl)) ?_
    refine pk_cons rfl rfl (st_pure [.bool false, .bool false] [] (.bool false) rfl hN_1 (by kernel_rfl) (by kernel_rfl) (by kernel_rfl) old0 (by kernel_rfl) (by kernel_rfl) (by kernel_rfl) (fun _ => by kernel_rfl)) ?_
    refine pk_cons rfl rfl (st_pure [.bool false] [] (.bool false) rfl hN_1 (by kernel_rfl) (by kernel_rfl) (by kernel_rfl) old0 (by kernel_rfl) (by kernel_rfl) (by kernel_rfl) (fun _ => by kernel_rfl)) ?_
    refine pk_cons rfl rfl (st_loadV4 H5_1 e5_1 hN_1 (by kernel_rfl) rfl) ?_
    refine pk_cons rfl rfl (st_call1 hN_1 (by kernel_rfl) (by kernel_rfl) (by kernel_rfl) rfl rfl fun w x v1 hC h1 => ti (right_said HR3 h1 (bb_1.trans hC.below))) ?_
    refine pk_cons rfl rfl (st_pure [.bool true] [] (.bool false) rfl hN_1 (by kernel_rfl) (by kernel_rfl) (by kernel_rfl) old0 (by kernel_rfl) (by kernel_rfl) (by kernel_rfl) (fun _ => by kernel_rfl)) ?_
    refine pk_cons rfl rfl (st_pure [.bool false, .bool false] [] (.bool false) rfl hN_1 (by kernel_rfl) (by kernel_rfl) (by kernel_rfl) old0 (by kernel_rfl) (by kernel_rfl) (by kernel_rfl) (fun _ => by kernel_rfl)) ?_
    exact pk_nil rfl
  intro W_2 x hC hall
  refine then_n ?_
  obtain ⟨a_2, ha⟩ : ∃ a, a = putE x a_1 [(0, some 14), (1, some 15), (2, some 16), (3, some 17), (4, some 18), (5, some 19), (6, some 20), (7, some 21), (8, some 22), (9, some 23), (10, some 24), (11, some 25), (12, some 26), (13, some 27), (14, some 28), (15, some 29), (16, some 30), (17, some 31), (18, some 32), (19, some 33), (20, some 34)] := ⟨_, rfl⟩
  rw [← ha]
  have hN_2 := size_behind ha hN_1
  have hD_2 := defers_behind ha hD_1
  have bb_2 := bb_1.trans hC.below
  have e3_2 := slot_old ha (by kernel_rfl) e3_1
  have e4_2 := slot_old ha (by kernel_rfl) e4_1
  have e5_2 := slot_old ha (by kernel_rfl) e5_1
  have e13_2 := slot_old ha (by kernel_rfl) e13_1
  have H3_2 := hC.holds H3_1
  have H4_2 := hC.holds H4_1
  have H5_2 := hC.holds H5_1
  have e34_2 := (slot_new (t := 34) (i := 20) ha hN_1 (by kernel_rfl) (by kernel_rfl)).trans (show x 20 = .bool false from hall 20 (of_decide_eq_true (by kernel_rfl)))
  clear hall hC ha bb_1 hD_1 e3_1 e4_1 e5_1 e13_1 H3_1 H4_1 H5_1
  refine wp_cond_false e34_2 ?_
  repeat (first | refine wp_seq ?_ | (refine wp_skip ?_; refine then_n ?_))
  obtain ⟨f1_2, f1'_2⟩ := atR_of H3_2 (Q1.out.below bb_2)
  obtain ⟨f2_2, f2'_2⟩ := atR_of H4_2 (Q2.out.below bb_2)
  obtain ⟨f3_2, f3'_2⟩ := atR_of H5_2 (Q3.out.below bb_2)
  clear H3_2 H4_2 H5_2 HR1 HR2 HR3 HF HA
  refine wp_region_law hN_2 w.heap.size
    [kP 9 (a.num) ((a.den : Int)), kP 9 (b.num) ((b.den : Int)), kPRs [(9, a.num, (a.den : Int)), (9, b.num, (b.den : Int))], kP 19 ((a + b).num) (((a + b).den : Int)), kP 9 (a.num) ((a.den : Int)), kP 9 (b.num) ((b.den : Int)), kPRs [(9, a.num, (a.den : Int)), (9, b.num, (b.den : Int))], kP 18 ((a * b).num) (((a * b).den : Int)), PK.fresh 4, PK.fresh 4, kPutP 8 19 ((a + b).num) (((a + b).den : Int)), kPutP 9 18 ((a * b).num) (((a * b).den : Int))]
    [ [], [], [(0, some 35), (1, some 36)], [(2, some 37)], [], [], [(4, some 39), (5, some 40)], [(6, some 41)], [], [], [(8, some 7), (3, some 38)], [(9, some 8), (7, some 42)] ]
    [(0, some 35), (1, some 36), (2, some 37), (3, some 38), (4, some 39), (5, some 40), (6, some 41), (7, some 42), (8, some 7), (9, some 8), (10, none), (11, none)] [] [] (by kernel_rfl) (by kernel_rfl) (by kernel_rfl) (by kernel_rfl) (by kernel_rfl) (by kernel_rfl) (by kernel_rfl) bb_2.size ?_ ?_
  ·
    refine pk_cons rfl rfl (st_load4P f1_2 f1'_2 (by simp) e3_2 hN_2 (by kernel_rfl) rfl) ?_
    refine pk_cons rfl rfl (st_load4P f2_2 f2'_2 (by simp) e4_2 hN_2 (by kernel_rfl) rfl) ?_
    refine pk_cons rfl rfl (st_plist2 hN_2 (by kernel_rfl) (by kernel_rfl) (by kernel_rfl) (by kernel_rfl) (Nat.le_refl _) rfl rfl rfl) ?_
    refine pk_cons rfl rfl (st_call1 hN_2 (by kernel_rfl) (by kernel_rfl) (by kernel_rfl) rfl rfl fun w x v1 hC h1 => tp (Add2_9 (plm2 9 h1 (by decide) (by decide)))) ?_
    refine pk_cons rfl rfl (st_load4P f1_2 f1'_2 (by simp) e3_2 hN_2 (by kernel_rfl) rfl) ?_
    refine pk_cons rfl rfl (st_load4P f2_2 f2'_2 (by simp) e4_2 hN_2 (by kernel_rfl) rfl) ?_
    refine pk_cons rfl rfl (st_plist2 hN_2 (by kernel_rfl) (by kernel_rfl) (by kernel_rfl) (by kernel_rfl) (Nat.le_refl _) rfl rfl rfl) ?_
    refine pk_cons rfl rfl (st_call1 hN_2 (by kernel_rfl) (by kernel_rfl) (by kernel_rfl) rfl rfl fun w x v1 hC h1 => tp (Mul2_9 (plm2 9 h1 (by decide) (by decide)))) ?_
    refine pk_cons rfl rfl (st_allocP hN_2 (by kernel_rfl) (Nat.le_refl _) rfl) ?_
    refine pk_cons rfl rfl (st_allocP hN_2 (by kernel_rfl) (Nat.le_refl _) rfl) ?_
    refine pk_cons rfl rfl (st_putP hN_2 (by kernel_rfl) (by kernel_rfl) (by kernel_rfl) rfl rfl rfl) ?_
    refine pk_cons rfl rfl (st_putP hN_2 (by kernel_rfl) (by kernel_rfl) (by kernel_rfl) rfl rfl rfl) ?_
    exact pk_nil rfl
  intro W_3 x hC hall
  refine then_n ?_
  obtain ⟨a_3, ha⟩ : ∃ a, a = putE x a_2 [(0, some 35), (1, some 36), (2, some 37), (3, some 38), (4, some 39), (5, some 40), (6, some 41), (7, some 42), (8, some 7), (9, some 8), (10, none), (11, none)] := ⟨_, rfl⟩
  rw [← ha]
  have hN_3 := size_behind ha hN_2
  have hD_3 := defers_behind ha hD_2
  have bb_3 := bb_2.trans hC.below
  have e3_3 := slot_old ha (by kernel_rfl) e3_2
  have e4_3 := slot_old ha (by kernel_rfl) e4_2
  have e5_3 := slot_old ha (by kernel_rfl) e5_2
  have e13_3 := slot_old ha (by kernel_rfl) e13_2
  have e34_3 := slot_old ha (by kernel_rfl) e34_2
  have f1_3 := hC.at0 f1_2
  have f1'_3 := hC.at0 f1'_2
  have f2_3 := hC.at0 f2_2
  have f2'_3 := hC.at0 f2'_2
  have f3_3 := hC.at0 f3_2
  have f3'_3 := hC.at0 f3'_2
  obtain ⟨g7, hx, hge, p7_3, p7'_3⟩ := put_atP (show (kPutP 8 19 ((a + b).num) (((a + b).den : Int))).sem _ _ _ _ from hall 10 (of_decide_eq_true (by kernel_rfl)))
  have e7_3 := (slot_new (t := 7) (i := 8) ha hN_2 (by kernel_rfl) (by kernel_rfl)).trans hx
  clear hx hge
  obtain ⟨g8, hx, hge, p8_3, p8'_3⟩ := put_atP (show (kPutP 9 18 ((a * b).num) (((a * b).den : Int))).sem _ _ _ _ from hall 11 (of_decide_eq_true (by kernel_rfl)))
  have e8_3 := (slot_new (t := 8) (i := 9) ha hN_2 (by kernel_rfl) (by kernel_rfl)).trans hx
  clear hx hge
  clear hall hC ha bb_2 hD_2 e3_2 e4_2 e5_2 e13_2 e34_2 f1_2 f1'_2 f2_2 f2'_2 f3_2 f3'_2
  repeat (first | refine wp_seq ?_ | (refine wp_skip ?_; refine then_n ?_))
  refine wp_region_law hN_3 w.heap.size
    [kP 19 ((a + b).num) (((a + b).den : Int)), kP 9 (b.num) ((b.den : Int)), kP 9 (a.num) ((a.den : Int)), kPRs [(9, b.num, (b.den : Int)), (9, a.num, (a.den : Int))], kP 19 ((b + a).num) (((b + a).den : Int)), kIs (.bool true), kIs (.bool false), kIs (.bool false), kP 18 ((a * b).num) (((a * b).den : Int)), kP 9 (b.num) ((b.den : Int)), kP 9 (a.num) ((a.den : Int)), kPRs [(9, b.num, (b.den : Int)), (9, a.num, (a.den : Int))], kP 18 ((b * a).num) (((b * a).den : Int)), kIs (.bool true), kIs (.bool false), kIs (.bool false), kIs (.bool false), kP 19 ((a + b).num) (((a + b).den : Int)), kP 9 (c.num) ((c.den : Int)), kPRs [(19, (a + b).num, ((a + b).den : Int)), (9, c.num, (c.den : Int))], kP 39 (((a + b) + c).num) ((((a + b) + c).den : Int)), kP 9 (a.num) ((a.den : Int)), kP 9 (b.num) ((b.den : Int)), kP 9 (c.num) ((c.den : Int)), kPRs [(9, a.num, (a.den : Int)), (9, b.num, (b.den : Int)), (9, c.num, (c.den : Int))], kP 39 (((a + b) + c).num) ((((a + b) + c).den : Int)), kIs (.bool true), kIs (.bool false), kIs (.bool false), kIs (.bool false), kP 18 ((a * b).num) (((a * b).den : Int)), kP 9 (c.num) ((c.den : Int)), kPRs [(18, (a * b).num, ((a * b).den : Int)), (9, c.num, (c.den : Int))], kP 38 (((a * b) * c).num) ((((a * b) * c).den : Int)), kP 9 (a.num) ((a.den : Int)), kP 9 (b.num) ((b.den : Int)), kP 9 (c.num) ((c.den : Int)), kPRs [(9, a.num, (a.den : Int)), (9, b.num, (b.den : Int)), (9, c.num, (c.den : Int))], kP 38 (((a * b) * c).num) ((((a * b) * c).den : Int)), kIs (.bool true), kIs (.bool false), kIs (.bool false), kIs (.bool false), kP 9 (c.num) ((c.den : Int)), kP 19 ((a + b).num) (((a + b).den : Int)), kPRs [(9, c.num, (c.den : Int)), (19, (a + b).num, ((a + b).den : Int))], kP 38 ((c * (a + b)).num) (((c * (a + b)).den : Int)), kP 9 (c.num) ((c.den : Int)), kP 9 (a.num) ((a.den : Int)), kPRs [(9, c.num, (c.den : Int)), (9, a.num, (a.den : Int))], kP 18 ((c * a).num) (((c * a).den : Int)), kP 9 (c.num) ((c.den : Int)), kP 9 (b.num) ((b.den : Int)), kPRs [(9, c.num, (c.den : Int)), (9, b.num, (b.den : Int))], kP 18 ((c * b).num) (((c * b).den : Int)), kPRs [(18, (c * a).num, ((c * a).den : Int)), (18, (c * b).num, ((c * b).den : Int))], kP 39 (((c * a) + (c * b)).num) ((((c * a) + (c * b)).den : Int)), kIs (.bool true), kIs (.bool false), kIs (.bool false)]
    [ [], [], [], [(1, some 44), (2, some 45)], [(3, some 46)], [(0, some 43), (4, some 47)], [(5, some 48)], [(6, some 49)], [], [], [], [(9, some 52), (10, some 53)], [(11, some 54)], [(8, some 51), (12, some 55)], [(13, some 56)], [(7, some 50), (14, some 57)], [(15, some 58)], [], [], [(17, some 60), (18, some 61)], [(19, some 62)], [], [], [], [(21, some 64), (22, some 65), (23, some 66)], [(24, some 67)], [(20, some 63), (25, some 68)], [(26, some 69)], [(16, some 59), (27, some 70)], [(28, some 71)], [], [], [(30, some 73), (31, some 74)], [(32, some 75)], [], [], [], [(34, some 77), (35, some 78), (36, some 79)], [(37, some 80)], [(33, some 76), (38, some 81)], [(39, some 82)], [(29, some 72), (40, some 83)], [(41, some 84)], [], [], [(43, some 86), (44, some 87)], [(45, some 88)], [], [], [(47, some 90), (48, some 91)], [(49, some 92)], [], [], [(51, some 94), (52, some 95)], [(53, some 96)], [(50, some 93), (54, some 97)], [(55, some 98)], [(46, some 89), (56, some 99)], [(57, some 100)], [(42, some 85), (58, some 101)] ]
    [(0, some 43), (1, some 44), (2, some 45), (3, some 46), (4, some 47), (5, some 48), (6, some 49), (7, some 50), (8, some 51), (9, some 52), (10, some 53), (11, some 54), (12, some 55), (13, some 56), (14, some 57), (15, some 58), (16, some 59), (17, some 60), (18, some 61), (19, some 62), (20, some 63), (21, some 64), (22, some 65), (23, some 66), (24, some 67), (25, some 68), (26, some 69), (27, some 70), (28, some 71), (29, some 72), (30, some 73), (31, some 74), (32, some 75), (33, some 76), (34, some 77), (35, some 78), (36, some 79), (37, some 80), (38, some 81), (39, some 82), (40, some 83), (41, some 84), (42, some 85), (43, some 86), (44, some 87), (45, some 88), (46, some 89), (47, some 90), (48, some 91), (49, some 92), (50, some 93), (51, some 94), (52, some 95), (53, some 96), (54, some 97), (55, some 98), (56, some 99), (57, some 100), (58, some 101), (59, some 102)] [(7, false), (16, false), (29, false), (42, false)] [] (by kernel_rfl) (by kernel_rfl) (by kernel_rfl) (by kernel_rfl) (by kernel_rfl) (by kernel_rfl) (by kernel_rfl) bb_3.size ?_ ?_
  ·
    refine pk_cons rfl rfl (st_load4P p7_3 p7'_3 (by simp) e7_3 hN_3 (by kernel_rfl) rfl) ?_
    refine pk_cons rfl rfl (st_load4P f2_3 f2'_3 (by simp) e4_3 hN_3 (by kernel_rfl) rfl) ?_
    refine pk_cons rfl rfl (st_load4P f1_3 f1'_3 (by simp) e3_3 hN_3 (by kernel_rfl) rfl) ?_
    refine pk_cons rfl rfl (st_plist2 hN_3 (by kernel_rfl) (by kernel_rfl) (by kernel_rfl) (by kernel_rfl) (Nat.le_refl _) rfl rfl rfl) ?_
    refine pk_cons rfl rfl (st_call1 hN_3 (by kernel_rfl) (by kernel_rfl) (by kernel_rfl) rfl rfl fun w x v1 hC h1 => tp (Add2_9 (plm2 9 h1 (by decide) (by decide)))) ?_
    refine pk_cons rfl rfl (st_call2 hN_3 (by kernel_rfl) (by kernel_rfl) (by kernel_rfl) (by kernel_rfl) (by kernel_rfl) rfl rfl rfl fun w x v1 v2 hC h1 h2 => ti (lawSame_19 (pm (by decide) (pe (Rat.add_comm _ _) h1)) (pm (by decide) h2))) ?_
    refine pk_cons rfl rfl (st_pure [.bool true] [] (.bool false) rfl hN_3 (by kernel_rfl) (by kernel_rfl) (by kernel_rfl) old0 (by kernel_rfl) (by kernel_rfl) (by kernel_rfl) (fun _ => by kernel_rfl)) ?_
    refine pk_cons rfl rfl (st_pure [.bool false] [] (.bool false) rfl hN_3 (by kernel_rfl) (by kernel_rfl) (by kernel_rfl) old0 (by kernel_rfl) (by kernel_rfl) (by kernel_rfl) (fun _ => by kernel_rfl)) ?_
    refine pk_cons rfl rfl (st_load4P p8_3 p8'_3 (by simp) e8_3 hN_3 (by kernel_rfl) rfl) ?_
    refine pk_cons rfl rfl (st_load4P f2_3 f2'_3 (by simp) e4_3 hN_3 (by kernel_rfl) rfl) ?_
    refine pk_cons rfl rfl (st_load4P f1_3 f1'_3 (by simp) e3_3 hN_3 (by kernel_rfl) rfl) ?_
    refine pk_cons rfl rfl (st_plist2 hN_3 (by kernel_rfl) (by kernel_rfl) (by kernel_rfl) (by kernel_rfl) (Nat.le_refl _) rfl rfl rfl) ?_
    refine pk_cons rfl rfl (st_call1 hN_3 (by kernel_rfl) (by kernel_rfl) (by kernel_rfl) rfl rfl fun w x v1 hC h1 => tp (Mul2_9 (plm2 9 h1 (by decide) (by decide)))) ?_
    refine pk_cons rfl rfl (st_call2 hN_3 (by kernel_rfl) (by kernel_rfl) (by kernel_rfl) (by kernel_rfl) (by kernel_rfl) rfl rfl rfl fun w x v1 v2 hC h1 h2 => ti (lawSame_19 (pm (by decide) (pe (Rat.mul_comm _ _) h1)) (pm (by decide) h2))) ?_
    refine pk_cons rfl rfl (st_pure [.bool true] [] (.bool false) rfl hN_3 (by kernel_rfl) (by kernel_rfl) (by kernel_rfl) old0 (by kernel_rfl) (by kernel_rfl) (by kernel_rfl) (fun _ => by kernel_rfl)) ?_
    refine pk_cons rfl rfl (st_pure [.bool false, .bool false] [] (.bool false) rfl hN_3 (by kernel_rfl) (by kernel_rfl) (by kernel_rfl) old0 (by kernel_rfl) (by kernel_rfl) (by kernel_rfl) (fun _ => by kernel_rfl)) ?_
    refine pk_cons rfl rfl (st_pure [.bool false] [] (.bool false) rfl hN_3 (by kernel_rfl) (by kernel_rfl) (by kernel_rfl) old0 (by kernel_rfl) (by kernel_rfl) (by kernel_rfl) (fun _ => by kernel_rfl)) ?_
    refine pk_cons rfl rfl (st_load4P p7_3 p7'_3 (by simp) e7_3 hN_3 (by kernel_rfl) rfl) ?_
    refine pk_cons rfl rfl (st_load4P f3_3 f3'_3 (by simp) e5_3 hN_3 (by kernel_rfl) rfl) ?_
    refine pk_cons rfl rfl (st_plist2 hN_3 (by kernel_rfl) (by kernel_rfl) (by kernel_rfl) (by kernel_rfl) (Nat.le_refl _) rfl rfl rfl) ?_
    refine pk_cons rfl rfl (st_call1 hN_3 (by kernel_rfl) (by kernel_rfl) (by kernel_rfl) rfl rfl fun w x v1 hC h1 => tp (Add2_19 (plm2 19 h1 (by decide) (by decide)))) ?_
    refine pk_cons rfl rfl (st_load4P f1_3 f1'_3 (by simp) e3_3 hN_3 (by kernel_rfl) rfl) ?_
    refine pk_cons rfl rfl (st_load4P f2_3 f2'_3 (by simp) e4_3 hN_3 (by kernel_rfl) rfl) ?_
    refine pk_cons rfl rfl (st_load4P f3_3 f3'_3 (by simp) e5_3 hN_3 (by kernel_rfl) rfl) ?_
    refine pk_cons rfl rfl (st_plist3 hN_3 (by kernel_rfl) (by kernel_rfl) (by kernel_rfl) (by kernel_rfl) (by kernel_rfl) (by kernel_rfl) (by kernel_rfl) (Nat.le_refl _) rfl rfl rfl rfl) ?_
    refine pk_cons rfl rfl (st_call1 hN_3 (by kernel_rfl) (by kernel_rfl) (by kernel_rfl) rfl rfl fun w x v1 hC h1 => tp (Add3_9 (pl h1))) ?_
    refine pk_cons rfl rfl (st_call2 hN_3 (by kernel_rfl) (by kernel_rfl) (by kernel_rfl) (by kernel_rfl) (by kernel_rfl) rfl rfl rfl fun w x v1 v2 hC h1 h2 => ti (lawSame_39 (pm (by decide) h1) (pm (by decide) h2))) ?_
    refine pk_cons rfl rfl (st_pure [.bool true] [] (.bool false) rfl hN_3 (by kernel_rfl) (by kernel_rfl) (by kernel_rfl) old0 (by kernel_rfl) (by kernel_rfl) (by kernel_rfl) (fun _ => by kernel_rfl)) ?_
    refine pk_cons rfl rfl (st_pure [.bool false, .bool false] [] (.bool false) rfl hN_3 (by kernel_rfl) (by kernel_rfl) (by kernel_rfl) old0 (by kernel_rfl) (by kernel_rfl) (by kernel_rfl) (fun _ => by kernel_rfl)) ?_
    refine pk_cons rfl rfl (st_pure [.bool false] [] (.bool false) rfl hN_3 (by kernel_rfl) (by kernel_rfl) (by kernel_rfl) old0 (by kernel_rfl) (by kernel_rfl) (by kernel_rfl) (fun _ => by kernel_rfl)) ?_
    refine pk_cons rfl rfl (st_load4P p8_3 p8'_3 (by simp) e8_3 hN_3 (by kernel_rfl) rfl) ?_
    refine pk_cons rfl rfl (st_load4P f3_3 f3'_3 (by simp) e5_3 hN_3 (by kernel_rfl) rfl) ?_
    refine pk_cons rfl rfl (st_plist2 hN_3 (by kernel_rfl) (by kernel_rfl) (by kernel_rfl) (by kernel_rfl) (Nat.le_refl _) rfl rfl rfl) ?_
    refine pk_cons rfl rfl (st_call1 hN_3 (by kernel_rfl) (by kernel_rfl) (by kernel_rfl) rfl rfl fun w x v1 hC h1 => tp (Mul2_19 (plm2 19 h1 (by decide) (by decide)))) ?_
    refine pk_cons rfl rfl (st_load4P f1_3 f1'_3 (by simp) e3_3 hN_3 (by kernel_rfl) rfl) ?_
    refine pk_cons rfl rfl (st_load4P f2_3 f2'_3 (by simp) e4_3 hN_3 (by kernel_rfl) rfl) ?_
    refine pk_cons rfl rfl (st_load4P f3_3 f3'_3 (by simp) e5_3 hN_3 (by kernel_rfl) rfl) ?_
    refine pk_cons rfl rfl (st_plist3 hN_3 (by kernel_rfl) (by kernel_rfl) (by kernel_rfl) (by kernel_rfl) (by kernel_rfl) (by kernel_rfl) (by kernel_rfl) (Nat.le_refl _) rfl rfl rfl rfl) ?_
    refine pk_cons rfl rfl (st_call1 hN_3 (by kernel_rfl) (by kernel_rfl) (by kernel_rfl) rfl rfl fun w x v1 hC h1 => tp (Mul3_9 (pl h1))) ?_
    refine pk_cons rfl rfl (st_call2 hN_3 (by kernel_rfl) (by kernel_rfl) (by kernel_rfl) (by kernel_rfl) (by kernel_rfl) rfl rfl rfl fun w x v1 v2 hC h1 h2 => ti (lawSame_39 (pm (by decide) h1) (pm (by decide) h2))) ?_
    refine pk_cons rfl rfl (st_pure [.bool true] [] (.bool false) rfl hN_3 (by kernel_rfl) (by kernel_rfl) (by kernel_rfl) old0 (by kernel_rfl) (by kernel_rfl) (by kernel_rfl) (fun _ => by kernel_rfl)) ?_
    refine pk_cons rfl rfl (st_pure [.bool false, .bool false] [] (.bool false) rfl hN_3 (by kernel_rfl) (by kernel_rfl) (by kernel_rfl) old0 (by kernel_rfl) (by kernel_rfl) (by kernel_rfl) (fun _ => by kernel_rfl)) ?_
    refine pk_cons rfl rfl (st_pure [.bool false] [] (.bool false) rfl hN_3 (by kernel_rfl) (by kernel_rfl) (by kernel_rfl) old0 (by kernel_rfl) (by kernel_rfl) (by kernel_rfl) (fun _ => by kernel_rfl)) ?_
    refine pk_cons rfl rfl (st_load4P f3_3 f3'_3 (by simp) e5_3 hN_3 (by kernel_rfl) rfl) ?_
    refine pk_cons rfl rfl (st_load4P p7_3 p7'_3 (by simp) e7_3 hN_3 (by kernel_rfl) rfl) ?_
    refine pk_cons rfl rfl (st_plist2 hN_3 (by kernel_rfl) (by kernel_rfl) (by kernel_rfl) (by kernel_rfl) (Nat.le_refl _) rfl rfl rfl) ?_
    refine pk_cons rfl rfl (st_call1 hN_3 (by kernel_rfl) (by kernel_rfl) (by kernel_rfl) rfl rfl fun w x v1 hC h1 => tp (Mul2_19 (plm2 19 h1 (by decide) (by decide)))) ?_
    refine pk_cons rfl rfl (st_load4P f3_3 f3'_3 (by simp) e5_3 hN_3 (by kernel_rfl) rfl) ?_
    refine pk_cons rfl rfl (st_load4P f1_3 f1'_3 (by simp) e3_3 hN_3 (by kernel_rfl) rfl) ?_
    refine pk_cons rfl rfl (st_plist2 hN_3 (by kernel_rfl) (by kernel_rfl) (by kernel_rfl) (by kernel_rfl) (Nat.le_refl _) rfl rfl rfl) ?_
    refine pk_cons rfl rfl (st_call1 hN_3 (by kernel_rfl) (by kernel_rfl) (by kernel_rfl) rfl rfl fun w x v1 hC h1 => tp (Mul2_9 (plm2 9 h1 (by decide) (by decide)))) ?_
    refine pk_cons rfl rfl (st_load4P f3_3 f3'_3 (by simp) e5_3 hN_3 (by kernel_rfl) rfl) ?_
    refine pk_cons rfl rfl (st_load4P f2_3 f2'_3 (by simp) e4_3 hN_3 (by kernel_rfl) rfl) ?_
    refine pk_cons rfl rfl (st_plist2 hN_3 (by kernel_rfl) (by kernel_rfl) (by kernel_rfl) (by kernel_rfl) (Nat.le_refl _) rfl rfl rfl) ?_
    refine pk_cons rfl rfl (st_call1 hN_3 (by kernel_rfl) (by kernel_rfl) (by kernel_rfl) rfl rfl fun w x v1 hC h1 => tp (Mul2_9 (plm2 9 h1 (by decide) (by decide)))) ?_
    refine pk_cons rfl rfl (st_plist2 hN_3 (by kernel_rfl) (by kernel_rfl) (by kernel_rfl) (by kernel_rfl) (Nat.le_refl _) rfl rfl rfl) ?_
    refine pk_cons rfl rfl (st_call1 hN_3 (by kernel_rfl) (by kernel_rfl) (by kernel_rfl) rfl rfl fun w x v1 hC h1 => tp (Add2_19 (plm2 19 h1 (by decide) (by decide)))) ?_
    refine pk_cons rfl rfl (st_call2 hN_3 (by kernel_rfl) (by kernel_rfl) (by kernel_rfl) (by kernel_rfl) (by kernel_rfl) rfl rfl rfl fun w x v1 v2 hC h1 h2 => ti (lawSame_39 (pm (by decide) (pe (Rat.mul_add _ _ _) h1)) (pm (by decide) h2))) ?_
    refine pk_cons rfl rfl (st_pure [.bool true] [] (.bool false) rfl hN_3 (by kernel_rfl) (by kernel_rfl) (by kernel_rfl) old0 (by kernel_rfl) (by kernel_rfl) (by kernel_rfl) (fun _ => by kernel_rfl)) ?_
    refine pk_cons rfl rfl (st_pure [.bool false, .bool false] [] (.bool false) rfl hN_3 (by kernel_rfl) (by kernel_rfl) (by kernel_rfl) old0 (by kernel_rfl) (by kernel_rfl) (by kernel_rfl) (fun _ => by kernel_rfl)) ?_
    exact pk_nil rfl
  intro W_4 x hC hall
  refine then_n ?_
  obtain ⟨a_4, ha⟩ : ∃ a, a = putE x a_3 [(0, some 43), (1, some 44), (2, some 45), (3, some 46), (4, some 47), (5, some 48), (6, some 49), (7, some 50), (8, some 51), (9, some 52), (10, some 53), (11, some 54), (12, some 55), (13, some 56), (14, some 57), (15, some 58), (16, some 59), (17, some 60), (18, some 61), (19, some 62), (20, some 63), (21, some 64), (22, some 65), (23, some 66), (24, some 67), (25, some 68), (26, some 69), (27, some 70), (28, some 71), (29, some 72), (30, some 73), (31, some 74), (32, some 75), (33, some 76), (34, some 77), (35, some 78), (36, some 79), (37, some 80), (38, some 81), (39, some 82), (40, some 83), (41, some 84), (42, some 85), (43, some 86), (44, some 87), (45, some 88), (46, some 89), (47, some 90), (48, some 91), (49, some 92), (50, some 93), (51, some 94), (52, some 95), (53, some 96), (54, some 97), (55, some 98), (56, some 99), (57, some 100), (58, some 101), (59, some 102)] := ⟨_, rfl⟩
  rw [← ha]
  have hN_4 := size_behind ha hN_3
  have hD_4 := defers_behind ha hD_3
  have bb_4 := bb_3.trans hC.below
  have e3_4 := slot_old ha (by kernel_rfl) e3_3
  have e4_4 := slot_old ha (by kernel_rfl) e4_3
  have e5_4 := slot_old ha (by kernel_rfl) e5_3
  have e13_4 := slot_old ha (by kernel_rfl) e13_3
  have e34_4 := slot_old ha (by kernel_rfl) e34_3
  have e7_4 := slot_old ha (by kernel_rfl) e7_3
  have e8_4 := slot_old ha (by kernel_rfl) e8_3
  have f1_4 := hC.at0 f1_3
  have f1'_4 := hC.at0 f1'_3
  have f2_4 := hC.at0 f2_3
  have f2'_4 := hC.at0 f2'_3
  have f3_4 := hC.at0 f3_3
  have f3'_4 := hC.at0 f3'_3
  have p7_4 := hC.at0 p7_3
  have p7'_4 := hC.at0 p7'_3
  have p8_4 := hC.at0 p8_3
  have p8'_4 := hC.at0 p8'_3
  have e102_4 := (slot_new (t := 102) (i := 59) ha hN_3 (by kernel_rfl) (by kernel_rfl)).trans (show x 59 = .bool false from hall 59 (of_decide_eq_true (by kernel_rfl)))
  clear hall hC ha bb_3 hD_3 e3_3 e4_3 e5_3 e13_3 e34_3 e7_3 e8_3 f1_3 f1'_3 f2_3 f2'_3 f3_3 f3'_3 p7_3 p7'_3 p8_3 p8'_3
  refine wp_cond_false e102_4 ?_
  repeat (first | refine wp_seq ?_ | (refine wp_skip ?_; refine then_n ?_))
  refine wp_region_law hN_4 w.heap.size
    [kZ 1 (0), kP 9 ((0 : Rat).num) (((0 : Rat).den : Int)), PK.fresh 4, kPutP 2 9 ((0 : Rat).num) (((0 : Rat).den : Int))]
    [ [], [(0, some 103)], [], [(2, some 9), (1, some 104)] ]
    [(0, some 103), (1, some 104), (2, some 9), (3, none)] [] [] (by kernel_rfl) (by kernel_rfl) (by kernel_rfl) (by kernel_rfl) (by kernel_rfl) (by kernel_rfl) (by kernel_rfl) bb_4.size ?_ ?_
  ·
    refine pk_cons rfl rfl (st_call0 [.int .i64 (0)] hN_4 (by kernel_rfl) (by kernel_rfl) rfl rfl fun w x hC => tz (z_of (0) 1 (by decide) (by decide) (by decide))) ?_
    refine pk_cons rfl rfl (st_call1 hN_4 (by kernel_rfl) (by kernel_rfl) (by kernel_rfl) rfl rfl fun w x v1 hC h1 => tp (whole0 (rr h1) (by decide))) ?_
    refine pk_cons rfl rfl (st_allocP hN_4 (by kernel_rfl) (Nat.le_refl _) rfl) ?_
    refine pk_cons rfl rfl (st_putP hN_4 (by kernel_rfl) (by kernel_rfl) (by kernel_rfl) rfl rfl rfl) ?_
    exact pk_nil rfl
  intro W_5 x hC hall
  refine then_n ?_
  obtain ⟨a_5, ha⟩ : ∃ a, a = putE x a_4 [(0, some 103), (1, some 104), (2, some 9), (3, none)] := ⟨_, rfl⟩
  rw [← ha]
  have hN_5 := size_behind ha hN_4
  have hD_5 := defers_behind ha hD_4
  have bb_5 := bb_4.trans hC.below
  have e3_5 := slot_old ha (by kernel_rfl) e3_4
  have e4_5 := slot_old ha (by kernel_rfl) e4_4
  have e5_5 := slot_old ha (by kernel_rfl) e5_4
  have e13_5 := slot_old ha (by kernel_rfl) e13_4
  have e34_5 := slot_old ha (by kernel_rfl) e34_4
  have e7_5 := slot_old ha (by kernel_rfl) e7_4
  have e8_5 := slot_old ha (by kernel_rfl) e8_4
  have e102_5 := slot_old ha (by kernel_rfl) e102_4
  have f1_5 := hC.at0 f1_4
  have f1'_5 := hC.at0 f1'_4
  have f2_5 := hC.at0 f2_4
  have f2'_5 := hC.at0 f2'_4
  have f3_5 := hC.at0 f3_4
  have f3'_5 := hC.at0 f3'_4
  have p7_5 := hC.at0 p7_4
  have p7'_5 := hC.at0 p7'_4
  have p8_5 := hC.at0 p8_4
  have p8'_5 := hC.at0 p8'_4
  obtain ⟨g9, hx, hge, p9_5, p9'_5⟩ := put_atP (show (kPutP 2 9 ((0 : Rat).num) (((0 : Rat).den : Int))).sem _ _ _ _ from hall 3 (of_decide_eq_true (by kernel_rfl)))
  have e9_5 := (slot_new (t := 9) (i := 2) ha hN_4 (by kernel_rfl) (by kernel_rfl)).trans hx
  clear hx hge
  clear hall hC ha bb_4 hD_4 e3_4 e4_4 e5_4 e13_4 e34_4 e7_4 e8_4 e102_4 f1_4 f1'_4 f2_4 f2'_4 f3_4 f3'_4 p7_4 p7'_4 p8_4 p8'_4
  repeat (first | refine wp_seq ?_ | (refine wp_skip ?_; refine then_n ?_))
  refine wp_region_law hN_5 w.heap.size
    [kP 19 ((a + b).num) (((a + b).den : Int)), kP 9 (b.num) ((b.den : Int)), kP 39 (((a + b) + (-b)).num) ((((a + b) + (-b)).den : Int)), kP 9 (a.num) ((a.den : Int)), kIs (.bool true), kIs (.bool false), kIs (.bool false), kP 9 (a.num) ((a.den : Int)), kP 9 (a.num) ((a.den : Int)), kP 9 ((-a).num) (((-a).den : Int)), kPRs [(9, a.num, (a.den : Int)), (9, (-a).num, ((-a).den : Int))], kP 19 ((a + (-a)).num) (((a + (-a)).den : Int)), kP 9 ((0 : Rat).num) (((0 : Rat).den : Int)), kIs (.bool true), kIs (.bool false), kIs (.bool false), kIs (.bool false), kP 19 ((a + b).num) (((a + b).den : Int)), kIs (.bool true), kIs (.bool false), kIs (.bool false), kIs (.bool false), kP 18 ((a * b).num) (((a * b).den : Int)), kIs (.bool true), kIs (.bool false), kIs (.bool false)]
    [ [], [], [(0, some 105), (1, some 106)], [], [(2, some 107), (3, some 108)], [(4, some 109)], [(5, some 110)], [], [], [(8, some 113)], [(7, some 112), (9, some 114)], [(10, some 115)], [], [(11, some 116), (12, some 117)], [(13, some 118)], [(6, some 111), (14, some 119)], [(15, some 120)], [], [(17, some 122)], [(18, some 123)], [(16, some 121), (19, some 124)], [(20, some 125)], [], [(22, some 127)], [(23, some 128)], [(21, some 126), (24, some 129)] ]
    [(0, some 105), (1, some 106), (2, some 107), (3, some 108), (4, some 109), (5, some 110), (6, some 111), (7, some 112), (8, some 113), (9, some 114), (10, some 115), (11, some 116), (12, some 117), (13, some 118), (14, some 119), (15, some 120), (16, some 121), (17, some 122), (18, some 123), (19, some 124), (20, some 125), (21, some 126), (22, some 127), (23, some 128), (24, some 129), (25, some 130)] [(6, false), (16, false), (21, false)] [] (by kernel_rfl) (by kernel_rfl) (by kernel_rfl) (by kernel_rfl) (by kernel_rfl) (by kernel_rfl) (by kernel_rfl) bb_5.size ?_ ?_
  ·
    refine pk_cons rfl rfl (st_load4P p7_5 p7'_5 (by simp) e7_5 hN_5 (by kernel_rfl) rfl) ?_
    refine pk_cons rfl rfl (st_load4P f2_5 f2'_5 (by simp) e4_5 hN_5 (by kernel_rfl) rfl) ?_
    refine pk_cons rfl rfl (st_call2 hN_5 (by kernel_rfl) (by kernel_rfl) (by kernel_rfl) (by kernel_rfl) (by kernel_rfl) rfl rfl rfl fun w x v1 v2 hC h1 h2 => tp (Sub_19 (pm (by decide) h1) (pm (by decide) h2))) ?_
    refine pk_cons rfl rfl (st_load4P f1_5 f1'_5 (by simp) e3_5 hN_5 (by kernel_rfl) rfl) ?_
    refine pk_cons rfl rfl (st_call2 hN_5 (by kernel_rfl) (by kernel_rfl) (by kernel_rfl) (by kernel_rfl) (by kernel_rfl) rfl rfl rfl fun w x v1 v2 hC h1 h2 => ti (lawSame_39 (pm (by decide) (pe (q_back _ _) h1)) (pm (by decide) h2))) ?_
    refine pk_cons rfl rfl (st_pure [.bool true] [] (.bool false) rfl hN_5 (by kernel_rfl) (by kernel_rfl) (by kernel_rfl) old0 (by kernel_rfl) (by kernel_rfl) (by kernel_rfl) (fun _ => by kernel_rfl)) ?_
    refine pk_cons rfl rfl (st_pure [.bool false] [] (.bool false) rfl hN_5 (by kernel_rfl) (by kernel_rfl) (by kernel_rfl) old0 (by kernel_rfl) (by kernel_rfl) (by kernel_rfl) (fun _ => by kernel_rfl)) ?_
    refine pk_cons rfl rfl (st_load4P f1_5 f1'_5 (by simp) e3_5 hN_5 (by kernel_rfl) rfl) ?_
    refine pk_cons rfl rfl (st_load4P f1_5 f1'_5 (by simp) e3_5 hN_5 (by kernel_rfl) rfl) ?_
    refine pk_cons rfl rfl (st_call1 hN_5 (by kernel_rfl) (by kernel_rfl) (by kernel_rfl) rfl rfl fun w x v1 hC h1 => tp (Neg_9 (pm (by decide) h1))) ?_
    refine pk_cons rfl rfl (st_plist2 hN_5 (by kernel_rfl) (by kernel_rfl) (by kernel_rfl) (by kernel_rfl) (Nat.le_refl _) rfl rfl rfl) ?_
    refine pk_cons rfl rfl (st_call1 hN_5 (by kernel_rfl) (by kernel_rfl) (by kernel_rfl) rfl rfl fun w x v1 hC h1 => tp (Add2_9 (plm2 9 h1 (by decide) (by decide)))) ?_
    refine pk_cons rfl rfl (st_load4P p9_5 p9'_5 (by simp) e9_5 hN_5 (by kernel_rfl) rfl) ?_
    refine pk_cons rfl rfl (st_call2 hN_5 (by kernel_rfl) (by kernel_rfl) (by kernel_rfl) (by kernel_rfl) (by kernel_rfl) rfl rfl rfl fun w x v1 v2 hC h1 h2 => ti (lawSame_19 (pm (by decide) (pe (Rat.add_neg_cancel _) h1)) (pm (by decide) h2))) ?_
    refine pk_cons rfl rfl (st_pure [.bool true] [] (.bool false) rfl hN_5 (by kernel_rfl) (by kernel_rfl) (by kernel_rfl) old0 (by kernel_rfl) (by kernel_rfl) (by kernel_rfl) (fun _ => by kernel_rfl)) ?_
    refine pk_cons rfl rfl (st_pure [.bool false, .bool false] [] (.bool false) rfl hN_5 (by kernel_rfl) (by kernel_rfl) (by kernel_rfl) old0 (by kernel_rfl) (by kernel_rfl) (by kernel_rfl) (fun _ => by kernel_rfl)) ?_
    refine pk_cons rfl rfl (st_pure [.bool false] [] (.bool false) rfl hN_5 (by kernel_rfl) (by kernel_rfl) (by kernel_rfl) old0 (by kernel_rfl) (by kernel_rfl) (by kernel_rfl) (fun _ => by kernel_rfl)) ?_
    refine pk_cons rfl rfl (st_load4P p7_5 p7'_5 (by simp) e7_5 hN_5 (by kernel_rfl) rfl) ?_
    refine pk_cons rfl rfl (st_call1 hN_5 (by kernel_rfl) (by kernel_rfl) (by kernel_rfl) rfl rfl fun w x v1 hC h1 => ti (right_19 (pm (by decide) h1))) ?_
    refine pk_cons rfl rfl (st_pure [.bool true] [] (.bool false) rfl hN_5 (by kernel_rfl) (by kernel_rfl) (by kernel_rfl) old0 (by kernel_rfl) (by kernel_rfl) (by kernel_rfl) (fun _ => by kernel_rfl)) ?_
    refine pk_cons rfl rfl (st_pure [.bool false, .bool false] [] (.bool false) rfl hN_5 (by kernel_rfl) (by kernel_rfl) (by kernel_rfl) old0 (by kernel_rfl) (by kernel_rfl) (by kernel_rfl) (fun _ => by kernel_rfl)) ?_
    refine pk_cons rfl rfl (st_pure [.bool false] [] (.bool false) rfl hN_5 (by kernel_rfl) (by kernel_rfl) (by kernel_rfl) old0 (by kernel_rfl) (by kernel_rfl) (by kernel_rfl) (fun _ => by kernel_rfl)) ?_
    refine pk_cons rfl rfl (st_load4P p8_5 p8'_5 (by simp) e8_5 hN_5 (by kernel_rfl) rfl) ?_
    refine pk_cons rfl rfl (st_call1 hN_5 (by kernel_rfl) (by kernel_rfl) (by kernel_rfl) rfl rfl fun w x v1 hC h1 => ti (right_19 (pm (by decide) h1))) ?_
    refine pk_cons rfl rfl (st_pure [.bool true] [] (.bool false) rfl hN_5 (by kernel_rfl) (by kernel_rfl) (by kernel_rfl) old0 (by kernel_rfl) (by kernel_rfl) (by kernel_rfl) (fun _ => by kernel_rfl)) ?_
    refine pk_cons rfl rfl (st_pure [.bool false, .bool false] [] (.bool false) rfl hN_5 (by kernel_rfl) (by kernel_rfl) (by kernel_rfl) old0 (by kernel_rfl) (by kernel_rfl) (by kernel_rfl) (fun _ => by kernel_rfl)) ?_
    exact pk_nil rfl
  intro W_6 x hC hall
  refine then_n ?_
  obtain ⟨a_6, ha⟩ : ∃ a, a = putE x a_5 [(0, some 105), (1, some 106), (2, some 107), (3, some 108), (4, some 109), (5, some 110), (6, some 111), (7, some 112), (8, some 113), (9, some 114), (10, some 115), (11, some 116), (12, some 117), (13, some 118), (14, some 119), (15, some 120), (16, some 121), (17, some 122), (18, some 123), (19, some 124), (20, some 125), (21, some 126), (22, some 127), (23, some 128), (24, some 129), (25, some 130)] := ⟨_, rfl⟩
  rw [← ha]
  have hN_6 := size_behind ha hN_5
  have hD_6 := defers_behind ha hD_5
  have bb_6 := bb_5.trans hC.below
  have e3_6 := slot_old ha (by kernel_rfl) e3_5
  have e4_6 := slot_old ha (by kernel_rfl) e4_5
  have e5_6 := slot_old ha (by kernel_rfl) e5_5
  have e13_6 := slot_old ha (by kernel_rfl) e13_5
  have e34_6 := slot_old ha (by kernel_rfl) e34_5
  have e7_6 := slot_old ha (by kernel_rfl) e7_5
  have e8_6 := slot_old ha (by kernel_rfl) e8_5
  have e102_6 := slot_old ha (by kernel_rfl) e102_5
  have e9_6 := slot_old ha (by kernel_rfl) e9_5
  have f1_6 := hC.at0 f1_5
  have f1'_6 := hC.at0 f1'_5
  have f2_6 := hC.at0 f2_5
  have f2'_6 := hC.at0 f2'_5
  have f3_6 := hC.at0 f3_5
  have f3'_6 := hC.at0 f3'_5
  have p7_6 := hC.at0 p7_5
  have p7'_6 := hC.at0 p7'_5
  have p8_6 := hC.at0 p8_5
  have p8'_6 := hC.at0 p8'_5
  have p9_6 := hC.at0 p9_5
  have p9'_6 := hC.at0 p9'_5
  have e130_6 := (slot_new (t := 130) (i := 25) ha hN_5 (by kernel_rfl) (by kernel_rfl)).trans (show x 25 = .bool false from hall 25 (of_decide_eq_true (by kernel_rfl)))
  clear hall hC ha bb_5 hD_5 e3_5 e4_5 e5_5 e13_5 e34_5 e7_5 e8_5 e102_5 e9_5 f1_5 f1'_5 f2_5 f2'_5 f3_5 f3'_5 p7_5 p7'_5 p8_5 p8'_5 p9_5 p9'_5
  refine wp_cond_false e130_6 ?_
  repeat (first | refine wp_seq ?_ | (refine wp_skip ?_; refine then_n ?_))
  by_cases hb : b = 0
  ·
    refine wp_region_law hN_6 w.heap.size
      [kP 18 ((a * b).num) (((a * b).den : Int)), kP 9 (b.num) ((b.den : Int)), kPT 9 ((0 : Rat).num) (((0 : Rat).den : Int)) (.int .i64 (9)), kPT 9 ((0 : Rat).num) (((0 : Rat).den : Int)) (.int .i64 (9)), kP 9 ((0 : Rat).num) (((0 : Rat).den : Int)), kIs (.int .i64 (9)), PK.fresh 4, kPutP 6 9 ((0 : Rat).num) (((0 : Rat).den : Int)), kIs (.int .i64 (9))]
      [ [], [], [(0, some 132), (1, some 133)], [(2, some 134)], [(3, some 131)], [(3, some 131)], [], [(6, some 10), (4, some 135)], [(5, some 136)] ]
      [(0, some 132), (1, some 133), (2, some 134), (3, some 131), (4, some 135), (5, some 136), (6, some 10), (7, none), (8, some 11)] [] [] (by kernel_rfl) (by kernel_rfl) (by kernel_rfl) (by kernel_rfl) (by kernel_rfl) (by kernel_rfl) (by kernel_rfl) bb_6.size ?_ ?_
    ·
      refine pk_cons rfl rfl (st_load4P p8_6 p8'_6 (by simp) e8_6 hN_6 (by kernel_rfl) rfl) ?_
      refine pk_cons rfl rfl (st_load4P f2_6 f2'_6 (by simp) e4_6 hN_6 (by kernel_rfl) rfl) ?_
      refine pk_cons rfl rfl (st_call2 hN_6 (by kernel_rfl) (by kernel_rfl) (by kernel_rfl) (by kernel_rfl) (by kernel_rfl) rfl rfl rfl fun w x v1 v2 hC h1 h2 => tpt (DivZero_19 (num_no hb) (pm (by decide) h1) (pm (by decide) h2))) ?_
      refine pk_cons rfl rfl (st_move hN_6 (by kernel_rfl) (by kernel_rfl) rfl rfl) ?_
      refine pk_cons rfl rfl (st_ext hN_6 (by kernel_rfl) (by kernel_rfl) rfl rfl ext_p) ?_
      refine pk_cons rfl rfl (st_ext hN_6 (by kernel_rfl) (by kernel_rfl) rfl rfl ext_v) ?_
      refine pk_cons rfl rfl (st_allocP hN_6 (by kernel_rfl) (Nat.le_refl _) rfl) ?_
      refine pk_cons rfl rfl (st_putP hN_6 (by kernel_rfl) (by kernel_rfl) (by kernel_rfl) rfl rfl rfl) ?_
      refine pk_cons rfl rfl (st_pure [.int .i64 (9)] [] (.int .i64 (9)) rfl hN_6 (by kernel_rfl) (by kernel_rfl) (by kernel_rfl) old0 (by kernel_rfl) (by kernel_rfl) (by kernel_rfl) (fun _ => by kernel_rfl)) ?_
      exact pk_nil rfl
    intro W_7 x hC hall
    refine then_n ?_
    obtain ⟨a_7, ha⟩ : ∃ a, a = putE x a_6 [(0, some 132), (1, some 133), (2, some 134), (3, some 131), (4, some 135), (5, some 136), (6, some 10), (7, none), (8, some 11)] := ⟨_, rfl⟩
    rw [← ha]
    have hN_7 := size_behind ha hN_6
    have hD_7 := defers_behind ha hD_6
    have bb_7 := bb_6.trans hC.below
    have e3_7 := slot_old ha (by kernel_rfl) e3_6
    have e4_7 := slot_old ha (by kernel_rfl) e4_6
    have e5_7 := slot_old ha (by kernel_rfl) e5_6
    have e13_7 := slot_old ha (by kernel_rfl) e13_6
    have e34_7 := slot_old ha (by kernel_rfl) e34_6
    have e7_7 := slot_old ha (by kernel_rfl) e7_6
    have e8_7 := slot_old ha (by kernel_rfl) e8_6
    have e102_7 := slot_old ha (by kernel_rfl) e102_6
    have e9_7 := slot_old ha (by kernel_rfl) e9_6
    have e130_7 := slot_old ha (by kernel_rfl) e130_6
    have f1_7 := hC.at0 f1_6
    have f1'_7 := hC.at0 f1'_6
    have f2_7 := hC.at0 f2_6
    have f2'_7 := hC.at0 f2'_6
    have f3_7 := hC.at0 f3_6
    have f3'_7 := hC.at0 f3'_6
    have p7_7 := hC.at0 p7_6
    have p7'_7 := hC.at0 p7'_6
    have p8_7 := hC.at0 p8_6
    have p8'_7 := hC.at0 p8'_6
    have p9_7 := hC.at0 p9_6
    have p9'_7 := hC.at0 p9'_6
    obtain ⟨g10, hx, hge, p10_7, p10'_7⟩ := put_atP (show (kPutP 6 9 ((0 : Rat).num) (((0 : Rat).den : Int))).sem _ _ _ _ from hall 7 (of_decide_eq_true (by kernel_rfl)))
    have e10_7 := (slot_new (t := 10) (i := 6) ha hN_6 (by kernel_rfl) (by kernel_rfl)).trans hx
    clear hx hge
    have e11_7 := (slot_new (t := 11) (i := 8) ha hN_6 (by kernel_rfl) (by kernel_rfl)).trans (show x 8 = .int .i64 (9) from hall 8 (of_decide_eq_true (by kernel_rfl)))
    clear hall hC ha bb_6 hD_6 e3_6 e4_6 e5_6 e13_6 e34_6 e7_6 e8_6 e102_6 e9_6 e130_6 f1_6 f1'_6 f2_6 f2'_6 f3_6 f3'_6 p7_6 p7'_6 p8_6 p8'_6 p9_6 p9'_6
    repeat (first | refine wp_seq ?_ | (refine wp_skip ?_; refine then_n ?_))
    refine wp_region_law hN_7 w.heap.size
      [kIs (.int .i64 (9)), kIs (.bool true), kP 9 (b.num) ((b.den : Int)), kP 9 ((0 : Rat).num) (((0 : Rat).den : Int)), kIs (.bool true), kIs (.bool false)]
      [ [], [(0, some 137)], [], [], [(2, some 139), (3, some 140)], [(1, some 138), (4, some 141)] ]
      [(0, some 137), (1, some 138), (2, some 139), (3, some 140), (4, some 141), (5, some 142)] [] [] (by kernel_rfl) (by kernel_rfl) (by kernel_rfl) (by kernel_rfl) (by kernel_rfl) (by kernel_rfl) (by kernel_rfl) bb_7.size ?_ ?_
    ·
      refine pk_cons rfl rfl (st_pure [] [(11, .int .i64 (9))] (.int .i64 (9)) rfl hN_7 (by kernel_rfl) (by kernel_rfl) (by kernel_rfl) (old1 e11_7) (by kernel_rfl) (by kernel_rfl) (by kernel_rfl) (fun _ => by kernel_rfl)) ?_
      refine pk_cons rfl rfl (st_pure [.int .i64 (9)] [] (.bool true) rfl hN_7 (by kernel_rfl) (by kernel_rfl) (by kernel_rfl) old0 (by kernel_rfl) (by kernel_rfl) (by kernel_rfl) (fun _ => by kernel_rfl)) ?_
      refine pk_cons rfl rfl (st_load4P f2_7 f2'_7 (by simp) e4_7 hN_7 (by kernel_rfl) rfl) ?_
      refine pk_cons rfl rfl (st_load4P p9_7 p9'_7 (by simp) e9_7 hN_7 (by kernel_rfl) rfl) ?_
      refine pk_cons rfl rfl (st_call2 hN_7 (by kernel_rfl) (by kernel_rfl) (by kernel_rfl) (by kernel_rfl) (by kernel_rfl) rfl rfl rfl fun w x v1 v2 hC h1 h2 => ti (lawSame_9 (pm (by decide) (pe (hb) h1)) (pm (by decide) h2))) ?_
      refine pk_cons rfl rfl (st_pure [.bool true, .bool true] [] (.bool false) rfl hN_7 (by kernel_rfl) (by kernel_rfl) (by kernel_rfl) old0 (by kernel_rfl) (by kernel_rfl) (by kernel_rfl) (fun _ => by kernel_rfl)) ?_
      exact pk_nil rfl
    intro W_8 x hC hall
    refine then_n ?_
    obtain ⟨a_8, ha⟩ : ∃ a, a = putE x a_7 [(0, some 137), (1, some 138), (2, some 139), (3, some 140), (4, some 141), (5, some 142)] := ⟨_, rfl⟩
    rw [← ha]
    have hN_8 := size_behind ha hN_7
    have hD_8 := defers_behind ha hD_7
    have bb_8 := bb_7.trans hC.below
    have e3_8 := slot_old ha (by kernel_rfl) e3_7
    have e4_8 := slot_old ha (by kernel_rfl) e4_7
    have e5_8 := slot_old ha (by kernel_rfl) e5_7
    have e13_8 := slot_old ha (by kernel_rfl) e13_7
    have e34_8 := slot_old ha (by kernel_rfl) e34_7
    have e7_8 := slot_old ha (by kernel_rfl) e7_7
    have e8_8 := slot_old ha (by kernel_rfl) e8_7
    have e102_8 := slot_old ha (by kernel_rfl) e102_7
    have e9_8 := slot_old ha (by kernel_rfl) e9_7
    have e130_8 := slot_old ha (by kernel_rfl) e130_7
    have e10_8 := slot_old ha (by kernel_rfl) e10_7
    have e11_8 := slot_old ha (by kernel_rfl) e11_7
    have f1_8 := hC.at0 f1_7
    have f1'_8 := hC.at0 f1'_7
    have f2_8 := hC.at0 f2_7
    have f2'_8 := hC.at0 f2'_7
    have f3_8 := hC.at0 f3_7
    have f3'_8 := hC.at0 f3'_7
    have p7_8 := hC.at0 p7_7
    have p7'_8 := hC.at0 p7'_7
    have p8_8 := hC.at0 p8_7
    have p8'_8 := hC.at0 p8'_7
    have p9_8 := hC.at0 p9_7
    have p9'_8 := hC.at0 p9'_7
    have p10_8 := hC.at0 p10_7
    have p10'_8 := hC.at0 p10'_7
    have e142_8 := (slot_new (t := 142) (i := 5) ha hN_7 (by kernel_rfl) (by kernel_rfl)).trans (show x 5 = .bool false from hall 5 (of_decide_eq_true (by kernel_rfl)))
    clear hall hC ha bb_7 hD_7 e3_7 e4_7 e5_7 e13_7 e34_7 e7_7 e8_7 e102_7 e9_7 e130_7 e10_7 e11_7 f1_7 f1'_7 f2_7 f2'_7 f3_7 f3'_7 p7_7 p7'_7 p8_7 p8'_7 p9_7 p9'_7 p10_7 p10'_7
    refine wp_cond_false e142_8 ?_
    repeat (first | refine wp_seq ?_ | (refine wp_skip ?_; refine then_n ?_))
    refine wp_region_law hN_8 w.heap.size
      [kIs (.int .i64 (9)), kIs (.bool true), kIs (.bool true), kP 9 ((0 : Rat).num) (((0 : Rat).den : Int)), kP 9 ((0 : Rat).num) (((0 : Rat).den : Int)), kIs (.bool true), kIs (.bool true), kIs (.bool true), kIs undef, kIs undef, kIs undef, kIs undef, kIs undef, kIs undef, kIs undef, kIs (.bool true), kIs (.bool true)]
      [ [], [(0, some 143)], [(1, some 144)], [], [], [(3, some 146), (4, some 147)], [(2, some 145), (5, some 148)], [(6, some 149)], [], [(8, some 151)], [(9, some 152)], [], [], [(11, some 154), (12, some 155)], [(10, some 153), (13, some 156)], [(7, some 150), (14, some 157)], [(15, some 158)] ]
      [(0, some 143), (1, some 144), (2, some 145), (3, some 146), (4, some 147), (5, some 148), (6, some 149), (7, some 150), (8, some 151), (9, some 152), (10, some 153), (11, some 154), (12, some 155), (13, some 156), (14, some 157), (15, some 158), (16, some 6)] [(2, true), (7, true)] [8, 9, 10, 11, 12, 13, 14] (by kernel_rfl) (by kernel_rfl) (by kernel_rfl) (by kernel_rfl) (by kernel_rfl) (by kernel_rfl) (by kernel_rfl) bb_8.size ?_ ?_
    ·
      refine pk_cons rfl rfl (st_pure [] [(11, .int .i64 (9))] (.int .i64 (9)) rfl hN_8 (by kernel_rfl) (by kernel_rfl) (by kernel_rfl) (old1 e11_8) (by kernel_rfl) (by kernel_rfl) (by kernel_rfl) (fun _ => by kernel_rfl)) ?_
      refine pk_cons rfl rfl (st_pure [.int .i64 (9)] [] (.bool true) rfl hN_8 (by kernel_rfl) (by kernel_rfl) (by kernel_rfl) old0 (by kernel_rfl) (by kernel_rfl) (by kernel_rfl) (fun _ => by kernel_rfl)) ?_
      refine pk_cons rfl rfl (st_pure [.bool true] [] (.bool true) rfl hN_8 (by kernel_rfl) (by kernel_rfl) (by kernel_rfl) old0 (by kernel_rfl) (by kernel_rfl) (by kernel_rfl) (fun _ => by kernel_rfl)) ?_
      refine pk_cons rfl rfl (st_load4P p10_8 p10'_8 (by simp) e10_8 hN_8 (by kernel_rfl) rfl) ?_
      refine pk_cons rfl rfl (st_load4P p9_8 p9'_8 (by simp) e9_8 hN_8 (by kernel_rfl) rfl) ?_
      refine pk_cons rfl rfl (st_call2 hN_8 (by kernel_rfl) (by kernel_rfl) (by kernel_rfl) (by kernel_rfl) (by kernel_rfl) rfl rfl rfl fun w x v1 v2 hC h1 h2 => ti (lawSame_9 (pm (by decide) h1) (pm (by decide) h2))) ?_
      refine pk_cons rfl rfl (st_pure [.bool true, .bool true] [] (.bool true) rfl hN_8 (by kernel_rfl) (by kernel_rfl) (by kernel_rfl) old0 (by kernel_rfl) (by kernel_rfl) (by kernel_rfl) (fun _ => by kernel_rfl)) ?_
      refine pk_cons rfl rfl (st_pure [.bool true] [] (.bool true) rfl hN_8 (by kernel_rfl) (by kernel_rfl) (by kernel_rfl) old0 (by kernel_rfl) (by kernel_rfl) (by kernel_rfl) (fun _ => by kernel_rfl)) ?_
      refine pk_skip rfl ?_
      refine pk_skip rfl ?_
      refine pk_skip rfl ?_
      refine pk_skip rfl ?_
      refine pk_skip rfl ?_
      refine pk_skip rfl ?_
      refine pk_skip rfl ?_
      refine pk_cons rfl rfl (st_pure [.bool true, undef] [] (.bool true) rfl hN_8 (by kernel_rfl) (by kernel_rfl) (by kernel_rfl) old0 (by kernel_rfl) (by kernel_rfl) (by kernel_rfl) (fun _ => by kernel_rfl)) ?_
      refine pk_cons rfl rfl (st_pure [.bool true] [] (.bool true) rfl hN_8 (by kernel_rfl) (by kernel_rfl) (by kernel_rfl) old0 (by kernel_rfl) (by kernel_rfl) (by kernel_rfl) (fun _ => by kernel_rfl)) ?_
      exact pk_nil rfl
    intro W_9 x hC hall
    refine then_n ?_
    obtain ⟨a_9, ha⟩ : ∃ a, a = putE x a_8 [(0, some 143), (1, some 144), (2, some 145), (3, some 146), (4, some 147), (5, some 148), (6, some 149), (7, some 150), (8, some 151), (9, some 152), (10, some 153), (11, some 154), (12, some 155), (13, some 156), (14, some 157), (15, some 158), (16, some 6)] := ⟨_, rfl⟩
    rw [← ha]
    have hN_9 := size_behind ha hN_8
    have hD_9 := defers_behind ha hD_8
    have bb_9 := bb_8.trans hC.below
    have e3_9 := slot_old ha (by kernel_rfl) e3_8
    have e4_9 := slot_old ha (by kernel_rfl) e4_8
    have e5_9 := slot_old ha (by kernel_rfl) e5_8
    have e13_9 := slot_old ha (by kernel_rfl) e13_8
    have e34_9 := slot_old ha (by kernel_rfl) e34_8
    have e7_9 := slot_old ha (by kernel_rfl) e7_8
    have e8_9 := slot_old ha (by kernel_rfl) e8_8
    have e102_9 := slot_old ha (by kernel_rfl) e102_8
    have e9_9 := slot_old ha (by kernel_rfl) e9_8
    have e130_9 := slot_old ha (by kernel_rfl) e130_8
    have e10_9 := slot_old ha (by kernel_rfl) e10_8
    have e11_9 := slot_old ha (by kernel_rfl) e11_8
    have e142_9 := slot_old ha (by kernel_rfl) e142_8
    have f1_9 := hC.at0 f1_8
    have f1'_9 := hC.at0 f1'_8
    have f2_9 := hC.at0 f2_8
    have f2'_9 := hC.at0 f2'_8
    have f3_9 := hC.at0 f3_8
    have f3'_9 := hC.at0 f3'_8
    have p7_9 := hC.at0 p7_8
    have p7'_9 := hC.at0 p7'_8
    have p8_9 := hC.at0 p8_8
    have p8'_9 := hC.at0 p8'_8
    have p9_9 := hC.at0 p9_8
    have p9'_9 := hC.at0 p9'_8
    have p10_9 := hC.at0 p10_8
    have p10'_9 := hC.at0 p10'_8
    have e6_9 := (slot_new (t := 6) (i := 16) ha hN_8 (by kernel_rfl) (by kernel_rfl)).trans (show x 16 = .bool true from hall 16 (of_decide_eq_true (by kernel_rfl)))
    clear hall hC ha bb_8 hD_8 e3_8 e4_8 e5_8 e13_8 e34_8 e7_8 e8_8 e102_8 e9_8 e130_8 e10_8 e11_8 e142_8 f1_8 f1'_8 f2_8 f2'_8 f3_8 f3'_8 p7_8 p7'_8 p8_8 p8'_8 p9_8 p9'_8 p10_8 p10'_8
    repeat (first | refine wp_seq ?_ | (refine wp_skip ?_; refine then_n ?_))
    refine wp_ret ?_
    repeat (refine then_r ?_)
    exact ret_one (t := 6) rfl hD_9 e6_9 ⟨rfl, bb_9⟩
  ·
    refine wp_region_law hN_6 w.heap.size
      [kP 18 ((a * b).num) (((a * b).den : Int)), kP 9 (b.num) ((b.den : Int)), kPT 38 (((a * b) * (b⁻¹)).num) ((((a * b) * (b⁻¹)).den : Int)) (.int .i64 (0)), kPT 38 (((a * b) * (b⁻¹)).num) ((((a * b) * (b⁻¹)).den : Int)) (.int .i64 (0)), kP 38 (((a * b) * (b⁻¹)).num) ((((a * b) * (b⁻¹)).den : Int)), kIs (.int .i64 (0)), PK.fresh 4, kPutP 6 38 (((a * b) * (b⁻¹)).num) ((((a * b) * (b⁻¹)).den : Int)), kIs (.int .i64 (0))]
      [ [], [], [(0, some 132), (1, some 133)], [(2, some 134)], [(3, some 131)], [(3, some 131)], [], [(6, some 10), (4, some 135)], [(5, some 136)] ]
      [(0, some 132), (1, some 133), (2, some 134), (3, some 131), (4, some 135), (5, some 136), (6, some 10), (7, none), (8, some 11)] [] [] (by kernel_rfl) (by kernel_rfl) (by kernel_rfl) (by kernel_rfl) (by kernel_rfl) (by kernel_rfl) (by kernel_rfl) bb_6.size ?_ ?_
    ·
      refine pk_cons rfl rfl (st_load4P p8_6 p8'_6 (by simp) e8_6 hN_6 (by kernel_rfl) rfl) ?_
      refine pk_cons rfl rfl (st_load4P f2_6 f2'_6 (by simp) e4_6 hN_6 (by kernel_rfl) rfl) ?_
      refine pk_cons rfl rfl (st_call2 hN_6 (by kernel_rfl) (by kernel_rfl) (by kernel_rfl) (by kernel_rfl) (by kernel_rfl) rfl rfl rfl fun w x v1 v2 hC h1 h2 => tpt (Div_19 (num_ne hb) (pm (by decide) h1) (pm (by decide) h2))) ?_
      refine pk_cons rfl rfl (st_move hN_6 (by kernel_rfl) (by kernel_rfl) rfl rfl) ?_
      refine pk_cons rfl rfl (st_ext hN_6 (by kernel_rfl) (by kernel_rfl) rfl rfl ext_p) ?_
      refine pk_cons rfl rfl (st_ext hN_6 (by kernel_rfl) (by kernel_rfl) rfl rfl ext_v) ?_
      refine pk_cons rfl rfl (st_allocP hN_6 (by kernel_rfl) (Nat.le_refl _) rfl) ?_
      refine pk_cons rfl rfl (st_putP hN_6 (by kernel_rfl) (by kernel_rfl) (by kernel_rfl) rfl rfl rfl) ?_
      refine pk_cons rfl rfl (st_pure [.int .i64 (0)] [] (.int .i64 (0)) rfl hN_6 (by kernel_rfl) (by kernel_rfl) (by kernel_rfl) old0 (by kernel_rfl) (by kernel_rfl) (by kernel_rfl) (fun _ => by kernel_rfl)) ?_
      exact pk_nil rfl
    intro W_7 x hC hall
    refine then_n ?_
    obtain ⟨a_7, ha⟩ : ∃ a, a = putE x a_6 [(0, some 132), (1, some 133), (2, some 134), (3, some 131), (4, some 135), (5, some 136), (6, some 10), (7, none), (8, some 11)] := ⟨_, rfl⟩
    rw [← ha]
    have hN_7 := size_behind ha hN_6
    have hD_7 := defers_behind ha hD_6
    have bb_7 := bb_6.trans hC.below
    have e3_7 := slot_old ha (by kernel_rfl) e3_6
    have e4_7 := slot_old ha (by kernel_rfl) e4_6
    have e5_7 := slot_old ha (by kernel_rfl) e5_6
    have e13_7 := slot_old ha (by kernel_rfl) e13_6
    have e34_7 := slot_old ha (by kernel_rfl) e34_6
    have e7_7 := slot_old ha (by kernel_rfl) e7_6
    have e8_7 := slot_old ha (by kernel_rfl) e8_6
    have e102_7 := slot_old ha (by kernel_rfl) e102_6
    have e9_7 := slot_old ha (by kernel_rfl) e9_6
    have e130_7 := slot_old ha (by kernel_rfl) e130_6
    have f1_7 := hC.at0 f1_6
    have f1'_7 := hC.at0 f1'_6
    have f2_7 := hC.at0 f2_6
    have f2'_7 := hC.at0 f2'_6
    have f3_7 := hC.at0 f3_6
    have f3'_7 := hC.at0 f3'_6
    have p7_7 := hC.at0 p7_6
    have p7'_7 := hC.at0 p7'_6
    have p8_7 := hC.at0 p8_6
    have p8'_7 := hC.at0 p8'_6
    have p9_7 := hC.at0 p9_6
    have p9'_7 := hC.at0 p9'_6
    obtain ⟨g10, hx, hge, p10_7, p10'_7⟩ := put_atP (show (kPutP 6 38 (((a * b) * (b⁻¹)).num) ((((a * b) * (b⁻¹)).den : Int))).sem _ _ _ _ from hall 7 (of_decide_eq_true (by kernel_rfl)))
    have e10_7 := (slot_new (t := 10) (i := 6) ha hN_6 (by kernel_rfl) (by kernel_rfl)).trans hx
    clear hx hge
    have e11_7 := (slot_new (t := 11) (i := 8) ha hN_6 (by kernel_rfl) (by kernel_rfl)).trans (show x 8 = .int .i64 (0) from hall 8 (of_decide_eq_true (by kernel_rfl)))
    clear hall hC ha bb_6 hD_6 e3_6 e4_6 e5_6 e13_6 e34_6 e7_6 e8_6 e102_6 e9_6 e130_6 f1_6 f1'_6 f2_6 f2'_6 f3_6 f3'_6 p7_6 p7'_6 p8_6 p8'_6 p9_6 p9'_6
    repeat (first | refine wp_seq ?_ | (refine wp_skip ?_; refine then_n ?_))
    refine wp_region_law hN_7 w.heap.size
      [kIs (.int .i64 (0)), kIs (.bool false), kP 9 (b.num) ((b.den : Int)), kP 9 ((0 : Rat).num) (((0 : Rat).den : Int)), kIs (.bool false), kIs (.bool false)]
      [ [], [(0, some 137)], [], [], [(2, some 139), (3, some 140)], [(1, some 138), (4, some 141)] ]
      [(0, some 137), (1, some 138), (2, some 139), (3, some 140), (4, some 141), (5, some 142)] [] [] (by kernel_rfl) (by kernel_rfl) (by kernel_rfl) (by kernel_rfl) (by kernel_rfl) (by kernel_rfl) (by kernel_rfl) bb_7.size ?_ ?_
    ·
      refine pk_cons rfl rfl (st_pure [] [(11, .int .i64 (0))] (.int .i64 (0)) rfl hN_7 (by kernel_rfl) (by kernel_rfl) (by kernel_rfl) (old1 e11_7) (by kernel_rfl) (by kernel_rfl) (by kernel_rfl) (fun _ => by kernel_rfl)) ?_
      refine pk_cons rfl rfl (st_pure [.int .i64 (0)] [] (.bool false) rfl hN_7 (by kernel_rfl) (by kernel_rfl) (by kernel_rfl) old0 (by kernel_rfl) (by kernel_rfl) (by kernel_rfl) (fun _ => by kernel_rfl)) ?_
      refine pk_cons rfl rfl (st_load4P f2_7 f2'_7 (by simp) e4_7 hN_7 (by kernel_rfl) rfl) ?_
      refine pk_cons rfl rfl (st_load4P p9_7 p9'_7 (by simp) e9_7 hN_7 (by kernel_rfl) rfl) ?_
      refine pk_cons rfl rfl (st_call2 hN_7 (by kernel_rfl) (by kernel_rfl) (by kernel_rfl) (by kernel_rfl) (by kernel_rfl) rfl rfl rfl fun w x v1 v2 hC h1 h2 => ti (lawSame_not (hb) (pm (by decide) h1) (pm (by decide) h2))) ?_
      refine pk_cons rfl rfl (st_pure [.bool false, .bool false] [] (.bool false) rfl hN_7 (by kernel_rfl) (by kernel_rfl) (by kernel_rfl) old0 (by kernel_rfl) (by kernel_rfl) (by kernel_rfl) (fun _ => by kernel_rfl)) ?_
      exact pk_nil rfl
    intro W_8 x hC hall
    refine then_n ?_
    obtain ⟨a_8, ha⟩ : ∃ a, a = putE x a_7 [(0, some 137), (1, some 138), (2, some 139), (3, some 140), (4, some 141), (5, some 142)] := ⟨_, rfl⟩
    rw [← ha]
    have hN_8 := size_behind ha hN_7
    have hD_8 := defers_behind ha hD_7
    have bb_8 := bb_7.trans hC.below
    have e3_8 := slot_old ha (by kernel_rfl) e3_7
    have e4_8 := slot_old ha (by kernel_rfl) e4_7
    have e5_8 := slot_old ha (by kernel_rfl) e5_7
    have e13_8 := slot_old ha (by kernel_rfl) e13_7
    have e34_8 := slot_old ha (by kernel_rfl) e34_7
    have e7_8 := slot_old ha (by kernel_rfl) e7_7
    have e8_8 := slot_old ha (by kernel_rfl) e8_7
    have e102_8 := slot_old ha (by kernel_rfl) e102_7
    have e9_8 := slot_old ha (by kernel_rfl) e9_7
    have e130_8 := slot_old ha (by kernel_rfl) e130_7
    have e10_8 := slot_old ha (by kernel_rfl) e10_7
    have e11_8 := slot_old ha (by kernel_rfl) e11_7
    have f1_8 := hC.at0 f1_7
    have f1'_8 := hC.at0 f1'_7
    have f2_8 := hC.at0 f2_7
    have f2'_8 := hC.at0 f2'_7
    have f3_8 := hC.at0 f3_7
    have f3'_8 := hC.at0 f3'_7
    have p7_8 := hC.at0 p7_7
    have p7'_8 := hC.at0 p7'_7
    have p8_8 := hC.at0 p8_7
    have p8'_8 := hC.at0 p8'_7
    have p9_8 := hC.at0 p9_7
    have p9'_8 := hC.at0 p9'_7
    have p10_8 := hC.at0 p10_7
    have p10'_8 := hC.at0 p10'_7
    have e142_8 := (slot_new (t := 142) (i := 5) ha hN_7 (by kernel_rfl) (by kernel_rfl)).trans (show x 5 = .bool false from hall 5 (of_decide_eq_true (by kernel_rfl)))
    clear hall hC ha bb_7 hD_7 e3_7 e4_7 e5_7 e13_7 e34_7 e7_7 e8_7 e102_7 e9_7 e130_7 e10_7 e11_7 f1_7 f1'_7 f2_7 f2'_7 f3_7 f3'_7 p7_7 p7'_7 p8_7 p8'_7 p9_7 p9'_7 p10_7 p10'_7
    refine wp_cond_false e142_8 ?_
    repeat (first | refine wp_seq ?_ | (refine wp_skip ?_; refine then_n ?_))
    refine wp_region_law hN_8 w.heap.size
      [kIs (.int .i64 (0)), kIs (.bool false), kIs (.bool false), kIs undef, kIs undef, kIs undef, kIs (.bool false), kIs (.bool false), kIs (.int .i64 (0)), kIs (.bool true), kIs (.bool true), kP 38 (((a * b) * (b⁻¹)).num) ((((a * b) * (b⁻¹)).den : Int)), kP 9 (a.num) ((a.den : Int)), kIs (.bool true), kIs (.bool true), kIs (.bool true), kIs (.bool true)]
      [ [], [(0, some 143)], [(1, some 144)], [], [], [(3, some 146), (4, some 147)], [(2, some 145), (5, some 148)], [(6, some 149)], [], [(8, some 151)], [(9, some 152)], [], [], [(11, some 154), (12, some 155)], [(10, some 153), (13, some 156)], [(7, some 150), (14, some 157)], [(15, some 158)] ]
      [(0, some 143), (1, some 144), (2, some 145), (3, some 146), (4, some 147), (5, some 148), (6, some 149), (7, some 150), (8, some 151), (9, some 152), (10, some 153), (11, some 154), (12, some 155), (13, some 156), (14, some 157), (15, some 158), (16, some 6)] [(2, false), (7, false), (10, true)] [3, 4, 5] (by kernel_rfl) (by kernel_rfl) (by kernel_rfl) (by kernel_rfl) (by kernel_rfl) (by kernel_rfl) (by kernel_rfl) bb_8.size ?_ ?_
    ·
      refine pk_cons rfl rfl (st_pure [] [(11, .int .i64 (0))] (.int .i64 (0)) rfl hN_8 (by kernel_rfl) (by kernel_rfl) (by kernel_rfl) (old1 e11_8) (by kernel_rfl) (by kernel_rfl) (by kernel_rfl) (fun _ => by kernel_rfl)) ?_
      refine pk_cons rfl rfl (st_pure [.int .i64 (0)] [] (.bool false) rfl hN_8 (by kernel_rfl) (by kernel_rfl) (by kernel_rfl) old0 (by kernel_rfl) (by kernel_rfl) (by kernel_rfl) (fun _ => by kernel_rfl)) ?_
      refine pk_cons rfl rfl (st_pure [.bool false] [] (.bool false) rfl hN_8 (by kernel_rfl) (by kernel_rfl) (by kernel_rfl) old0 (by kernel_rfl) (by kernel_rfl) (by kernel_rfl) (fun _ => by kernel_rfl)) ?_
      refine pk_skip rfl ?_
      refine pk_skip rfl ?_
      refine pk_skip rfl ?_
      refine pk_cons rfl rfl (st_pure [.bool false, undef] [] (.bool false) rfl hN_8 (by kernel_rfl) (by kernel_rfl) (by kernel_rfl) old0 (by kernel_rfl) (by kernel_rfl) (by kernel_rfl) (fun _ => by kernel_rfl)) ?_
      refine pk_cons rfl rfl (st_pure [.bool false] [] (.bool false) rfl hN_8 (by kernel_rfl) (by kernel_rfl) (by kernel_rfl) old0 (by kernel_rfl) (by kernel_rfl) (by kernel_rfl) (fun _ => by kernel_rfl)) ?_
      refine pk_cons rfl rfl (st_pure [] [(11, .int .i64 (0))] (.int .i64 (0)) rfl hN_8 (by kernel_rfl) (by kernel_rfl) (by kernel_rfl) (old1 e11_8) (by kernel_rfl) (by kernel_rfl) (by kernel_rfl) (fun _ => by kernel_rfl)) ?_
      refine pk_cons rfl rfl (st_pure [.int .i64 (0)] [] (.bool true) rfl hN_8 (by kernel_rfl) (by kernel_rfl) (by kernel_rfl) old0 (by kernel_rfl) (by kernel_rfl) (by kernel_rfl) (fun _ => by kernel_rfl)) ?_
      refine pk_cons rfl rfl (st_pure [.bool true] [] (.bool true) rfl hN_8 (by kernel_rfl) (by kernel_rfl) (by kernel_rfl) old0 (by kernel_rfl) (by kernel_rfl) (by kernel_rfl) (fun _ => by kernel_rfl)) ?_
      refine pk_cons rfl rfl (st_load4P p10_8 p10'_8 (by simp) e10_8 hN_8 (by kernel_rfl) rfl) ?_
      refine pk_cons rfl rfl (st_load4P f1_8 f1'_8 (by simp) e3_8 hN_8 (by kernel_rfl) rfl) ?_
      refine pk_cons rfl rfl (st_call2 hN_8 (by kernel_rfl) (by kernel_rfl) (by kernel_rfl) (by kernel_rfl) (by kernel_rfl) rfl rfl rfl fun w x v1 v2 hC h1 h2 => ti (lawSame_39 (pm (by decide) (pe (q_undo hb) h1)) (pm (by decide) h2))) ?_
      refine pk_cons rfl rfl (st_pure [.bool true, .bool true] [] (.bool true) rfl hN_8 (by kernel_rfl) (by kernel_rfl) (by kernel_rfl) old0 (by kernel_rfl) (by kernel_rfl) (by kernel_rfl) (fun _ => by kernel_rfl)) ?_
      refine pk_cons rfl rfl (st_pure [.bool false, .bool true] [] (.bool true) rfl hN_8 (by kernel_rfl) (by kernel_rfl) (by kernel_rfl) old0 (by kernel_rfl) (by kernel_rfl) (by kernel_rfl) (fun _ => by kernel_rfl)) ?_
      refine pk_cons rfl rfl (st_pure [.bool true] [] (.bool true) rfl hN_8 (by kernel_rfl) (by kernel_rfl) (by kernel_rfl) old0 (by kernel_rfl) (by kernel_rfl) (by kernel_rfl) (fun _ => by kernel_rfl)) ?_
      exact pk_nil rfl
    intro W_9 x hC hall
    refine then_n ?_
    obtain ⟨a_9, ha⟩ : ∃ a, a = putE x a_8 [(0, some 143), (1, some 144), (2, some 145), (3, some 146), (4, some 147), (5, some 148), (6, some 149), (7, some 150), (8, some 151), (9, some 152), (10, some 153), (11, some 154), (12, some 155), (13, some 156), (14, some 157), (15, some 158), (16, some 6)] := ⟨_, rfl⟩
    rw [← ha]
    have hN_9 := size_behind ha hN_8
    have hD_9 := defers_behind ha hD_8
    have bb_9 := bb_8.trans hC.below
    have e3_9 := slot_old ha (by kernel_rfl) e3_8
    have e4_9 := slot_old ha (by kernel_rfl) e4_8
    have e5_9 := slot_old ha (by kernel_rfl) e5_8
    have e13_9 := slot_old ha (by kernel_rfl) e13_8
    have e34_9 := slot_old ha (by kernel_rfl) e34_8
    have e7_9 := slot_old ha (by kernel_rfl) e7_8
    have e8_9 := slot_old ha (by kernel_rfl) e8_8
    have e102_9 := slot_old ha (by kernel_rfl) e102_8
    have e9_9 := slot_old ha (by kernel_rfl) e9_8
    have e130_9 := slot_old ha (by kernel_rfl) e130_8
    have e10_9 := slot_old ha (by kernel_rfl) e10_8
    have e11_9 := slot_old ha (by kernel_rfl) e11_8
    have e142_9 := slot_old ha (by kernel_rfl) e142_8
    have f1_9 := hC.at0 f1_8
    have f1'_9 := hC.at0 f1'_8
    have f2_9 := hC.at0 f2_8
    have f2'_9 := hC.at0 f2'_8
    have f3_9 := hC.at0 f3_8
    have f3'_9 := hC.at0 f3'_8
    have p7_9 := hC.at0 p7_8
    have p7'_9 := hC.at0 p7'_8
    have p8_9 := hC.at0 p8_8
    have p8'_9 := hC.at0 p8'_8
    have p9_9 := hC.at0 p9_8
    have p9'_9 := hC.at0 p9'_8
    have p10_9 := hC.at0 p10_8
    have p10'_9 := hC.at0 p10'_8
    have e6_9 := (slot_new (t := 6) (i := 16) ha hN_8 (by kernel_rfl) (by kernel_rfl)).trans (show x 16 = .bool true from hall 16 (of_decide_eq_true (by kernel_rfl)))
    clear hall hC ha bb_8 hD_8 e3_8 e4_8 e5_8 e13_8 e34_8 e7_8 e8_8 e102_8 e9_8 e130_8 e10_8 e11_8 e142_8 f1_8 f1'_8 f2_8 f2'_8 f3_8 f3'_8 p7_8 p7'_8 p8_8 p8'_8 p9_8 p9'_8 p10_8 p10'_8
    repeat (first | refine wp_seq ?_ | (refine wp_skip ?_; refine then_n ?_))
    refine wp_ret ?_
    repeat (refine then_r ?_)
    exact ret_one (t := 6) rfl hD_9 e6_9 ⟨rfl, bb_9⟩
end Go.Proofs.YthgclmkhmcfflaaGreatDoor
namespace Go.Proofs.YthgclmkhmcfflaaGreatDoor
open Go.ChangeShapes Go.WideShapes Go.ChangeAt Go.WideMaps Go.WideElems Go.RowKit
open Go.ChangeMaps (setBlock shut_map_nil open_string shut_string keptBut_setBlock frozen?_setBlock heap_setBlock_same)
set_option maxRecDepth 100000 in
theorem int_inner {H : Type} {enc : TypeId × Value → H} {W : World} {n : Nat} {c0 c1 : Value} {y : DataW H × List MemPlace} (h : DataW.trod enc Tryz.prog W 0 (fun _ => true) true n 25 [c0, c1] = some y) :
    ∃ (b : Bool) (A : Option Addr) (c : Nat) (ds : List Nat), c0 = .bool b ∧ c1 = .slice A ds.length c ∧ Row W A (u32s ds) ∧ small 4294967296 ds := by
  obtain ⟨y0, y1, m, _, _, h0, h1⟩ := trod_struct2 Tryz.underlying25 h
  have e0 : [c0, c1].drop 0 = [c0, c1] := rfl
  have k0 : Tryz.prog.cellsOf 4 = 1 := by kernel_rfl
  have k1 : Tryz.prog.cellsOf 23 = 1 := by kernel_rfl
  have h0' : DataW.trod enc Tryz.prog W 0 (fun _ => true) true m 4 [c0] = some y0 := by simpa [k0] using h0
  have h1' : DataW.trod enc Tryz.prog W 0 (fun _ => true) true m 23 [c1] = some y1 := by simpa [k1] using h1
  have hb : ∃ b, c0 = .bool b := by
    obtain ⟨b, hc, _⟩ := DataW.trod_bool Tryz.underlying4 h0'
    injection hc with hc
    exact ⟨b, hc⟩
  obtain ⟨b, rfl⟩ := hb
  rcases open_ints Tryz.underlying23 Tryz.underlying64 (by kernel_rfl) h1' with ⟨hcs, _⟩ | ⟨a, len, cap, zs, hcs, _, hl, hm, hz, _, hcell, hw⟩
  · injection hcs with hcs
    subst hcs
    exact ⟨b, none, 0, [], rfl, rfl, Row.nil _ _, small_nil _⟩
  · injection hcs with hcs
    subst hcs
    simp only [if_true] at hz
    have hll := lim_length (zs := zs) (n := len) (by omega)
    refine ⟨b, some a, cap, lim zs len, rfl, by rw [hll], lim_row hl hz hw (fun h => by cases h) (fun a' ha i hi => ?_), lim_small hw⟩
    injection ha with ha
    subst ha
    exact hcell i (by omega)
set_option maxRecDepth 100000 in
theorem open_apiRatio {H : Type} {enc : TypeId × Value → H} {W : World} {base : Nat} {v : Value} {d : DataW H} {ps : List MemPlace} (hv : Value.okWide Tryz.prog W .any base 27 v) (h : DataW.Trod enc Tryz.prog W 0 (fun _ => true) true 27 v d ps) :
    ∃ (b b' : Bool) (A A' : Option Addr) (c c' : Nat) (ds es : List Nat), v = .agg #[.bool b, .slice A ds.length c, .bool b', .slice A' es.length c'] ∧ Row W A (u32s ds) ∧ small 4294967296 ds ∧ Row W A' (u32s es) ∧ small 4294967296 es := by
  obtain ⟨cs, rfl, hsz⟩ := okWide_struct Tryz.underlying27 hv
  obtain ⟨c0, c1, c2, c3, rfl⟩ := Go.Joins.array4 (hsz.trans (show Tryz.prog.cellsOf 27 = 4 by kernel_rfl))
  obtain ⟨fuel, hf⟩ := h
  obtain ⟨y0, y1, n, _, _, h0, h1⟩ := trod_struct2 Tryz.underlying27 hf
  have k : Tryz.prog.cellsOf 25 = 2 := by kernel_rfl
  have h0' : DataW.trod enc Tryz.prog W 0 (fun _ => true) true n 25 [c0, c1] = some y0 := by simpa [Value.cells, k] using h0
  have h1' : DataW.trod enc Tryz.prog W 0 (fun _ => true) true n 25 [c2, c3] = some y1 := by simpa [Value.cells, k] using h1
  obtain ⟨b, A, c, ds, rfl, rfl, r1, s1⟩ := int_inner h0'
  obtain ⟨b', A', c', es, rfl, rfl, r2, s2⟩ := int_inner h1'
  exact ⟨b, b', A, A', c, c', ds, es, rfl, r1, s1, r2, s2⟩
theorem apiRatio_ok : Tryz.prog.readableRec 27 = true ∧ 27 < Tryz.prog.types.size := ⟨by kernel_rfl, of_decide_eq_true (by kernel_rfl)⟩
set_option maxRecDepth 100000 in
theorem maxL_of {W : World} (h : W.ShapedOpen Tryz.prog) : MaxL W :=
  cell_of_shapedOpen_int (P := Tryz.prog) (g := 0) (t := 3) (zero := #[.int .i64 0]) h (of_decide_eq_true (by kernel_rfl)) (by kernel_rfl) rfl (by kernel_rfl) (by kernel_rfl) Tryz.underlying3
set_option maxRecDepth 100000 in
/-- The wrap, with the world's shape and what holds of it besides. -/
theorem handed_and_shape {H : Type} {enc : TypeId × Value → H} {os : Os} {f : FuncId} {fn : Func} {s : ChangeSpec} {apart fresh handsOn again : Bool} {X : World → Prop} (hX : ∀ w w' : World, w.heap = w'.heap → X w → X w') (started : os.Started) (noInit : Tryz.checked.prog.inits.idxOf? f = none) (hfn : Tryz.checked.prog.funcs[f]? = some fn)
    (witness : ∃ (w : World) (tape : Tape) (i : Input), w.os = os ∧ (w.forCall tape i).Shaped Tryz.checked.prog ∧ i.vars = [] ∧ Input.okWide Tryz.checked.prog (w.forCall tape i) .any w.heap.size f i ∧
      ((s.pre enc Tryz.checked.prog fn [] apart (w.forCall tape i).memory i.args ∧ X (w.forCall tape i).memory) ∧ sizedMet enc Tryz.checked.prog fn (OpenSpec.ofChange s) apart (w.forCall tape i).memory i.args) ∧ ({} : Assume).holds Tryz.checked.prog (lone (Frame.enter Tryz.checked.prog f i.args .normal) [] (w.forCall tape i)))
    (contract : ∀ (W : World) (base : Nat) (args : Array Value) (ds gs : List (DataW H)) (before : List MemPlace),
      (∀ (j : Nat) t v, fn.params[j]? = some t → args[j]? = some v → Value.okWide Tryz.checked.prog W .any base t v) →
      DataW.Whole enc Tryz.checked.prog fn.params.toList s.vars apart W args.toList ds gs before → W.ShapedOpen Tryz.checked.prog → X W →
      (DataW.weightsEach Tryz.checked.prog (fn.params.toList ++ s.plain.varTypes Tryz.checked.prog) (ds ++ gs)).all (· ≤ reachBytes) = true →
      Calls Tryz.checked.prog f args W fun e W' => ∃ v, e = .returned v ∧ s.post enc Tryz.checked.prog fn apart fresh handsOn again W args v W') :
    ReturnsInHanded {} Tryz.checked os f .any (fun w args => (s.pre enc Tryz.checked.prog fn [] apart w args ∧ X w) ∧ sizedMet enc Tryz.checked.prog fn (OpenSpec.ofChange s) apart w args) (s.post enc Tryz.checked.prog fn apart fresh handsOn again) := by
  refine returnsInHanded_of_calls own started noInit witness fun w tape i _ shape _ good met _ => ?_
  obtain ⟨_, _, _, g, hg, _, _, _, _, vals⟩ := good
  obtain rfl : g = fn := Option.some.inj (hg.symm.trans hfn)
  obtain ⟨⟨⟨ds, gs, before, whole, _⟩, x⟩, size⟩ := met
  exact (contract (w.forCall tape i) w.heap.size i.args ds gs before vals (DataW.Whole.of_heap (w' := w.forCall tape i) (by rfl) whole) shape (hX _ _ (by rfl) x) (size.weights whole)).mono fun _ _ ⟨v, e, p⟩ => e ▸ ChangeSpec.post_blind p
end Go.Proofs.YthgclmkhmcfflaaGreatDoor
namespace Go.Proofs.YthgclmkhmcfflaaGreatDoor
open Go.ChangeShapes Go.WideShapes Go.ChangeAt Go.WideMaps Go.WideElems Go.RowKit
open Go.ChangeMaps (setBlock shut_map_nil open_string shut_string keptBut_setBlock frozen?_setBlock heap_setBlock_same)
set_option maxRecDepth 100000 in
theorem ratioField_lifted (os : Os) (started : os.Started) (H : Type) (enc : TypeId × Value → H) :
    ReturnsInHanded {} Tryz.checked os 4 .any (fun w args => (Rows.ratioFieldSpec.pre enc Tryz.prog Tryz.f4 [] false w args ∧ laidMetH Tryz.prog laid3 w) ∧ sizedMet enc Tryz.prog Tryz.f4 (OpenSpec.ofChange Rows.ratioFieldSpec) false w args)
      (Rows.ratioFieldSpec.post enc Tryz.prog Tryz.f4 false true false false) := by
  refine handed_and_shape (X := fun w => laidMetH Tryz.prog laid3 w) (fun _ _ hh h => h.of_heap hh) started (by kernel_rfl) Tryz.func4
    (ChangeSpec.witness_shaped (enc := enc) (C := Tryz.checked) (os := os) (X := fun w _ => laidMetH Tryz.prog laid3 w) false (World.doorLaid Tryz.prog 400 os) #[.agg #[.bool false, .slice none 0 0, .bool false, .slice none 0 0], .agg #[.bool false, .slice none 0 0, .bool false, .slice none 0 0], .agg #[.bool false, .slice none 0 0, .bool false, .slice none 0 0]] 8 rfl (World.shaped_of_RefB (by kernel_rfl) (by kernel_rfl)) (by kernel_rfl) (by kernel_rfl) (by kernel_rfl) (door_met os _)) ?_
  intro W base args ds gs before hval0 hW hsh hL _
  have hval : ∀ (j : Nat) t v, Tryz.f4.params[j]? = some t → args[j]? = some v → Value.okWide Tryz.prog W .any base t v := hval0
  have hW' := hW
  obtain ⟨p, q, hA0, hV, rfl, hfz, hnd⟩ := hW
  have hA : DataW.TrodAll enc Tryz.prog W 0 (fun _ => true) true Tryz.f4.params.toList args.toList ds p := hA0
  have hlt := hA.lt
  rw [ Tryz.params4 ] at hA hval
  have hAk := hA
  obtain ⟨v0, v1, v2, d0, d1, d2, p0, p1, p2, rfl, rfl, rfl, h0, h1, h2⟩ := trodAll_three hA
  obtain ⟨rfl, rfl⟩ := trodVars_none hV
  obtain ⟨b1, b1', A1, A1', c1, c1', xs, xs', rfl, r1, s1, r1', s1'⟩ := open_apiRatio (hval 0 27 v0 rfl rfl) h0
  obtain ⟨b2, b2', A2, A2', c2, c2', ys, ys', rfl, r2, s2, r2', s2'⟩ := open_apiRatio (hval 1 27 v1 rfl rfl) h1
  obtain ⟨b3, b3', A3, A3', c3, c3', zs, zs', rfl, r3, s3, r3', s3'⟩ := open_apiRatio (hval 2 27 v2 rfl rfl) h2
  obtain ⟨ht, hw3⟩ := tab_of_laid hL
  have hm := maxL_of hsh
  have HT := Lib.hid (show Tab W ∧ 4 ≤ W.heap.size from ⟨ht, hw3⟩)
  clear hA0 hval0 hsh
  simp only [List.append_nil] at hW'
  have e1 : Rows.ratioFieldSpec.fn H ([d0, d1, d2] ++ []) = { results := [.lit (.bool true)], args := [d0, d1, d2] } := by simp [Rows.ratioFieldSpec]
  have hlaw : Calls Tryz.prog 4 #[.agg #[.bool b1, .slice A1 xs.length c1, .bool b1', .slice A1' xs'.length c1'], .agg #[.bool b2, .slice A2 ys.length c2, .bool b2', .slice A2' ys'.length c2'], .agg #[.bool b3, .slice A3 zs.length c3, .bool b3', .slice A3' zs'.length c3']] W fun e w' => e = .returned (.bool true) ∧ Below W.heap.size W w' := by
    cases hf : fewP [(xs.length, xs'.length), (ys.length, ys'.length), (zs.length, zs'.length)] with
    | false => exact lawField_great hf HT hm
    | true =>
      have hl := hf
      simp [fewP] at hl
      rcases right_came (b1 := b1) (b2 := b1') (c1 := c1) (c2 := c1') r1 s1 hl.1.1 r1' s1' hl.1.2 with ⟨a, q1⟩ | hr1
      · rcases right_came (b1 := b2) (b2 := b2') (c1 := c2) (c2 := c2') r2 s2 hl.2.1.1 r2' s2' hl.2.1.2 with ⟨b, q2⟩ | hr2
        · rcases right_came (b1 := b3) (b2 := b3') (c1 := c3) (c2 := c3') r3 s3 hl.2.2.1 r3' s3' hl.2.2.2 with ⟨c, q3⟩ | hr3
          · exact lawField_all hf q1 q2 q3 HT hm
          · exact lawField_no3 hf q1 q2 hr3 HT hm
        · exact lawField_no2 hf q1 hr2 HT hm
      · exact lawField_no1 hf hr1 HT hm
  refine hlaw.mono fun e W' ⟨he, hb⟩ => ?_
  subst he
  refine ⟨_, rfl, _, _, _, [], p0 ++ p1 ++ p2, [], hW', ?_, ?_, ?_, hb.frame _, fun h => by cases h⟩
  · rw [e1]; exact trodAll_mk1 (shut_bool Tryz.underlying4 true)
  · rw [e1]; exact below_trodAll hb (fun t ht => by
      have : t = 27 := by simpa using ht
      rw [this]; exact apiRatio_ok) hAk hlt
  · rw [e1]; rfl
theorem ratioField_said : Rows.RatioFieldSaid :=
  OpenClaim.holds_of_wide 4 Tryz.f4 rfl rfl rfl rfl rfl rfl rfl ⟨rfl, rfl, rfl, rfl, rfl⟩ rfl rfl rfl rfl rfl (by kernel_rfl) Tryz.func4 (by kernel_rfl)
    (of_decide_eq_true (by kernel_rfl)) (by unfold Func.isWrapper; first | (rw [if_pos (by decide +kernel)]; kernel_rfl) | (rw [if_neg (by decide +kernel)]; exact ⟨rfl, rfl⟩))
    (fun os started H enc _ => ratioField_lifted os started H enc)
theorem ratioField_card : Rows.RatioFieldCardSaid :=
  Claim7.holds_tied_plain_at .later [] [.data, .data, .data] true (true, Rows.ratioFieldCard.stood.harness.2) false
    ratioField_said (fun _ h => by cases h) (by kernel_rfl) (fun _ h => by cases h) ratioField_row_tie rfl ⟨rfl, rfl⟩ (by kernel_rfl) rfl
    (fun f fn hf hfn => by
      obtain rfl : f = 4 := Option.some.inj ((show Tryz.prog.funcNamed "whetstone/whetstonelaw03.RatioField" = some 4 by kernel_rfl).symm.trans hf) |>.symm
      obtain rfl : fn = Tryz.f4 := (Option.some.inj (Tryz.func4.symm.trans hfn)).symm
      exact ⟨by kernel_rfl, fun j t ht => by
        rw [ Tryz.params4 ] at ht
        have hm : t ∈ [ 27, 27, 27 ] := by simpa using Array.mem_of_getElem? ht
        have hall : ([ 27, 27, 27 ].all fun u => !Tryz.prog.wantsStandIn u) = true := by kernel_rfl
        exact (show Tryz.prog.wantsStandIn t = false by simpa using List.all_eq_true.1 hall t hm)⟩)
    (by kernel_rfl)
/-- RatioField: for every three ratios the call returns true, and they read behind the call as they read before. -/
theorem ratioField_proved : Rows.RatioFieldCardSaid := ratioField_card
end Go.Proofs.YthgclmkhmcfflaaGreatDoor

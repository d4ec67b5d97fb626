/- The law NumDivides, walked: of any three numbers the call returns true. Premises: the table of powers of ten reads as it is laid; lengths as they can come. -/
import Derived.Test.YthjgfkmnelefpaaGreatDoorStepZ
namespace Go.Proofs.YthjgfkmnelefpaaGreatDoor
open Go.RowKit

theorem ord_ne {x y : Int} (h : x ≠ y) : ordI x y ≠ 0 := by
  unfold ordI
  by_cases h1 : x < y
  · rw [if_pos h1]; decide
  · rw [if_neg h1, if_pos (by omega)]; decide
theorem gcd2_eq (x y : Int) : zgcd [(x), (y)] = Nat.gcd y.natAbs x.natAbs := by simp [zgcd]
theorem gcd2_dvd1 (x y : Int) : ((zgcd [(x), (y)] : Nat) : Int) ∣ x := by
  rw [gcd2_eq]; exact Int.ofNat_dvd_left.2 (Nat.gcd_dvd_right _ _)
theorem gcd2_dvd2 (x y : Int) : ((zgcd [(x), (y)] : Nat) : Int) ∣ y := by
  rw [gcd2_eq]; exact Int.ofNat_dvd_left.2 (Nat.gcd_dvd_left _ _)
theorem gcd2_dvd3 (a b c : Int) : c ∣ ((zgcd [(a * c), (b * c)] : Nat) : Int) := by
  rw [gcd2_eq]
  refine Int.natAbs_dvd.1 (Int.ofNat_dvd.2 (Nat.dvd_gcd ?_ ?_))
  · rw [Int.natAbs_mul]; exact Nat.dvd_mul_left _ _
  · rw [Int.natAbs_mul]; exact Nat.dvd_mul_left _ _
theorem gcd2_pos {x y : Int} (h : y ≠ 0) : 0 < ((zgcd [(x), (y)] : Nat) : Int) := by
  rw [gcd2_eq]
  have := Nat.gcd_pos_of_pos_left x.natAbs (show 0 < y.natAbs by omega)
  omega

set_option maxRecDepth 100000 in
set_option maxHeartbeats 16000000 in
theorem lawNumDivides_great {w : World} {A1 A2 A3 : Option Addr} {k1 c1 k2 c2 k3 c3 : Nat} {b1 b2 b3 : Bool} (hfew : 1000 < k1 + k2 + k3) (hk : k1 ≤ 35184372087808 ∧ k2 ≤ 35184372087808 ∧ k3 ≤ 35184372087808) (htab : Tab w) (hw : 3 ≤ w.heap.size) :
    Calls Tryz.prog 5 #[.agg #[.bool b1, .slice A1 k1 c1], .agg #[.bool b2, .slice A2 k2 c2], .agg #[.bool b3, .slice A3 k3 c3]] w fun e w' => e = .returned (.bool true) ∧ Below w.heap.size w w' := by
  have haw := fun (W : World) (hW : Below w.heap.size w W) => awake2_any W (htab.below hW hw) (Nat.le_trans hw hW.size)
  have HA := Lib.hid haw
  have HLE := Lib.hid (three_le hk.1 hk.2.1 hk.2.2)
  have hsum : decide (1000 < [k1, k2, k3].sum) = true := by rw [three_sum]; exact decide_eq_true hfew
  have HSUM := Lib.hid hsum
  have HT := Lib.hid (show Tab w ∧ 3 ≤ w.heap.size from ⟨htab, hw⟩)
  clear haw hk hfew hsum htab hw
  go_enter Tryz.func5, Tryz.ntmps5
  repeat (refine wp_seq ?_)
  refine region_k ?_
  intro K hK
  have HK := Lib.hid hK
  clear hK
  go_wp2
  refine HK.out _ _ ?_
  clear HK
  refine then_n ?_
  obtain ⟨W_0, hW⟩ : ∃ W, W = ((w.alloc (Obj.cells #[Value.bool b1, Value.slice A1 k1 c1] 29)).alloc (Obj.cells #[Value.bool b2, Value.slice A2 k2 c2] 29)).alloc (Obj.cells #[Value.bool b3, Value.slice A3 k3 c3] 29) := ⟨_, rfl⟩
  obtain ⟨bb_0, _, K0, K1, K2⟩ := three_newW hW
  rw [← hW]
  clear hW
  refine name_frame (G := fun a => Code.wp _ _ _ a _) ?_
  intro a_0 ha
  have hN_0 : a_0.tmps.size = 175 := by subst ha; kernel_rfl
  have hD_0 : a_0.defers = [] := by subst ha; rfl
  have e3_0 : a_0.eval (.tmp 3) = .pointer (some ⟨w.heap.size, 0, none⟩) := by subst ha; kernel_rfl
  have H3_0 : Holds_ W_0 (w.heap.size) #[.bool b1, .slice A1 k1 c1] := ⟨⟨_, K0⟩, by simp [noDig]⟩
  have e4_0 : a_0.eval (.tmp 4) = .pointer (some ⟨w.heap.size + 1, 0, none⟩) := by subst ha; kernel_rfl
  have H4_0 : Holds_ W_0 (w.heap.size + 1) #[.bool b2, .slice A2 k2 c2] := ⟨⟨_, K1⟩, by simp [noDig]⟩
  have e5_0 : a_0.eval (.tmp 5) = .pointer (some ⟨w.heap.size + 1 + 1, 0, none⟩) := by subst ha; kernel_rfl
  have H5_0 : Holds_ W_0 (w.heap.size + 1 + 1) #[.bool b3, .slice A3 k3 c3] := ⟨⟨_, K2⟩, by simp [noDig]⟩
  clear ha K0 K1 K2
  repeat (first | refine wp_seq ?_ | (refine wp_skip ?_; refine then_n ?_))
  refine wp_region_law hN_0 w.heap.size
    [kIs (.bool true), kIs (.bool false)]
    [ [], [(0, some 21)] ]
    [(0, some 21), (1, some 22)] [] [] (by kernel_rfl) (by kernel_rfl) (by kernel_rfl) (by kernel_rfl) (by kernel_rfl) (by kernel_rfl) (by kernel_rfl) bb_0.size ?_ ?_
  ·
    refine pk_cons rfl rfl ?_ ?_
    · exact st_call0 [] hN_0 (by kernel_rfl) (by kernel_rfl) rfl rfl fun w x hC => ti (HA.out _ (bb_0.trans hC.below))
    refine pk_cons rfl rfl ?_ ?_
    · exact st_pure [.bool true] [] (.bool false) rfl hN_0 (by kernel_rfl) (by kernel_rfl) (by kernel_rfl) old0 (by kernel_rfl) (by kernel_rfl) (by kernel_rfl) (fun _ => by kernel_rfl)
    exact pk_nil rfl
  intro W_1 x hC hall
  refine then_n ?_
  obtain ⟨a_1, ha⟩ : ∃ a, a = putE x a_0 [(0, some 21), (1, some 22)] := ⟨_, rfl⟩
  rw [← ha]
  have hN_1 := size_behind ha hN_0
  have hD_1 := defers_behind ha hD_0
  have bb_1 := bb_0.trans hC.below
  have e3_1 := slot_old ha (by kernel_rfl) e3_0
  have e4_1 := slot_old ha (by kernel_rfl) e4_0
  have e5_1 := slot_old ha (by kernel_rfl) e5_0
  have H3_1 := hC.holds H3_0
  have H4_1 := hC.holds H4_0
  have H5_1 := hC.holds H5_0
  have e22_1 := (slot_new (t := 22) (i := 1) ha hN_0 (by kernel_rfl) (by kernel_rfl)).trans (show x 1 = .bool false from hall 1 (of_decide_eq_true (by kernel_rfl)))
  clear hall hC ha bb_0 hD_0 e3_0 e4_0 e5_0 H3_0 H4_0 H5_0
  refine wp_cond_false e22_1 ?_
  repeat (first | refine wp_seq ?_ | (refine wp_skip ?_; refine then_n ?_))
  refine wp_region_law hN_1 w.heap.size
    [kIs (.agg #[.bool b1, .slice A1 k1 c1]), kIs (.agg #[.bool b2, .slice A2 k2 c2]), kIs (.agg #[.bool b3, .slice A3 k3 c3]), kLens [k1, k2, k3], kIs (.bool true)]
    [ [], [], [], [(0, some 23), (1, some 24), (2, some 25)], [(3, some 26)] ]
    [(0, some 23), (1, some 24), (2, some 25), (3, some 26), (4, some 27)] [] [] (by kernel_rfl) (by kernel_rfl) (by kernel_rfl) (by kernel_rfl) (by kernel_rfl) (by kernel_rfl) (by kernel_rfl) bb_1.size ?_ ?_
  ·
    refine pk_cons rfl rfl ?_ ?_
    · exact st_loadV H3_1 e3_1 hN_1 (by kernel_rfl) rfl
    refine pk_cons rfl rfl ?_ ?_
    · exact st_loadV H4_1 e4_1 hN_1 (by kernel_rfl) rfl
    refine pk_cons rfl rfl ?_ ?_
    · exact st_loadV H5_1 e5_1 hN_1 (by kernel_rfl) rfl
    refine pk_cons rfl rfl ?_ ?_
    · exact st_lens3 hN_1 (by kernel_rfl) (by kernel_rfl) (by kernel_rfl) (by kernel_rfl) (by kernel_rfl) (by kernel_rfl) (by kernel_rfl) (Nat.le_refl _) rfl rfl rfl rfl
    refine pk_cons rfl rfl ?_ ?_
    · exact st_call1 hN_1 (by kernel_rfl) (by kernel_rfl) (by kernel_rfl) rfl rfl fun w x v1 hC h1 => ti (great_told true h1 HLE.out (by simp) HSUM.out)
    exact pk_nil rfl
  intro W_2 x hC hall
  refine then_n ?_
  obtain ⟨a_2, ha⟩ : ∃ a, a = putE x a_1 [(0, some 23), (1, some 24), (2, some 25), (3, some 26), (4, some 27)] := ⟨_, rfl⟩
  rw [← ha]
  have hN_2 := size_behind ha hN_1
  have hD_2 := defers_behind ha hD_1
  have bb_2 := bb_1.trans hC.below
  have e3_2 := slot_old ha (by kernel_rfl) e3_1
  have e4_2 := slot_old ha (by kernel_rfl) e4_1
  have e5_2 := slot_old ha (by kernel_rfl) e5_1
  have e22_2 := slot_old ha (by kernel_rfl) e22_1
  have H3_2 := hC.holds H3_1
  have H4_2 := hC.holds H4_1
  have H5_2 := hC.holds H5_1
  have e27_2 := (slot_new (t := 27) (i := 4) ha hN_1 (by kernel_rfl) (by kernel_rfl)).trans (show x 4 = .bool true from hall 4 (of_decide_eq_true (by kernel_rfl)))
  clear hall hC ha bb_1 hD_1 e3_1 e4_1 e5_1 e22_1 H3_1 H4_1 H5_1
  clear H3_2 H4_2 H5_2
  refine wp_cond_true e27_2 ?_
  repeat (first | refine wp_seq ?_ | (refine wp_skip ?_; refine then_n ?_))
  refine wp_region_law hN_2 w.heap.size
    [kIs (.bool true)]
    [ [] ]
    [(0, some 6)] [] [] (by kernel_rfl) (by kernel_rfl) (by kernel_rfl) (by kernel_rfl) (by kernel_rfl) (by kernel_rfl) (by kernel_rfl) bb_2.size ?_ ?_
  ·
    refine pk_cons rfl rfl ?_ ?_
    · exact st_pure [] [] (.bool true) rfl hN_2 (by kernel_rfl) (by kernel_rfl) (by kernel_rfl) old0 (by kernel_rfl) (by kernel_rfl) (by kernel_rfl) (fun _ => by kernel_rfl)
    exact pk_nil rfl
  intro W_3 x hC hall
  refine then_n ?_
  obtain ⟨a_3, ha⟩ : ∃ a, a = putE x a_2 [(0, some 6)] := ⟨_, rfl⟩
  rw [← ha]
  have hN_3 := size_behind ha hN_2
  have hD_3 := defers_behind ha hD_2
  have bb_3 := bb_2.trans hC.below
  have e3_3 := slot_old ha (by kernel_rfl) e3_2
  have e4_3 := slot_old ha (by kernel_rfl) e4_2
  have e5_3 := slot_old ha (by kernel_rfl) e5_2
  have e22_3 := slot_old ha (by kernel_rfl) e22_2
  have e27_3 := slot_old ha (by kernel_rfl) e27_2
  have e6_3 := (slot_new (t := 6) (i := 0) ha hN_2 (by kernel_rfl) (by kernel_rfl)).trans (show x 0 = .bool true from hall 0 (of_decide_eq_true (by kernel_rfl)))
  clear hall hC ha bb_2 hD_2 e3_2 e4_2 e5_2 e22_2 e27_2
  repeat (first | refine wp_seq ?_ | (refine wp_skip ?_; refine then_n ?_))
  refine wp_ret ?_
  repeat (refine then_r ?_)
  exact ret_one (t := 6) rfl hD_3 e6_3 ⟨rfl, bb_3⟩

set_option maxRecDepth 100000 in
set_option maxHeartbeats 16000000 in
theorem lawNumDivides_few {w : World} {A1 A2 A3 : Option Addr} {k1 c1 k2 c2 k3 c3 : Nat} {b1 b2 b3 : Bool} {za zb zc : Int} (h1 : Zd w (.agg #[.bool b1, .slice A1 k1 c1]) 1001 za) (h2 : Zd w (.agg #[.bool b2, .slice A2 k2 c2]) 1001 zb) (h3 : Zd w (.agg #[.bool b3, .slice A3 k3 c3]) 1001 zc) (hfew : ¬ 1000 < k1 + k2 + k3) (hk : k1 ≤ 35184372087808 ∧ k2 ≤ 35184372087808 ∧ k3 ≤ 35184372087808) (htab : Tab w) (hw : 3 ≤ w.heap.size) :
    Calls Tryz.prog 5 #[.agg #[.bool b1, .slice A1 k1 c1], .agg #[.bool b2, .slice A2 k2 c2], .agg #[.bool b3, .slice A3 k3 c3]] w fun e w' => e = .returned (.bool true) ∧ Below w.heap.size w w' := by
  have haw := fun (W : World) (hW : Below w.heap.size w W) => awake2_any W (htab.below hW hw) (Nat.le_trans hw hW.size)
  have HA := Lib.hid haw
  have HLE := Lib.hid (three_le hk.1 hk.2.1 hk.2.2)
  have hsum : decide (1000 < [k1, k2, k3].sum) = false := by rw [three_sum]; exact decide_eq_false hfew
  have HSUM := Lib.hid hsum
  have HT := Lib.hid (show Tab w ∧ 3 ≤ w.heap.size from ⟨htab, hw⟩)
  clear haw hk hfew hsum htab hw
  go_enter Tryz.func5, Tryz.ntmps5
  repeat (refine wp_seq ?_)
  refine region_k ?_
  intro K hK
  have HK := Lib.hid hK
  clear hK
  go_wp2
  refine HK.out _ _ ?_
  clear HK
  refine then_n ?_
  obtain ⟨W_0, hW⟩ : ∃ W, W = ((w.alloc (Obj.cells #[Value.bool b1, Value.slice A1 k1 c1] 29)).alloc (Obj.cells #[Value.bool b2, Value.slice A2 k2 c2] 29)).alloc (Obj.cells #[Value.bool b3, Value.slice A3 k3 c3] 29) := ⟨_, rfl⟩
  obtain ⟨bb_0, _, K0, K1, K2⟩ := three_newW hW
  rw [← hW]
  clear hW
  refine name_frame (G := fun a => Code.wp _ _ _ a _) ?_
  intro a_0 ha
  have hN_0 : a_0.tmps.size = 175 := by subst ha; kernel_rfl
  have hD_0 : a_0.defers = [] := by subst ha; rfl
  have e3_0 : a_0.eval (.tmp 3) = .pointer (some ⟨w.heap.size, 0, none⟩) := by subst ha; kernel_rfl
  have H3_0 : Holds_ W_0 (w.heap.size) #[.bool b1, .slice A1 k1 c1] := ⟨⟨_, K0⟩, by simp [noDig]⟩
  have l3_0 : LocZ W_0 (w.heap.size) 1001 za := ⟨_, _, _, _, H3_0, h1.below (bb_0.trans (Below.refl _ _))⟩
  have e4_0 : a_0.eval (.tmp 4) = .pointer (some ⟨w.heap.size + 1, 0, none⟩) := by subst ha; kernel_rfl
  have H4_0 : Holds_ W_0 (w.heap.size + 1) #[.bool b2, .slice A2 k2 c2] := ⟨⟨_, K1⟩, by simp [noDig]⟩
  have l4_0 : LocZ W_0 (w.heap.size + 1) 1001 zb := ⟨_, _, _, _, H4_0, h2.below (bb_0.trans (Below.refl _ _))⟩
  have e5_0 : a_0.eval (.tmp 5) = .pointer (some ⟨w.heap.size + 1 + 1, 0, none⟩) := by subst ha; kernel_rfl
  have H5_0 : Holds_ W_0 (w.heap.size + 1 + 1) #[.bool b3, .slice A3 k3 c3] := ⟨⟨_, K2⟩, by simp [noDig]⟩
  have l5_0 : LocZ W_0 (w.heap.size + 1 + 1) 1001 zc := ⟨_, _, _, _, H5_0, h3.below (bb_0.trans (Below.refl _ _))⟩
  clear ha K0 K1 K2 h1 h2 h3
  repeat (first | refine wp_seq ?_ | (refine wp_skip ?_; refine then_n ?_))
  refine wp_region_law hN_0 w.heap.size
    [kIs (.bool true), kIs (.bool false)]
    [ [], [(0, some 21)] ]
    [(0, some 21), (1, some 22)] [] [] (by kernel_rfl) (by kernel_rfl) (by kernel_rfl) (by kernel_rfl) (by kernel_rfl) (by kernel_rfl) (by kernel_rfl) bb_0.size ?_ ?_
  ·
    refine pk_cons rfl rfl ?_ ?_
    · exact st_call0 [] hN_0 (by kernel_rfl) (by kernel_rfl) rfl rfl fun w x hC => ti (HA.out _ (bb_0.trans hC.below))
    refine pk_cons rfl rfl ?_ ?_
    · exact st_pure [.bool true] [] (.bool false) rfl hN_0 (by kernel_rfl) (by kernel_rfl) (by kernel_rfl) old0 (by kernel_rfl) (by kernel_rfl) (by kernel_rfl) (fun _ => by kernel_rfl)
    exact pk_nil rfl
  intro W_1 x hC hall
  refine then_n ?_
  obtain ⟨a_1, ha⟩ : ∃ a, a = putE x a_0 [(0, some 21), (1, some 22)] := ⟨_, rfl⟩
  rw [← ha]
  have hN_1 := size_behind ha hN_0
  have hD_1 := defers_behind ha hD_0
  have bb_1 := bb_0.trans hC.below
  have e3_1 := slot_old ha (by kernel_rfl) e3_0
  have l3_1 := hC.locZ l3_0
  have e4_1 := slot_old ha (by kernel_rfl) e4_0
  have l4_1 := hC.locZ l4_0
  have e5_1 := slot_old ha (by kernel_rfl) e5_0
  have l5_1 := hC.locZ l5_0
  have H3_1 := hC.holds H3_0
  have H4_1 := hC.holds H4_0
  have H5_1 := hC.holds H5_0
  have e22_1 := (slot_new (t := 22) (i := 1) ha hN_0 (by kernel_rfl) (by kernel_rfl)).trans (show x 1 = .bool false from hall 1 (of_decide_eq_true (by kernel_rfl)))
  clear hall hC ha bb_0 hD_0 e3_0 l3_0 e4_0 l4_0 e5_0 l5_0 H3_0 H4_0 H5_0
  refine wp_cond_false e22_1 ?_
  repeat (first | refine wp_seq ?_ | (refine wp_skip ?_; refine then_n ?_))
  refine wp_region_law hN_1 w.heap.size
    [kIs (.agg #[.bool b1, .slice A1 k1 c1]), kIs (.agg #[.bool b2, .slice A2 k2 c2]), kIs (.agg #[.bool b3, .slice A3 k3 c3]), kLens [k1, k2, k3], kIs (.bool false)]
    [ [], [], [], [(0, some 23), (1, some 24), (2, some 25)], [(3, some 26)] ]
    [(0, some 23), (1, some 24), (2, some 25), (3, some 26), (4, some 27)] [] [] (by kernel_rfl) (by kernel_rfl) (by kernel_rfl) (by kernel_rfl) (by kernel_rfl) (by kernel_rfl) (by kernel_rfl) bb_1.size ?_ ?_
  ·
    refine pk_cons rfl rfl ?_ ?_
    · exact st_loadV H3_1 e3_1 hN_1 (by kernel_rfl) rfl
    refine pk_cons rfl rfl ?_ ?_
    · exact st_loadV H4_1 e4_1 hN_1 (by kernel_rfl) rfl
    refine pk_cons rfl rfl ?_ ?_
    · exact st_loadV H5_1 e5_1 hN_1 (by kernel_rfl) rfl
    refine pk_cons rfl rfl ?_ ?_
    · exact st_lens3 hN_1 (by kernel_rfl) (by kernel_rfl) (by kernel_rfl) (by kernel_rfl) (by kernel_rfl) (by kernel_rfl) (by kernel_rfl) (Nat.le_refl _) rfl rfl rfl rfl
    refine pk_cons rfl rfl ?_ ?_
    · exact st_call1 hN_1 (by kernel_rfl) (by kernel_rfl) (by kernel_rfl) rfl rfl fun w x v1 hC h1 => ti (great_told false h1 HLE.out (by simp) HSUM.out)
    exact pk_nil rfl
  intro W_2 x hC hall
  refine then_n ?_
  obtain ⟨a_2, ha⟩ : ∃ a, a = putE x a_1 [(0, some 23), (1, some 24), (2, some 25), (3, some 26), (4, some 27)] := ⟨_, rfl⟩
  rw [← ha]
  have hN_2 := size_behind ha hN_1
  have hD_2 := defers_behind ha hD_1
  have bb_2 := bb_1.trans hC.below
  have e3_2 := slot_old ha (by kernel_rfl) e3_1
  have l3_2 := hC.locZ l3_1
  have e4_2 := slot_old ha (by kernel_rfl) e4_1
  have l4_2 := hC.locZ l4_1
  have e5_2 := slot_old ha (by kernel_rfl) e5_1
  have l5_2 := hC.locZ l5_1
  have e22_2 := slot_old ha (by kernel_rfl) e22_1
  have H3_2 := hC.holds H3_1
  have H4_2 := hC.holds H4_1
  have H5_2 := hC.holds H5_1
  have e27_2 := (slot_new (t := 27) (i := 4) ha hN_1 (by kernel_rfl) (by kernel_rfl)).trans (show x 4 = .bool false from hall 4 (of_decide_eq_true (by kernel_rfl)))
  clear hall hC ha bb_1 hD_1 e3_1 l3_1 e4_1 l4_1 e5_1 l5_1 e22_1 H3_1 H4_1 H5_1
  clear H3_2 H4_2 H5_2
  refine wp_cond_false e27_2 ?_
  repeat (first | refine wp_seq ?_ | (refine wp_skip ?_; refine then_n ?_))
  refine wp_region_law hN_2 w.heap.size
    [kZ 1 (0), PK.fresh 2, kPutZ 1 1 (0)]
    [ [], [], [(1, some 7), (0, some 28)] ]
    [(0, some 28), (1, some 7), (2, none)] [] [] (by kernel_rfl) (by kernel_rfl) (by kernel_rfl) (by kernel_rfl) (by kernel_rfl) (by kernel_rfl) (by kernel_rfl) bb_2.size ?_ ?_
  ·
    refine pk_cons rfl rfl ?_ ?_
    · exact st_call0 [.int .i64 (0)] hN_2 (by kernel_rfl) (by kernel_rfl) rfl rfl fun w x hC => tz (z_of (0) 1 (by decide) (by decide) (by decide))
    refine pk_cons rfl rfl ?_ ?_
    · exact st_alloc hN_2 (by kernel_rfl) (Nat.le_refl _) rfl
    refine pk_cons rfl rfl ?_ ?_
    · exact st_put hN_2 (by kernel_rfl) (by kernel_rfl) (by kernel_rfl) rfl rfl rfl
    exact pk_nil rfl
  intro W_3 x hC hall
  refine then_n ?_
  obtain ⟨a_3, ha⟩ : ∃ a, a = putE x a_2 [(0, some 28), (1, some 7), (2, none)] := ⟨_, rfl⟩
  rw [← ha]
  have hN_3 := size_behind ha hN_2
  have hD_3 := defers_behind ha hD_2
  have bb_3 := bb_2.trans hC.below
  have e3_3 := slot_old ha (by kernel_rfl) e3_2
  have l3_3 := hC.locZ l3_2
  have e4_3 := slot_old ha (by kernel_rfl) e4_2
  have l4_3 := hC.locZ l4_2
  have e5_3 := slot_old ha (by kernel_rfl) e5_2
  have l5_3 := hC.locZ l5_2
  have e22_3 := slot_old ha (by kernel_rfl) e22_2
  have e27_3 := slot_old ha (by kernel_rfl) e27_2
  obtain ⟨g7, hx, l7_3⟩ := put_loc (show (kPutZ 1 1 (0)).sem _ _ _ _ from hall 2 (of_decide_eq_true (by kernel_rfl)))
  have e7_3 := (slot_new (t := 7) (i := 1) ha hN_2 (by kernel_rfl) (by kernel_rfl)).trans hx
  clear hx
  clear hall hC ha bb_2 hD_2 e3_2 l3_2 e4_2 l4_2 e5_2 l5_2 e22_2 e27_2
  repeat (first | refine wp_seq ?_ | (refine wp_skip ?_; refine then_n ?_))
  rcases Int.lt_trichotomy zb 0 with hb | hb | hb
  ·
    have hb0 : zb ≠ 0 := by omega
    refine wp_region_law hN_3 w.heap.size
      [kZd 1001 (za), kZd 1001 (zb), kZQ 1002 1001 (zq (za) (zb)) (zm (za) (zb)) 0, kZQ 1002 1001 (zq (za) (zb)) (zm (za) (zb)) 0, kZ 1002 (zq (za) (zb)), kZ 1001 (zm (za) (zb)), kIs (.int .i64 (0)), PK.fresh 2, PK.fresh 2, kPutZ 7 1002 (zq (za) (zb)), kPutZ 8 1001 (zm (za) (zb)), kIs (.int .i64 (0))]
      [ [], [], [(0, some 30), (1, some 31)], [(2, some 32)], [(3, some 29)], [(3, some 29)], [(3, some 29)], [], [], [(7, some 8), (4, some 33)], [(8, some 9), (5, some 34)], [(6, some 35)] ]
      [(0, some 30), (1, some 31), (2, some 32), (3, some 29), (4, some 33), (5, some 34), (6, some 35), (7, some 8), (8, some 9), (9, none), (10, none), (11, some 10)] [] [] (by kernel_rfl) (by kernel_rfl) (by kernel_rfl) (by kernel_rfl) (by kernel_rfl) (by kernel_rfl) (by kernel_rfl) bb_3.size ?_ ?_
    ·
      refine pk_cons rfl rfl ?_ ?_
      · exact st_loadZ l3_3 e3_3 hN_3 (by kernel_rfl) rfl
      refine pk_cons rfl rfl ?_ ?_
      · exact st_loadZ l4_3 e4_3 hN_3 (by kernel_rfl) rfl
      refine pk_cons rfl rfl ?_ ?_
      · exact st_call2 hN_3 (by kernel_rfl) (by kernel_rfl) (by kernel_rfl) (by kernel_rfl) (by kernel_rfl) rfl rfl rfl fun w x v1 v2 hC h1 h2 => tq (z_divMod (m := 1002) (dz h1) (dz h2) hb0 (by decide) (by decide) (by decide) (by decide))
      refine pk_cons rfl rfl ?_ ?_
      · exact st_move hN_3 (by kernel_rfl) (by kernel_rfl) rfl rfl
      refine pk_cons rfl rfl ?_ ?_
      · exact st_ext hN_3 (by kernel_rfl) (by kernel_rfl) rfl rfl ext_q
      refine pk_cons rfl rfl ?_ ?_
      · exact st_ext hN_3 (by kernel_rfl) (by kernel_rfl) rfl rfl ext_r
      refine pk_cons rfl rfl ?_ ?_
      · exact st_ext hN_3 (by kernel_rfl) (by kernel_rfl) rfl rfl ext_e
      refine pk_cons rfl rfl ?_ ?_
      · exact st_alloc hN_3 (by kernel_rfl) (Nat.le_refl _) rfl
      refine pk_cons rfl rfl ?_ ?_
      · exact st_alloc hN_3 (by kernel_rfl) (Nat.le_refl _) rfl
      refine pk_cons rfl rfl ?_ ?_
      · exact st_put hN_3 (by kernel_rfl) (by kernel_rfl) (by kernel_rfl) rfl rfl rfl
      refine pk_cons rfl rfl ?_ ?_
      · exact st_put hN_3 (by kernel_rfl) (by kernel_rfl) (by kernel_rfl) rfl rfl rfl
      refine pk_cons rfl rfl ?_ ?_
      · exact st_pure [.int .i64 (0)] [] (.int .i64 (0)) rfl hN_3 (by kernel_rfl) (by kernel_rfl) (by kernel_rfl) old0 (by kernel_rfl) (by kernel_rfl) (by kernel_rfl) (fun _ => by kernel_rfl)
      exact pk_nil rfl
    intro W_4 x hC hall
    refine then_n ?_
    obtain ⟨a_4, ha⟩ : ∃ a, a = putE x a_3 [(0, some 30), (1, some 31), (2, some 32), (3, some 29), (4, some 33), (5, some 34), (6, some 35), (7, some 8), (8, some 9), (9, none), (10, none), (11, some 10)] := ⟨_, rfl⟩
    rw [← ha]
    have hN_4 := size_behind ha hN_3
    have hD_4 := defers_behind ha hD_3
    have bb_4 := bb_3.trans hC.below
    have e3_4 := slot_old ha (by kernel_rfl) e3_3
    have l3_4 := hC.locZ l3_3
    have e4_4 := slot_old ha (by kernel_rfl) e4_3
    have l4_4 := hC.locZ l4_3
    have e5_4 := slot_old ha (by kernel_rfl) e5_3
    have l5_4 := hC.locZ l5_3
    have e22_4 := slot_old ha (by kernel_rfl) e22_3
    have e27_4 := slot_old ha (by kernel_rfl) e27_3
    have e7_4 := slot_old ha (by kernel_rfl) e7_3
    have l7_4 := hC.locR l7_3
    obtain ⟨g8, hx, l8_4⟩ := put_loc (show (kPutZ 7 1002 (zq (za) (zb))).sem _ _ _ _ from hall 9 (of_decide_eq_true (by kernel_rfl)))
    have e8_4 := (slot_new (t := 8) (i := 7) ha hN_3 (by kernel_rfl) (by kernel_rfl)).trans hx
    clear hx
    obtain ⟨g9, hx, l9_4⟩ := put_loc (show (kPutZ 8 1001 (zm (za) (zb))).sem _ _ _ _ from hall 10 (of_decide_eq_true (by kernel_rfl)))
    have e9_4 := (slot_new (t := 9) (i := 8) ha hN_3 (by kernel_rfl) (by kernel_rfl)).trans hx
    clear hx
    have e10_4 := (slot_new (t := 10) (i := 11) ha hN_3 (by kernel_rfl) (by kernel_rfl)).trans (show x 11 = .int .i64 (0) from hall 11 (of_decide_eq_true (by kernel_rfl)))
    clear hall hC ha bb_3 hD_3 e3_3 l3_3 e4_3 l4_3 e5_3 l5_3 e22_3 e27_3 e7_3 l7_3
    repeat (first | refine wp_seq ?_ | (refine wp_skip ?_; refine then_n ?_))
    refine wp_region_law hN_4 w.heap.size
      [kZd 1001 (zb), kZ 1 (0), kIs (.int .i64 (-1)), kIs (.bool false)]
      [ [], [], [(0, some 36), (1, some 37)], [(2, some 38)] ]
      [(0, some 36), (1, some 37), (2, some 38), (3, some 39)] [] [] (by kernel_rfl) (by kernel_rfl) (by kernel_rfl) (by kernel_rfl) (by kernel_rfl) (by kernel_rfl) (by kernel_rfl) bb_4.size ?_ ?_
    ·
      refine pk_cons rfl rfl ?_ ?_
      · exact st_loadZ l4_4 e4_4 hN_4 (by kernel_rfl) rfl
      refine pk_cons rfl rfl ?_ ?_
      · exact st_loadR l7_4 e7_4 hN_4 (by kernel_rfl) rfl
      refine pk_cons rfl rfl ?_ ?_
      · exact st_call2 hN_4 (by kernel_rfl) (by kernel_rfl) (by kernel_rfl) (by kernel_rfl) (by kernel_rfl) rfl rfl rfl fun w x v1 v2 hC h1 h2 => ti (cmp_is (ord_lt hb) (z_cmp (dz h1) (rz h2) (by decide) (by decide)))
      refine pk_cons rfl rfl ?_ ?_
      · exact st_pure [.int .i64 (-1)] [] (.bool false) rfl hN_4 (by kernel_rfl) (by kernel_rfl) (by kernel_rfl) old0 (by kernel_rfl) (by kernel_rfl) (by kernel_rfl) (fun _ => by kernel_rfl)
      exact pk_nil rfl
    intro W_5 x hC hall
    refine then_n ?_
    obtain ⟨a_5, ha⟩ : ∃ a, a = putE x a_4 [(0, some 36), (1, some 37), (2, some 38), (3, some 39)] := ⟨_, rfl⟩
    rw [← ha]
    have hN_5 := size_behind ha hN_4
    have hD_5 := defers_behind ha hD_4
    have bb_5 := bb_4.trans hC.below
    have e3_5 := slot_old ha (by kernel_rfl) e3_4
    have l3_5 := hC.locZ l3_4
    have e4_5 := slot_old ha (by kernel_rfl) e4_4
    have l4_5 := hC.locZ l4_4
    have e5_5 := slot_old ha (by kernel_rfl) e5_4
    have l5_5 := hC.locZ l5_4
    have e22_5 := slot_old ha (by kernel_rfl) e22_4
    have e27_5 := slot_old ha (by kernel_rfl) e27_4
    have e7_5 := slot_old ha (by kernel_rfl) e7_4
    have l7_5 := hC.locR l7_4
    have e8_5 := slot_old ha (by kernel_rfl) e8_4
    have l8_5 := hC.locR l8_4
    have e9_5 := slot_old ha (by kernel_rfl) e9_4
    have l9_5 := hC.locR l9_4
    have e10_5 := slot_old ha (by kernel_rfl) e10_4
    have e39_5 := (slot_new (t := 39) (i := 3) ha hN_4 (by kernel_rfl) (by kernel_rfl)).trans (show x 3 = .bool false from hall 3 (of_decide_eq_true (by kernel_rfl)))
    clear hall hC ha bb_4 hD_4 e3_4 l3_4 e4_4 l4_4 e5_4 l5_4 e22_4 e27_4 e7_4 l7_4 e8_4 l8_4 e9_4 l9_4 e10_4
    refine wp_cond_false e39_5 ?_
    repeat (first | refine wp_seq ?_ | (refine wp_skip ?_; refine then_n ?_))
    refine wp_region_law hN_5 w.heap.size
      [kIs (.int .i64 (0)), kIs (.bool false), kIs (.bool false), kZ 1002 (zq (za) (zb)), kZd 1001 (zb), kZs [(1002, (zq (za) (zb))), (1001, (zb))], kZ 2003 ((zq (za) (zb)) * (zb)), kZ 1001 (zm (za) (zb)), kZs [(2003, ((zq (za) (zb)) * (zb))), (1001, (zm (za) (zb)))], kZ 2004 (((zq (za) (zb)) * (zb)) + (zm (za) (zb))), kZd 1001 (za), kIs (.int .i64 (0)), kIs (.bool false), kIs (.bool false)]
      [ [], [(0, some 52)], [(1, some 53)], [], [], [(3, some 55), (4, some 56)], [(5, some 57)], [], [(6, some 58), (7, some 59)], [(8, some 60)], [], [(9, some 61), (10, some 62)], [(11, some 63)], [(2, some 54), (12, some 64)] ]
      [(0, some 52), (1, some 53), (2, some 54), (3, some 55), (4, some 56), (5, some 57), (6, some 58), (7, some 59), (8, some 60), (9, some 61), (10, some 62), (11, some 63), (12, some 64), (13, some 65)] [(2, false)] [] (by kernel_rfl) (by kernel_rfl) (by kernel_rfl) (by kernel_rfl) (by kernel_rfl) (by kernel_rfl) (by kernel_rfl) bb_5.size ?_ ?_
    ·
      refine pk_cons rfl rfl ?_ ?_
      · exact st_pure [] [(10, .int .i64 (0))] (.int .i64 (0)) rfl hN_5 (by kernel_rfl) (by kernel_rfl) (by kernel_rfl) (old1 e10_5) (by kernel_rfl) (by kernel_rfl) (by kernel_rfl) (fun _ => by kernel_rfl)
      refine pk_cons rfl rfl ?_ ?_
      · exact st_pure [.int .i64 (0)] [] (.bool false) rfl hN_5 (by kernel_rfl) (by kernel_rfl) (by kernel_rfl) old0 (by kernel_rfl) (by kernel_rfl) (by kernel_rfl) (fun _ => by kernel_rfl)
      refine pk_cons rfl rfl ?_ ?_
      · exact st_pure [.bool false] [] (.bool false) rfl hN_5 (by kernel_rfl) (by kernel_rfl) (by kernel_rfl) old0 (by kernel_rfl) (by kernel_rfl) (by kernel_rfl) (fun _ => by kernel_rfl)
      refine pk_cons rfl rfl ?_ ?_
      · exact st_loadR l8_5 e8_5 hN_5 (by kernel_rfl) rfl
      refine pk_cons rfl rfl ?_ ?_
      · exact st_loadZ l4_5 e4_5 hN_5 (by kernel_rfl) rfl
      refine pk_cons rfl rfl ?_ ?_
      · exact st_list2 hN_5 (by kernel_rfl) (by kernel_rfl) (by kernel_rfl) (by kernel_rfl) (Nat.le_refl _) asR asD rfl
      refine pk_cons rfl rfl ?_ ?_
      · exact st_call1 hN_5 (by kernel_rfl) (by kernel_rfl) (by kernel_rfl) rfl rfl fun w x v1 hC h1 => tz (l_mul2 2003 (lz h1) (by decide) (by decide) (by decide))
      refine pk_cons rfl rfl ?_ ?_
      · exact st_loadR l9_5 e9_5 hN_5 (by kernel_rfl) rfl
      refine pk_cons rfl rfl ?_ ?_
      · exact st_list2 hN_5 (by kernel_rfl) (by kernel_rfl) (by kernel_rfl) (by kernel_rfl) (Nat.le_refl _) asR asR rfl
      refine pk_cons rfl rfl ?_ ?_
      · exact st_call1 hN_5 (by kernel_rfl) (by kernel_rfl) (by kernel_rfl) rfl rfl fun w x v1 hC h1 => tz (l_add2 2004 (lz h1) (by decide) (by decide) (by decide))
      refine pk_cons rfl rfl ?_ ?_
      · exact st_loadZ l3_5 e3_5 hN_5 (by kernel_rfl) rfl
      refine pk_cons rfl rfl ?_ ?_
      · exact st_call2 hN_5 (by kernel_rfl) (by kernel_rfl) (by kernel_rfl) (by kernel_rfl) (by kernel_rfl) rfl rfl rfl fun w x v1 v2 hC h1 h2 => ti (cmp_is (ord_eq (zq_zm hb0)) (z_cmp (rz h1) (dz h2) (by decide) (by decide)))
      refine pk_cons rfl rfl ?_ ?_
      · exact st_pure [.int .i64 (0)] [] (.bool false) rfl hN_5 (by kernel_rfl) (by kernel_rfl) (by kernel_rfl) old0 (by kernel_rfl) (by kernel_rfl) (by kernel_rfl) (fun _ => by kernel_rfl)
      refine pk_cons rfl rfl ?_ ?_
      · exact st_pure [.bool false, .bool false] [] (.bool false) rfl hN_5 (by kernel_rfl) (by kernel_rfl) (by kernel_rfl) old0 (by kernel_rfl) (by kernel_rfl) (by kernel_rfl) (fun _ => by kernel_rfl)
      exact pk_nil rfl
    intro W_6 x hC hall
    refine then_n ?_
    obtain ⟨a_6, ha⟩ : ∃ a, a = putE x a_5 [(0, some 52), (1, some 53), (2, some 54), (3, some 55), (4, some 56), (5, some 57), (6, some 58), (7, some 59), (8, some 60), (9, some 61), (10, some 62), (11, some 63), (12, some 64), (13, some 65)] := ⟨_, rfl⟩
    rw [← ha]
    have hN_6 := size_behind ha hN_5
    have hD_6 := defers_behind ha hD_5
    have bb_6 := bb_5.trans hC.below
    have e3_6 := slot_old ha (by kernel_rfl) e3_5
    have l3_6 := hC.locZ l3_5
    have e4_6 := slot_old ha (by kernel_rfl) e4_5
    have l4_6 := hC.locZ l4_5
    have e5_6 := slot_old ha (by kernel_rfl) e5_5
    have l5_6 := hC.locZ l5_5
    have e22_6 := slot_old ha (by kernel_rfl) e22_5
    have e27_6 := slot_old ha (by kernel_rfl) e27_5
    have e7_6 := slot_old ha (by kernel_rfl) e7_5
    have l7_6 := hC.locR l7_5
    have e8_6 := slot_old ha (by kernel_rfl) e8_5
    have l8_6 := hC.locR l8_5
    have e9_6 := slot_old ha (by kernel_rfl) e9_5
    have l9_6 := hC.locR l9_5
    have e10_6 := slot_old ha (by kernel_rfl) e10_5
    have e39_6 := slot_old ha (by kernel_rfl) e39_5
    have e65_6 := (slot_new (t := 65) (i := 13) ha hN_5 (by kernel_rfl) (by kernel_rfl)).trans (show x 13 = .bool false from hall 13 (of_decide_eq_true (by kernel_rfl)))
    clear hall hC ha bb_5 hD_5 e3_5 l3_5 e4_5 l4_5 e5_5 l5_5 e22_5 e27_5 e7_5 l7_5 e8_5 l8_5 e9_5 l9_5 e10_5 e39_5
    refine wp_cond_false e65_6 ?_
    repeat (first | refine wp_seq ?_ | (refine wp_skip ?_; refine then_n ?_))
    refine wp_region_law hN_6 w.heap.size
      [kZd 1001 (zb), kZ 1 (0), kIs (.int .i64 (-1)), kIs (.bool false), kIs (.bool false), kIs undef, kIs undef, kIs undef, kIs undef, kIs undef, kIs undef, kIs undef, kIs undef, kIs undef, kIs undef, kIs (.bool false), kIs (.bool false), kZd 1001 (zb), kZ 1 (0), kIs (.int .i64 (-1)), kIs (.bool true), kIs (.bool true), kZ 1001 (zm (za) (zb)), kZ 1 (0), kIs (.int .i64 (ordI (zm (za) (zb)) (0))), kIs (.bool false), kIs (.bool false), kZ 1001 (zm (za) (zb)), kZd 1001 (zb), kIs (.int .i64 (ordI (zm (za) (zb)) (zb))), kIs (.bool false), kIs (.bool false), kIs (.bool false), kIs (.bool false)]
      [ [], [], [(0, some 66), (1, some 67)], [(2, some 68)], [(3, some 69)], [], [], [(5, some 71), (6, some 72)], [(7, some 73)], [(8, some 74)], [], [], [(10, some 76), (11, some 77)], [(12, some 78)], [(9, some 75), (13, some 79)], [(4, some 70), (14, some 80)], [(15, some 81)], [], [], [(17, some 83), (18, some 84)], [(19, some 85)], [(20, some 86)], [], [], [(22, some 88), (23, some 89)], [(24, some 90)], [(25, some 91)], [], [], [(27, some 93), (28, some 94)], [(29, some 95)], [(26, some 92), (30, some 96)], [(21, some 87), (31, some 97)], [(16, some 82), (32, some 98)] ]
      [(0, some 66), (1, some 67), (2, some 68), (3, some 69), (4, some 70), (5, some 71), (6, some 72), (7, some 73), (8, some 74), (9, some 75), (10, some 76), (11, some 77), (12, some 78), (13, some 79), (14, some 80), (15, some 81), (16, some 82), (17, some 83), (18, some 84), (19, some 85), (20, some 86), (21, some 87), (22, some 88), (23, some 89), (24, some 90), (25, some 91), (26, some 92), (27, some 93), (28, some 94), (29, some 95), (30, some 96), (31, some 97), (32, some 98), (33, some 99)] [(4, false), (16, false), (21, true), (26, false)] [5, 6, 7, 8, 9, 10, 11, 12, 13, 14] (by kernel_rfl) (by kernel_rfl) (by kernel_rfl) (by kernel_rfl) (by kernel_rfl) (by kernel_rfl) (by kernel_rfl) bb_6.size ?_ ?_
    ·
      refine pk_cons rfl rfl ?_ ?_
      · exact st_loadZ l4_6 e4_6 hN_6 (by kernel_rfl) rfl
      refine pk_cons rfl rfl ?_ ?_
      · exact st_loadR l7_6 e7_6 hN_6 (by kernel_rfl) rfl
      refine pk_cons rfl rfl ?_ ?_
      · exact st_call2 hN_6 (by kernel_rfl) (by kernel_rfl) (by kernel_rfl) (by kernel_rfl) (by kernel_rfl) rfl rfl rfl fun w x v1 v2 hC h1 h2 => ti (cmp_is (ord_lt hb) (z_cmp (dz h1) (rz h2) (by decide) (by decide)))
      refine pk_cons rfl rfl ?_ ?_
      · exact st_pure [.int .i64 (-1)] [] (.bool false) rfl hN_6 (by kernel_rfl) (by kernel_rfl) (by kernel_rfl) old0 (by kernel_rfl) (by kernel_rfl) (by kernel_rfl) (fun _ => by kernel_rfl)
      refine pk_cons rfl rfl ?_ ?_
      · exact st_pure [.bool false] [] (.bool false) rfl hN_6 (by kernel_rfl) (by kernel_rfl) (by kernel_rfl) old0 (by kernel_rfl) (by kernel_rfl) (by kernel_rfl) (fun _ => by kernel_rfl)
      refine pk_skip rfl ?_
      refine pk_skip rfl ?_
      refine pk_skip rfl ?_
      refine pk_skip rfl ?_
      refine pk_skip rfl ?_
      refine pk_skip rfl ?_
      refine pk_skip rfl ?_
      refine pk_skip rfl ?_
      refine pk_skip rfl ?_
      refine pk_skip rfl ?_
      refine pk_cons rfl rfl ?_ ?_
      · exact st_pure [.bool false, undef] [] (.bool false) rfl hN_6 (by kernel_rfl) (by kernel_rfl) (by kernel_rfl) old0 (by kernel_rfl) (by kernel_rfl) (by kernel_rfl) (fun _ => by kernel_rfl)
      refine pk_cons rfl rfl ?_ ?_
      · exact st_pure [.bool false] [] (.bool false) rfl hN_6 (by kernel_rfl) (by kernel_rfl) (by kernel_rfl) old0 (by kernel_rfl) (by kernel_rfl) (by kernel_rfl) (fun _ => by kernel_rfl)
      refine pk_cons rfl rfl ?_ ?_
      · exact st_loadZ l4_6 e4_6 hN_6 (by kernel_rfl) rfl
      refine pk_cons rfl rfl ?_ ?_
      · exact st_loadR l7_6 e7_6 hN_6 (by kernel_rfl) rfl
      refine pk_cons rfl rfl ?_ ?_
      · exact st_call2 hN_6 (by kernel_rfl) (by kernel_rfl) (by kernel_rfl) (by kernel_rfl) (by kernel_rfl) rfl rfl rfl fun w x v1 v2 hC h1 h2 => ti (cmp_is (ord_lt hb) (z_cmp (dz h1) (rz h2) (by decide) (by decide)))
      refine pk_cons rfl rfl ?_ ?_
      · exact st_pure [.int .i64 (-1)] [] (.bool true) rfl hN_6 (by kernel_rfl) (by kernel_rfl) (by kernel_rfl) old0 (by kernel_rfl) (by kernel_rfl) (by kernel_rfl) (fun _ => by kernel_rfl)
      refine pk_cons rfl rfl ?_ ?_
      · exact st_pure [.bool true] [] (.bool true) rfl hN_6 (by kernel_rfl) (by kernel_rfl) (by kernel_rfl) old0 (by kernel_rfl) (by kernel_rfl) (by kernel_rfl) (fun _ => by kernel_rfl)
      refine pk_cons rfl rfl ?_ ?_
      · exact st_loadR l9_6 e9_6 hN_6 (by kernel_rfl) rfl
      refine pk_cons rfl rfl ?_ ?_
      · exact st_loadR l7_6 e7_6 hN_6 (by kernel_rfl) rfl
      refine pk_cons rfl rfl ?_ ?_
      · exact st_call2 hN_6 (by kernel_rfl) (by kernel_rfl) (by kernel_rfl) (by kernel_rfl) (by kernel_rfl) rfl rfl rfl fun w x v1 v2 hC h1 h2 => ti (z_cmp (rz h1) (rz h2) (by decide) (by decide))
      refine pk_cons rfl rfl ?_ ?_
      · exact st_pureV [.int .i64 (ordI (zm (za) (zb)) (0))] [] (.bool (decide (ordI (zm (za) (zb)) (0) > 0))) (.bool false) (congrArg Value.bool (decide_eq_false (by unfold ordI; have := zm_neg (x := za) hb; split <;> (try split) <;> omega))) rfl hN_6 (by kernel_rfl) (by kernel_rfl) (by kernel_rfl) old0 (by kernel_rfl) (by kernel_rfl) (by kernel_rfl) (fun _ => by kernel_rfl)
      refine pk_cons rfl rfl ?_ ?_
      · exact st_pure [.bool false] [] (.bool false) rfl hN_6 (by kernel_rfl) (by kernel_rfl) (by kernel_rfl) old0 (by kernel_rfl) (by kernel_rfl) (by kernel_rfl) (fun _ => by kernel_rfl)
      refine pk_cons rfl rfl ?_ ?_
      · exact st_loadR l9_6 e9_6 hN_6 (by kernel_rfl) rfl
      refine pk_cons rfl rfl ?_ ?_
      · exact st_loadZ l4_6 e4_6 hN_6 (by kernel_rfl) rfl
      refine pk_cons rfl rfl ?_ ?_
      · exact st_call2 hN_6 (by kernel_rfl) (by kernel_rfl) (by kernel_rfl) (by kernel_rfl) (by kernel_rfl) rfl rfl rfl fun w x v1 v2 hC h1 h2 => ti (z_cmp (rz h1) (dz h2) (by decide) (by decide))
      refine pk_cons rfl rfl ?_ ?_
      · exact st_pureV [.int .i64 (ordI (zm (za) (zb)) (zb))] [] (.bool (decide (ordI (zm (za) (zb)) (zb) ≤ 0))) (.bool false) (congrArg Value.bool (decide_eq_false (by unfold ordI; have := zm_neg (x := za) hb; split <;> (try split) <;> omega))) rfl hN_6 (by kernel_rfl) (by kernel_rfl) (by kernel_rfl) old0 (by kernel_rfl) (by kernel_rfl) (by kernel_rfl) (fun _ => by kernel_rfl)
      refine pk_cons rfl rfl ?_ ?_
      · exact st_pure [.bool false, .bool false] [] (.bool false) rfl hN_6 (by kernel_rfl) (by kernel_rfl) (by kernel_rfl) old0 (by kernel_rfl) (by kernel_rfl) (by kernel_rfl) (fun _ => by kernel_rfl)
      refine pk_cons rfl rfl ?_ ?_
      · exact st_pure [.bool true, .bool false] [] (.bool false) rfl hN_6 (by kernel_rfl) (by kernel_rfl) (by kernel_rfl) old0 (by kernel_rfl) (by kernel_rfl) (by kernel_rfl) (fun _ => by kernel_rfl)
      refine pk_cons rfl rfl ?_ ?_
      · exact st_pure [.bool false, .bool false] [] (.bool false) rfl hN_6 (by kernel_rfl) (by kernel_rfl) (by kernel_rfl) old0 (by kernel_rfl) (by kernel_rfl) (by kernel_rfl) (fun _ => by kernel_rfl)
      exact pk_nil rfl
    intro W_7 x hC hall
    refine then_n ?_
    obtain ⟨a_7, ha⟩ : ∃ a, a = putE x a_6 [(0, some 66), (1, some 67), (2, some 68), (3, some 69), (4, some 70), (5, some 71), (6, some 72), (7, some 73), (8, some 74), (9, some 75), (10, some 76), (11, some 77), (12, some 78), (13, some 79), (14, some 80), (15, some 81), (16, some 82), (17, some 83), (18, some 84), (19, some 85), (20, some 86), (21, some 87), (22, some 88), (23, some 89), (24, some 90), (25, some 91), (26, some 92), (27, some 93), (28, some 94), (29, some 95), (30, some 96), (31, some 97), (32, some 98), (33, some 99)] := ⟨_, rfl⟩
    rw [← ha]
    have hN_7 := size_behind ha hN_6
    have hD_7 := defers_behind ha hD_6
    have bb_7 := bb_6.trans hC.below
    have e3_7 := slot_old ha (by kernel_rfl) e3_6
    have l3_7 := hC.locZ l3_6
    have e4_7 := slot_old ha (by kernel_rfl) e4_6
    have l4_7 := hC.locZ l4_6
    have e5_7 := slot_old ha (by kernel_rfl) e5_6
    have l5_7 := hC.locZ l5_6
    have e22_7 := slot_old ha (by kernel_rfl) e22_6
    have e27_7 := slot_old ha (by kernel_rfl) e27_6
    have e7_7 := slot_old ha (by kernel_rfl) e7_6
    have l7_7 := hC.locR l7_6
    have e8_7 := slot_old ha (by kernel_rfl) e8_6
    have l8_7 := hC.locR l8_6
    have e9_7 := slot_old ha (by kernel_rfl) e9_6
    have l9_7 := hC.locR l9_6
    have e10_7 := slot_old ha (by kernel_rfl) e10_6
    have e39_7 := slot_old ha (by kernel_rfl) e39_6
    have e65_7 := slot_old ha (by kernel_rfl) e65_6
    have e99_7 := (slot_new (t := 99) (i := 33) ha hN_6 (by kernel_rfl) (by kernel_rfl)).trans (show x 33 = .bool false from hall 33 (of_decide_eq_true (by kernel_rfl)))
    clear hall hC ha bb_6 hD_6 e3_6 l3_6 e4_6 l4_6 e5_6 l5_6 e22_6 e27_6 e7_6 l7_6 e8_6 l8_6 e9_6 l9_6 e10_6 e39_6 e65_6
    refine wp_cond_false e99_7 ?_
    repeat (first | refine wp_seq ?_ | (refine wp_skip ?_; refine then_n ?_))
    by_cases hc : zc = 0
    ·
      refine wp_region_law hN_7 w.heap.size
        [kZd 1001 (za), kZd 1001 (zc), kZs [(1001, (za)), (1001, (zc))], kZ 2002 ((za) * (zc)), kZd 1001 (zb), kZd 1001 (zc), kZs [(1001, (zb)), (1001, (zc))], kZ 2002 ((zb) * (zc)), kZs [(2002, ((za) * (zc))), (2002, ((zb) * (zc)))], kZ 2002 (((zgcd [((za) * (zc)), ((zb) * (zc))] : Nat) : Int)), PK.fresh 2, kPutZ 10 2002 (((zgcd [((za) * (zc)), ((zb) * (zc))] : Nat) : Int))]
        [ [], [], [(0, some 100), (1, some 101)], [(2, some 102)], [], [], [(4, some 104), (5, some 105)], [(6, some 106)], [(3, some 103), (7, some 107)], [(8, some 108)], [], [(10, some 11), (9, some 109)] ]
        [(0, some 100), (1, some 101), (2, some 102), (3, some 103), (4, some 104), (5, some 105), (6, some 106), (7, some 107), (8, some 108), (9, some 109), (10, some 11), (11, none)] [] [] (by kernel_rfl) (by kernel_rfl) (by kernel_rfl) (by kernel_rfl) (by kernel_rfl) (by kernel_rfl) (by kernel_rfl) bb_7.size ?_ ?_
      ·
        refine pk_cons rfl rfl ?_ ?_
        · exact st_loadZ l3_7 e3_7 hN_7 (by kernel_rfl) rfl
        refine pk_cons rfl rfl ?_ ?_
        · exact st_loadZ l5_7 e5_7 hN_7 (by kernel_rfl) rfl
        refine pk_cons rfl rfl ?_ ?_
        · exact st_list2 hN_7 (by kernel_rfl) (by kernel_rfl) (by kernel_rfl) (by kernel_rfl) (Nat.le_refl _) asD asD rfl
        refine pk_cons rfl rfl ?_ ?_
        · exact st_call1 hN_7 (by kernel_rfl) (by kernel_rfl) (by kernel_rfl) rfl rfl fun w x v1 hC h1 => tz (l_mul2 2002 (lz h1) (by decide) (by decide) (by decide))
        refine pk_cons rfl rfl ?_ ?_
        · exact st_loadZ l4_7 e4_7 hN_7 (by kernel_rfl) rfl
        refine pk_cons rfl rfl ?_ ?_
        · exact st_loadZ l5_7 e5_7 hN_7 (by kernel_rfl) rfl
        refine pk_cons rfl rfl ?_ ?_
        · exact st_list2 hN_7 (by kernel_rfl) (by kernel_rfl) (by kernel_rfl) (by kernel_rfl) (Nat.le_refl _) asD asD rfl
        refine pk_cons rfl rfl ?_ ?_
        · exact st_call1 hN_7 (by kernel_rfl) (by kernel_rfl) (by kernel_rfl) rfl rfl fun w x v1 hC h1 => tz (l_mul2 2002 (lz h1) (by decide) (by decide) (by decide))
        refine pk_cons rfl rfl ?_ ?_
        · exact st_list2 hN_7 (by kernel_rfl) (by kernel_rfl) (by kernel_rfl) (by kernel_rfl) (Nat.le_refl _) asR asR rfl
        refine pk_cons rfl rfl ?_ ?_
        · exact st_call1 hN_7 (by kernel_rfl) (by kernel_rfl) (by kernel_rfl) rfl rfl fun w x v1 hC h1 => tz (l_gcd 2002 (lz h1) (by kernel_rfl) (by decide) (by simp))
        refine pk_cons rfl rfl ?_ ?_
        · exact st_alloc hN_7 (by kernel_rfl) (Nat.le_refl _) rfl
        refine pk_cons rfl rfl ?_ ?_
        · exact st_put hN_7 (by kernel_rfl) (by kernel_rfl) (by kernel_rfl) rfl rfl rfl
        exact pk_nil rfl
      intro W_8 x hC hall
      refine then_n ?_
      obtain ⟨a_8, ha⟩ : ∃ a, a = putE x a_7 [(0, some 100), (1, some 101), (2, some 102), (3, some 103), (4, some 104), (5, some 105), (6, some 106), (7, some 107), (8, some 108), (9, some 109), (10, some 11), (11, none)] := ⟨_, rfl⟩
      rw [← ha]
      have hN_8 := size_behind ha hN_7
      have hD_8 := defers_behind ha hD_7
      have bb_8 := bb_7.trans hC.below
      have e3_8 := slot_old ha (by kernel_rfl) e3_7
      have l3_8 := hC.locZ l3_7
      have e4_8 := slot_old ha (by kernel_rfl) e4_7
      have l4_8 := hC.locZ l4_7
      have e5_8 := slot_old ha (by kernel_rfl) e5_7
      have l5_8 := hC.locZ l5_7
      have e22_8 := slot_old ha (by kernel_rfl) e22_7
      have e27_8 := slot_old ha (by kernel_rfl) e27_7
      have e7_8 := slot_old ha (by kernel_rfl) e7_7
      have l7_8 := hC.locR l7_7
      have e8_8 := slot_old ha (by kernel_rfl) e8_7
      have l8_8 := hC.locR l8_7
      have e9_8 := slot_old ha (by kernel_rfl) e9_7
      have l9_8 := hC.locR l9_7
      have e10_8 := slot_old ha (by kernel_rfl) e10_7
      have e39_8 := slot_old ha (by kernel_rfl) e39_7
      have e65_8 := slot_old ha (by kernel_rfl) e65_7
      have e99_8 := slot_old ha (by kernel_rfl) e99_7
      obtain ⟨g11, hx, l11_8⟩ := put_loc (show (kPutZ 10 2002 (((zgcd [((za) * (zc)), ((zb) * (zc))] : Nat) : Int))).sem _ _ _ _ from hall 11 (of_decide_eq_true (by kernel_rfl)))
      have e11_8 := (slot_new (t := 11) (i := 10) ha hN_7 (by kernel_rfl) (by kernel_rfl)).trans hx
      clear hx
      clear hall hC ha bb_7 hD_7 e3_7 l3_7 e4_7 l4_7 e5_7 l5_7 e22_7 e27_7 e7_7 l7_7 e8_7 l8_7 e9_7 l9_7 e10_7 e39_7 e65_7 e99_7
      have hg00 : ((zgcd [((za) * (zc)), ((zb) * (zc))] : Nat) : Int) = 0 := by rw [hc, Int.mul_zero, Int.mul_zero]; rfl
      repeat (first | refine wp_seq ?_ | (refine wp_skip ?_; refine then_n ?_))
      refine wp_region_law hN_8 w.heap.size
        [kZd 1001 (zc), kZ 1 (0), kIs (.int .i64 (0)), kIs (.bool true)]
        [ [], [], [(0, some 110), (1, some 111)], [(2, some 112)] ]
        [(0, some 110), (1, some 111), (2, some 112), (3, some 113)] [] [] (by kernel_rfl) (by kernel_rfl) (by kernel_rfl) (by kernel_rfl) (by kernel_rfl) (by kernel_rfl) (by kernel_rfl) bb_8.size ?_ ?_
      ·
        refine pk_cons rfl rfl ?_ ?_
        · exact st_loadZ l5_8 e5_8 hN_8 (by kernel_rfl) rfl
        refine pk_cons rfl rfl ?_ ?_
        · exact st_loadR l7_8 e7_8 hN_8 (by kernel_rfl) rfl
        refine pk_cons rfl rfl ?_ ?_
        · exact st_call2 hN_8 (by kernel_rfl) (by kernel_rfl) (by kernel_rfl) (by kernel_rfl) (by kernel_rfl) rfl rfl rfl fun w x v1 v2 hC h1 h2 => ti (cmp_is (ord_eq hc) (z_cmp (dz h1) (rz h2) (by decide) (by decide)))
        refine pk_cons rfl rfl ?_ ?_
        · exact st_pure [.int .i64 (0)] [] (.bool true) rfl hN_8 (by kernel_rfl) (by kernel_rfl) (by kernel_rfl) old0 (by kernel_rfl) (by kernel_rfl) (by kernel_rfl) (fun _ => by kernel_rfl)
        exact pk_nil rfl
      intro W_9 x hC hall
      refine then_n ?_
      obtain ⟨a_9, ha⟩ : ∃ a, a = putE x a_8 [(0, some 110), (1, some 111), (2, some 112), (3, some 113)] := ⟨_, rfl⟩
      rw [← ha]
      have hN_9 := size_behind ha hN_8
      have hD_9 := defers_behind ha hD_8
      have bb_9 := bb_8.trans hC.below
      have e3_9 := slot_old ha (by kernel_rfl) e3_8
      have l3_9 := hC.locZ l3_8
      have e4_9 := slot_old ha (by kernel_rfl) e4_8
      have l4_9 := hC.locZ l4_8
      have e5_9 := slot_old ha (by kernel_rfl) e5_8
      have l5_9 := hC.locZ l5_8
      have e22_9 := slot_old ha (by kernel_rfl) e22_8
      have e27_9 := slot_old ha (by kernel_rfl) e27_8
      have e7_9 := slot_old ha (by kernel_rfl) e7_8
      have l7_9 := hC.locR l7_8
      have e8_9 := slot_old ha (by kernel_rfl) e8_8
      have l8_9 := hC.locR l8_8
      have e9_9 := slot_old ha (by kernel_rfl) e9_8
      have l9_9 := hC.locR l9_8
      have e10_9 := slot_old ha (by kernel_rfl) e10_8
      have e39_9 := slot_old ha (by kernel_rfl) e39_8
      have e65_9 := slot_old ha (by kernel_rfl) e65_8
      have e99_9 := slot_old ha (by kernel_rfl) e99_8
      have e11_9 := slot_old ha (by kernel_rfl) e11_8
      have l11_9 := hC.locR l11_8
      have e113_9 := (slot_new (t := 113) (i := 3) ha hN_8 (by kernel_rfl) (by kernel_rfl)).trans (show x 3 = .bool true from hall 3 (of_decide_eq_true (by kernel_rfl)))
      clear hall hC ha bb_8 hD_8 e3_8 l3_8 e4_8 l4_8 e5_8 l5_8 e22_8 e27_8 e7_8 l7_8 e8_8 l8_8 e9_8 l9_8 e10_8 e39_8 e65_8 e99_8 e11_8 l11_8
      refine wp_cond_true e113_9 ?_
      repeat (first | refine wp_seq ?_ | (refine wp_skip ?_; refine then_n ?_))
      refine wp_region_law hN_9 w.heap.size
        [kZ 2002 (((zgcd [((za) * (zc)), ((zb) * (zc))] : Nat) : Int)), kZ 1 (0), kIs (.bool true), kIs (.bool true)]
        [ [], [], [(0, some 114), (1, some 115)], [(2, some 116)] ]
        [(0, some 114), (1, some 115), (2, some 116), (3, some 6)] [] [] (by kernel_rfl) (by kernel_rfl) (by kernel_rfl) (by kernel_rfl) (by kernel_rfl) (by kernel_rfl) (by kernel_rfl) bb_9.size ?_ ?_
      ·
        refine pk_cons rfl rfl ?_ ?_
        · exact st_loadR l11_9 e11_9 hN_9 (by kernel_rfl) rfl
        refine pk_cons rfl rfl ?_ ?_
        · exact st_loadR l7_9 e7_9 hN_9 (by kernel_rfl) rfl
        refine pk_cons rfl rfl ?_ ?_
        · exact st_call2 hN_9 (by kernel_rfl) (by kernel_rfl) (by kernel_rfl) (by kernel_rfl) (by kernel_rfl) rfl rfl rfl fun w x v1 v2 hC h1 h2 => ti (z_same (rr h1) (rr h2) (hg00))
        refine pk_cons rfl rfl ?_ ?_
        · exact st_pure [.bool true] [] (.bool true) rfl hN_9 (by kernel_rfl) (by kernel_rfl) (by kernel_rfl) old0 (by kernel_rfl) (by kernel_rfl) (by kernel_rfl) (fun _ => by kernel_rfl)
        exact pk_nil rfl
      intro W_10 x hC hall
      refine then_n ?_
      obtain ⟨a_10, ha⟩ : ∃ a, a = putE x a_9 [(0, some 114), (1, some 115), (2, some 116), (3, some 6)] := ⟨_, rfl⟩
      rw [← ha]
      have hN_10 := size_behind ha hN_9
      have hD_10 := defers_behind ha hD_9
      have bb_10 := bb_9.trans hC.below
      have e3_10 := slot_old ha (by kernel_rfl) e3_9
      have l3_10 := hC.locZ l3_9
      have e4_10 := slot_old ha (by kernel_rfl) e4_9
      have l4_10 := hC.locZ l4_9
      have e5_10 := slot_old ha (by kernel_rfl) e5_9
      have l5_10 := hC.locZ l5_9
      have e22_10 := slot_old ha (by kernel_rfl) e22_9
      have e27_10 := slot_old ha (by kernel_rfl) e27_9
      have e7_10 := slot_old ha (by kernel_rfl) e7_9
      have l7_10 := hC.locR l7_9
      have e8_10 := slot_old ha (by kernel_rfl) e8_9
      have l8_10 := hC.locR l8_9
      have e9_10 := slot_old ha (by kernel_rfl) e9_9
      have l9_10 := hC.locR l9_9
      have e10_10 := slot_old ha (by kernel_rfl) e10_9
      have e39_10 := slot_old ha (by kernel_rfl) e39_9
      have e65_10 := slot_old ha (by kernel_rfl) e65_9
      have e99_10 := slot_old ha (by kernel_rfl) e99_9
      have e11_10 := slot_old ha (by kernel_rfl) e11_9
      have l11_10 := hC.locR l11_9
      have e113_10 := slot_old ha (by kernel_rfl) e113_9
      have e6_10 := (slot_new (t := 6) (i := 3) ha hN_9 (by kernel_rfl) (by kernel_rfl)).trans (show x 3 = .bool true from hall 3 (of_decide_eq_true (by kernel_rfl)))
      clear hall hC ha bb_9 hD_9 e3_9 l3_9 e4_9 l4_9 e5_9 l5_9 e22_9 e27_9 e7_9 l7_9 e8_9 l8_9 e9_9 l9_9 e10_9 e39_9 e65_9 e99_9 e11_9 l11_9 e113_9
      repeat (first | refine wp_seq ?_ | (refine wp_skip ?_; refine then_n ?_))
      refine wp_ret ?_
      repeat (refine then_r ?_)
      exact ret_one (t := 6) rfl hD_10 e6_10 ⟨rfl, bb_10⟩
    ·
      have hc0 : zc ≠ 0 := hc
      refine wp_region_law hN_7 w.heap.size
        [kZd 1001 (za), kZd 1001 (zc), kZs [(1001, (za)), (1001, (zc))], kZ 2002 ((za) * (zc)), kZd 1001 (zb), kZd 1001 (zc), kZs [(1001, (zb)), (1001, (zc))], kZ 2002 ((zb) * (zc)), kZs [(2002, ((za) * (zc))), (2002, ((zb) * (zc)))], kZ 2002 (((zgcd [((za) * (zc)), ((zb) * (zc))] : Nat) : Int)), PK.fresh 2, kPutZ 10 2002 (((zgcd [((za) * (zc)), ((zb) * (zc))] : Nat) : Int))]
        [ [], [], [(0, some 100), (1, some 101)], [(2, some 102)], [], [], [(4, some 104), (5, some 105)], [(6, some 106)], [(3, some 103), (7, some 107)], [(8, some 108)], [], [(10, some 11), (9, some 109)] ]
        [(0, some 100), (1, some 101), (2, some 102), (3, some 103), (4, some 104), (5, some 105), (6, some 106), (7, some 107), (8, some 108), (9, some 109), (10, some 11), (11, none)] [] [] (by kernel_rfl) (by kernel_rfl) (by kernel_rfl) (by kernel_rfl) (by kernel_rfl) (by kernel_rfl) (by kernel_rfl) bb_7.size ?_ ?_
      ·
        refine pk_cons rfl rfl ?_ ?_
        · exact st_loadZ l3_7 e3_7 hN_7 (by kernel_rfl) rfl
        refine pk_cons rfl rfl ?_ ?_
        · exact st_loadZ l5_7 e5_7 hN_7 (by kernel_rfl) rfl
        refine pk_cons rfl rfl ?_ ?_
        · exact st_list2 hN_7 (by kernel_rfl) (by kernel_rfl) (by kernel_rfl) (by kernel_rfl) (Nat.le_refl _) asD asD rfl
        refine pk_cons rfl rfl ?_ ?_
        · exact st_call1 hN_7 (by kernel_rfl) (by kernel_rfl) (by kernel_rfl) rfl rfl fun w x v1 hC h1 => tz (l_mul2 2002 (lz h1) (by decide) (by decide) (by decide))
        refine pk_cons rfl rfl ?_ ?_
        · exact st_loadZ l4_7 e4_7 hN_7 (by kernel_rfl) rfl
        refine pk_cons rfl rfl ?_ ?_
        · exact st_loadZ l5_7 e5_7 hN_7 (by kernel_rfl) rfl
        refine pk_cons rfl rfl ?_ ?_
        · exact st_list2 hN_7 (by kernel_rfl) (by kernel_rfl) (by kernel_rfl) (by kernel_rfl) (Nat.le_refl _) asD asD rfl
        refine pk_cons rfl rfl ?_ ?_
        · exact st_call1 hN_7 (by kernel_rfl) (by kernel_rfl) (by kernel_rfl) rfl rfl fun w x v1 hC h1 => tz (l_mul2 2002 (lz h1) (by decide) (by decide) (by decide))
        refine pk_cons rfl rfl ?_ ?_
        · exact st_list2 hN_7 (by kernel_rfl) (by kernel_rfl) (by kernel_rfl) (by kernel_rfl) (Nat.le_refl _) asR asR rfl
        refine pk_cons rfl rfl ?_ ?_
        · exact st_call1 hN_7 (by kernel_rfl) (by kernel_rfl) (by kernel_rfl) rfl rfl fun w x v1 hC h1 => tz (l_gcd 2002 (lz h1) (by kernel_rfl) (by decide) (by simp))
        refine pk_cons rfl rfl ?_ ?_
        · exact st_alloc hN_7 (by kernel_rfl) (Nat.le_refl _) rfl
        refine pk_cons rfl rfl ?_ ?_
        · exact st_put hN_7 (by kernel_rfl) (by kernel_rfl) (by kernel_rfl) rfl rfl rfl
        exact pk_nil rfl
      intro W_8 x hC hall
      refine then_n ?_
      obtain ⟨a_8, ha⟩ : ∃ a, a = putE x a_7 [(0, some 100), (1, some 101), (2, some 102), (3, some 103), (4, some 104), (5, some 105), (6, some 106), (7, some 107), (8, some 108), (9, some 109), (10, some 11), (11, none)] := ⟨_, rfl⟩
      rw [← ha]
      have hN_8 := size_behind ha hN_7
      have hD_8 := defers_behind ha hD_7
      have bb_8 := bb_7.trans hC.below
      have e3_8 := slot_old ha (by kernel_rfl) e3_7
      have l3_8 := hC.locZ l3_7
      have e4_8 := slot_old ha (by kernel_rfl) e4_7
      have l4_8 := hC.locZ l4_7
      have e5_8 := slot_old ha (by kernel_rfl) e5_7
      have l5_8 := hC.locZ l5_7
      have e22_8 := slot_old ha (by kernel_rfl) e22_7
      have e27_8 := slot_old ha (by kernel_rfl) e27_7
      have e7_8 := slot_old ha (by kernel_rfl) e7_7
      have l7_8 := hC.locR l7_7
      have e8_8 := slot_old ha (by kernel_rfl) e8_7
      have l8_8 := hC.locR l8_7
      have e9_8 := slot_old ha (by kernel_rfl) e9_7
      have l9_8 := hC.locR l9_7
      have e10_8 := slot_old ha (by kernel_rfl) e10_7
      have e39_8 := slot_old ha (by kernel_rfl) e39_7
      have e65_8 := slot_old ha (by kernel_rfl) e65_7
      have e99_8 := slot_old ha (by kernel_rfl) e99_7
      obtain ⟨g11, hx, l11_8⟩ := put_loc (show (kPutZ 10 2002 (((zgcd [((za) * (zc)), ((zb) * (zc))] : Nat) : Int))).sem _ _ _ _ from hall 11 (of_decide_eq_true (by kernel_rfl)))
      have e11_8 := (slot_new (t := 11) (i := 10) ha hN_7 (by kernel_rfl) (by kernel_rfl)).trans hx
      clear hx
      clear hall hC ha bb_7 hD_7 e3_7 l3_7 e4_7 l4_7 e5_7 l5_7 e22_7 e27_7 e7_7 l7_7 e8_7 l8_7 e9_7 l9_7 e10_7 e39_7 e65_7 e99_7
      have hd1 : ((zgcd [((za) * (zc)), ((zb) * (zc))] : Nat) : Int) ∣ za * zc := gcd2_dvd1 _ _
      have hd2 : ((zgcd [((za) * (zc)), ((zb) * (zc))] : Nat) : Int) ∣ zb * zc := gcd2_dvd2 _ _
      have hd3 : zc ∣ ((zgcd [((za) * (zc)), ((zb) * (zc))] : Nat) : Int) := gcd2_dvd3 _ _ _
      have hg : 0 < ((zgcd [((za) * (zc)), ((zb) * (zc))] : Nat) : Int) := gcd2_pos (Int.mul_ne_zero hb0 hc0)
      have hg0 : ((zgcd [((za) * (zc)), ((zb) * (zc))] : Nat) : Int) ≠ 0 := by omega
      have hr1 := zm_dvd hg0 hd1
      have hr2 := zm_dvd hg0 hd2
      have hr3 := zm_dvd hc0 hd3
      clear hd1 hd2 hd3
      repeat (first | refine wp_seq ?_ | (refine wp_skip ?_; refine then_n ?_))
      refine wp_region_law hN_8 w.heap.size
        [kZd 1001 (zc), kZ 1 (0), kIs (.int .i64 (ordI (zc) (0))), kIs (.bool false)]
        [ [], [], [(0, some 110), (1, some 111)], [(2, some 112)] ]
        [(0, some 110), (1, some 111), (2, some 112), (3, some 113)] [] [] (by kernel_rfl) (by kernel_rfl) (by kernel_rfl) (by kernel_rfl) (by kernel_rfl) (by kernel_rfl) (by kernel_rfl) bb_8.size ?_ ?_
      ·
        refine pk_cons rfl rfl ?_ ?_
        · exact st_loadZ l5_8 e5_8 hN_8 (by kernel_rfl) rfl
        refine pk_cons rfl rfl ?_ ?_
        · exact st_loadR l7_8 e7_8 hN_8 (by kernel_rfl) rfl
        refine pk_cons rfl rfl ?_ ?_
        · exact st_call2 hN_8 (by kernel_rfl) (by kernel_rfl) (by kernel_rfl) (by kernel_rfl) (by kernel_rfl) rfl rfl rfl fun w x v1 v2 hC h1 h2 => ti (z_cmp (dz h1) (rz h2) (by decide) (by decide))
        refine pk_cons rfl rfl ?_ ?_
        · exact st_pureV [.int .i64 (ordI (zc) (0))] [] (.bool (ordI (zc) (0) == 0)) (.bool false) (congrArg Value.bool (beq_eq_false_iff_ne.2 (ord_ne hc0))) rfl hN_8 (by kernel_rfl) (by kernel_rfl) (by kernel_rfl) old0 (by kernel_rfl) (by kernel_rfl) (by kernel_rfl) (fun _ => by kernel_rfl)
        exact pk_nil rfl
      intro W_9 x hC hall
      refine then_n ?_
      obtain ⟨a_9, ha⟩ : ∃ a, a = putE x a_8 [(0, some 110), (1, some 111), (2, some 112), (3, some 113)] := ⟨_, rfl⟩
      rw [← ha]
      have hN_9 := size_behind ha hN_8
      have hD_9 := defers_behind ha hD_8
      have bb_9 := bb_8.trans hC.below
      have e3_9 := slot_old ha (by kernel_rfl) e3_8
      have l3_9 := hC.locZ l3_8
      have e4_9 := slot_old ha (by kernel_rfl) e4_8
      have l4_9 := hC.locZ l4_8
      have e5_9 := slot_old ha (by kernel_rfl) e5_8
      have l5_9 := hC.locZ l5_8
      have e22_9 := slot_old ha (by kernel_rfl) e22_8
      have e27_9 := slot_old ha (by kernel_rfl) e27_8
      have e7_9 := slot_old ha (by kernel_rfl) e7_8
      have l7_9 := hC.locR l7_8
      have e8_9 := slot_old ha (by kernel_rfl) e8_8
      have l8_9 := hC.locR l8_8
      have e9_9 := slot_old ha (by kernel_rfl) e9_8
      have l9_9 := hC.locR l9_8
      have e10_9 := slot_old ha (by kernel_rfl) e10_8
      have e39_9 := slot_old ha (by kernel_rfl) e39_8
      have e65_9 := slot_old ha (by kernel_rfl) e65_8
      have e99_9 := slot_old ha (by kernel_rfl) e99_8
      have e11_9 := slot_old ha (by kernel_rfl) e11_8
      have l11_9 := hC.locR l11_8
      have e113_9 := (slot_new (t := 113) (i := 3) ha hN_8 (by kernel_rfl) (by kernel_rfl)).trans (show x 3 = .bool false from hall 3 (of_decide_eq_true (by kernel_rfl)))
      clear hall hC ha bb_8 hD_8 e3_8 l3_8 e4_8 l4_8 e5_8 l5_8 e22_8 e27_8 e7_8 l7_8 e8_8 l8_8 e9_8 l9_8 e10_8 e39_8 e65_8 e99_8 e11_8 l11_8
      refine wp_cond_false e113_9 ?_
      repeat (first | refine wp_seq ?_ | (refine wp_skip ?_; refine then_n ?_))
      refine wp_region_law hN_9 w.heap.size
        [kZd 1001 (za), kZd 1001 (zc), kZs [(1001, (za)), (1001, (zc))], kZ 2002 ((za) * (zc)), kZ 2002 (((zgcd [((za) * (zc)), ((zb) * (zc))] : Nat) : Int)), kZQ 2003 2002 (zq ((za) * (zc)) (((zgcd [((za) * (zc)), ((zb) * (zc))] : Nat) : Int))) (zm ((za) * (zc)) (((zgcd [((za) * (zc)), ((zb) * (zc))] : Nat) : Int))) 0, kZQ 2003 2002 (zq ((za) * (zc)) (((zgcd [((za) * (zc)), ((zb) * (zc))] : Nat) : Int))) (zm ((za) * (zc)) (((zgcd [((za) * (zc)), ((zb) * (zc))] : Nat) : Int))) 0, kZ 2003 (zq ((za) * (zc)) (((zgcd [((za) * (zc)), ((zb) * (zc))] : Nat) : Int))), kZ 2002 (zm ((za) * (zc)) (((zgcd [((za) * (zc)), ((zb) * (zc))] : Nat) : Int))), kIs (.int .i64 (0)), PK.fresh 2, PK.fresh 2, kPutZ 10 2003 (zq ((za) * (zc)) (((zgcd [((za) * (zc)), ((zb) * (zc))] : Nat) : Int))), kPutZ 11 2002 (zm ((za) * (zc)) (((zgcd [((za) * (zc)), ((zb) * (zc))] : Nat) : Int))), kIs (.int .i64 (0))]
        [ [], [], [(0, some 118), (1, some 119)], [(2, some 120)], [], [(3, some 121), (4, some 122)], [(5, some 123)], [(6, some 117)], [(6, some 117)], [(6, some 117)], [], [], [(10, some 12), (7, some 124)], [(11, some 13), (8, some 125)], [(9, some 126)] ]
        [(0, some 118), (1, some 119), (2, some 120), (3, some 121), (4, some 122), (5, some 123), (6, some 117), (7, some 124), (8, some 125), (9, some 126), (10, some 12), (11, some 13), (12, none), (13, none), (14, some 14)] [] [] (by kernel_rfl) (by kernel_rfl) (by kernel_rfl) (by kernel_rfl) (by kernel_rfl) (by kernel_rfl) (by kernel_rfl) bb_9.size ?_ ?_
      ·
        refine pk_cons rfl rfl ?_ ?_
        · exact st_loadZ l3_9 e3_9 hN_9 (by kernel_rfl) rfl
        refine pk_cons rfl rfl ?_ ?_
        · exact st_loadZ l5_9 e5_9 hN_9 (by kernel_rfl) rfl
        refine pk_cons rfl rfl ?_ ?_
        · exact st_list2 hN_9 (by kernel_rfl) (by kernel_rfl) (by kernel_rfl) (by kernel_rfl) (Nat.le_refl _) asD asD rfl
        refine pk_cons rfl rfl ?_ ?_
        · exact st_call1 hN_9 (by kernel_rfl) (by kernel_rfl) (by kernel_rfl) rfl rfl fun w x v1 hC h1 => tz (l_mul2 2002 (lz h1) (by decide) (by decide) (by decide))
        refine pk_cons rfl rfl ?_ ?_
        · exact st_loadR l11_9 e11_9 hN_9 (by kernel_rfl) rfl
        refine pk_cons rfl rfl ?_ ?_
        · exact st_call2 hN_9 (by kernel_rfl) (by kernel_rfl) (by kernel_rfl) (by kernel_rfl) (by kernel_rfl) rfl rfl rfl fun w x v1 v2 hC h1 h2 => tq (z_divMod (m := 2003) (rz h1) (rz h2) hg0 (by decide) (by decide) (by decide) (by decide))
        refine pk_cons rfl rfl ?_ ?_
        · exact st_move hN_9 (by kernel_rfl) (by kernel_rfl) rfl rfl
        refine pk_cons rfl rfl ?_ ?_
        · exact st_ext hN_9 (by kernel_rfl) (by kernel_rfl) rfl rfl ext_q
        refine pk_cons rfl rfl ?_ ?_
        · exact st_ext hN_9 (by kernel_rfl) (by kernel_rfl) rfl rfl ext_r
        refine pk_cons rfl rfl ?_ ?_
        · exact st_ext hN_9 (by kernel_rfl) (by kernel_rfl) rfl rfl ext_e
        refine pk_cons rfl rfl ?_ ?_
        · exact st_alloc hN_9 (by kernel_rfl) (Nat.le_refl _) rfl
        refine pk_cons rfl rfl ?_ ?_
        · exact st_alloc hN_9 (by kernel_rfl) (Nat.le_refl _) rfl
        refine pk_cons rfl rfl ?_ ?_
        · exact st_put hN_9 (by kernel_rfl) (by kernel_rfl) (by kernel_rfl) rfl rfl rfl
        refine pk_cons rfl rfl ?_ ?_
        · exact st_put hN_9 (by kernel_rfl) (by kernel_rfl) (by kernel_rfl) rfl rfl rfl
        refine pk_cons rfl rfl ?_ ?_
        · exact st_pure [.int .i64 (0)] [] (.int .i64 (0)) rfl hN_9 (by kernel_rfl) (by kernel_rfl) (by kernel_rfl) old0 (by kernel_rfl) (by kernel_rfl) (by kernel_rfl) (fun _ => by kernel_rfl)
        exact pk_nil rfl
      intro W_10 x hC hall
      refine then_n ?_
      obtain ⟨a_10, ha⟩ : ∃ a, a = putE x a_9 [(0, some 118), (1, some 119), (2, some 120), (3, some 121), (4, some 122), (5, some 123), (6, some 117), (7, some 124), (8, some 125), (9, some 126), (10, some 12), (11, some 13), (12, none), (13, none), (14, some 14)] := ⟨_, rfl⟩
      rw [← ha]
      have hN_10 := size_behind ha hN_9
      have hD_10 := defers_behind ha hD_9
      have bb_10 := bb_9.trans hC.below
      have e3_10 := slot_old ha (by kernel_rfl) e3_9
      have l3_10 := hC.locZ l3_9
      have e4_10 := slot_old ha (by kernel_rfl) e4_9
      have l4_10 := hC.locZ l4_9
      have e5_10 := slot_old ha (by kernel_rfl) e5_9
      have l5_10 := hC.locZ l5_9
      have e22_10 := slot_old ha (by kernel_rfl) e22_9
      have e27_10 := slot_old ha (by kernel_rfl) e27_9
      have e7_10 := slot_old ha (by kernel_rfl) e7_9
      have l7_10 := hC.locR l7_9
      have e8_10 := slot_old ha (by kernel_rfl) e8_9
      have l8_10 := hC.locR l8_9
      have e9_10 := slot_old ha (by kernel_rfl) e9_9
      have l9_10 := hC.locR l9_9
      have e10_10 := slot_old ha (by kernel_rfl) e10_9
      have e39_10 := slot_old ha (by kernel_rfl) e39_9
      have e65_10 := slot_old ha (by kernel_rfl) e65_9
      have e99_10 := slot_old ha (by kernel_rfl) e99_9
      have e11_10 := slot_old ha (by kernel_rfl) e11_9
      have l11_10 := hC.locR l11_9
      have e113_10 := slot_old ha (by kernel_rfl) e113_9
      obtain ⟨g12, hx, l12_10⟩ := put_loc (show (kPutZ 10 2003 (zq ((za) * (zc)) (((zgcd [((za) * (zc)), ((zb) * (zc))] : Nat) : Int)))).sem _ _ _ _ from hall 12 (of_decide_eq_true (by kernel_rfl)))
      have e12_10 := (slot_new (t := 12) (i := 10) ha hN_9 (by kernel_rfl) (by kernel_rfl)).trans hx
      clear hx
      obtain ⟨g13, hx, l13_10⟩ := put_loc (show (kPutZ 11 2002 (zm ((za) * (zc)) (((zgcd [((za) * (zc)), ((zb) * (zc))] : Nat) : Int)))).sem _ _ _ _ from hall 13 (of_decide_eq_true (by kernel_rfl)))
      have e13_10 := (slot_new (t := 13) (i := 11) ha hN_9 (by kernel_rfl) (by kernel_rfl)).trans hx
      clear hx
      have e14_10 := (slot_new (t := 14) (i := 14) ha hN_9 (by kernel_rfl) (by kernel_rfl)).trans (show x 14 = .int .i64 (0) from hall 14 (of_decide_eq_true (by kernel_rfl)))
      clear hall hC ha bb_9 hD_9 e3_9 l3_9 e4_9 l4_9 e5_9 l5_9 e22_9 e27_9 e7_9 l7_9 e8_9 l8_9 e9_9 l9_9 e10_9 e39_9 e65_9 e99_9 e11_9 l11_9 e113_9
      repeat (first | refine wp_seq ?_ | (refine wp_skip ?_; refine then_n ?_))
      refine wp_region_law hN_10 w.heap.size
        [kZd 1001 (zb), kZd 1001 (zc), kZs [(1001, (zb)), (1001, (zc))], kZ 2002 ((zb) * (zc)), kZ 2002 (((zgcd [((za) * (zc)), ((zb) * (zc))] : Nat) : Int)), kZQ 2003 2002 (zq ((zb) * (zc)) (((zgcd [((za) * (zc)), ((zb) * (zc))] : Nat) : Int))) (zm ((zb) * (zc)) (((zgcd [((za) * (zc)), ((zb) * (zc))] : Nat) : Int))) 0, kZQ 2003 2002 (zq ((zb) * (zc)) (((zgcd [((za) * (zc)), ((zb) * (zc))] : Nat) : Int))) (zm ((zb) * (zc)) (((zgcd [((za) * (zc)), ((zb) * (zc))] : Nat) : Int))) 0, kZ 2003 (zq ((zb) * (zc)) (((zgcd [((za) * (zc)), ((zb) * (zc))] : Nat) : Int))), kZ 2002 (zm ((zb) * (zc)) (((zgcd [((za) * (zc)), ((zb) * (zc))] : Nat) : Int))), kIs (.int .i64 (0)), PK.fresh 2, PK.fresh 2, kPutZ 10 2003 (zq ((zb) * (zc)) (((zgcd [((za) * (zc)), ((zb) * (zc))] : Nat) : Int))), kPutZ 11 2002 (zm ((zb) * (zc)) (((zgcd [((za) * (zc)), ((zb) * (zc))] : Nat) : Int))), kIs (.int .i64 (0))]
        [ [], [], [(0, some 128), (1, some 129)], [(2, some 130)], [], [(3, some 131), (4, some 132)], [(5, some 133)], [(6, some 127)], [(6, some 127)], [(6, some 127)], [], [], [(10, some 15), (7, some 134)], [(11, some 16), (8, some 135)], [(9, some 136)] ]
        [(0, some 128), (1, some 129), (2, some 130), (3, some 131), (4, some 132), (5, some 133), (6, some 127), (7, some 134), (8, some 135), (9, some 136), (10, some 15), (11, some 16), (12, none), (13, none), (14, some 17)] [] [] (by kernel_rfl) (by kernel_rfl) (by kernel_rfl) (by kernel_rfl) (by kernel_rfl) (by kernel_rfl) (by kernel_rfl) bb_10.size ?_ ?_
      ·
        refine pk_cons rfl rfl ?_ ?_
        · exact st_loadZ l4_10 e4_10 hN_10 (by kernel_rfl) rfl
        refine pk_cons rfl rfl ?_ ?_
        · exact st_loadZ l5_10 e5_10 hN_10 (by kernel_rfl) rfl
        refine pk_cons rfl rfl ?_ ?_
        · exact st_list2 hN_10 (by kernel_rfl) (by kernel_rfl) (by kernel_rfl) (by kernel_rfl) (Nat.le_refl _) asD asD rfl
        refine pk_cons rfl rfl ?_ ?_
        · exact st_call1 hN_10 (by kernel_rfl) (by kernel_rfl) (by kernel_rfl) rfl rfl fun w x v1 hC h1 => tz (l_mul2 2002 (lz h1) (by decide) (by decide) (by decide))
        refine pk_cons rfl rfl ?_ ?_
        · exact st_loadR l11_10 e11_10 hN_10 (by kernel_rfl) rfl
        refine pk_cons rfl rfl ?_ ?_
        · exact st_call2 hN_10 (by kernel_rfl) (by kernel_rfl) (by kernel_rfl) (by kernel_rfl) (by kernel_rfl) rfl rfl rfl fun w x v1 v2 hC h1 h2 => tq (z_divMod (m := 2003) (rz h1) (rz h2) hg0 (by decide) (by decide) (by decide) (by decide))
        refine pk_cons rfl rfl ?_ ?_
        · exact st_move hN_10 (by kernel_rfl) (by kernel_rfl) rfl rfl
        refine pk_cons rfl rfl ?_ ?_
        · exact st_ext hN_10 (by kernel_rfl) (by kernel_rfl) rfl rfl ext_q
        refine pk_cons rfl rfl ?_ ?_
        · exact st_ext hN_10 (by kernel_rfl) (by kernel_rfl) rfl rfl ext_r
        refine pk_cons rfl rfl ?_ ?_
        · exact st_ext hN_10 (by kernel_rfl) (by kernel_rfl) rfl rfl ext_e
        refine pk_cons rfl rfl ?_ ?_
        · exact st_alloc hN_10 (by kernel_rfl) (Nat.le_refl _) rfl
        refine pk_cons rfl rfl ?_ ?_
        · exact st_alloc hN_10 (by kernel_rfl) (Nat.le_refl _) rfl
        refine pk_cons rfl rfl ?_ ?_
        · exact st_put hN_10 (by kernel_rfl) (by kernel_rfl) (by kernel_rfl) rfl rfl rfl
        refine pk_cons rfl rfl ?_ ?_
        · exact st_put hN_10 (by kernel_rfl) (by kernel_rfl) (by kernel_rfl) rfl rfl rfl
        refine pk_cons rfl rfl ?_ ?_
        · exact st_pure [.int .i64 (0)] [] (.int .i64 (0)) rfl hN_10 (by kernel_rfl) (by kernel_rfl) (by kernel_rfl) old0 (by kernel_rfl) (by kernel_rfl) (by kernel_rfl) (fun _ => by kernel_rfl)
        exact pk_nil rfl
      intro W_11 x hC hall
      refine then_n ?_
      obtain ⟨a_11, ha⟩ : ∃ a, a = putE x a_10 [(0, some 128), (1, some 129), (2, some 130), (3, some 131), (4, some 132), (5, some 133), (6, some 127), (7, some 134), (8, some 135), (9, some 136), (10, some 15), (11, some 16), (12, none), (13, none), (14, some 17)] := ⟨_, rfl⟩
      rw [← ha]
      have hN_11 := size_behind ha hN_10
      have hD_11 := defers_behind ha hD_10
      have bb_11 := bb_10.trans hC.below
      have e3_11 := slot_old ha (by kernel_rfl) e3_10
      have l3_11 := hC.locZ l3_10
      have e4_11 := slot_old ha (by kernel_rfl) e4_10
      have l4_11 := hC.locZ l4_10
      have e5_11 := slot_old ha (by kernel_rfl) e5_10
      have l5_11 := hC.locZ l5_10
      have e22_11 := slot_old ha (by kernel_rfl) e22_10
      have e27_11 := slot_old ha (by kernel_rfl) e27_10
      have e7_11 := slot_old ha (by kernel_rfl) e7_10
      have l7_11 := hC.locR l7_10
      have e8_11 := slot_old ha (by kernel_rfl) e8_10
      have l8_11 := hC.locR l8_10
      have e9_11 := slot_old ha (by kernel_rfl) e9_10
      have l9_11 := hC.locR l9_10
      have e10_11 := slot_old ha (by kernel_rfl) e10_10
      have e39_11 := slot_old ha (by kernel_rfl) e39_10
      have e65_11 := slot_old ha (by kernel_rfl) e65_10
      have e99_11 := slot_old ha (by kernel_rfl) e99_10
      have e11_11 := slot_old ha (by kernel_rfl) e11_10
      have l11_11 := hC.locR l11_10
      have e113_11 := slot_old ha (by kernel_rfl) e113_10
      have e12_11 := slot_old ha (by kernel_rfl) e12_10
      have l12_11 := hC.locR l12_10
      have e13_11 := slot_old ha (by kernel_rfl) e13_10
      have l13_11 := hC.locR l13_10
      have e14_11 := slot_old ha (by kernel_rfl) e14_10
      obtain ⟨g15, hx, l15_11⟩ := put_loc (show (kPutZ 10 2003 (zq ((zb) * (zc)) (((zgcd [((za) * (zc)), ((zb) * (zc))] : Nat) : Int)))).sem _ _ _ _ from hall 12 (of_decide_eq_true (by kernel_rfl)))
      have e15_11 := (slot_new (t := 15) (i := 10) ha hN_10 (by kernel_rfl) (by kernel_rfl)).trans hx
      clear hx
      obtain ⟨g16, hx, l16_11⟩ := put_loc (show (kPutZ 11 2002 (zm ((zb) * (zc)) (((zgcd [((za) * (zc)), ((zb) * (zc))] : Nat) : Int)))).sem _ _ _ _ from hall 13 (of_decide_eq_true (by kernel_rfl)))
      have e16_11 := (slot_new (t := 16) (i := 11) ha hN_10 (by kernel_rfl) (by kernel_rfl)).trans hx
      clear hx
      have e17_11 := (slot_new (t := 17) (i := 14) ha hN_10 (by kernel_rfl) (by kernel_rfl)).trans (show x 14 = .int .i64 (0) from hall 14 (of_decide_eq_true (by kernel_rfl)))
      clear hall hC ha bb_10 hD_10 e3_10 l3_10 e4_10 l4_10 e5_10 l5_10 e22_10 e27_10 e7_10 l7_10 e8_10 l8_10 e9_10 l9_10 e10_10 e39_10 e65_10 e99_10 e11_10 l11_10 e113_10 e12_10 l12_10 e13_10 l13_10 e14_10
      repeat (first | refine wp_seq ?_ | (refine wp_skip ?_; refine then_n ?_))
      refine wp_region_law hN_11 w.heap.size
        [kZ 2002 (((zgcd [((za) * (zc)), ((zb) * (zc))] : Nat) : Int)), kZd 1001 (zc), kZQ 2003 1001 (zq (((zgcd [((za) * (zc)), ((zb) * (zc))] : Nat) : Int)) (zc)) (zm (((zgcd [((za) * (zc)), ((zb) * (zc))] : Nat) : Int)) (zc)) 0, kZQ 2003 1001 (zq (((zgcd [((za) * (zc)), ((zb) * (zc))] : Nat) : Int)) (zc)) (zm (((zgcd [((za) * (zc)), ((zb) * (zc))] : Nat) : Int)) (zc)) 0, kZ 2003 (zq (((zgcd [((za) * (zc)), ((zb) * (zc))] : Nat) : Int)) (zc)), kZ 1001 (zm (((zgcd [((za) * (zc)), ((zb) * (zc))] : Nat) : Int)) (zc)), kIs (.int .i64 (0)), PK.fresh 2, PK.fresh 2, kPutZ 7 2003 (zq (((zgcd [((za) * (zc)), ((zb) * (zc))] : Nat) : Int)) (zc)), kPutZ 8 1001 (zm (((zgcd [((za) * (zc)), ((zb) * (zc))] : Nat) : Int)) (zc)), kIs (.int .i64 (0))]
        [ [], [], [(0, some 138), (1, some 139)], [(2, some 140)], [(3, some 137)], [(3, some 137)], [(3, some 137)], [], [], [(7, some 18), (4, some 141)], [(8, some 19), (5, some 142)], [(6, some 143)] ]
        [(0, some 138), (1, some 139), (2, some 140), (3, some 137), (4, some 141), (5, some 142), (6, some 143), (7, some 18), (8, some 19), (9, none), (10, none), (11, some 20)] [] [] (by kernel_rfl) (by kernel_rfl) (by kernel_rfl) (by kernel_rfl) (by kernel_rfl) (by kernel_rfl) (by kernel_rfl) bb_11.size ?_ ?_
      ·
        refine pk_cons rfl rfl ?_ ?_
        · exact st_loadR l11_11 e11_11 hN_11 (by kernel_rfl) rfl
        refine pk_cons rfl rfl ?_ ?_
        · exact st_loadZ l5_11 e5_11 hN_11 (by kernel_rfl) rfl
        refine pk_cons rfl rfl ?_ ?_
        · exact st_call2 hN_11 (by kernel_rfl) (by kernel_rfl) (by kernel_rfl) (by kernel_rfl) (by kernel_rfl) rfl rfl rfl fun w x v1 v2 hC h1 h2 => tq (z_divMod (m := 2003) (rz h1) (dz h2) hc0 (by decide) (by decide) (by decide) (by decide))
        refine pk_cons rfl rfl ?_ ?_
        · exact st_move hN_11 (by kernel_rfl) (by kernel_rfl) rfl rfl
        refine pk_cons rfl rfl ?_ ?_
        · exact st_ext hN_11 (by kernel_rfl) (by kernel_rfl) rfl rfl ext_q
        refine pk_cons rfl rfl ?_ ?_
        · exact st_ext hN_11 (by kernel_rfl) (by kernel_rfl) rfl rfl ext_r
        refine pk_cons rfl rfl ?_ ?_
        · exact st_ext hN_11 (by kernel_rfl) (by kernel_rfl) rfl rfl ext_e
        refine pk_cons rfl rfl ?_ ?_
        · exact st_alloc hN_11 (by kernel_rfl) (Nat.le_refl _) rfl
        refine pk_cons rfl rfl ?_ ?_
        · exact st_alloc hN_11 (by kernel_rfl) (Nat.le_refl _) rfl
        refine pk_cons rfl rfl ?_ ?_
        · exact st_put hN_11 (by kernel_rfl) (by kernel_rfl) (by kernel_rfl) rfl rfl rfl
        refine pk_cons rfl rfl ?_ ?_
        · exact st_put hN_11 (by kernel_rfl) (by kernel_rfl) (by kernel_rfl) rfl rfl rfl
        refine pk_cons rfl rfl ?_ ?_
        · exact st_pure [.int .i64 (0)] [] (.int .i64 (0)) rfl hN_11 (by kernel_rfl) (by kernel_rfl) (by kernel_rfl) old0 (by kernel_rfl) (by kernel_rfl) (by kernel_rfl) (fun _ => by kernel_rfl)
        exact pk_nil rfl
      intro W_12 x hC hall
      refine then_n ?_
      obtain ⟨a_12, ha⟩ : ∃ a, a = putE x a_11 [(0, some 138), (1, some 139), (2, some 140), (3, some 137), (4, some 141), (5, some 142), (6, some 143), (7, some 18), (8, some 19), (9, none), (10, none), (11, some 20)] := ⟨_, rfl⟩
      rw [← ha]
      have hN_12 := size_behind ha hN_11
      have hD_12 := defers_behind ha hD_11
      have bb_12 := bb_11.trans hC.below
      have e3_12 := slot_old ha (by kernel_rfl) e3_11
      have l3_12 := hC.locZ l3_11
      have e4_12 := slot_old ha (by kernel_rfl) e4_11
      have l4_12 := hC.locZ l4_11
      have e5_12 := slot_old ha (by kernel_rfl) e5_11
      have l5_12 := hC.locZ l5_11
      have e22_12 := slot_old ha (by kernel_rfl) e22_11
      have e27_12 := slot_old ha (by kernel_rfl) e27_11
      have e7_12 := slot_old ha (by kernel_rfl) e7_11
      have l7_12 := hC.locR l7_11
      have e8_12 := slot_old ha (by kernel_rfl) e8_11
      have l8_12 := hC.locR l8_11
      have e9_12 := slot_old ha (by kernel_rfl) e9_11
      have l9_12 := hC.locR l9_11
      have e10_12 := slot_old ha (by kernel_rfl) e10_11
      have e39_12 := slot_old ha (by kernel_rfl) e39_11
      have e65_12 := slot_old ha (by kernel_rfl) e65_11
      have e99_12 := slot_old ha (by kernel_rfl) e99_11
      have e11_12 := slot_old ha (by kernel_rfl) e11_11
      have l11_12 := hC.locR l11_11
      have e113_12 := slot_old ha (by kernel_rfl) e113_11
      have e12_12 := slot_old ha (by kernel_rfl) e12_11
      have l12_12 := hC.locR l12_11
      have e13_12 := slot_old ha (by kernel_rfl) e13_11
      have l13_12 := hC.locR l13_11
      have e14_12 := slot_old ha (by kernel_rfl) e14_11
      have e15_12 := slot_old ha (by kernel_rfl) e15_11
      have l15_12 := hC.locR l15_11
      have e16_12 := slot_old ha (by kernel_rfl) e16_11
      have l16_12 := hC.locR l16_11
      have e17_12 := slot_old ha (by kernel_rfl) e17_11
      obtain ⟨g18, hx, l18_12⟩ := put_loc (show (kPutZ 7 2003 (zq (((zgcd [((za) * (zc)), ((zb) * (zc))] : Nat) : Int)) (zc))).sem _ _ _ _ from hall 9 (of_decide_eq_true (by kernel_rfl)))
      have e18_12 := (slot_new (t := 18) (i := 7) ha hN_11 (by kernel_rfl) (by kernel_rfl)).trans hx
      clear hx
      obtain ⟨g19, hx, l19_12⟩ := put_loc (show (kPutZ 8 1001 (zm (((zgcd [((za) * (zc)), ((zb) * (zc))] : Nat) : Int)) (zc))).sem _ _ _ _ from hall 10 (of_decide_eq_true (by kernel_rfl)))
      have e19_12 := (slot_new (t := 19) (i := 8) ha hN_11 (by kernel_rfl) (by kernel_rfl)).trans hx
      clear hx
      have e20_12 := (slot_new (t := 20) (i := 11) ha hN_11 (by kernel_rfl) (by kernel_rfl)).trans (show x 11 = .int .i64 (0) from hall 11 (of_decide_eq_true (by kernel_rfl)))
      clear hall hC ha bb_11 hD_11 e3_11 l3_11 e4_11 l4_11 e5_11 l5_11 e22_11 e27_11 e7_11 l7_11 e8_11 l8_11 e9_11 l9_11 e10_11 e39_11 e65_11 e99_11 e11_11 l11_11 e113_11 e12_11 l12_11 e13_11 l13_11 e14_11 e15_11 l15_11 e16_11 l16_11 e17_11
      repeat (first | refine wp_seq ?_ | (refine wp_skip ?_; refine then_n ?_))
      refine wp_region_law hN_12 w.heap.size
        [kZ 2002 (((zgcd [((za) * (zc)), ((zb) * (zc))] : Nat) : Int)), kZ 1 (0), kIs (.int .i64 (1)), kIs (.bool true), kIs (.bool true), kIs (.int .i64 (0)), kIs (.bool true), kIs (.bool true), kIs (.bool true), kIs (.int .i64 (0)), kIs (.bool true), kIs (.bool true), kIs (.bool true), kIs (.int .i64 (0)), kIs (.bool true), kIs (.bool true), kIs (.bool true), kZ 2002 (zm ((za) * (zc)) (((zgcd [((za) * (zc)), ((zb) * (zc))] : Nat) : Int))), kZ 1 (0), kIs (.bool true), kIs (.bool true), kIs (.bool true), kZ 2002 (zm ((zb) * (zc)) (((zgcd [((za) * (zc)), ((zb) * (zc))] : Nat) : Int))), kZ 1 (0), kIs (.bool true), kIs (.bool true), kIs (.bool true), kZ 1001 (zm (((zgcd [((za) * (zc)), ((zb) * (zc))] : Nat) : Int)) (zc)), kZ 1 (0), kIs (.bool true), kIs (.bool true), kIs (.bool true)]
        [ [], [], [(0, some 144), (1, some 145)], [(2, some 146)], [(3, some 147)], [], [(5, some 149)], [(4, some 148), (6, some 150)], [(7, some 151)], [], [(9, some 153)], [(8, some 152), (10, some 154)], [(11, some 155)], [], [(13, some 157)], [(12, some 156), (14, some 158)], [(15, some 159)], [], [], [(17, some 161), (18, some 162)], [(16, some 160), (19, some 163)], [(20, some 164)], [], [], [(22, some 166), (23, some 167)], [(21, some 165), (24, some 168)], [(25, some 169)], [], [], [(27, some 171), (28, some 172)], [(26, some 170), (29, some 173)], [(30, some 174)] ]
        [(0, some 144), (1, some 145), (2, some 146), (3, some 147), (4, some 148), (5, some 149), (6, some 150), (7, some 151), (8, some 152), (9, some 153), (10, some 154), (11, some 155), (12, some 156), (13, some 157), (14, some 158), (15, some 159), (16, some 160), (17, some 161), (18, some 162), (19, some 163), (20, some 164), (21, some 165), (22, some 166), (23, some 167), (24, some 168), (25, some 169), (26, some 170), (27, some 171), (28, some 172), (29, some 173), (30, some 174), (31, some 6)] [(4, true), (8, true), (12, true), (16, true), (21, true), (26, true)] [] (by kernel_rfl) (by kernel_rfl) (by kernel_rfl) (by kernel_rfl) (by kernel_rfl) (by kernel_rfl) (by kernel_rfl) bb_12.size ?_ ?_
      ·
        refine pk_cons rfl rfl ?_ ?_
        · exact st_loadR l11_12 e11_12 hN_12 (by kernel_rfl) rfl
        refine pk_cons rfl rfl ?_ ?_
        · exact st_loadR l7_12 e7_12 hN_12 (by kernel_rfl) rfl
        refine pk_cons rfl rfl ?_ ?_
        · exact st_call2 hN_12 (by kernel_rfl) (by kernel_rfl) (by kernel_rfl) (by kernel_rfl) (by kernel_rfl) rfl rfl rfl fun w x v1 v2 hC h1 h2 => ti (cmp_is (ord_gt hg) (z_cmp (rz h1) (rz h2) (by decide) (by decide)))
        refine pk_cons rfl rfl ?_ ?_
        · exact st_pure [.int .i64 (1)] [] (.bool true) rfl hN_12 (by kernel_rfl) (by kernel_rfl) (by kernel_rfl) old0 (by kernel_rfl) (by kernel_rfl) (by kernel_rfl) (fun _ => by kernel_rfl)
        refine pk_cons rfl rfl ?_ ?_
        · exact st_pure [.bool true] [] (.bool true) rfl hN_12 (by kernel_rfl) (by kernel_rfl) (by kernel_rfl) old0 (by kernel_rfl) (by kernel_rfl) (by kernel_rfl) (fun _ => by kernel_rfl)
        refine pk_cons rfl rfl ?_ ?_
        · exact st_pure [] [(14, .int .i64 (0))] (.int .i64 (0)) rfl hN_12 (by kernel_rfl) (by kernel_rfl) (by kernel_rfl) (old1 e14_12) (by kernel_rfl) (by kernel_rfl) (by kernel_rfl) (fun _ => by kernel_rfl)
        refine pk_cons rfl rfl ?_ ?_
        · exact st_pure [.int .i64 (0)] [] (.bool true) rfl hN_12 (by kernel_rfl) (by kernel_rfl) (by kernel_rfl) old0 (by kernel_rfl) (by kernel_rfl) (by kernel_rfl) (fun _ => by kernel_rfl)
        refine pk_cons rfl rfl ?_ ?_
        · exact st_pure [.bool true, .bool true] [] (.bool true) rfl hN_12 (by kernel_rfl) (by kernel_rfl) (by kernel_rfl) old0 (by kernel_rfl) (by kernel_rfl) (by kernel_rfl) (fun _ => by kernel_rfl)
        refine pk_cons rfl rfl ?_ ?_
        · exact st_pure [.bool true] [] (.bool true) rfl hN_12 (by kernel_rfl) (by kernel_rfl) (by kernel_rfl) old0 (by kernel_rfl) (by kernel_rfl) (by kernel_rfl) (fun _ => by kernel_rfl)
        refine pk_cons rfl rfl ?_ ?_
        · exact st_pure [] [(17, .int .i64 (0))] (.int .i64 (0)) rfl hN_12 (by kernel_rfl) (by kernel_rfl) (by kernel_rfl) (old1 e17_12) (by kernel_rfl) (by kernel_rfl) (by kernel_rfl) (fun _ => by kernel_rfl)
        refine pk_cons rfl rfl ?_ ?_
        · exact st_pure [.int .i64 (0)] [] (.bool true) rfl hN_12 (by kernel_rfl) (by kernel_rfl) (by kernel_rfl) old0 (by kernel_rfl) (by kernel_rfl) (by kernel_rfl) (fun _ => by kernel_rfl)
        refine pk_cons rfl rfl ?_ ?_
        · exact st_pure [.bool true, .bool true] [] (.bool true) rfl hN_12 (by kernel_rfl) (by kernel_rfl) (by kernel_rfl) old0 (by kernel_rfl) (by kernel_rfl) (by kernel_rfl) (fun _ => by kernel_rfl)
        refine pk_cons rfl rfl ?_ ?_
        · exact st_pure [.bool true] [] (.bool true) rfl hN_12 (by kernel_rfl) (by kernel_rfl) (by kernel_rfl) old0 (by kernel_rfl) (by kernel_rfl) (by kernel_rfl) (fun _ => by kernel_rfl)
        refine pk_cons rfl rfl ?_ ?_
        · exact st_pure [] [(20, .int .i64 (0))] (.int .i64 (0)) rfl hN_12 (by kernel_rfl) (by kernel_rfl) (by kernel_rfl) (old1 e20_12) (by kernel_rfl) (by kernel_rfl) (by kernel_rfl) (fun _ => by kernel_rfl)
        refine pk_cons rfl rfl ?_ ?_
        · exact st_pure [.int .i64 (0)] [] (.bool true) rfl hN_12 (by kernel_rfl) (by kernel_rfl) (by kernel_rfl) old0 (by kernel_rfl) (by kernel_rfl) (by kernel_rfl) (fun _ => by kernel_rfl)
        refine pk_cons rfl rfl ?_ ?_
        · exact st_pure [.bool true, .bool true] [] (.bool true) rfl hN_12 (by kernel_rfl) (by kernel_rfl) (by kernel_rfl) old0 (by kernel_rfl) (by kernel_rfl) (by kernel_rfl) (fun _ => by kernel_rfl)
        refine pk_cons rfl rfl ?_ ?_
        · exact st_pure [.bool true] [] (.bool true) rfl hN_12 (by kernel_rfl) (by kernel_rfl) (by kernel_rfl) old0 (by kernel_rfl) (by kernel_rfl) (by kernel_rfl) (fun _ => by kernel_rfl)
        refine pk_cons rfl rfl ?_ ?_
        · exact st_loadR l13_12 e13_12 hN_12 (by kernel_rfl) rfl
        refine pk_cons rfl rfl ?_ ?_
        · exact st_loadR l7_12 e7_12 hN_12 (by kernel_rfl) rfl
        refine pk_cons rfl rfl ?_ ?_
        · exact st_call2 hN_12 (by kernel_rfl) (by kernel_rfl) (by kernel_rfl) (by kernel_rfl) (by kernel_rfl) rfl rfl rfl fun w x v1 v2 hC h1 h2 => ti (z_same (rr h1) (rr h2) (hr1))
        refine pk_cons rfl rfl ?_ ?_
        · exact st_pure [.bool true, .bool true] [] (.bool true) rfl hN_12 (by kernel_rfl) (by kernel_rfl) (by kernel_rfl) old0 (by kernel_rfl) (by kernel_rfl) (by kernel_rfl) (fun _ => by kernel_rfl)
        refine pk_cons rfl rfl ?_ ?_
        · exact st_pure [.bool true] [] (.bool true) rfl hN_12 (by kernel_rfl) (by kernel_rfl) (by kernel_rfl) old0 (by kernel_rfl) (by kernel_rfl) (by kernel_rfl) (fun _ => by kernel_rfl)
        refine pk_cons rfl rfl ?_ ?_
        · exact st_loadR l16_12 e16_12 hN_12 (by kernel_rfl) rfl
        refine pk_cons rfl rfl ?_ ?_
        · exact st_loadR l7_12 e7_12 hN_12 (by kernel_rfl) rfl
        refine pk_cons rfl rfl ?_ ?_
        · exact st_call2 hN_12 (by kernel_rfl) (by kernel_rfl) (by kernel_rfl) (by kernel_rfl) (by kernel_rfl) rfl rfl rfl fun w x v1 v2 hC h1 h2 => ti (z_same (rr h1) (rr h2) (hr2))
        refine pk_cons rfl rfl ?_ ?_
        · exact st_pure [.bool true, .bool true] [] (.bool true) rfl hN_12 (by kernel_rfl) (by kernel_rfl) (by kernel_rfl) old0 (by kernel_rfl) (by kernel_rfl) (by kernel_rfl) (fun _ => by kernel_rfl)
        refine pk_cons rfl rfl ?_ ?_
        · exact st_pure [.bool true] [] (.bool true) rfl hN_12 (by kernel_rfl) (by kernel_rfl) (by kernel_rfl) old0 (by kernel_rfl) (by kernel_rfl) (by kernel_rfl) (fun _ => by kernel_rfl)
        refine pk_cons rfl rfl ?_ ?_
        · exact st_loadR l19_12 e19_12 hN_12 (by kernel_rfl) rfl
        refine pk_cons rfl rfl ?_ ?_
        · exact st_loadR l7_12 e7_12 hN_12 (by kernel_rfl) rfl
        refine pk_cons rfl rfl ?_ ?_
        · exact st_call2 hN_12 (by kernel_rfl) (by kernel_rfl) (by kernel_rfl) (by kernel_rfl) (by kernel_rfl) rfl rfl rfl fun w x v1 v2 hC h1 h2 => ti (z_same (rr h1) (rr h2) (hr3))
        refine pk_cons rfl rfl ?_ ?_
        · exact st_pure [.bool true, .bool true] [] (.bool true) rfl hN_12 (by kernel_rfl) (by kernel_rfl) (by kernel_rfl) old0 (by kernel_rfl) (by kernel_rfl) (by kernel_rfl) (fun _ => by kernel_rfl)
        refine pk_cons rfl rfl ?_ ?_
        · exact st_pure [.bool true] [] (.bool true) rfl hN_12 (by kernel_rfl) (by kernel_rfl) (by kernel_rfl) old0 (by kernel_rfl) (by kernel_rfl) (by kernel_rfl) (fun _ => by kernel_rfl)
        exact pk_nil rfl
      intro W_13 x hC hall
      refine then_n ?_
      obtain ⟨a_13, ha⟩ : ∃ a, a = putE x a_12 [(0, some 144), (1, some 145), (2, some 146), (3, some 147), (4, some 148), (5, some 149), (6, some 150), (7, some 151), (8, some 152), (9, some 153), (10, some 154), (11, some 155), (12, some 156), (13, some 157), (14, some 158), (15, some 159), (16, some 160), (17, some 161), (18, some 162), (19, some 163), (20, some 164), (21, some 165), (22, some 166), (23, some 167), (24, some 168), (25, some 169), (26, some 170), (27, some 171), (28, some 172), (29, some 173), (30, some 174), (31, some 6)] := ⟨_, rfl⟩
      rw [← ha]
      have hN_13 := size_behind ha hN_12
      have hD_13 := defers_behind ha hD_12
      have bb_13 := bb_12.trans hC.below
      have e3_13 := slot_old ha (by kernel_rfl) e3_12
      have l3_13 := hC.locZ l3_12
      have e4_13 := slot_old ha (by kernel_rfl) e4_12
      have l4_13 := hC.locZ l4_12
      have e5_13 := slot_old ha (by kernel_rfl) e5_12
      have l5_13 := hC.locZ l5_12
      have e22_13 := slot_old ha (by kernel_rfl) e22_12
      have e27_13 := slot_old ha (by kernel_rfl) e27_12
      have e7_13 := slot_old ha (by kernel_rfl) e7_12
      have l7_13 := hC.locR l7_12
      have e8_13 := slot_old ha (by kernel_rfl) e8_12
      have l8_13 := hC.locR l8_12
      have e9_13 := slot_old ha (by kernel_rfl) e9_12
      have l9_13 := hC.locR l9_12
      have e10_13 := slot_old ha (by kernel_rfl) e10_12
      have e39_13 := slot_old ha (by kernel_rfl) e39_12
      have e65_13 := slot_old ha (by kernel_rfl) e65_12
      have e99_13 := slot_old ha (by kernel_rfl) e99_12
      have e11_13 := slot_old ha (by kernel_rfl) e11_12
      have l11_13 := hC.locR l11_12
      have e113_13 := slot_old ha (by kernel_rfl) e113_12
      have e12_13 := slot_old ha (by kernel_rfl) e12_12
      have l12_13 := hC.locR l12_12
      have e13_13 := slot_old ha (by kernel_rfl) e13_12
      have l13_13 := hC.locR l13_12
      have e14_13 := slot_old ha (by kernel_rfl) e14_12
      have e15_13 := slot_old ha (by kernel_rfl) e15_12
      have l15_13 := hC.locR l15_12
      have e16_13 := slot_old ha (by kernel_rfl) e16_12
      have l16_13 := hC.locR l16_12
      have e17_13 := slot_old ha (by kernel_rfl) e17_12
      have e18_13 := slot_old ha (by kernel_rfl) e18_12
      have l18_13 := hC.locR l18_12
      have e19_13 := slot_old ha (by kernel_rfl) e19_12
      have l19_13 := hC.locR l19_12
      have e20_13 := slot_old ha (by kernel_rfl) e20_12
      have e6_13 := (slot_new (t := 6) (i := 31) ha hN_12 (by kernel_rfl) (by kernel_rfl)).trans (show x 31 = .bool true from hall 31 (of_decide_eq_true (by kernel_rfl)))
      clear hall hC ha bb_12 hD_12 e3_12 l3_12 e4_12 l4_12 e5_12 l5_12 e22_12 e27_12 e7_12 l7_12 e8_12 l8_12 e9_12 l9_12 e10_12 e39_12 e65_12 e99_12 e11_12 l11_12 e113_12 e12_12 l12_12 e13_12 l13_12 e14_12 e15_12 l15_12 e16_12 l16_12 e17_12 e18_12 l18_12 e19_12 l19_12 e20_12
      repeat (first | refine wp_seq ?_ | (refine wp_skip ?_; refine then_n ?_))
      refine wp_ret ?_
      repeat (refine then_r ?_)
      exact ret_one (t := 6) rfl hD_13 e6_13 ⟨rfl, bb_13⟩
  ·
    refine wp_region_law hN_3 w.heap.size
      [kZd 1001 (za), kZd 1001 (zb), kZQ 1 1 0 0 9, kZQ 1 1 0 0 9, kZ 1 (0), kZ 1 (0), kIs (.int .i64 (9)), PK.fresh 2, PK.fresh 2, kPutZ 7 1 (0), kPutZ 8 1 (0), kIs (.int .i64 (9))]
      [ [], [], [(0, some 30), (1, some 31)], [(2, some 32)], [(3, some 29)], [(3, some 29)], [(3, some 29)], [], [], [(7, some 8), (4, some 33)], [(8, some 9), (5, some 34)], [(6, some 35)] ]
      [(0, some 30), (1, some 31), (2, some 32), (3, some 29), (4, some 33), (5, some 34), (6, some 35), (7, some 8), (8, some 9), (9, none), (10, none), (11, some 10)] [] [] (by kernel_rfl) (by kernel_rfl) (by kernel_rfl) (by kernel_rfl) (by kernel_rfl) (by kernel_rfl) (by kernel_rfl) bb_3.size ?_ ?_
    ·
      refine pk_cons rfl rfl ?_ ?_
      · exact st_loadZ l3_3 e3_3 hN_3 (by kernel_rfl) rfl
      refine pk_cons rfl rfl ?_ ?_
      · exact st_loadZ l4_3 e4_3 hN_3 (by kernel_rfl) rfl
      refine pk_cons rfl rfl ?_ ?_
      · exact st_call2 hN_3 (by kernel_rfl) (by kernel_rfl) (by kernel_rfl) (by kernel_rfl) (by kernel_rfl) rfl rfl rfl fun w x v1 v2 hC h1 h2 => tq0 (z_divMod0 (dz h1) (dz h2) hb)
      refine pk_cons rfl rfl ?_ ?_
      · exact st_move hN_3 (by kernel_rfl) (by kernel_rfl) rfl rfl
      refine pk_cons rfl rfl ?_ ?_
      · exact st_ext hN_3 (by kernel_rfl) (by kernel_rfl) rfl rfl ext_q
      refine pk_cons rfl rfl ?_ ?_
      · exact st_ext hN_3 (by kernel_rfl) (by kernel_rfl) rfl rfl ext_r
      refine pk_cons rfl rfl ?_ ?_
      · exact st_ext hN_3 (by kernel_rfl) (by kernel_rfl) rfl rfl ext_e
      refine pk_cons rfl rfl ?_ ?_
      · exact st_alloc hN_3 (by kernel_rfl) (Nat.le_refl _) rfl
      refine pk_cons rfl rfl ?_ ?_
      · exact st_alloc hN_3 (by kernel_rfl) (Nat.le_refl _) rfl
      refine pk_cons rfl rfl ?_ ?_
      · exact st_put hN_3 (by kernel_rfl) (by kernel_rfl) (by kernel_rfl) rfl rfl rfl
      refine pk_cons rfl rfl ?_ ?_
      · exact st_put hN_3 (by kernel_rfl) (by kernel_rfl) (by kernel_rfl) rfl rfl rfl
      refine pk_cons rfl rfl ?_ ?_
      · exact st_pure [.int .i64 (9)] [] (.int .i64 (9)) rfl hN_3 (by kernel_rfl) (by kernel_rfl) (by kernel_rfl) old0 (by kernel_rfl) (by kernel_rfl) (by kernel_rfl) (fun _ => by kernel_rfl)
      exact pk_nil rfl
    intro W_4 x hC hall
    refine then_n ?_
    obtain ⟨a_4, ha⟩ : ∃ a, a = putE x a_3 [(0, some 30), (1, some 31), (2, some 32), (3, some 29), (4, some 33), (5, some 34), (6, some 35), (7, some 8), (8, some 9), (9, none), (10, none), (11, some 10)] := ⟨_, rfl⟩
    rw [← ha]
    have hN_4 := size_behind ha hN_3
    have hD_4 := defers_behind ha hD_3
    have bb_4 := bb_3.trans hC.below
    have e3_4 := slot_old ha (by kernel_rfl) e3_3
    have l3_4 := hC.locZ l3_3
    have e4_4 := slot_old ha (by kernel_rfl) e4_3
    have l4_4 := hC.locZ l4_3
    have e5_4 := slot_old ha (by kernel_rfl) e5_3
    have l5_4 := hC.locZ l5_3
    have e22_4 := slot_old ha (by kernel_rfl) e22_3
    have e27_4 := slot_old ha (by kernel_rfl) e27_3
    have e7_4 := slot_old ha (by kernel_rfl) e7_3
    have l7_4 := hC.locR l7_3
    obtain ⟨g8, hx, l8_4⟩ := put_loc (show (kPutZ 7 1 (0)).sem _ _ _ _ from hall 9 (of_decide_eq_true (by kernel_rfl)))
    have e8_4 := (slot_new (t := 8) (i := 7) ha hN_3 (by kernel_rfl) (by kernel_rfl)).trans hx
    clear hx
    obtain ⟨g9, hx, l9_4⟩ := put_loc (show (kPutZ 8 1 (0)).sem _ _ _ _ from hall 10 (of_decide_eq_true (by kernel_rfl)))
    have e9_4 := (slot_new (t := 9) (i := 8) ha hN_3 (by kernel_rfl) (by kernel_rfl)).trans hx
    clear hx
    have e10_4 := (slot_new (t := 10) (i := 11) ha hN_3 (by kernel_rfl) (by kernel_rfl)).trans (show x 11 = .int .i64 (9) from hall 11 (of_decide_eq_true (by kernel_rfl)))
    clear hall hC ha bb_3 hD_3 e3_3 l3_3 e4_3 l4_3 e5_3 l5_3 e22_3 e27_3 e7_3 l7_3
    repeat (first | refine wp_seq ?_ | (refine wp_skip ?_; refine then_n ?_))
    refine wp_region_law hN_4 w.heap.size
      [kZd 1001 (zb), kZ 1 (0), kIs (.int .i64 (0)), kIs (.bool true)]
      [ [], [], [(0, some 36), (1, some 37)], [(2, some 38)] ]
      [(0, some 36), (1, some 37), (2, some 38), (3, some 39)] [] [] (by kernel_rfl) (by kernel_rfl) (by kernel_rfl) (by kernel_rfl) (by kernel_rfl) (by kernel_rfl) (by kernel_rfl) bb_4.size ?_ ?_
    ·
      refine pk_cons rfl rfl ?_ ?_
      · exact st_loadZ l4_4 e4_4 hN_4 (by kernel_rfl) rfl
      refine pk_cons rfl rfl ?_ ?_
      · exact st_loadR l7_4 e7_4 hN_4 (by kernel_rfl) rfl
      refine pk_cons rfl rfl ?_ ?_
      · exact st_call2 hN_4 (by kernel_rfl) (by kernel_rfl) (by kernel_rfl) (by kernel_rfl) (by kernel_rfl) rfl rfl rfl fun w x v1 v2 hC h1 h2 => ti (cmp_is (ord_eq hb) (z_cmp (dz h1) (rz h2) (by decide) (by decide)))
      refine pk_cons rfl rfl ?_ ?_
      · exact st_pure [.int .i64 (0)] [] (.bool true) rfl hN_4 (by kernel_rfl) (by kernel_rfl) (by kernel_rfl) old0 (by kernel_rfl) (by kernel_rfl) (by kernel_rfl) (fun _ => by kernel_rfl)
      exact pk_nil rfl
    intro W_5 x hC hall
    refine then_n ?_
    obtain ⟨a_5, ha⟩ : ∃ a, a = putE x a_4 [(0, some 36), (1, some 37), (2, some 38), (3, some 39)] := ⟨_, rfl⟩
    rw [← ha]
    have hN_5 := size_behind ha hN_4
    have hD_5 := defers_behind ha hD_4
    have bb_5 := bb_4.trans hC.below
    have e3_5 := slot_old ha (by kernel_rfl) e3_4
    have l3_5 := hC.locZ l3_4
    have e4_5 := slot_old ha (by kernel_rfl) e4_4
    have l4_5 := hC.locZ l4_4
    have e5_5 := slot_old ha (by kernel_rfl) e5_4
    have l5_5 := hC.locZ l5_4
    have e22_5 := slot_old ha (by kernel_rfl) e22_4
    have e27_5 := slot_old ha (by kernel_rfl) e27_4
    have e7_5 := slot_old ha (by kernel_rfl) e7_4
    have l7_5 := hC.locR l7_4
    have e8_5 := slot_old ha (by kernel_rfl) e8_4
    have l8_5 := hC.locR l8_4
    have e9_5 := slot_old ha (by kernel_rfl) e9_4
    have l9_5 := hC.locR l9_4
    have e10_5 := slot_old ha (by kernel_rfl) e10_4
    have e39_5 := (slot_new (t := 39) (i := 3) ha hN_4 (by kernel_rfl) (by kernel_rfl)).trans (show x 3 = .bool true from hall 3 (of_decide_eq_true (by kernel_rfl)))
    clear hall hC ha bb_4 hD_4 e3_4 l3_4 e4_4 l4_4 e5_4 l5_4 e22_4 e27_4 e7_4 l7_4 e8_4 l8_4 e9_4 l9_4 e10_4
    refine wp_cond_true e39_5 ?_
    repeat (first | refine wp_seq ?_ | (refine wp_skip ?_; refine then_n ?_))
    refine wp_region_law hN_5 w.heap.size
      [kIs (.int .i64 (9)), kIs (.bool true), kIs (.bool true), kZ 1 (0), kZ 1 (0), kIs (.bool true), kIs (.bool true), kIs (.bool true), kZ 1 (0), kZ 1 (0), kIs (.bool true), kIs (.bool true), kIs (.bool true)]
      [ [], [(0, some 40)], [(1, some 41)], [], [], [(3, some 43), (4, some 44)], [(2, some 42), (5, some 45)], [(6, some 46)], [], [], [(8, some 48), (9, some 49)], [(7, some 47), (10, some 50)], [(11, some 51)] ]
      [(0, some 40), (1, some 41), (2, some 42), (3, some 43), (4, some 44), (5, some 45), (6, some 46), (7, some 47), (8, some 48), (9, some 49), (10, some 50), (11, some 51), (12, some 6)] [(2, true), (7, true)] [] (by kernel_rfl) (by kernel_rfl) (by kernel_rfl) (by kernel_rfl) (by kernel_rfl) (by kernel_rfl) (by kernel_rfl) bb_5.size ?_ ?_
    ·
      refine pk_cons rfl rfl ?_ ?_
      · exact st_pure [] [(10, .int .i64 (9))] (.int .i64 (9)) rfl hN_5 (by kernel_rfl) (by kernel_rfl) (by kernel_rfl) (old1 e10_5) (by kernel_rfl) (by kernel_rfl) (by kernel_rfl) (fun _ => by kernel_rfl)
      refine pk_cons rfl rfl ?_ ?_
      · exact st_pure [.int .i64 (9)] [] (.bool true) rfl hN_5 (by kernel_rfl) (by kernel_rfl) (by kernel_rfl) old0 (by kernel_rfl) (by kernel_rfl) (by kernel_rfl) (fun _ => by kernel_rfl)
      refine pk_cons rfl rfl ?_ ?_
      · exact st_pure [.bool true] [] (.bool true) rfl hN_5 (by kernel_rfl) (by kernel_rfl) (by kernel_rfl) old0 (by kernel_rfl) (by kernel_rfl) (by kernel_rfl) (fun _ => by kernel_rfl)
      refine pk_cons rfl rfl ?_ ?_
      · exact st_loadR l8_5 e8_5 hN_5 (by kernel_rfl) rfl
      refine pk_cons rfl rfl ?_ ?_
      · exact st_loadR l7_5 e7_5 hN_5 (by kernel_rfl) rfl
      refine pk_cons rfl rfl ?_ ?_
      · exact st_call2 hN_5 (by kernel_rfl) (by kernel_rfl) (by kernel_rfl) (by kernel_rfl) (by kernel_rfl) rfl rfl rfl fun w x v1 v2 hC h1 h2 => ti (z_same (rr h1) (rr h2) (rfl))
      refine pk_cons rfl rfl ?_ ?_
      · exact st_pure [.bool true, .bool true] [] (.bool true) rfl hN_5 (by kernel_rfl) (by kernel_rfl) (by kernel_rfl) old0 (by kernel_rfl) (by kernel_rfl) (by kernel_rfl) (fun _ => by kernel_rfl)
      refine pk_cons rfl rfl ?_ ?_
      · exact st_pure [.bool true] [] (.bool true) rfl hN_5 (by kernel_rfl) (by kernel_rfl) (by kernel_rfl) old0 (by kernel_rfl) (by kernel_rfl) (by kernel_rfl) (fun _ => by kernel_rfl)
      refine pk_cons rfl rfl ?_ ?_
      · exact st_loadR l9_5 e9_5 hN_5 (by kernel_rfl) rfl
      refine pk_cons rfl rfl ?_ ?_
      · exact st_loadR l7_5 e7_5 hN_5 (by kernel_rfl) rfl
      refine pk_cons rfl rfl ?_ ?_
      · exact st_call2 hN_5 (by kernel_rfl) (by kernel_rfl) (by kernel_rfl) (by kernel_rfl) (by kernel_rfl) rfl rfl rfl fun w x v1 v2 hC h1 h2 => ti (z_same (rr h1) (rr h2) (rfl))
      refine pk_cons rfl rfl ?_ ?_
      · exact st_pure [.bool true, .bool true] [] (.bool true) rfl hN_5 (by kernel_rfl) (by kernel_rfl) (by kernel_rfl) old0 (by kernel_rfl) (by kernel_rfl) (by kernel_rfl) (fun _ => by kernel_rfl)
      refine pk_cons rfl rfl ?_ ?_
      · exact st_pure [.bool true] [] (.bool true) rfl hN_5 (by kernel_rfl) (by kernel_rfl) (by kernel_rfl) old0 (by kernel_rfl) (by kernel_rfl) (by kernel_rfl) (fun _ => by kernel_rfl)
      exact pk_nil rfl
    intro W_6 x hC hall
    refine then_n ?_
    obtain ⟨a_6, ha⟩ : ∃ a, a = putE x a_5 [(0, some 40), (1, some 41), (2, some 42), (3, some 43), (4, some 44), (5, some 45), (6, some 46), (7, some 47), (8, some 48), (9, some 49), (10, some 50), (11, some 51), (12, some 6)] := ⟨_, rfl⟩
    rw [← ha]
    have hN_6 := size_behind ha hN_5
    have hD_6 := defers_behind ha hD_5
    have bb_6 := bb_5.trans hC.below
    have e3_6 := slot_old ha (by kernel_rfl) e3_5
    have l3_6 := hC.locZ l3_5
    have e4_6 := slot_old ha (by kernel_rfl) e4_5
    have l4_6 := hC.locZ l4_5
    have e5_6 := slot_old ha (by kernel_rfl) e5_5
    have l5_6 := hC.locZ l5_5
    have e22_6 := slot_old ha (by kernel_rfl) e22_5
    have e27_6 := slot_old ha (by kernel_rfl) e27_5
    have e7_6 := slot_old ha (by kernel_rfl) e7_5
    have l7_6 := hC.locR l7_5
    have e8_6 := slot_old ha (by kernel_rfl) e8_5
    have l8_6 := hC.locR l8_5
    have e9_6 := slot_old ha (by kernel_rfl) e9_5
    have l9_6 := hC.locR l9_5
    have e10_6 := slot_old ha (by kernel_rfl) e10_5
    have e39_6 := slot_old ha (by kernel_rfl) e39_5
    have e6_6 := (slot_new (t := 6) (i := 12) ha hN_5 (by kernel_rfl) (by kernel_rfl)).trans (show x 12 = .bool true from hall 12 (of_decide_eq_true (by kernel_rfl)))
    clear hall hC ha bb_5 hD_5 e3_5 l3_5 e4_5 l4_5 e5_5 l5_5 e22_5 e27_5 e7_5 l7_5 e8_5 l8_5 e9_5 l9_5 e10_5 e39_5
    repeat (first | refine wp_seq ?_ | (refine wp_skip ?_; refine then_n ?_))
    refine wp_ret ?_
    repeat (refine then_r ?_)
    exact ret_one (t := 6) rfl hD_6 e6_6 ⟨rfl, bb_6⟩
  ·
    have hb0 : zb ≠ 0 := by omega
    refine wp_region_law hN_3 w.heap.size
      [kZd 1001 (za), kZd 1001 (zb), kZQ 1002 1001 (zq (za) (zb)) (zm (za) (zb)) 0, kZQ 1002 1001 (zq (za) (zb)) (zm (za) (zb)) 0, kZ 1002 (zq (za) (zb)), kZ 1001 (zm (za) (zb)), kIs (.int .i64 (0)), PK.fresh 2, PK.fresh 2, kPutZ 7 1002 (zq (za) (zb)), kPutZ 8 1001 (zm (za) (zb)), kIs (.int .i64 (0))]
      [ [], [], [(0, some 30), (1, some 31)], [(2, some 32)], [(3, some 29)], [(3, some 29)], [(3, some 29)], [], [], [(7, some 8), (4, some 33)], [(8, some 9), (5, some 34)], [(6, some 35)] ]
      [(0, some 30), (1, some 31), (2, some 32), (3, some 29), (4, some 33), (5, some 34), (6, some 35), (7, some 8), (8, some 9), (9, none), (10, none), (11, some 10)] [] [] (by kernel_rfl) (by kernel_rfl) (by kernel_rfl) (by kernel_rfl) (by kernel_rfl) (by kernel_rfl) (by kernel_rfl) bb_3.size ?_ ?_
    ·
      refine pk_cons rfl rfl ?_ ?_
      · exact st_loadZ l3_3 e3_3 hN_3 (by kernel_rfl) rfl
      refine pk_cons rfl rfl ?_ ?_
      · exact st_loadZ l4_3 e4_3 hN_3 (by kernel_rfl) rfl
      refine pk_cons rfl rfl ?_ ?_
      · exact st_call2 hN_3 (by kernel_rfl) (by kernel_rfl) (by kernel_rfl) (by kernel_rfl) (by kernel_rfl) rfl rfl rfl fun w x v1 v2 hC h1 h2 => tq (z_divMod (m := 1002) (dz h1) (dz h2) hb0 (by decide) (by decide) (by decide) (by decide))
      refine pk_cons rfl rfl ?_ ?_
      · exact st_move hN_3 (by kernel_rfl) (by kernel_rfl) rfl rfl
      refine pk_cons rfl rfl ?_ ?_
      · exact st_ext hN_3 (by kernel_rfl) (by kernel_rfl) rfl rfl ext_q
      refine pk_cons rfl rfl ?_ ?_
      · exact st_ext hN_3 (by kernel_rfl) (by kernel_rfl) rfl rfl ext_r
      refine pk_cons rfl rfl ?_ ?_
      · exact st_ext hN_3 (by kernel_rfl) (by kernel_rfl) rfl rfl ext_e
      refine pk_cons rfl rfl ?_ ?_
      · exact st_alloc hN_3 (by kernel_rfl) (Nat.le_refl _) rfl
      refine pk_cons rfl rfl ?_ ?_
      · exact st_alloc hN_3 (by kernel_rfl) (Nat.le_refl _) rfl
      refine pk_cons rfl rfl ?_ ?_
      · exact st_put hN_3 (by kernel_rfl) (by kernel_rfl) (by kernel_rfl) rfl rfl rfl
      refine pk_cons rfl rfl ?_ ?_
      · exact st_put hN_3 (by kernel_rfl) (by kernel_rfl) (by kernel_rfl) rfl rfl rfl
      refine pk_cons rfl rfl ?_ ?_
      · exact st_pure [.int .i64 (0)] [] (.int .i64 (0)) rfl hN_3 (by kernel_rfl) (by kernel_rfl) (by kernel_rfl) old0 (by kernel_rfl) (by kernel_rfl) (by kernel_rfl) (fun _ => by kernel_rfl)
      exact pk_nil rfl
    intro W_4 x hC hall
    refine then_n ?_
    obtain ⟨a_4, ha⟩ : ∃ a, a = putE x a_3 [(0, some 30), (1, some 31), (2, some 32), (3, some 29), (4, some 33), (5, some 34), (6, some 35), (7, some 8), (8, some 9), (9, none), (10, none), (11, some 10)] := ⟨_, rfl⟩
    rw [← ha]
    have hN_4 := size_behind ha hN_3
    have hD_4 := defers_behind ha hD_3
    have bb_4 := bb_3.trans hC.below
    have e3_4 := slot_old ha (by kernel_rfl) e3_3
    have l3_4 := hC.locZ l3_3
    have e4_4 := slot_old ha (by kernel_rfl) e4_3
    have l4_4 := hC.locZ l4_3
    have e5_4 := slot_old ha (by kernel_rfl) e5_3
    have l5_4 := hC.locZ l5_3
    have e22_4 := slot_old ha (by kernel_rfl) e22_3
    have e27_4 := slot_old ha (by kernel_rfl) e27_3
    have e7_4 := slot_old ha (by kernel_rfl) e7_3
    have l7_4 := hC.locR l7_3
    obtain ⟨g8, hx, l8_4⟩ := put_loc (show (kPutZ 7 1002 (zq (za) (zb))).sem _ _ _ _ from hall 9 (of_decide_eq_true (by kernel_rfl)))
    have e8_4 := (slot_new (t := 8) (i := 7) ha hN_3 (by kernel_rfl) (by kernel_rfl)).trans hx
    clear hx
    obtain ⟨g9, hx, l9_4⟩ := put_loc (show (kPutZ 8 1001 (zm (za) (zb))).sem _ _ _ _ from hall 10 (of_decide_eq_true (by kernel_rfl)))
    have e9_4 := (slot_new (t := 9) (i := 8) ha hN_3 (by kernel_rfl) (by kernel_rfl)).trans hx
    clear hx
    have e10_4 := (slot_new (t := 10) (i := 11) ha hN_3 (by kernel_rfl) (by kernel_rfl)).trans (show x 11 = .int .i64 (0) from hall 11 (of_decide_eq_true (by kernel_rfl)))
    clear hall hC ha bb_3 hD_3 e3_3 l3_3 e4_3 l4_3 e5_3 l5_3 e22_3 e27_3 e7_3 l7_3
    repeat (first | refine wp_seq ?_ | (refine wp_skip ?_; refine then_n ?_))
    refine wp_region_law hN_4 w.heap.size
      [kZd 1001 (zb), kZ 1 (0), kIs (.int .i64 (1)), kIs (.bool false)]
      [ [], [], [(0, some 36), (1, some 37)], [(2, some 38)] ]
      [(0, some 36), (1, some 37), (2, some 38), (3, some 39)] [] [] (by kernel_rfl) (by kernel_rfl) (by kernel_rfl) (by kernel_rfl) (by kernel_rfl) (by kernel_rfl) (by kernel_rfl) bb_4.size ?_ ?_
    ·
      refine pk_cons rfl rfl ?_ ?_
      · exact st_loadZ l4_4 e4_4 hN_4 (by kernel_rfl) rfl
      refine pk_cons rfl rfl ?_ ?_
      · exact st_loadR l7_4 e7_4 hN_4 (by kernel_rfl) rfl
      refine pk_cons rfl rfl ?_ ?_
      · exact st_call2 hN_4 (by kernel_rfl) (by kernel_rfl) (by kernel_rfl) (by kernel_rfl) (by kernel_rfl) rfl rfl rfl fun w x v1 v2 hC h1 h2 => ti (cmp_is (ord_gt hb) (z_cmp (dz h1) (rz h2) (by decide) (by decide)))
      refine pk_cons rfl rfl ?_ ?_
      · exact st_pure [.int .i64 (1)] [] (.bool false) rfl hN_4 (by kernel_rfl) (by kernel_rfl) (by kernel_rfl) old0 (by kernel_rfl) (by kernel_rfl) (by kernel_rfl) (fun _ => by kernel_rfl)
      exact pk_nil rfl
    intro W_5 x hC hall
    refine then_n ?_
    obtain ⟨a_5, ha⟩ : ∃ a, a = putE x a_4 [(0, some 36), (1, some 37), (2, some 38), (3, some 39)] := ⟨_, rfl⟩
    rw [← ha]
    have hN_5 := size_behind ha hN_4
    have hD_5 := defers_behind ha hD_4
    have bb_5 := bb_4.trans hC.below
    have e3_5 := slot_old ha (by kernel_rfl) e3_4
    have l3_5 := hC.locZ l3_4
    have e4_5 := slot_old ha (by kernel_rfl) e4_4
    have l4_5 := hC.locZ l4_4
    have e5_5 := slot_old ha (by kernel_rfl) e5_4
    have l5_5 := hC.locZ l5_4
    have e22_5 := slot_old ha (by kernel_rfl) e22_4
    have e27_5 := slot_old ha (by kernel_rfl) e27_4
    have e7_5 := slot_old ha (by kernel_rfl) e7_4
    have l7_5 := hC.locR l7_4
    have e8_5 := slot_old ha (by kernel_rfl) e8_4
    have l8_5 := hC.locR l8_4
    have e9_5 := slot_old ha (by kernel_rfl) e9_4
    have l9_5 := hC.locR l9_4
    have e10_5 := slot_old ha (by kernel_rfl) e10_4
    have e39_5 := (slot_new (t := 39) (i := 3) ha hN_4 (by kernel_rfl) (by kernel_rfl)).trans (show x 3 = .bool false from hall 3 (of_decide_eq_true (by kernel_rfl)))
    clear hall hC ha bb_4 hD_4 e3_4 l3_4 e4_4 l4_4 e5_4 l5_4 e22_4 e27_4 e7_4 l7_4 e8_4 l8_4 e9_4 l9_4 e10_4
    refine wp_cond_false e39_5 ?_
    repeat (first | refine wp_seq ?_ | (refine wp_skip ?_; refine then_n ?_))
    refine wp_region_law hN_5 w.heap.size
      [kIs (.int .i64 (0)), kIs (.bool false), kIs (.bool false), kZ 1002 (zq (za) (zb)), kZd 1001 (zb), kZs [(1002, (zq (za) (zb))), (1001, (zb))], kZ 2003 ((zq (za) (zb)) * (zb)), kZ 1001 (zm (za) (zb)), kZs [(2003, ((zq (za) (zb)) * (zb))), (1001, (zm (za) (zb)))], kZ 2004 (((zq (za) (zb)) * (zb)) + (zm (za) (zb))), kZd 1001 (za), kIs (.int .i64 (0)), kIs (.bool false), kIs (.bool false)]
      [ [], [(0, some 52)], [(1, some 53)], [], [], [(3, some 55), (4, some 56)], [(5, some 57)], [], [(6, some 58), (7, some 59)], [(8, some 60)], [], [(9, some 61), (10, some 62)], [(11, some 63)], [(2, some 54), (12, some 64)] ]
      [(0, some 52), (1, some 53), (2, some 54), (3, some 55), (4, some 56), (5, some 57), (6, some 58), (7, some 59), (8, some 60), (9, some 61), (10, some 62), (11, some 63), (12, some 64), (13, some 65)] [(2, false)] [] (by kernel_rfl) (by kernel_rfl) (by kernel_rfl) (by kernel_rfl) (by kernel_rfl) (by kernel_rfl) (by kernel_rfl) bb_5.size ?_ ?_
    ·
      refine pk_cons rfl rfl ?_ ?_
      · exact st_pure [] [(10, .int .i64 (0))] (.int .i64 (0)) rfl hN_5 (by kernel_rfl) (by kernel_rfl) (by kernel_rfl) (old1 e10_5) (by kernel_rfl) (by kernel_rfl) (by kernel_rfl) (fun _ => by kernel_rfl)
      refine pk_cons rfl rfl ?_ ?_
      · exact st_pure [.int .i64 (0)] [] (.bool false) rfl hN_5 (by kernel_rfl) (by kernel_rfl) (by kernel_rfl) old0 (by kernel_rfl) (by kernel_rfl) (by kernel_rfl) (fun _ => by kernel_rfl)
      refine pk_cons rfl rfl ?_ ?_
      · exact st_pure [.bool false] [] (.bool false) rfl hN_5 (by kernel_rfl) (by kernel_rfl) (by kernel_rfl) old0 (by kernel_rfl) (by kernel_rfl) (by kernel_rfl) (fun _ => by kernel_rfl)
      refine pk_cons rfl rfl ?_ ?_
      · exact st_loadR l8_5 e8_5 hN_5 (by kernel_rfl) rfl
      refine pk_cons rfl rfl ?_ ?_
      · exact st_loadZ l4_5 e4_5 hN_5 (by kernel_rfl) rfl
      refine pk_cons rfl rfl ?_ ?_
      · exact st_list2 hN_5 (by kernel_rfl) (by kernel_rfl) (by kernel_rfl) (by kernel_rfl) (Nat.le_refl _) asR asD rfl
      refine pk_cons rfl rfl ?_ ?_
      · exact st_call1 hN_5 (by kernel_rfl) (by kernel_rfl) (by kernel_rfl) rfl rfl fun w x v1 hC h1 => tz (l_mul2 2003 (lz h1) (by decide) (by decide) (by decide))
      refine pk_cons rfl rfl ?_ ?_
      · exact st_loadR l9_5 e9_5 hN_5 (by kernel_rfl) rfl
      refine pk_cons rfl rfl ?_ ?_
      · exact st_list2 hN_5 (by kernel_rfl) (by kernel_rfl) (by kernel_rfl) (by kernel_rfl) (Nat.le_refl _) asR asR rfl
      refine pk_cons rfl rfl ?_ ?_
      · exact st_call1 hN_5 (by kernel_rfl) (by kernel_rfl) (by kernel_rfl) rfl rfl fun w x v1 hC h1 => tz (l_add2 2004 (lz h1) (by decide) (by decide) (by decide))
      refine pk_cons rfl rfl ?_ ?_
      · exact st_loadZ l3_5 e3_5 hN_5 (by kernel_rfl) rfl
      refine pk_cons rfl rfl ?_ ?_
      · exact st_call2 hN_5 (by kernel_rfl) (by kernel_rfl) (by kernel_rfl) (by kernel_rfl) (by kernel_rfl) rfl rfl rfl fun w x v1 v2 hC h1 h2 => ti (cmp_is (ord_eq (zq_zm hb0)) (z_cmp (rz h1) (dz h2) (by decide) (by decide)))
      refine pk_cons rfl rfl ?_ ?_
      · exact st_pure [.int .i64 (0)] [] (.bool false) rfl hN_5 (by kernel_rfl) (by kernel_rfl) (by kernel_rfl) old0 (by kernel_rfl) (by kernel_rfl) (by kernel_rfl) (fun _ => by kernel_rfl)
      refine pk_cons rfl rfl ?_ ?_
      · exact st_pure [.bool false, .bool false] [] (.bool false) rfl hN_5 (by kernel_rfl) (by kernel_rfl) (by kernel_rfl) old0 (by kernel_rfl) (by kernel_rfl) (by kernel_rfl) (fun _ => by kernel_rfl)
      exact pk_nil rfl
    intro W_6 x hC hall
    refine then_n ?_
    obtain ⟨a_6, ha⟩ : ∃ a, a = putE x a_5 [(0, some 52), (1, some 53), (2, some 54), (3, some 55), (4, some 56), (5, some 57), (6, some 58), (7, some 59), (8, some 60), (9, some 61), (10, some 62), (11, some 63), (12, some 64), (13, some 65)] := ⟨_, rfl⟩
    rw [← ha]
    have hN_6 := size_behind ha hN_5
    have hD_6 := defers_behind ha hD_5
    have bb_6 := bb_5.trans hC.below
    have e3_6 := slot_old ha (by kernel_rfl) e3_5
    have l3_6 := hC.locZ l3_5
    have e4_6 := slot_old ha (by kernel_rfl) e4_5
    have l4_6 := hC.locZ l4_5
    have e5_6 := slot_old ha (by kernel_rfl) e5_5
    have l5_6 := hC.locZ l5_5
    have e22_6 := slot_old ha (by kernel_rfl) e22_5
    have e27_6 := slot_old ha (by kernel_rfl) e27_5
    have e7_6 := slot_old ha (by kernel_rfl) e7_5
    have l7_6 := hC.locR l7_5
    have e8_6 := slot_old ha (by kernel_rfl) e8_5
    have l8_6 := hC.locR l8_5
    have e9_6 := slot_old ha (by kernel_rfl) e9_5
    have l9_6 := hC.locR l9_5
    have e10_6 := slot_old ha (by kernel_rfl) e10_5
    have e39_6 := slot_old ha (by kernel_rfl) e39_5
    have e65_6 := (slot_new (t := 65) (i := 13) ha hN_5 (by kernel_rfl) (by kernel_rfl)).trans (show x 13 = .bool false from hall 13 (of_decide_eq_true (by kernel_rfl)))
    clear hall hC ha bb_5 hD_5 e3_5 l3_5 e4_5 l4_5 e5_5 l5_5 e22_5 e27_5 e7_5 l7_5 e8_5 l8_5 e9_5 l9_5 e10_5 e39_5
    refine wp_cond_false e65_6 ?_
    repeat (first | refine wp_seq ?_ | (refine wp_skip ?_; refine then_n ?_))
    refine wp_region_law hN_6 w.heap.size
      [kZd 1001 (zb), kZ 1 (0), kIs (.int .i64 (1)), kIs (.bool true), kIs (.bool true), kZ 1001 (zm (za) (zb)), kZ 1 (0), kIs (.int .i64 (ordI (zm (za) (zb)) (0))), kIs (.bool false), kIs (.bool false), kZ 1001 (zm (za) (zb)), kZd 1001 (zb), kIs (.int .i64 (ordI (zm (za) (zb)) (zb))), kIs (.bool false), kIs (.bool false), kIs (.bool false), kIs (.bool false), kZd 1001 (zb), kZ 1 (0), kIs (.int .i64 (1)), kIs (.bool false), kIs (.bool false), kIs undef, kIs undef, kIs undef, kIs undef, kIs undef, kIs undef, kIs undef, kIs undef, kIs undef, kIs undef, kIs (.bool false), kIs (.bool false)]
      [ [], [], [(0, some 66), (1, some 67)], [(2, some 68)], [(3, some 69)], [], [], [(5, some 71), (6, some 72)], [(7, some 73)], [(8, some 74)], [], [], [(10, some 76), (11, some 77)], [(12, some 78)], [(9, some 75), (13, some 79)], [(4, some 70), (14, some 80)], [(15, some 81)], [], [], [(17, some 83), (18, some 84)], [(19, some 85)], [(20, some 86)], [], [], [(22, some 88), (23, some 89)], [(24, some 90)], [(25, some 91)], [], [], [(27, some 93), (28, some 94)], [(29, some 95)], [(26, some 92), (30, some 96)], [(21, some 87), (31, some 97)], [(16, some 82), (32, some 98)] ]
      [(0, some 66), (1, some 67), (2, some 68), (3, some 69), (4, some 70), (5, some 71), (6, some 72), (7, some 73), (8, some 74), (9, some 75), (10, some 76), (11, some 77), (12, some 78), (13, some 79), (14, some 80), (15, some 81), (16, some 82), (17, some 83), (18, some 84), (19, some 85), (20, some 86), (21, some 87), (22, some 88), (23, some 89), (24, some 90), (25, some 91), (26, some 92), (27, some 93), (28, some 94), (29, some 95), (30, some 96), (31, some 97), (32, some 98), (33, some 99)] [(4, true), (9, false), (16, false), (21, false)] [22, 23, 24, 25, 26, 27, 28, 29, 30, 31] (by kernel_rfl) (by kernel_rfl) (by kernel_rfl) (by kernel_rfl) (by kernel_rfl) (by kernel_rfl) (by kernel_rfl) bb_6.size ?_ ?_
    ·
      refine pk_cons rfl rfl ?_ ?_
      · exact st_loadZ l4_6 e4_6 hN_6 (by kernel_rfl) rfl
      refine pk_cons rfl rfl ?_ ?_
      · exact st_loadR l7_6 e7_6 hN_6 (by kernel_rfl) rfl
      refine pk_cons rfl rfl ?_ ?_
      · exact st_call2 hN_6 (by kernel_rfl) (by kernel_rfl) (by kernel_rfl) (by kernel_rfl) (by kernel_rfl) rfl rfl rfl fun w x v1 v2 hC h1 h2 => ti (cmp_is (ord_gt hb) (z_cmp (dz h1) (rz h2) (by decide) (by decide)))
      refine pk_cons rfl rfl ?_ ?_
      · exact st_pure [.int .i64 (1)] [] (.bool true) rfl hN_6 (by kernel_rfl) (by kernel_rfl) (by kernel_rfl) old0 (by kernel_rfl) (by kernel_rfl) (by kernel_rfl) (fun _ => by kernel_rfl)
      refine pk_cons rfl rfl ?_ ?_
      · exact st_pure [.bool true] [] (.bool true) rfl hN_6 (by kernel_rfl) (by kernel_rfl) (by kernel_rfl) old0 (by kernel_rfl) (by kernel_rfl) (by kernel_rfl) (fun _ => by kernel_rfl)
      refine pk_cons rfl rfl ?_ ?_
      · exact st_loadR l9_6 e9_6 hN_6 (by kernel_rfl) rfl
      refine pk_cons rfl rfl ?_ ?_
      · exact st_loadR l7_6 e7_6 hN_6 (by kernel_rfl) rfl
      refine pk_cons rfl rfl ?_ ?_
      · exact st_call2 hN_6 (by kernel_rfl) (by kernel_rfl) (by kernel_rfl) (by kernel_rfl) (by kernel_rfl) rfl rfl rfl fun w x v1 v2 hC h1 h2 => ti (z_cmp (rz h1) (rz h2) (by decide) (by decide))
      refine pk_cons rfl rfl ?_ ?_
      · exact st_pureV [.int .i64 (ordI (zm (za) (zb)) (0))] [] (.bool (decide (ordI (zm (za) (zb)) (0) < 0))) (.bool false) (congrArg Value.bool (decide_eq_false (by unfold ordI; have := zm_pos (x := za) hb; split <;> (try split) <;> omega))) rfl hN_6 (by kernel_rfl) (by kernel_rfl) (by kernel_rfl) old0 (by kernel_rfl) (by kernel_rfl) (by kernel_rfl) (fun _ => by kernel_rfl)
      refine pk_cons rfl rfl ?_ ?_
      · exact st_pure [.bool false] [] (.bool false) rfl hN_6 (by kernel_rfl) (by kernel_rfl) (by kernel_rfl) old0 (by kernel_rfl) (by kernel_rfl) (by kernel_rfl) (fun _ => by kernel_rfl)
      refine pk_cons rfl rfl ?_ ?_
      · exact st_loadR l9_6 e9_6 hN_6 (by kernel_rfl) rfl
      refine pk_cons rfl rfl ?_ ?_
      · exact st_loadZ l4_6 e4_6 hN_6 (by kernel_rfl) rfl
      refine pk_cons rfl rfl ?_ ?_
      · exact st_call2 hN_6 (by kernel_rfl) (by kernel_rfl) (by kernel_rfl) (by kernel_rfl) (by kernel_rfl) rfl rfl rfl fun w x v1 v2 hC h1 h2 => ti (z_cmp (rz h1) (dz h2) (by decide) (by decide))
      refine pk_cons rfl rfl ?_ ?_
      · exact st_pureV [.int .i64 (ordI (zm (za) (zb)) (zb))] [] (.bool (decide (ordI (zm (za) (zb)) (zb) ≥ 0))) (.bool false) (congrArg Value.bool (decide_eq_false (by unfold ordI; have := zm_pos (x := za) hb; split <;> (try split) <;> omega))) rfl hN_6 (by kernel_rfl) (by kernel_rfl) (by kernel_rfl) old0 (by kernel_rfl) (by kernel_rfl) (by kernel_rfl) (fun _ => by kernel_rfl)
      refine pk_cons rfl rfl ?_ ?_
      · exact st_pure [.bool false, .bool false] [] (.bool false) rfl hN_6 (by kernel_rfl) (by kernel_rfl) (by kernel_rfl) old0 (by kernel_rfl) (by kernel_rfl) (by kernel_rfl) (fun _ => by kernel_rfl)
      refine pk_cons rfl rfl ?_ ?_
      · exact st_pure [.bool true, .bool false] [] (.bool false) rfl hN_6 (by kernel_rfl) (by kernel_rfl) (by kernel_rfl) old0 (by kernel_rfl) (by kernel_rfl) (by kernel_rfl) (fun _ => by kernel_rfl)
      refine pk_cons rfl rfl ?_ ?_
      · exact st_pure [.bool false] [] (.bool false) rfl hN_6 (by kernel_rfl) (by kernel_rfl) (by kernel_rfl) old0 (by kernel_rfl) (by kernel_rfl) (by kernel_rfl) (fun _ => by kernel_rfl)
      refine pk_cons rfl rfl ?_ ?_
      · exact st_loadZ l4_6 e4_6 hN_6 (by kernel_rfl) rfl
      refine pk_cons rfl rfl ?_ ?_
      · exact st_loadR l7_6 e7_6 hN_6 (by kernel_rfl) rfl
      refine pk_cons rfl rfl ?_ ?_
      · exact st_call2 hN_6 (by kernel_rfl) (by kernel_rfl) (by kernel_rfl) (by kernel_rfl) (by kernel_rfl) rfl rfl rfl fun w x v1 v2 hC h1 h2 => ti (cmp_is (ord_gt hb) (z_cmp (dz h1) (rz h2) (by decide) (by decide)))
      refine pk_cons rfl rfl ?_ ?_
      · exact st_pure [.int .i64 (1)] [] (.bool false) rfl hN_6 (by kernel_rfl) (by kernel_rfl) (by kernel_rfl) old0 (by kernel_rfl) (by kernel_rfl) (by kernel_rfl) (fun _ => by kernel_rfl)
      refine pk_cons rfl rfl ?_ ?_
      · exact st_pure [.bool false] [] (.bool false) rfl hN_6 (by kernel_rfl) (by kernel_rfl) (by kernel_rfl) old0 (by kernel_rfl) (by kernel_rfl) (by kernel_rfl) (fun _ => by kernel_rfl)
      refine pk_skip rfl ?_
      refine pk_skip rfl ?_
      refine pk_skip rfl ?_
      refine pk_skip rfl ?_
      refine pk_skip rfl ?_
      refine pk_skip rfl ?_
      refine pk_skip rfl ?_
      refine pk_skip rfl ?_
      refine pk_skip rfl ?_
      refine pk_skip rfl ?_
      refine pk_cons rfl rfl ?_ ?_
      · exact st_pure [.bool false, undef] [] (.bool false) rfl hN_6 (by kernel_rfl) (by kernel_rfl) (by kernel_rfl) old0 (by kernel_rfl) (by kernel_rfl) (by kernel_rfl) (fun _ => by kernel_rfl)
      refine pk_cons rfl rfl ?_ ?_
      · exact st_pure [.bool false, .bool false] [] (.bool false) rfl hN_6 (by kernel_rfl) (by kernel_rfl) (by kernel_rfl) old0 (by kernel_rfl) (by kernel_rfl) (by kernel_rfl) (fun _ => by kernel_rfl)
      exact pk_nil rfl
    intro W_7 x hC hall
    refine then_n ?_
    obtain ⟨a_7, ha⟩ : ∃ a, a = putE x a_6 [(0, some 66), (1, some 67), (2, some 68), (3, some 69), (4, some 70), (5, some 71), (6, some 72), (7, some 73), (8, some 74), (9, some 75), (10, some 76), (11, some 77), (12, some 78), (13, some 79), (14, some 80), (15, some 81), (16, some 82), (17, some 83), (18, some 84), (19, some 85), (20, some 86), (21, some 87), (22, some 88), (23, some 89), (24, some 90), (25, some 91), (26, some 92), (27, some 93), (28, some 94), (29, some 95), (30, some 96), (31, some 97), (32, some 98), (33, some 99)] := ⟨_, rfl⟩
    rw [← ha]
    have hN_7 := size_behind ha hN_6
    have hD_7 := defers_behind ha hD_6
    have bb_7 := bb_6.trans hC.below
    have e3_7 := slot_old ha (by kernel_rfl) e3_6
    have l3_7 := hC.locZ l3_6
    have e4_7 := slot_old ha (by kernel_rfl) e4_6
    have l4_7 := hC.locZ l4_6
    have e5_7 := slot_old ha (by kernel_rfl) e5_6
    have l5_7 := hC.locZ l5_6
    have e22_7 := slot_old ha (by kernel_rfl) e22_6
    have e27_7 := slot_old ha (by kernel_rfl) e27_6
    have e7_7 := slot_old ha (by kernel_rfl) e7_6
    have l7_7 := hC.locR l7_6
    have e8_7 := slot_old ha (by kernel_rfl) e8_6
    have l8_7 := hC.locR l8_6
    have e9_7 := slot_old ha (by kernel_rfl) e9_6
    have l9_7 := hC.locR l9_6
    have e10_7 := slot_old ha (by kernel_rfl) e10_6
    have e39_7 := slot_old ha (by kernel_rfl) e39_6
    have e65_7 := slot_old ha (by kernel_rfl) e65_6
    have e99_7 := (slot_new (t := 99) (i := 33) ha hN_6 (by kernel_rfl) (by kernel_rfl)).trans (show x 33 = .bool false from hall 33 (of_decide_eq_true (by kernel_rfl)))
    clear hall hC ha bb_6 hD_6 e3_6 l3_6 e4_6 l4_6 e5_6 l5_6 e22_6 e27_6 e7_6 l7_6 e8_6 l8_6 e9_6 l9_6 e10_6 e39_6 e65_6
    refine wp_cond_false e99_7 ?_
    repeat (first | refine wp_seq ?_ | (refine wp_skip ?_; refine then_n ?_))
    by_cases hc : zc = 0
    ·
      refine wp_region_law hN_7 w.heap.size
        [kZd 1001 (za), kZd 1001 (zc), kZs [(1001, (za)), (1001, (zc))], kZ 2002 ((za) * (zc)), kZd 1001 (zb), kZd 1001 (zc), kZs [(1001, (zb)), (1001, (zc))], kZ 2002 ((zb) * (zc)), kZs [(2002, ((za) * (zc))), (2002, ((zb) * (zc)))], kZ 2002 (((zgcd [((za) * (zc)), ((zb) * (zc))] : Nat) : Int)), PK.fresh 2, kPutZ 10 2002 (((zgcd [((za) * (zc)), ((zb) * (zc))] : Nat) : Int))]
        [ [], [], [(0, some 100), (1, some 101)], [(2, some 102)], [], [], [(4, some 104), (5, some 105)], [(6, some 106)], [(3, some 103), (7, some 107)], [(8, some 108)], [], [(10, some 11), (9, some 109)] ]
        [(0, some 100), (1, some 101), (2, some 102), (3, some 103), (4, some 104), (5, some 105), (6, some 106), (7, some 107), (8, some 108), (9, some 109), (10, some 11), (11, none)] [] [] (by kernel_rfl) (by kernel_rfl) (by kernel_rfl) (by kernel_rfl) (by kernel_rfl) (by kernel_rfl) (by kernel_rfl) bb_7.size ?_ ?_
      ·
        refine pk_cons rfl rfl ?_ ?_
        · exact st_loadZ l3_7 e3_7 hN_7 (by kernel_rfl) rfl
        refine pk_cons rfl rfl ?_ ?_
        · exact st_loadZ l5_7 e5_7 hN_7 (by kernel_rfl) rfl
        refine pk_cons rfl rfl ?_ ?_
        · exact st_list2 hN_7 (by kernel_rfl) (by kernel_rfl) (by kernel_rfl) (by kernel_rfl) (Nat.le_refl _) asD asD rfl
        refine pk_cons rfl rfl ?_ ?_
        · exact st_call1 hN_7 (by kernel_rfl) (by kernel_rfl) (by kernel_rfl) rfl rfl fun w x v1 hC h1 => tz (l_mul2 2002 (lz h1) (by decide) (by decide) (by decide))
        refine pk_cons rfl rfl ?_ ?_
        · exact st_loadZ l4_7 e4_7 hN_7 (by kernel_rfl) rfl
        refine pk_cons rfl rfl ?_ ?_
        · exact st_loadZ l5_7 e5_7 hN_7 (by kernel_rfl) rfl
        refine pk_cons rfl rfl ?_ ?_
        · exact st_list2 hN_7 (by kernel_rfl) (by kernel_rfl) (by kernel_rfl) (by kernel_rfl) (Nat.le_refl _) asD asD rfl
        refine pk_cons rfl rfl ?_ ?_
        · exact st_call1 hN_7 (by kernel_rfl) (by kernel_rfl) (by kernel_rfl) rfl rfl fun w x v1 hC h1 => tz (l_mul2 2002 (lz h1) (by decide) (by decide) (by decide))
        refine pk_cons rfl rfl ?_ ?_
        · exact st_list2 hN_7 (by kernel_rfl) (by kernel_rfl) (by kernel_rfl) (by kernel_rfl) (Nat.le_refl _) asR asR rfl
        refine pk_cons rfl rfl ?_ ?_
        · exact st_call1 hN_7 (by kernel_rfl) (by kernel_rfl) (by kernel_rfl) rfl rfl fun w x v1 hC h1 => tz (l_gcd 2002 (lz h1) (by kernel_rfl) (by decide) (by simp))
        refine pk_cons rfl rfl ?_ ?_
        · exact st_alloc hN_7 (by kernel_rfl) (Nat.le_refl _) rfl
        refine pk_cons rfl rfl ?_ ?_
        · exact st_put hN_7 (by kernel_rfl) (by kernel_rfl) (by kernel_rfl) rfl rfl rfl
        exact pk_nil rfl
      intro W_8 x hC hall
      refine then_n ?_
      obtain ⟨a_8, ha⟩ : ∃ a, a = putE x a_7 [(0, some 100), (1, some 101), (2, some 102), (3, some 103), (4, some 104), (5, some 105), (6, some 106), (7, some 107), (8, some 108), (9, some 109), (10, some 11), (11, none)] := ⟨_, rfl⟩
      rw [← ha]
      have hN_8 := size_behind ha hN_7
      have hD_8 := defers_behind ha hD_7
      have bb_8 := bb_7.trans hC.below
      have e3_8 := slot_old ha (by kernel_rfl) e3_7
      have l3_8 := hC.locZ l3_7
      have e4_8 := slot_old ha (by kernel_rfl) e4_7
      have l4_8 := hC.locZ l4_7
      have e5_8 := slot_old ha (by kernel_rfl) e5_7
      have l5_8 := hC.locZ l5_7
      have e22_8 := slot_old ha (by kernel_rfl) e22_7
      have e27_8 := slot_old ha (by kernel_rfl) e27_7
      have e7_8 := slot_old ha (by kernel_rfl) e7_7
      have l7_8 := hC.locR l7_7
      have e8_8 := slot_old ha (by kernel_rfl) e8_7
      have l8_8 := hC.locR l8_7
      have e9_8 := slot_old ha (by kernel_rfl) e9_7
      have l9_8 := hC.locR l9_7
      have e10_8 := slot_old ha (by kernel_rfl) e10_7
      have e39_8 := slot_old ha (by kernel_rfl) e39_7
      have e65_8 := slot_old ha (by kernel_rfl) e65_7
      have e99_8 := slot_old ha (by kernel_rfl) e99_7
      obtain ⟨g11, hx, l11_8⟩ := put_loc (show (kPutZ 10 2002 (((zgcd [((za) * (zc)), ((zb) * (zc))] : Nat) : Int))).sem _ _ _ _ from hall 11 (of_decide_eq_true (by kernel_rfl)))
      have e11_8 := (slot_new (t := 11) (i := 10) ha hN_7 (by kernel_rfl) (by kernel_rfl)).trans hx
      clear hx
      clear hall hC ha bb_7 hD_7 e3_7 l3_7 e4_7 l4_7 e5_7 l5_7 e22_7 e27_7 e7_7 l7_7 e8_7 l8_7 e9_7 l9_7 e10_7 e39_7 e65_7 e99_7
      have hg00 : ((zgcd [((za) * (zc)), ((zb) * (zc))] : Nat) : Int) = 0 := by rw [hc, Int.mul_zero, Int.mul_zero]; rfl
      repeat (first | refine wp_seq ?_ | (refine wp_skip ?_; refine then_n ?_))
      refine wp_region_law hN_8 w.heap.size
        [kZd 1001 (zc), kZ 1 (0), kIs (.int .i64 (0)), kIs (.bool true)]
        [ [], [], [(0, some 110), (1, some 111)], [(2, some 112)] ]
        [(0, some 110), (1, some 111), (2, some 112), (3, some 113)] [] [] (by kernel_rfl) (by kernel_rfl) (by kernel_rfl) (by kernel_rfl) (by kernel_rfl) (by kernel_rfl) (by kernel_rfl) bb_8.size ?_ ?_
      ·
        refine pk_cons rfl rfl ?_ ?_
        · exact st_loadZ l5_8 e5_8 hN_8 (by kernel_rfl) rfl
        refine pk_cons rfl rfl ?_ ?_
        · exact st_loadR l7_8 e7_8 hN_8 (by kernel_rfl) rfl
        refine pk_cons rfl rfl ?_ ?_
        · exact st_call2 hN_8 (by kernel_rfl) (by kernel_rfl) (by kernel_rfl) (by kernel_rfl) (by kernel_rfl) rfl rfl rfl fun w x v1 v2 hC h1 h2 => ti (cmp_is (ord_eq hc) (z_cmp (dz h1) (rz h2) (by decide) (by decide)))
        refine pk_cons rfl rfl ?_ ?_
        · exact st_pure [.int .i64 (0)] [] (.bool true) rfl hN_8 (by kernel_rfl) (by kernel_rfl) (by kernel_rfl) old0 (by kernel_rfl) (by kernel_rfl) (by kernel_rfl) (fun _ => by kernel_rfl)
        exact pk_nil rfl
      intro W_9 x hC hall
      refine then_n ?_
      obtain ⟨a_9, ha⟩ : ∃ a, a = putE x a_8 [(0, some 110), (1, some 111), (2, some 112), (3, some 113)] := ⟨_, rfl⟩
      rw [← ha]
      have hN_9 := size_behind ha hN_8
      have hD_9 := defers_behind ha hD_8
      have bb_9 := bb_8.trans hC.below
      have e3_9 := slot_old ha (by kernel_rfl) e3_8
      have l3_9 := hC.locZ l3_8
      have e4_9 := slot_old ha (by kernel_rfl) e4_8
      have l4_9 := hC.locZ l4_8
      have e5_9 := slot_old ha (by kernel_rfl) e5_8
      have l5_9 := hC.locZ l5_8
      have e22_9 := slot_old ha (by kernel_rfl) e22_8
      have e27_9 := slot_old ha (by kernel_rfl) e27_8
      have e7_9 := slot_old ha (by kernel_rfl) e7_8
      have l7_9 := hC.locR l7_8
      have e8_9 := slot_old ha (by kernel_rfl) e8_8
      have l8_9 := hC.locR l8_8
      have e9_9 := slot_old ha (by kernel_rfl) e9_8
      have l9_9 := hC.locR l9_8
      have e10_9 := slot_old ha (by kernel_rfl) e10_8
      have e39_9 := slot_old ha (by kernel_rfl) e39_8
      have e65_9 := slot_old ha (by kernel_rfl) e65_8
      have e99_9 := slot_old ha (by kernel_rfl) e99_8
      have e11_9 := slot_old ha (by kernel_rfl) e11_8
      have l11_9 := hC.locR l11_8
      have e113_9 := (slot_new (t := 113) (i := 3) ha hN_8 (by kernel_rfl) (by kernel_rfl)).trans (show x 3 = .bool true from hall 3 (of_decide_eq_true (by kernel_rfl)))
      clear hall hC ha bb_8 hD_8 e3_8 l3_8 e4_8 l4_8 e5_8 l5_8 e22_8 e27_8 e7_8 l7_8 e8_8 l8_8 e9_8 l9_8 e10_8 e39_8 e65_8 e99_8 e11_8 l11_8
      refine wp_cond_true e113_9 ?_
      repeat (first | refine wp_seq ?_ | (refine wp_skip ?_; refine then_n ?_))
      refine wp_region_law hN_9 w.heap.size
        [kZ 2002 (((zgcd [((za) * (zc)), ((zb) * (zc))] : Nat) : Int)), kZ 1 (0), kIs (.bool true), kIs (.bool true)]
        [ [], [], [(0, some 114), (1, some 115)], [(2, some 116)] ]
        [(0, some 114), (1, some 115), (2, some 116), (3, some 6)] [] [] (by kernel_rfl) (by kernel_rfl) (by kernel_rfl) (by kernel_rfl) (by kernel_rfl) (by kernel_rfl) (by kernel_rfl) bb_9.size ?_ ?_
      ·
        refine pk_cons rfl rfl ?_ ?_
        · exact st_loadR l11_9 e11_9 hN_9 (by kernel_rfl) rfl
        refine pk_cons rfl rfl ?_ ?_
        · exact st_loadR l7_9 e7_9 hN_9 (by kernel_rfl) rfl
        refine pk_cons rfl rfl ?_ ?_
        · exact st_call2 hN_9 (by kernel_rfl) (by kernel_rfl) (by kernel_rfl) (by kernel_rfl) (by kernel_rfl) rfl rfl rfl fun w x v1 v2 hC h1 h2 => ti (z_same (rr h1) (rr h2) (hg00))
        refine pk_cons rfl rfl ?_ ?_
        · exact st_pure [.bool true] [] (.bool true) rfl hN_9 (by kernel_rfl) (by kernel_rfl) (by kernel_rfl) old0 (by kernel_rfl) (by kernel_rfl) (by kernel_rfl) (fun _ => by kernel_rfl)
        exact pk_nil rfl
      intro W_10 x hC hall
      refine then_n ?_
      obtain ⟨a_10, ha⟩ : ∃ a, a = putE x a_9 [(0, some 114), (1, some 115), (2, some 116), (3, some 6)] := ⟨_, rfl⟩
      rw [← ha]
      have hN_10 := size_behind ha hN_9
      have hD_10 := defers_behind ha hD_9
      have bb_10 := bb_9.trans hC.below
      have e3_10 := slot_old ha (by kernel_rfl) e3_9
      have l3_10 := hC.locZ l3_9
      have e4_10 := slot_old ha (by kernel_rfl) e4_9
      have l4_10 := hC.locZ l4_9
      have e5_10 := slot_old ha (by kernel_rfl) e5_9
      have l5_10 := hC.locZ l5_9
      have e22_10 := slot_old ha (by kernel_rfl) e22_9
      have e27_10 := slot_old ha (by kernel_rfl) e27_9
      have e7_10 := slot_old ha (by kernel_rfl) e7_9
      have l7_10 := hC.locR l7_9
      have e8_10 := slot_old ha (by kernel_rfl) e8_9
      have l8_10 := hC.locR l8_9
      have e9_10 := slot_old ha (by kernel_rfl) e9_9
      have l9_10 := hC.locR l9_9
      have e10_10 := slot_old ha (by kernel_rfl) e10_9
      have e39_10 := slot_old ha (by kernel_rfl) e39_9
      have e65_10 := slot_old ha (by kernel_rfl) e65_9
      have e99_10 := slot_old ha (by kernel_rfl) e99_9
      have e11_10 := slot_old ha (by kernel_rfl) e11_9
      have l11_10 := hC.locR l11_9
      have e113_10 := slot_old ha (by kernel_rfl) e113_9
      have e6_10 := (slot_new (t := 6) (i := 3) ha hN_9 (by kernel_rfl) (by kernel_rfl)).trans (show x 3 = .bool true from hall 3 (of_decide_eq_true (by kernel_rfl)))
      clear hall hC ha bb_9 hD_9 e3_9 l3_9 e4_9 l4_9 e5_9 l5_9 e22_9 e27_9 e7_9 l7_9 e8_9 l8_9 e9_9 l9_9 e10_9 e39_9 e65_9 e99_9 e11_9 l11_9 e113_9
      repeat (first | refine wp_seq ?_ | (refine wp_skip ?_; refine then_n ?_))
      refine wp_ret ?_
      repeat (refine then_r ?_)
      exact ret_one (t := 6) rfl hD_10 e6_10 ⟨rfl, bb_10⟩
    ·
      have hc0 : zc ≠ 0 := hc
      refine wp_region_law hN_7 w.heap.size
        [kZd 1001 (za), kZd 1001 (zc), kZs [(1001, (za)), (1001, (zc))], kZ 2002 ((za) * (zc)), kZd 1001 (zb), kZd 1001 (zc), kZs [(1001, (zb)), (1001, (zc))], kZ 2002 ((zb) * (zc)), kZs [(2002, ((za) * (zc))), (2002, ((zb) * (zc)))], kZ 2002 (((zgcd [((za) * (zc)), ((zb) * (zc))] : Nat) : Int)), PK.fresh 2, kPutZ 10 2002 (((zgcd [((za) * (zc)), ((zb) * (zc))] : Nat) : Int))]
        [ [], [], [(0, some 100), (1, some 101)], [(2, some 102)], [], [], [(4, some 104), (5, some 105)], [(6, some 106)], [(3, some 103), (7, some 107)], [(8, some 108)], [], [(10, some 11), (9, some 109)] ]
        [(0, some 100), (1, some 101), (2, some 102), (3, some 103), (4, some 104), (5, some 105), (6, some 106), (7, some 107), (8, some 108), (9, some 109), (10, some 11), (11, none)] [] [] (by kernel_rfl) (by kernel_rfl) (by kernel_rfl) (by kernel_rfl) (by kernel_rfl) (by kernel_rfl) (by kernel_rfl) bb_7.size ?_ ?_
      ·
        refine pk_cons rfl rfl ?_ ?_
        · exact st_loadZ l3_7 e3_7 hN_7 (by kernel_rfl) rfl
        refine pk_cons rfl rfl ?_ ?_
        · exact st_loadZ l5_7 e5_7 hN_7 (by kernel_rfl) rfl
        refine pk_cons rfl rfl ?_ ?_
        · exact st_list2 hN_7 (by kernel_rfl) (by kernel_rfl) (by kernel_rfl) (by kernel_rfl) (Nat.le_refl _) asD asD rfl
        refine pk_cons rfl rfl ?_ ?_
        · exact st_call1 hN_7 (by kernel_rfl) (by kernel_rfl) (by kernel_rfl) rfl rfl fun w x v1 hC h1 => tz (l_mul2 2002 (lz h1) (by decide) (by decide) (by decide))
        refine pk_cons rfl rfl ?_ ?_
        · exact st_loadZ l4_7 e4_7 hN_7 (by kernel_rfl) rfl
        refine pk_cons rfl rfl ?_ ?_
        · exact st_loadZ l5_7 e5_7 hN_7 (by kernel_rfl) rfl
        refine pk_cons rfl rfl ?_ ?_
        · exact st_list2 hN_7 (by kernel_rfl) (by kernel_rfl) (by kernel_rfl) (by kernel_rfl) (Nat.le_refl _) asD asD rfl
        refine pk_cons rfl rfl ?_ ?_
        · exact st_call1 hN_7 (by kernel_rfl) (by kernel_rfl) (by kernel_rfl) rfl rfl fun w x v1 hC h1 => tz (l_mul2 2002 (lz h1) (by decide) (by decide) (by decide))
        refine pk_cons rfl rfl ?_ ?_
        · exact st_list2 hN_7 (by kernel_rfl) (by kernel_rfl) (by kernel_rfl) (by kernel_rfl) (Nat.le_refl _) asR asR rfl
        refine pk_cons rfl rfl ?_ ?_
        · exact st_call1 hN_7 (by kernel_rfl) (by kernel_rfl) (by kernel_rfl) rfl rfl fun w x v1 hC h1 => tz (l_gcd 2002 (lz h1) (by kernel_rfl) (by decide) (by simp))
        refine pk_cons rfl rfl ?_ ?_
        · exact st_alloc hN_7 (by kernel_rfl) (Nat.le_refl _) rfl
        refine pk_cons rfl rfl ?_ ?_
        · exact st_put hN_7 (by kernel_rfl) (by kernel_rfl) (by kernel_rfl) rfl rfl rfl
        exact pk_nil rfl
      intro W_8 x hC hall
      refine then_n ?_
      obtain ⟨a_8, ha⟩ : ∃ a, a = putE x a_7 [(0, some 100), (1, some 101), (2, some 102), (3, some 103), (4, some 104), (5, some 105), (6, some 106), (7, some 107), (8, some 108), (9, some 109), (10, some 11), (11, none)] := ⟨_, rfl⟩
      rw [← ha]
      have hN_8 := size_behind ha hN_7
      have hD_8 := defers_behind ha hD_7
      have bb_8 := bb_7.trans hC.below
      have e3_8 := slot_old ha (by kernel_rfl) e3_7
      have l3_8 := hC.locZ l3_7
      have e4_8 := slot_old ha (by kernel_rfl) e4_7
      have l4_8 := hC.locZ l4_7
      have e5_8 := slot_old ha (by kernel_rfl) e5_7
      have l5_8 := hC.locZ l5_7
      have e22_8 := slot_old ha (by kernel_rfl) e22_7
      have e27_8 := slot_old ha (by kernel_rfl) e27_7
      have e7_8 := slot_old ha (by kernel_rfl) e7_7
      have l7_8 := hC.locR l7_7
      have e8_8 := slot_old ha (by kernel_rfl) e8_7
      have l8_8 := hC.locR l8_7
      have e9_8 := slot_old ha (by kernel_rfl) e9_7
      have l9_8 := hC.locR l9_7
      have e10_8 := slot_old ha (by kernel_rfl) e10_7
      have e39_8 := slot_old ha (by kernel_rfl) e39_7
      have e65_8 := slot_old ha (by kernel_rfl) e65_7
      have e99_8 := slot_old ha (by kernel_rfl) e99_7
      obtain ⟨g11, hx, l11_8⟩ := put_loc (show (kPutZ 10 2002 (((zgcd [((za) * (zc)), ((zb) * (zc))] : Nat) : Int))).sem _ _ _ _ from hall 11 (of_decide_eq_true (by kernel_rfl)))
      have e11_8 := (slot_new (t := 11) (i := 10) ha hN_7 (by kernel_rfl) (by kernel_rfl)).trans hx
      clear hx
      clear hall hC ha bb_7 hD_7 e3_7 l3_7 e4_7 l4_7 e5_7 l5_7 e22_7 e27_7 e7_7 l7_7 e8_7 l8_7 e9_7 l9_7 e10_7 e39_7 e65_7 e99_7
      have hd1 : ((zgcd [((za) * (zc)), ((zb) * (zc))] : Nat) : Int) ∣ za * zc := gcd2_dvd1 _ _
      have hd2 : ((zgcd [((za) * (zc)), ((zb) * (zc))] : Nat) : Int) ∣ zb * zc := gcd2_dvd2 _ _
      have hd3 : zc ∣ ((zgcd [((za) * (zc)), ((zb) * (zc))] : Nat) : Int) := gcd2_dvd3 _ _ _
      have hg : 0 < ((zgcd [((za) * (zc)), ((zb) * (zc))] : Nat) : Int) := gcd2_pos (Int.mul_ne_zero hb0 hc0)
      have hg0 : ((zgcd [((za) * (zc)), ((zb) * (zc))] : Nat) : Int) ≠ 0 := by omega
      have hr1 := zm_dvd hg0 hd1
      have hr2 := zm_dvd hg0 hd2
      have hr3 := zm_dvd hc0 hd3
      clear hd1 hd2 hd3
      repeat (first | refine wp_seq ?_ | (refine wp_skip ?_; refine then_n ?_))
      refine wp_region_law hN_8 w.heap.size
        [kZd 1001 (zc), kZ 1 (0), kIs (.int .i64 (ordI (zc) (0))), kIs (.bool false)]
        [ [], [], [(0, some 110), (1, some 111)], [(2, some 112)] ]
        [(0, some 110), (1, some 111), (2, some 112), (3, some 113)] [] [] (by kernel_rfl) (by kernel_rfl) (by kernel_rfl) (by kernel_rfl) (by kernel_rfl) (by kernel_rfl) (by kernel_rfl) bb_8.size ?_ ?_
      ·
        refine pk_cons rfl rfl ?_ ?_
        · exact st_loadZ l5_8 e5_8 hN_8 (by kernel_rfl) rfl
        refine pk_cons rfl rfl ?_ ?_
        · exact st_loadR l7_8 e7_8 hN_8 (by kernel_rfl) rfl
        refine pk_cons rfl rfl ?_ ?_
        · exact st_call2 hN_8 (by kernel_rfl) (by kernel_rfl) (by kernel_rfl) (by kernel_rfl) (by kernel_rfl) rfl rfl rfl fun w x v1 v2 hC h1 h2 => ti (z_cmp (dz h1) (rz h2) (by decide) (by decide))
        refine pk_cons rfl rfl ?_ ?_
        · exact st_pureV [.int .i64 (ordI (zc) (0))] [] (.bool (ordI (zc) (0) == 0)) (.bool false) (congrArg Value.bool (beq_eq_false_iff_ne.2 (ord_ne hc0))) rfl hN_8 (by kernel_rfl) (by kernel_rfl) (by kernel_rfl) old0 (by kernel_rfl) (by kernel_rfl) (by kernel_rfl) (fun _ => by kernel_rfl)
        exact pk_nil rfl
      intro W_9 x hC hall
      refine then_n ?_
      obtain ⟨a_9, ha⟩ : ∃ a, a = putE x a_8 [(0, some 110), (1, some 111), (2, some 112), (3, some 113)] := ⟨_, rfl⟩
      rw [← ha]
      have hN_9 := size_behind ha hN_8
      have hD_9 := defers_behind ha hD_8
      have bb_9 := bb_8.trans hC.below
      have e3_9 := slot_old ha (by kernel_rfl) e3_8
      have l3_9 := hC.locZ l3_8
      have e4_9 := slot_old ha (by kernel_rfl) e4_8
      have l4_9 := hC.locZ l4_8
      have e5_9 := slot_old ha (by kernel_rfl) e5_8
      have l5_9 := hC.locZ l5_8
      have e22_9 := slot_old ha (by kernel_rfl) e22_8
      have e27_9 := slot_old ha (by kernel_rfl) e27_8
      have e7_9 := slot_old ha (by kernel_rfl) e7_8
      have l7_9 := hC.locR l7_8
      have e8_9 := slot_old ha (by kernel_rfl) e8_8
      have l8_9 := hC.locR l8_8
      have e9_9 := slot_old ha (by kernel_rfl) e9_8
      have l9_9 := hC.locR l9_8
      have e10_9 := slot_old ha (by kernel_rfl) e10_8
      have e39_9 := slot_old ha (by kernel_rfl) e39_8
      have e65_9 := slot_old ha (by kernel_rfl) e65_8
      have e99_9 := slot_old ha (by kernel_rfl) e99_8
      have e11_9 := slot_old ha (by kernel_rfl) e11_8
      have l11_9 := hC.locR l11_8
      have e113_9 := (slot_new (t := 113) (i := 3) ha hN_8 (by kernel_rfl) (by kernel_rfl)).trans (show x 3 = .bool false from hall 3 (of_decide_eq_true (by kernel_rfl)))
      clear hall hC ha bb_8 hD_8 e3_8 l3_8 e4_8 l4_8 e5_8 l5_8 e22_8 e27_8 e7_8 l7_8 e8_8 l8_8 e9_8 l9_8 e10_8 e39_8 e65_8 e99_8 e11_8 l11_8
      refine wp_cond_false e113_9 ?_
      repeat (first | refine wp_seq ?_ | (refine wp_skip ?_; refine then_n ?_))
      refine wp_region_law hN_9 w.heap.size
        [kZd 1001 (za), kZd 1001 (zc), kZs [(1001, (za)), (1001, (zc))], kZ 2002 ((za) * (zc)), kZ 2002 (((zgcd [((za) * (zc)), ((zb) * (zc))] : Nat) : Int)), kZQ 2003 2002 (zq ((za) * (zc)) (((zgcd [((za) * (zc)), ((zb) * (zc))] : Nat) : Int))) (zm ((za) * (zc)) (((zgcd [((za) * (zc)), ((zb) * (zc))] : Nat) : Int))) 0, kZQ 2003 2002 (zq ((za) * (zc)) (((zgcd [((za) * (zc)), ((zb) * (zc))] : Nat) : Int))) (zm ((za) * (zc)) (((zgcd [((za) * (zc)), ((zb) * (zc))] : Nat) : Int))) 0, kZ 2003 (zq ((za) * (zc)) (((zgcd [((za) * (zc)), ((zb) * (zc))] : Nat) : Int))), kZ 2002 (zm ((za) * (zc)) (((zgcd [((za) * (zc)), ((zb) * (zc))] : Nat) : Int))), kIs (.int .i64 (0)), PK.fresh 2, PK.fresh 2, kPutZ 10 2003 (zq ((za) * (zc)) (((zgcd [((za) * (zc)), ((zb) * (zc))] : Nat) : Int))), kPutZ 11 2002 (zm ((za) * (zc)) (((zgcd [((za) * (zc)), ((zb) * (zc))] : Nat) : Int))), kIs (.int .i64 (0))]
        [ [], [], [(0, some 118), (1, some 119)], [(2, some 120)], [], [(3, some 121), (4, some 122)], [(5, some 123)], [(6, some 117)], [(6, some 117)], [(6, some 117)], [], [], [(10, some 12), (7, some 124)], [(11, some 13), (8, some 125)], [(9, some 126)] ]
        [(0, some 118), (1, some 119), (2, some 120), (3, some 121), (4, some 122), (5, some 123), (6, some 117), (7, some 124), (8, some 125), (9, some 126), (10, some 12), (11, some 13), (12, none), (13, none), (14, some 14)] [] [] (by kernel_rfl) (by kernel_rfl) (by kernel_rfl) (by kernel_rfl) (by kernel_rfl) (by kernel_rfl) (by kernel_rfl) bb_9.size ?_ ?_
      ·
        refine pk_cons rfl rfl ?_ ?_
        · exact st_loadZ l3_9 e3_9 hN_9 (by kernel_rfl) rfl
        refine pk_cons rfl rfl ?_ ?_
        · exact st_loadZ l5_9 e5_9 hN_9 (by kernel_rfl) rfl
        refine pk_cons rfl rfl ?_ ?_
        · exact st_list2 hN_9 (by kernel_rfl) (by kernel_rfl) (by kernel_rfl) (by kernel_rfl) (Nat.le_refl _) asD asD rfl
        refine pk_cons rfl rfl ?_ ?_
        · exact st_call1 hN_9 (by kernel_rfl) (by kernel_rfl) (by kernel_rfl) rfl rfl fun w x v1 hC h1 => tz (l_mul2 2002 (lz h1) (by decide) (by decide) (by decide))
        refine pk_cons rfl rfl ?_ ?_
        · exact st_loadR l11_9 e11_9 hN_9 (by kernel_rfl) rfl
        refine pk_cons rfl rfl ?_ ?_
        · exact st_call2 hN_9 (by kernel_rfl) (by kernel_rfl) (by kernel_rfl) (by kernel_rfl) (by kernel_rfl) rfl rfl rfl fun w x v1 v2 hC h1 h2 => tq (z_divMod (m := 2003) (rz h1) (rz h2) hg0 (by decide) (by decide) (by decide) (by decide))
        refine pk_cons rfl rfl ?_ ?_
        · exact st_move hN_9 (by kernel_rfl) (by kernel_rfl) rfl rfl
        refine pk_cons rfl rfl ?_ ?_
        · exact st_ext hN_9 (by kernel_rfl) (by kernel_rfl) rfl rfl ext_q
        refine pk_cons rfl rfl ?_ ?_
        · exact st_ext hN_9 (by kernel_rfl) (by kernel_rfl) rfl rfl ext_r
        refine pk_cons rfl rfl ?_ ?_
        · exact st_ext hN_9 (by kernel_rfl) (by kernel_rfl) rfl rfl ext_e
        refine pk_cons rfl rfl ?_ ?_
        · exact st_alloc hN_9 (by kernel_rfl) (Nat.le_refl _) rfl
        refine pk_cons rfl rfl ?_ ?_
        · exact st_alloc hN_9 (by kernel_rfl) (Nat.le_refl _) rfl
        refine pk_cons rfl rfl ?_ ?_
        · exact st_put hN_9 (by kernel_rfl) (by kernel_rfl) (by kernel_rfl) rfl rfl rfl
        refine pk_cons rfl rfl ?_ ?_
        · exact st_put hN_9 (by kernel_rfl) (by kernel_rfl) (by kernel_rfl) rfl rfl rfl
        refine pk_cons rfl rfl ?_ ?_
        · exact st_pure [.int .i64 (0)] [] (.int .i64 (0)) rfl hN_9 (by kernel_rfl) (by kernel_rfl) (by kernel_rfl) old0 (by kernel_rfl) (by kernel_rfl) (by kernel_rfl) (fun _ => by kernel_rfl)
        exact pk_nil rfl
      intro W_10 x hC hall
      refine then_n ?_
      obtain ⟨a_10, ha⟩ : ∃ a, a = putE x a_9 [(0, some 118), (1, some 119), (2, some 120), (3, some 121), (4, some 122), (5, some 123), (6, some 117), (7, some 124), (8, some 125), (9, some 126), (10, some 12), (11, some 13), (12, none), (13, none), (14, some 14)] := ⟨_, rfl⟩
      rw [← ha]
      have hN_10 := size_behind ha hN_9
      have hD_10 := defers_behind ha hD_9
      have bb_10 := bb_9.trans hC.below
      have e3_10 := slot_old ha (by kernel_rfl) e3_9
      have l3_10 := hC.locZ l3_9
      have e4_10 := slot_old ha (by kernel_rfl) e4_9
      have l4_10 := hC.locZ l4_9
      have e5_10 := slot_old ha (by kernel_rfl) e5_9
      have l5_10 := hC.locZ l5_9
      have e22_10 := slot_old ha (by kernel_rfl) e22_9
      have e27_10 := slot_old ha (by kernel_rfl) e27_9
      have e7_10 := slot_old ha (by kernel_rfl) e7_9
      have l7_10 := hC.locR l7_9
      have e8_10 := slot_old ha (by kernel_rfl) e8_9
      have l8_10 := hC.locR l8_9
      have e9_10 := slot_old ha (by kernel_rfl) e9_9
      have l9_10 := hC.locR l9_9
      have e10_10 := slot_old ha (by kernel_rfl) e10_9
      have e39_10 := slot_old ha (by kernel_rfl) e39_9
      have e65_10 := slot_old ha (by kernel_rfl) e65_9
      have e99_10 := slot_old ha (by kernel_rfl) e99_9
      have e11_10 := slot_old ha (by kernel_rfl) e11_9
      have l11_10 := hC.locR l11_9
      have e113_10 := slot_old ha (by kernel_rfl) e113_9
      obtain ⟨g12, hx, l12_10⟩ := put_loc (show (kPutZ 10 2003 (zq ((za) * (zc)) (((zgcd [((za) * (zc)), ((zb) * (zc))] : Nat) : Int)))).sem _ _ _ _ from hall 12 (of_decide_eq_true (by kernel_rfl)))
      have e12_10 := (slot_new (t := 12) (i := 10) ha hN_9 (by kernel_rfl) (by kernel_rfl)).trans hx
      clear hx
      obtain ⟨g13, hx, l13_10⟩ := put_loc (show (kPutZ 11 2002 (zm ((za) * (zc)) (((zgcd [((za) * (zc)), ((zb) * (zc))] : Nat) : Int)))).sem _ _ _ _ from hall 13 (of_decide_eq_true (by kernel_rfl)))
      have e13_10 := (slot_new (t := 13) (i := 11) ha hN_9 (by kernel_rfl) (by kernel_rfl)).trans hx
      clear hx
      have e14_10 := (slot_new (t := 14) (i := 14) ha hN_9 (by kernel_rfl) (by kernel_rfl)).trans (show x 14 = .int .i64 (0) from hall 14 (of_decide_eq_true (by kernel_rfl)))
      clear hall hC ha bb_9 hD_9 e3_9 l3_9 e4_9 l4_9 e5_9 l5_9 e22_9 e27_9 e7_9 l7_9 e8_9 l8_9 e9_9 l9_9 e10_9 e39_9 e65_9 e99_9 e11_9 l11_9 e113_9
      repeat (first | refine wp_seq ?_ | (refine wp_skip ?_; refine then_n ?_))
      refine wp_region_law hN_10 w.heap.size
        [kZd 1001 (zb), kZd 1001 (zc), kZs [(1001, (zb)), (1001, (zc))], kZ 2002 ((zb) * (zc)), kZ 2002 (((zgcd [((za) * (zc)), ((zb) * (zc))] : Nat) : Int)), kZQ 2003 2002 (zq ((zb) * (zc)) (((zgcd [((za) * (zc)), ((zb) * (zc))] : Nat) : Int))) (zm ((zb) * (zc)) (((zgcd [((za) * (zc)), ((zb) * (zc))] : Nat) : Int))) 0, kZQ 2003 2002 (zq ((zb) * (zc)) (((zgcd [((za) * (zc)), ((zb) * (zc))] : Nat) : Int))) (zm ((zb) * (zc)) (((zgcd [((za) * (zc)), ((zb) * (zc))] : Nat) : Int))) 0, kZ 2003 (zq ((zb) * (zc)) (((zgcd [((za) * (zc)), ((zb) * (zc))] : Nat) : Int))), kZ 2002 (zm ((zb) * (zc)) (((zgcd [((za) * (zc)), ((zb) * (zc))] : Nat) : Int))), kIs (.int .i64 (0)), PK.fresh 2, PK.fresh 2, kPutZ 10 2003 (zq ((zb) * (zc)) (((zgcd [((za) * (zc)), ((zb) * (zc))] : Nat) : Int))), kPutZ 11 2002 (zm ((zb) * (zc)) (((zgcd [((za) * (zc)), ((zb) * (zc))] : Nat) : Int))), kIs (.int .i64 (0))]
        [ [], [], [(0, some 128), (1, some 129)], [(2, some 130)], [], [(3, some 131), (4, some 132)], [(5, some 133)], [(6, some 127)], [(6, some 127)], [(6, some 127)], [], [], [(10, some 15), (7, some 134)], [(11, some 16), (8, some 135)], [(9, some 136)] ]
        [(0, some 128), (1, some 129), (2, some 130), (3, some 131), (4, some 132), (5, some 133), (6, some 127), (7, some 134), (8, some 135), (9, some 136), (10, some 15), (11, some 16), (12, none), (13, none), (14, some 17)] [] [] (by kernel_rfl) (by kernel_rfl) (by kernel_rfl) (by kernel_rfl) (by kernel_rfl) (by kernel_rfl) (by kernel_rfl) bb_10.size ?_ ?_
      ·
        refine pk_cons rfl rfl ?_ ?_
        · exact st_loadZ l4_10 e4_10 hN_10 (by kernel_rfl) rfl
        refine pk_cons rfl rfl ?_ ?_
        · exact st_loadZ l5_10 e5_10 hN_10 (by kernel_rfl) rfl
        refine pk_cons rfl rfl ?_ ?_
        · exact st_list2 hN_10 (by kernel_rfl) (by kernel_rfl) (by kernel_rfl) (by kernel_rfl) (Nat.le_refl _) asD asD rfl
        refine pk_cons rfl rfl ?_ ?_
        · exact st_call1 hN_10 (by kernel_rfl) (by kernel_rfl) (by kernel_rfl) rfl rfl fun w x v1 hC h1 => tz (l_mul2 2002 (lz h1) (by decide) (by decide) (by decide))
        refine pk_cons rfl rfl ?_ ?_
        · exact st_loadR l11_10 e11_10 hN_10 (by kernel_rfl) rfl
        refine pk_cons rfl rfl ?_ ?_
        · exact st_call2 hN_10 (by kernel_rfl) (by kernel_rfl) (by kernel_rfl) (by kernel_rfl) (by kernel_rfl) rfl rfl rfl fun w x v1 v2 hC h1 h2 => tq (z_divMod (m := 2003) (rz h1) (rz h2) hg0 (by decide) (by decide) (by decide) (by decide))
        refine pk_cons rfl rfl ?_ ?_
        · exact st_move hN_10 (by kernel_rfl) (by kernel_rfl) rfl rfl
        refine pk_cons rfl rfl ?_ ?_
        · exact st_ext hN_10 (by kernel_rfl) (by kernel_rfl) rfl rfl ext_q
        refine pk_cons rfl rfl ?_ ?_
        · exact st_ext hN_10 (by kernel_rfl) (by kernel_rfl) rfl rfl ext_r
        refine pk_cons rfl rfl ?_ ?_
        · exact st_ext hN_10 (by kernel_rfl) (by kernel_rfl) rfl rfl ext_e
        refine pk_cons rfl rfl ?_ ?_
        · exact st_alloc hN_10 (by kernel_rfl) (Nat.le_refl _) rfl
        refine pk_cons rfl rfl ?_ ?_
        · exact st_alloc hN_10 (by kernel_rfl) (Nat.le_refl _) rfl
        refine pk_cons rfl rfl ?_ ?_
        · exact st_put hN_10 (by kernel_rfl) (by kernel_rfl) (by kernel_rfl) rfl rfl rfl
        refine pk_cons rfl rfl ?_ ?_
        · exact st_put hN_10 (by kernel_rfl) (by kernel_rfl) (by kernel_rfl) rfl rfl rfl
        refine pk_cons rfl rfl ?_ ?_
        · exact st_pure [.int .i64 (0)] [] (.int .i64 (0)) rfl hN_10 (by kernel_rfl) (by kernel_rfl) (by kernel_rfl) old0 (by kernel_rfl) (by kernel_rfl) (by kernel_rfl) (fun _ => by kernel_rfl)
        exact pk_nil rfl
      intro W_11 x hC hall
      refine then_n ?_
      obtain ⟨a_11, ha⟩ : ∃ a, a = putE x a_10 [(0, some 128), (1, some 129), (2, some 130), (3, some 131), (4, some 132), (5, some 133), (6, some 127), (7, some 134), (8, some 135), (9, some 136), (10, some 15), (11, some 16), (12, none), (13, none), (14, some 17)] := ⟨_, rfl⟩
      rw [← ha]
      have hN_11 := size_behind ha hN_10
      have hD_11 := defers_behind ha hD_10
      have bb_11 := bb_10.trans hC.below
      have e3_11 := slot_old ha (by kernel_rfl) e3_10
      have l3_11 := hC.locZ l3_10
      have e4_11 := slot_old ha (by kernel_rfl) e4_10
      have l4_11 := hC.locZ l4_10
      have e5_11 := slot_old ha (by kernel_rfl) e5_10
      have l5_11 := hC.locZ l5_10
      have e22_11 := slot_old ha (by kernel_rfl) e22_10
      have e27_11 := slot_old ha (by kernel_rfl) e27_10
      have e7_11 := slot_old ha (by kernel_rfl) e7_10
      have l7_11 := hC.locR l7_10
      have e8_11 := slot_old ha (by kernel_rfl) e8_10
      have l8_11 := hC.locR l8_10
      have e9_11 := slot_old ha (by kernel_rfl) e9_10
      have l9_11 := hC.locR l9_10
      have e10_11 := slot_old ha (by kernel_rfl) e10_10
      have e39_11 := slot_old ha (by kernel_rfl) e39_10
      have e65_11 := slot_old ha (by kernel_rfl) e65_10
      have e99_11 := slot_old ha (by kernel_rfl) e99_10
      have e11_11 := slot_old ha (by kernel_rfl) e11_10
      have l11_11 := hC.locR l11_10
      have e113_11 := slot_old ha (by kernel_rfl) e113_10
      have e12_11 := slot_old ha (by kernel_rfl) e12_10
      have l12_11 := hC.locR l12_10
      have e13_11 := slot_old ha (by kernel_rfl) e13_10
      have l13_11 := hC.locR l13_10
      have e14_11 := slot_old ha (by kernel_rfl) e14_10
      obtain ⟨g15, hx, l15_11⟩ := put_loc (show (kPutZ 10 2003 (zq ((zb) * (zc)) (((zgcd [((za) * (zc)), ((zb) * (zc))] : Nat) : Int)))).sem _ _ _ _ from hall 12 (of_decide_eq_true (by kernel_rfl)))
      have e15_11 := (slot_new (t := 15) (i := 10) ha hN_10 (by kernel_rfl) (by kernel_rfl)).trans hx
      clear hx
      obtain ⟨g16, hx, l16_11⟩ := put_loc (show (kPutZ 11 2002 (zm ((zb) * (zc)) (((zgcd [((za) * (zc)), ((zb) * (zc))] : Nat) : Int)))).sem _ _ _ _ from hall 13 (of_decide_eq_true (by kernel_rfl)))
      have e16_11 := (slot_new (t := 16) (i := 11) ha hN_10 (by kernel_rfl) (by kernel_rfl)).trans hx
      clear hx
      have e17_11 := (slot_new (t := 17) (i := 14) ha hN_10 (by kernel_rfl) (by kernel_rfl)).trans (show x 14 = .int .i64 (0) from hall 14 (of_decide_eq_true (by kernel_rfl)))
      clear hall hC ha bb_10 hD_10 e3_10 l3_10 e4_10 l4_10 e5_10 l5_10 e22_10 e27_10 e7_10 l7_10 e8_10 l8_10 e9_10 l9_10 e10_10 e39_10 e65_10 e99_10 e11_10 l11_10 e113_10 e12_10 l12_10 e13_10 l13_10 e14_10
      repeat (first | refine wp_seq ?_ | (refine wp_skip ?_; refine then_n ?_))
      refine wp_region_law hN_11 w.heap.size
        [kZ 2002 (((zgcd [((za) * (zc)), ((zb) * (zc))] : Nat) : Int)), kZd 1001 (zc), kZQ 2003 1001 (zq (((zgcd [((za) * (zc)), ((zb) * (zc))] : Nat) : Int)) (zc)) (zm (((zgcd [((za) * (zc)), ((zb) * (zc))] : Nat) : Int)) (zc)) 0, kZQ 2003 1001 (zq (((zgcd [((za) * (zc)), ((zb) * (zc))] : Nat) : Int)) (zc)) (zm (((zgcd [((za) * (zc)), ((zb) * (zc))] : Nat) : Int)) (zc)) 0, kZ 2003 (zq (((zgcd [((za) * (zc)), ((zb) * (zc))] : Nat) : Int)) (zc)), kZ 1001 (zm (((zgcd [((za) * (zc)), ((zb) * (zc))] : Nat) : Int)) (zc)), kIs (.int .i64 (0)), PK.fresh 2, PK.fresh 2, kPutZ 7 2003 (zq (((zgcd [((za) * (zc)), ((zb) * (zc))] : Nat) : Int)) (zc)), kPutZ 8 1001 (zm (((zgcd [((za) * (zc)), ((zb) * (zc))] : Nat) : Int)) (zc)), kIs (.int .i64 (0))]
        [ [], [], [(0, some 138), (1, some 139)], [(2, some 140)], [(3, some 137)], [(3, some 137)], [(3, some 137)], [], [], [(7, some 18), (4, some 141)], [(8, some 19), (5, some 142)], [(6, some 143)] ]
        [(0, some 138), (1, some 139), (2, some 140), (3, some 137), (4, some 141), (5, some 142), (6, some 143), (7, some 18), (8, some 19), (9, none), (10, none), (11, some 20)] [] [] (by kernel_rfl) (by kernel_rfl) (by kernel_rfl) (by kernel_rfl) (by kernel_rfl) (by kernel_rfl) (by kernel_rfl) bb_11.size ?_ ?_
      ·
        refine pk_cons rfl rfl ?_ ?_
        · exact st_loadR l11_11 e11_11 hN_11 (by kernel_rfl) rfl
        refine pk_cons rfl rfl ?_ ?_
        · exact st_loadZ l5_11 e5_11 hN_11 (by kernel_rfl) rfl
        refine pk_cons rfl rfl ?_ ?_
        · exact st_call2 hN_11 (by kernel_rfl) (by kernel_rfl) (by kernel_rfl) (by kernel_rfl) (by kernel_rfl) rfl rfl rfl fun w x v1 v2 hC h1 h2 => tq (z_divMod (m := 2003) (rz h1) (dz h2) hc0 (by decide) (by decide) (by decide) (by decide))
        refine pk_cons rfl rfl ?_ ?_
        · exact st_move hN_11 (by kernel_rfl) (by kernel_rfl) rfl rfl
        refine pk_cons rfl rfl ?_ ?_
        · exact st_ext hN_11 (by kernel_rfl) (by kernel_rfl) rfl rfl ext_q
        refine pk_cons rfl rfl ?_ ?_
        · exact st_ext hN_11 (by kernel_rfl) (by kernel_rfl) rfl rfl ext_r
        refine pk_cons rfl rfl ?_ ?_
        · exact st_ext hN_11 (by kernel_rfl) (by kernel_rfl) rfl rfl ext_e
        refine pk_cons rfl rfl ?_ ?_
        · exact st_alloc hN_11 (by kernel_rfl) (Nat.le_refl _) rfl
        refine pk_cons rfl rfl ?_ ?_
        · exact st_alloc hN_11 (by kernel_rfl) (Nat.le_refl _) rfl
        refine pk_cons rfl rfl ?_ ?_
        · exact st_put hN_11 (by kernel_rfl) (by kernel_rfl) (by kernel_rfl) rfl rfl rfl
        refine pk_cons rfl rfl ?_ ?_
        · exact st_put hN_11 (by kernel_rfl) (by kernel_rfl) (by kernel_rfl) rfl rfl rfl
        refine pk_cons rfl rfl ?_ ?_
        · exact st_pure [.int .i64 (0)] [] (.int .i64 (0)) rfl hN_11 (by kernel_rfl) (by kernel_rfl) (by kernel_rfl) old0 (by kernel_rfl) (by kernel_rfl) (by kernel_rfl) (fun _ => by kernel_rfl)
        exact pk_nil rfl
      intro W_12 x hC hall
      refine then_n ?_
      obtain ⟨a_12, ha⟩ : ∃ a, a = putE x a_11 [(0, some 138), (1, some 139), (2, some 140), (3, some 137), (4, some 141), (5, some 142), (6, some 143), (7, some 18), (8, some 19), (9, none), (10, none), (11, some 20)] := ⟨_, rfl⟩
      rw [← ha]
      have hN_12 := size_behind ha hN_11
      have hD_12 := defers_behind ha hD_11
      have bb_12 := bb_11.trans hC.below
      have e3_12 := slot_old ha (by kernel_rfl) e3_11
      have l3_12 := hC.locZ l3_11
      have e4_12 := slot_old ha (by kernel_rfl) e4_11
      have l4_12 := hC.locZ l4_11
      have e5_12 := slot_old ha (by kernel_rfl) e5_11
      have l5_12 := hC.locZ l5_11
      have e22_12 := slot_old ha (by kernel_rfl) e22_11
      have e27_12 := slot_old ha (by kernel_rfl) e27_11
      have e7_12 := slot_old ha (by kernel_rfl) e7_11
      have l7_12 := hC.locR l7_11
      have e8_12 := slot_old ha (by kernel_rfl) e8_11
      have l8_12 := hC.locR l8_11
      have e9_12 := slot_old ha (by kernel_rfl) e9_11
      have l9_12 := hC.locR l9_11
      have e10_12 := slot_old ha (by kernel_rfl) e10_11
      have e39_12 := slot_old ha (by kernel_rfl) e39_11
      have e65_12 := slot_old ha (by kernel_rfl) e65_11
      have e99_12 := slot_old ha (by kernel_rfl) e99_11
      have e11_12 := slot_old ha (by kernel_rfl) e11_11
      have l11_12 := hC.locR l11_11
      have e113_12 := slot_old ha (by kernel_rfl) e113_11
      have e12_12 := slot_old ha (by kernel_rfl) e12_11
      have l12_12 := hC.locR l12_11
      have e13_12 := slot_old ha (by kernel_rfl) e13_11
      have l13_12 := hC.locR l13_11
      have e14_12 := slot_old ha (by kernel_rfl) e14_11
      have e15_12 := slot_old ha (by kernel_rfl) e15_11
      have l15_12 := hC.locR l15_11
      have e16_12 := slot_old ha (by kernel_rfl) e16_11
      have l16_12 := hC.locR l16_11
      have e17_12 := slot_old ha (by kernel_rfl) e17_11
      obtain ⟨g18, hx, l18_12⟩ := put_loc (show (kPutZ 7 2003 (zq (((zgcd [((za) * (zc)), ((zb) * (zc))] : Nat) : Int)) (zc))).sem _ _ _ _ from hall 9 (of_decide_eq_true (by kernel_rfl)))
      have e18_12 := (slot_new (t := 18) (i := 7) ha hN_11 (by kernel_rfl) (by kernel_rfl)).trans hx
      clear hx
      obtain ⟨g19, hx, l19_12⟩ := put_loc (show (kPutZ 8 1001 (zm (((zgcd [((za) * (zc)), ((zb) * (zc))] : Nat) : Int)) (zc))).sem _ _ _ _ from hall 10 (of_decide_eq_true (by kernel_rfl)))
      have e19_12 := (slot_new (t := 19) (i := 8) ha hN_11 (by kernel_rfl) (by kernel_rfl)).trans hx
      clear hx
      have e20_12 := (slot_new (t := 20) (i := 11) ha hN_11 (by kernel_rfl) (by kernel_rfl)).trans (show x 11 = .int .i64 (0) from hall 11 (of_decide_eq_true (by kernel_rfl)))
      clear hall hC ha bb_11 hD_11 e3_11 l3_11 e4_11 l4_11 e5_11 l5_11 e22_11 e27_11 e7_11 l7_11 e8_11 l8_11 e9_11 l9_11 e10_11 e39_11 e65_11 e99_11 e11_11 l11_11 e113_11 e12_11 l12_11 e13_11 l13_11 e14_11 e15_11 l15_11 e16_11 l16_11 e17_11
      repeat (first | refine wp_seq ?_ | (refine wp_skip ?_; refine then_n ?_))
      refine wp_region_law hN_12 w.heap.size
        [kZ 2002 (((zgcd [((za) * (zc)), ((zb) * (zc))] : Nat) : Int)), kZ 1 (0), kIs (.int .i64 (1)), kIs (.bool true), kIs (.bool true), kIs (.int .i64 (0)), kIs (.bool true), kIs (.bool true), kIs (.bool true), kIs (.int .i64 (0)), kIs (.bool true), kIs (.bool true), kIs (.bool true), kIs (.int .i64 (0)), kIs (.bool true), kIs (.bool true), kIs (.bool true), kZ 2002 (zm ((za) * (zc)) (((zgcd [((za) * (zc)), ((zb) * (zc))] : Nat) : Int))), kZ 1 (0), kIs (.bool true), kIs (.bool true), kIs (.bool true), kZ 2002 (zm ((zb) * (zc)) (((zgcd [((za) * (zc)), ((zb) * (zc))] : Nat) : Int))), kZ 1 (0), kIs (.bool true), kIs (.bool true), kIs (.bool true), kZ 1001 (zm (((zgcd [((za) * (zc)), ((zb) * (zc))] : Nat) : Int)) (zc)), kZ 1 (0), kIs (.bool true), kIs (.bool true), kIs (.bool true)]
        [ [], [], [(0, some 144), (1, some 145)], [(2, some 146)], [(3, some 147)], [], [(5, some 149)], [(4, some 148), (6, some 150)], [(7, some 151)], [], [(9, some 153)], [(8, some 152), (10, some 154)], [(11, some 155)], [], [(13, some 157)], [(12, some 156), (14, some 158)], [(15, some 159)], [], [], [(17, some 161), (18, some 162)], [(16, some 160), (19, some 163)], [(20, some 164)], [], [], [(22, some 166), (23, some 167)], [(21, some 165), (24, some 168)], [(25, some 169)], [], [], [(27, some 171), (28, some 172)], [(26, some 170), (29, some 173)], [(30, some 174)] ]
        [(0, some 144), (1, some 145), (2, some 146), (3, some 147), (4, some 148), (5, some 149), (6, some 150), (7, some 151), (8, some 152), (9, some 153), (10, some 154), (11, some 155), (12, some 156), (13, some 157), (14, some 158), (15, some 159), (16, some 160), (17, some 161), (18, some 162), (19, some 163), (20, some 164), (21, some 165), (22, some 166), (23, some 167), (24, some 168), (25, some 169), (26, some 170), (27, some 171), (28, some 172), (29, some 173), (30, some 174), (31, some 6)] [(4, true), (8, true), (12, true), (16, true), (21, true), (26, true)] [] (by kernel_rfl) (by kernel_rfl) (by kernel_rfl) (by kernel_rfl) (by kernel_rfl) (by kernel_rfl) (by kernel_rfl) bb_12.size ?_ ?_
      ·
        refine pk_cons rfl rfl ?_ ?_
        · exact st_loadR l11_12 e11_12 hN_12 (by kernel_rfl) rfl
        refine pk_cons rfl rfl ?_ ?_
        · exact st_loadR l7_12 e7_12 hN_12 (by kernel_rfl) rfl
        refine pk_cons rfl rfl ?_ ?_
        · exact st_call2 hN_12 (by kernel_rfl) (by kernel_rfl) (by kernel_rfl) (by kernel_rfl) (by kernel_rfl) rfl rfl rfl fun w x v1 v2 hC h1 h2 => ti (cmp_is (ord_gt hg) (z_cmp (rz h1) (rz h2) (by decide) (by decide)))
        refine pk_cons rfl rfl ?_ ?_
        · exact st_pure [.int .i64 (1)] [] (.bool true) rfl hN_12 (by kernel_rfl) (by kernel_rfl) (by kernel_rfl) old0 (by kernel_rfl) (by kernel_rfl) (by kernel_rfl) (fun _ => by kernel_rfl)
        refine pk_cons rfl rfl ?_ ?_
        · exact st_pure [.bool true] [] (.bool true) rfl hN_12 (by kernel_rfl) (by kernel_rfl) (by kernel_rfl) old0 (by kernel_rfl) (by kernel_rfl) (by kernel_rfl) (fun _ => by kernel_rfl)
        refine pk_cons rfl rfl ?_ ?_
        · exact st_pure [] [(14, .int .i64 (0))] (.int .i64 (0)) rfl hN_12 (by kernel_rfl) (by kernel_rfl) (by kernel_rfl) (old1 e14_12) (by kernel_rfl) (by kernel_rfl) (by kernel_rfl) (fun _ => by kernel_rfl)
        refine pk_cons rfl rfl ?_ ?_
        · exact st_pure [.int .i64 (0)] [] (.bool true) rfl hN_12 (by kernel_rfl) (by kernel_rfl) (by kernel_rfl) old0 (by kernel_rfl) (by kernel_rfl) (by kernel_rfl) (fun _ => by kernel_rfl)
        refine pk_cons rfl rfl ?_ ?_
        · exact st_pure [.bool true, .bool true] [] (.bool true) rfl hN_12 (by kernel_rfl) (by kernel_rfl) (by kernel_rfl) old0 (by kernel_rfl) (by kernel_rfl) (by kernel_rfl) (fun _ => by kernel_rfl)
        refine pk_cons rfl rfl ?_ ?_
        · exact st_pure [.bool true] [] (.bool true) rfl hN_12 (by kernel_rfl) (by kernel_rfl) (by kernel_rfl) old0 (by kernel_rfl) (by kernel_rfl) (by kernel_rfl) (fun _ => by kernel_rfl)
        refine pk_cons rfl rfl ?_ ?_
        · exact st_pure [] [(17, .int .i64 (0))] (.int .i64 (0)) rfl hN_12 (by kernel_rfl) (by kernel_rfl) (by kernel_rfl) (old1 e17_12) (by kernel_rfl) (by kernel_rfl) (by kernel_rfl) (fun _ => by kernel_rfl)
        refine pk_cons rfl rfl ?_ ?_
        · exact st_pure [.int .i64 (0)] [] (.bool true) rfl hN_12 (by kernel_rfl) (by kernel_rfl) (by kernel_rfl) old0 (by kernel_rfl) (by kernel_rfl) (by kernel_rfl) (fun _ => by kernel_rfl)
        refine pk_cons rfl rfl ?_ ?_
        · exact st_pure [.bool true, .bool true] [] (.bool true) rfl hN_12 (by kernel_rfl) (by kernel_rfl) (by kernel_rfl) old0 (by kernel_rfl) (by kernel_rfl) (by kernel_rfl) (fun _ => by kernel_rfl)
        refine pk_cons rfl rfl ?_ ?_
        · exact st_pure [.bool true] [] (.bool true) rfl hN_12 (by kernel_rfl) (by kernel_rfl) (by kernel_rfl) old0 (by kernel_rfl) (by kernel_rfl) (by kernel_rfl) (fun _ => by kernel_rfl)
        refine pk_cons rfl rfl ?_ ?_
        · exact st_pure [] [(20, .int .i64 (0))] (.int .i64 (0)) rfl hN_12 (by kernel_rfl) (by kernel_rfl) (by kernel_rfl) (old1 e20_12) (by kernel_rfl) (by kernel_rfl) (by kernel_rfl) (fun _ => by kernel_rfl)
        refine pk_cons rfl rfl ?_ ?_
        · exact st_pure [.int .i64 (0)] [] (.bool true) rfl hN_12 (by kernel_rfl) (by kernel_rfl) (by kernel_rfl) old0 (by kernel_rfl) (by kernel_rfl) (by kernel_rfl) (fun _ => by kernel_rfl)
        refine pk_cons rfl rfl ?_ ?_
        · exact st_pure [.bool true, .bool true] [] (.bool true) rfl hN_12 (by kernel_rfl) (by kernel_rfl) (by kernel_rfl) old0 (by kernel_rfl) (by kernel_rfl) (by kernel_rfl) (fun _ => by kernel_rfl)
        refine pk_cons rfl rfl ?_ ?_
        · exact st_pure [.bool true] [] (.bool true) rfl hN_12 (by kernel_rfl) (by kernel_rfl) (by kernel_rfl) old0 (by kernel_rfl) (by kernel_rfl) (by kernel_rfl) (fun _ => by kernel_rfl)
        refine pk_cons rfl rfl ?_ ?_
        · exact st_loadR l13_12 e13_12 hN_12 (by kernel_rfl) rfl
        refine pk_cons rfl rfl ?_ ?_
        · exact st_loadR l7_12 e7_12 hN_12 (by kernel_rfl) rfl
        refine pk_cons rfl rfl ?_ ?_
        · exact st_call2 hN_12 (by kernel_rfl) (by kernel_rfl) (by kernel_rfl) (by kernel_rfl) (by kernel_rfl) rfl rfl rfl fun w x v1 v2 hC h1 h2 => ti (z_same (rr h1) (rr h2) (hr1))
        refine pk_cons rfl rfl ?_ ?_
        · exact st_pure [.bool true, .bool true] [] (.bool true) rfl hN_12 (by kernel_rfl) (by kernel_rfl) (by kernel_rfl) old0 (by kernel_rfl) (by kernel_rfl) (by kernel_rfl) (fun _ => by kernel_rfl)
        refine pk_cons rfl rfl ?_ ?_
        · exact st_pure [.bool true] [] (.bool true) rfl hN_12 (by kernel_rfl) (by kernel_rfl) (by kernel_rfl) old0 (by kernel_rfl) (by kernel_rfl) (by kernel_rfl) (fun _ => by kernel_rfl)
        refine pk_cons rfl rfl ?_ ?_
        · exact st_loadR l16_12 e16_12 hN_12 (by kernel_rfl) rfl
        refine pk_cons rfl rfl ?_ ?_
        · exact st_loadR l7_12 e7_12 hN_12 (by kernel_rfl) rfl
        refine pk_cons rfl rfl ?_ ?_
        · exact st_call2 hN_12 (by kernel_rfl) (by kernel_rfl) (by kernel_rfl) (by kernel_rfl) (by kernel_rfl) rfl rfl rfl fun w x v1 v2 hC h1 h2 => ti (z_same (rr h1) (rr h2) (hr2))
        refine pk_cons rfl rfl ?_ ?_
        · exact st_pure [.bool true, .bool true] [] (.bool true) rfl hN_12 (by kernel_rfl) (by kernel_rfl) (by kernel_rfl) old0 (by kernel_rfl) (by kernel_rfl) (by kernel_rfl) (fun _ => by kernel_rfl)
        refine pk_cons rfl rfl ?_ ?_
        · exact st_pure [.bool true] [] (.bool true) rfl hN_12 (by kernel_rfl) (by kernel_rfl) (by kernel_rfl) old0 (by kernel_rfl) (by kernel_rfl) (by kernel_rfl) (fun _ => by kernel_rfl)
        refine pk_cons rfl rfl ?_ ?_
        · exact st_loadR l19_12 e19_12 hN_12 (by kernel_rfl) rfl
        refine pk_cons rfl rfl ?_ ?_
        · exact st_loadR l7_12 e7_12 hN_12 (by kernel_rfl) rfl
        refine pk_cons rfl rfl ?_ ?_
        · exact st_call2 hN_12 (by kernel_rfl) (by kernel_rfl) (by kernel_rfl) (by kernel_rfl) (by kernel_rfl) rfl rfl rfl fun w x v1 v2 hC h1 h2 => ti (z_same (rr h1) (rr h2) (hr3))
        refine pk_cons rfl rfl ?_ ?_
        · exact st_pure [.bool true, .bool true] [] (.bool true) rfl hN_12 (by kernel_rfl) (by kernel_rfl) (by kernel_rfl) old0 (by kernel_rfl) (by kernel_rfl) (by kernel_rfl) (fun _ => by kernel_rfl)
        refine pk_cons rfl rfl ?_ ?_
        · exact st_pure [.bool true] [] (.bool true) rfl hN_12 (by kernel_rfl) (by kernel_rfl) (by kernel_rfl) old0 (by kernel_rfl) (by kernel_rfl) (by kernel_rfl) (fun _ => by kernel_rfl)
        exact pk_nil rfl
      intro W_13 x hC hall
      refine then_n ?_
      obtain ⟨a_13, ha⟩ : ∃ a, a = putE x a_12 [(0, some 144), (1, some 145), (2, some 146), (3, some 147), (4, some 148), (5, some 149), (6, some 150), (7, some 151), (8, some 152), (9, some 153), (10, some 154), (11, some 155), (12, some 156), (13, some 157), (14, some 158), (15, some 159), (16, some 160), (17, some 161), (18, some 162), (19, some 163), (20, some 164), (21, some 165), (22, some 166), (23, some 167), (24, some 168), (25, some 169), (26, some 170), (27, some 171), (28, some 172), (29, some 173), (30, some 174), (31, some 6)] := ⟨_, rfl⟩
      rw [← ha]
      have hN_13 := size_behind ha hN_12
      have hD_13 := defers_behind ha hD_12
      have bb_13 := bb_12.trans hC.below
      have e3_13 := slot_old ha (by kernel_rfl) e3_12
      have l3_13 := hC.locZ l3_12
      have e4_13 := slot_old ha (by kernel_rfl) e4_12
      have l4_13 := hC.locZ l4_12
      have e5_13 := slot_old ha (by kernel_rfl) e5_12
      have l5_13 := hC.locZ l5_12
      have e22_13 := slot_old ha (by kernel_rfl) e22_12
      have e27_13 := slot_old ha (by kernel_rfl) e27_12
      have e7_13 := slot_old ha (by kernel_rfl) e7_12
      have l7_13 := hC.locR l7_12
      have e8_13 := slot_old ha (by kernel_rfl) e8_12
      have l8_13 := hC.locR l8_12
      have e9_13 := slot_old ha (by kernel_rfl) e9_12
      have l9_13 := hC.locR l9_12
      have e10_13 := slot_old ha (by kernel_rfl) e10_12
      have e39_13 := slot_old ha (by kernel_rfl) e39_12
      have e65_13 := slot_old ha (by kernel_rfl) e65_12
      have e99_13 := slot_old ha (by kernel_rfl) e99_12
      have e11_13 := slot_old ha (by kernel_rfl) e11_12
      have l11_13 := hC.locR l11_12
      have e113_13 := slot_old ha (by kernel_rfl) e113_12
      have e12_13 := slot_old ha (by kernel_rfl) e12_12
      have l12_13 := hC.locR l12_12
      have e13_13 := slot_old ha (by kernel_rfl) e13_12
      have l13_13 := hC.locR l13_12
      have e14_13 := slot_old ha (by kernel_rfl) e14_12
      have e15_13 := slot_old ha (by kernel_rfl) e15_12
      have l15_13 := hC.locR l15_12
      have e16_13 := slot_old ha (by kernel_rfl) e16_12
      have l16_13 := hC.locR l16_12
      have e17_13 := slot_old ha (by kernel_rfl) e17_12
      have e18_13 := slot_old ha (by kernel_rfl) e18_12
      have l18_13 := hC.locR l18_12
      have e19_13 := slot_old ha (by kernel_rfl) e19_12
      have l19_13 := hC.locR l19_12
      have e20_13 := slot_old ha (by kernel_rfl) e20_12
      have e6_13 := (slot_new (t := 6) (i := 31) ha hN_12 (by kernel_rfl) (by kernel_rfl)).trans (show x 31 = .bool true from hall 31 (of_decide_eq_true (by kernel_rfl)))
      clear hall hC ha bb_12 hD_12 e3_12 l3_12 e4_12 l4_12 e5_12 l5_12 e22_12 e27_12 e7_12 l7_12 e8_12 l8_12 e9_12 l9_12 e10_12 e39_12 e65_12 e99_12 e11_12 l11_12 e113_12 e12_12 l12_12 e13_12 l13_12 e14_12 e15_12 l15_12 e16_12 l16_12 e17_12 e18_12 l18_12 e19_12 l19_12 e20_12
      repeat (first | refine wp_seq ?_ | (refine wp_skip ?_; refine then_n ?_))
      refine wp_ret ?_
      repeat (refine then_r ?_)
      exact ret_one (t := 6) rfl hD_13 e6_13 ⟨rfl, bb_13⟩
end Go.Proofs.YthjgfkmnelefpaaGreatDoor

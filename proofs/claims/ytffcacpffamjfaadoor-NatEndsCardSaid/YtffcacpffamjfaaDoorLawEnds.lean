/- The law NatEnds, walked. -/
import Derived.Test.YtffcacpffamjfaaDoorEndKit
import Derived.Test.YtffcacpffamjfaaDoorLawTells
import Derived.Test.YtffcacpffamjfaaDoorLawTexts
import Derived.Deep.RegionWith
import Derived.Deep.RegionLaw
import Derived.RegionTactic
import Derived.Deep.DeepCutAuto
import Derived.Deep.CutBlock
namespace Go.Proofs.YtffcacpffamjfaaDoor
open Go.RowKit

set_option maxRecDepth 100000 in
set_option maxHeartbeats 1600000 in
theorem ends_walk (w : World) (HA : Hid (Calls Tryd.prog 4 #[] w fun e w' => e = .returned (.bool true) ∧ Below w.heap.size w w'))
    (HT : Hid (∀ (W : World) (r q : Value × List Nat), Below w.heap.size w W → Own32 W w.heap.size r → Own32 W w.heap.size q → Calls Tryd.prog 5 #[r.1, q.1] W fun e w' => e = .returned (.bool true) ∧ Below W.heap.size W w'))
    (HX : Hid (∀ (W : World) (s : ByteArray), Below w.heap.size w W → Calls Tryd.prog 6 #[.string s] W fun e w' => e = .returned (.bool true) ∧ Below W.heap.size W w')) :
    Calls Tryd.prog 3 #[] w fun e w' => e = .returned (.bool true) ∧ Below w.heap.size w w' := by
  go_enter Tryd.func3, Tryd.ntmps3
  go_wp2_with fail
  refine HA.out.mono ?_
  rintro e w0 ⟨rfl, b0⟩
  go_upto_region 5 with fail
  rename_i hK
  have HK := Lib.hid hK
  clear hK
  obtain ⟨w1, hw1⟩ : ∃ W, W = w0.alloc (.cells (u32s ends7).toArray 23) := ⟨_, rfl⟩
  have hE1 : Own w1 w.heap.size 23 (.slice (some ⟨w0.heap.size, 0, none⟩) 7 7) (u32s ends7) := by rw [hw1]; exact own_lit w0 (u32s ends7).toArray _ _ b0.size (by decide)
  have b1 : Below w.heap.size w w1 := by rw [hw1]; exact b0.alloc b0.size _
  replace hw1 : w0.alloc (.cells #[.int .u32 0, .int .u32 1, .int .u32 2, .int .u32 999999998, .int .u32 999999999, .int .u32 1000000000, .int .u32 4294967295] 23) = w1 := by rw [hw1]; rfl
  rw [hw1]
  clear hw1 b0
  refine name_frame (G := fun a => Code.wp _ _ _ a _) ?_
  intro a_0 ha
  have hN_0 : a_0.tmps.size = 98 := by subst ha; kernel_rfl
  have hD_0 : a_0.defers = [] := by subst ha; rfl
  have e1_0 : a_0.eval (.tmp 1) = .slice (some ⟨w0.heap.size, 0, none⟩) 7 7 := by subst ha; kernel_rfl
  have e2_0 : a_0.eval (.tmp 2) = .slice none 0 0 := by subst ha; kernel_rfl
  clear ha
  obtain ⟨g1, hg1⟩ : ∃ g, g = w0.heap.size := ⟨_, rfl⟩
  rw [← hg1] at hE1 e1_0
  clear hg1
  refine wp_region_app hN_0 w.heap.size 2 [kIs (.slice none 0 0), kNews w.heap.size [ [] ]] [ [], [], [(0, some 10), (1, some 11)], [(2, some 12)] ] [(0, some 10), (1, some 11), (2, some 12), (3, some 2)] (by kernel_rfl) (by kernel_rfl) rfl (by kernel_rfl) (by kernel_rfl) (by kernel_rfl) b1.size (Longer w.heap.size w1 (.slice (some ⟨g1, 0, none⟩) 7 7) [] [ [] ]) rfl rfl ?_ ?_ rfl rfl (by kernel_rfl) (by kernel_rfl) ?_
  · refine pk_cons rfl rfl ?_ ?_
    · exact st_pure [] [(2, .slice none 0 0)] (.slice none 0 0) rfl hN_0 (by kernel_rfl) (by kernel_rfl) (by kernel_rfl) (old1 e2_0) (by kernel_rfl) (by kernel_rfl) (by kernel_rfl) (fun _ => by kernel_rfl)
    refine pk_cons rfl rfl ?_ ?_
    · exact st_news0 (Nat.le_refl _) hN_0 (by kernel_rfl) rfl
    exact pk_skip rfl (pk_skip rfl (pk_nil rfl))
  · intro x W hC hall K hK
    exact app_step ⟨Own.nil _ _ _, fun r hr => by cases hr⟩ hE1 rfl b1.size (by decide) (by decide) (fun ds hds => by simp at hds; subst hds; exact ⟨by simp [small], by decide⟩) hC hN_0 (by kernel_rfl) (by kernel_rfl) (by kernel_rfl) (by kernel_rfl) (hall 0 (by decide)) (hall 1 (by decide)) hK
  rintro x w2 ⟨vs, hvl, hL2, hE2, b2⟩ hx
  rw [← hx] at hL2
  refine then_n ?_
  refine HK.out _ _ ?_
  clear HK
  obtain ⟨a_1, ha⟩ : ∃ a, a = putE x a_0 [(0, some 10), (1, some 11), (2, some 12), (3, some 2)] := ⟨_, rfl⟩
  rw [← ha]
  have hN_1 := size_behind ha hN_0
  have hD_1 := defers_behind ha hD_0
  have e1_1 := slot_old ha (by kernel_rfl) e1_0
  have e2_1 := slot_new (t := 2) (i := 3) ha hN_0 (by kernel_rfl) (by kernel_rfl)
  obtain ⟨lv, hlv⟩ : ∃ v, v = x 3 := ⟨_, rfl⟩
  rw [← hlv] at e2_1 hL2
  obtain ⟨L1, hL1⟩ : ∃ L, L = [] ++ vs.zip [ ([] : List Nat) ] := ⟨_, rfl⟩
  have hll : L1.length = 1 := by rw [hL1]; simp [hvl]
  rw [← hL1] at hL2
  have bb := b1.trans b2
  clear hx hlv hL1 hvl ha hN_0 hD_0 e1_0 e2_0 hE1 b1 b2
  repeat (first | refine wp_seq ?_ | (refine wp_skip ?_; refine then_n ?_))
  refine wp_set fun x hx => ?_
  refine then_n ?_
  obtain ⟨a_2, ha⟩ : ∃ a, a = putE x a_1 [(0, some 3)] := ⟨_, rfl⟩
  rw [← ha]
  have hN_2 := size_behind ha hN_1
  have hD_2 := defers_behind ha hD_1
  have e1_2 := slot_old ha (by kernel_rfl) e1_1
  have e2_2 := slot_old ha (by kernel_rfl) e2_1
  have e3_2 := (slot_new (t := 3) (i := 0) ha hN_1 (by kernel_rfl) (by kernel_rfl)).trans (hx)
  clear ha hN_1 hD_1 e1_1 e2_1
  clear hx
  repeat (first | refine wp_seq ?_ | (refine wp_skip ?_; refine then_n ?_))
  refine wp_block ?_
  refine wp_loop (fun a W => a.tmps.size = 98 ∧ a.defers = [] ∧ a.eval (.tmp 1) = (.slice (some ⟨g1, 0, none⟩) 7 7) ∧ Below w.heap.size w W ∧ ∃ (i : Nat) (lv : Value) (L : List (Value × List Nat)), i ≤ 7 ∧ a.eval (.tmp 2) = lv ∧ a.eval (.tmp 3) = .int .i64 (i : Int) ∧ OwnRows W w.heap.size lv L ∧ L.length = 1 + 15 * i ∧ Own W w.heap.size 23 (.slice (some ⟨g1, 0, none⟩) 7 7) (u32s ends7)) (fun a _ => 7 - (intOf (a.eval (.tmp 3))).toNat) ?_ ?_
  · exact ⟨hN_2, hD_2, e1_2, bb, 0, lv, L1, by decide, e2_2, e3_2, hL2, by omega, hE2⟩
  clear hN_2 hD_2 e1_2 e2_2 e3_2 hL2 hll hE2 bb lv L1 w2
  rintro a_10 W1 ⟨hN_10, hD_10, e1_10, bb, i, lv, L, hi7, e2_10, e3_10, hL, hll, hE⟩
  have hm : intOf (a_10.eval (.tmp 3)) = (i : Int) := by rw [e3_10]; rfl
  rw [hm]
  clear hm
  repeat (first | refine wp_seq ?_ | (refine wp_skip ?_; refine then_n ?_))
  refine wp_less hN_10 (by kernel_rfl) (by kernel_rfl) (by kernel_rfl) (by kernel_rfl) (by kernel_rfl) (by kernel_rfl) e3_10 e1_10 (len_runD _ _ _ _) (less_run _ _) fun x hx => ?_
  refine then_n ?_
  obtain ⟨a_11, ha⟩ : ∃ a, a = putE x a_10 [(0, some 13), (1, some 14), (2, some 15), (3, some 16)] := ⟨_, rfl⟩
  rw [← ha]
  have hN_11 := size_behind ha hN_10
  have hD_11 := defers_behind ha hD_10
  have e1_11 := slot_old ha (by kernel_rfl) e1_10
  have e2_11 := slot_old ha (by kernel_rfl) e2_10
  have e3_11 := slot_old ha (by kernel_rfl) e3_10
  have e16_11 := (slot_new (t := 16) (i := 3) ha hN_10 (by kernel_rfl) (by kernel_rfl)).trans (hx)
  clear ha hN_10 hD_10 e1_10 e2_10 e3_10
  clear hx
  by_cases hi : i < 7
  ·
    have hc : decide ((i : Int) < ((7 : Nat) : Int)) = true := decide_eq_true (by omega)
    rw [hc] at e16_11
    clear hc
    refine wp_cond_true e16_11 ?_
    refine wp_skip ?_
    refine then_n ?_
    repeat (first | refine wp_seq ?_ | (refine wp_skip ?_; refine then_n ?_))
    refine wp_block ?_
    repeat (first | refine wp_seq ?_ | (refine wp_skip ?_; refine then_n ?_))
    obtain ⟨y, hy, hcy⟩ : ∃ y : Nat, y < 4294967296 ∧ W1.cell? ⟨g1, i, none⟩ = some (.int .u32 (y : Int)) := ends_cell hE hi
    refine wp_region_app hN_11 w.heap.size 7 [kIs (lv), kIs ((.slice (some ⟨g1, 0, none⟩) 7 7)), kIs (.int .i64 (i : Int)), kIs (.pointer (some ⟨g1, i, none⟩)), kIs (.int .u32 (y : Int)), kRow w.heap.size [y], kNews w.heap.size [ [y] ]] [ [], [], [], [(1, some 20), (2, some 21)], [(3, some 22)], [(4, some 23)], [(5, some 24)], [(0, some 19), (6, some 25)], [(7, some 26)] ] [(0, some 19), (1, some 20), (2, some 21), (3, some 22), (4, some 23), (5, some 24), (6, some 25), (7, some 26), (8, some 2)] (by kernel_rfl) (by kernel_rfl) rfl (by kernel_rfl) (by kernel_rfl) (by kernel_rfl) (Nat.le_trans bb.size (Nat.le_refl _)) (Longer w.heap.size W1 (.slice (some ⟨g1, 0, none⟩) 7 7) L [ [y] ]) rfl rfl ?_ ?_ rfl rfl (by kernel_rfl) (by kernel_rfl) ?_
    ·
      refine pk_cons rfl rfl ?_ ?_
      · exact st_pure [] [(2, lv)] lv rfl hN_11 (by kernel_rfl) (by kernel_rfl) (by kernel_rfl) (old1 e2_11) (by kernel_rfl) (by kernel_rfl) (by kernel_rfl) (fun _ => by kernel_rfl)
      refine pk_cons rfl rfl ?_ ?_
      · exact st_pure [] [(1, (.slice (some ⟨g1, 0, none⟩) 7 7))] (.slice (some ⟨g1, 0, none⟩) 7 7) rfl hN_11 (by kernel_rfl) (by kernel_rfl) (by kernel_rfl) (old1 e1_11) (by kernel_rfl) (by kernel_rfl) (by kernel_rfl) (fun _ => by kernel_rfl)
      refine pk_cons rfl rfl ?_ ?_
      · exact st_pure [] [(3, (.int .i64 (i : Int)))] (.int .i64 (i : Int)) rfl hN_11 (by kernel_rfl) (by kernel_rfl) (by kernel_rfl) (old1 e3_11) (by kernel_rfl) (by kernel_rfl) (by kernel_rfl) (fun _ => by kernel_rfl)
      refine pk_cons rfl rfl ?_ ?_
      · exact st_idxD hi hN_11 (by kernel_rfl) (by kernel_rfl) (by kernel_rfl) (by kernel_rfl) rfl rfl rfl
      refine pk_cons rfl rfl ?_ ?_
      · exact st_loadD hcy hN_11 (by kernel_rfl) (by kernel_rfl) rfl rfl
      refine pk_cons rfl rfl ?_ ?_
      · exact st_row1 bb.size hN_11 (by kernel_rfl) (by kernel_rfl) rfl rfl
      refine pk_cons rfl rfl ?_ ?_
      · exact st_news1 (Nat.le_refl _) hN_11 (by kernel_rfl) (by kernel_rfl) rfl rfl
      exact pk_skip rfl (pk_skip rfl (pk_nil rfl))
    · intro x W hC hall K hK
      exact app_step hL hE rfl bb.size (by rw [hll]; simp only [List.length_cons, List.length_nil]; omega) (by simp) (fun ds hds => by rw [List.mem_singleton.1 hds]; exact ⟨small1 hy, by simp⟩) hC hN_11 (by kernel_rfl) (by kernel_rfl) (by kernel_rfl) (by kernel_rfl) (hall 0 (by decide)) (hall 6 (by decide)) hK
    rintro x W2 ⟨vs, hvl, hL2, hE2, b2⟩ hx
    rw [← hx] at hL2
    refine then_n ?_
    obtain ⟨a_12, ha⟩ : ∃ a, a = putE x a_11 [(0, some 19), (1, some 20), (2, some 21), (3, some 22), (4, some 23), (5, some 24), (6, some 25), (7, some 26), (8, some 2)] := ⟨_, rfl⟩
    rw [← ha]
    have hN_12 := size_behind ha hN_11
    have hD_12 := defers_behind ha hD_11
    have e1_12 := slot_old ha (by kernel_rfl) e1_11
    have e3_12 := slot_old ha (by kernel_rfl) e3_11
    have e2_12 := (slot_new (t := 2) (i := 8) ha hN_11 (by kernel_rfl) (by kernel_rfl)).trans (rfl)
    clear ha hN_11 hD_11 e1_11 e2_11 e3_11 e16_11
    obtain ⟨lv2, hlv⟩ : ∃ v, v = x 8 := ⟨_, rfl⟩
    replace e2_12 : a_12.eval (.tmp 2) = lv2 := e2_12.trans hlv.symm
    replace hL2 : OwnRows W2 w.heap.size lv2 (L ++ vs.zip [ [y] ]) := by rw [hlv]; exact hL2
    obtain ⟨L2, hL2e⟩ : ∃ M, M = L ++ vs.zip [ [y] ] := ⟨_, rfl⟩
    have hll2 : L2.length = 2 + 15 * i + 2 * 0 := by rw [hL2e, List.length_append, hll, List.length_zip, hvl]; simp only [List.length_cons, List.length_nil]; omega
    rw [← hL2e] at hL2
    replace bb := bb.trans b2
    clear hx hlv hL2e hvl hL hll hE hcy hy y lv L b2 vs W1
    repeat (first | refine wp_seq ?_ | (refine wp_skip ?_; refine then_n ?_))
    refine wp_set fun x hx => ?_
    refine then_n ?_
    obtain ⟨a_13, ha⟩ : ∃ a, a = putE x a_12 [(0, some 4)] := ⟨_, rfl⟩
    rw [← ha]
    have hN_13 := size_behind ha hN_12
    have hD_13 := defers_behind ha hD_12
    have e1_13 := slot_old ha (by kernel_rfl) e1_12
    have e3_13 := slot_old ha (by kernel_rfl) e3_12
    have e2_13 := slot_old ha (by kernel_rfl) e2_12
    have e4_13 := (slot_new (t := 4) (i := 0) ha hN_12 (by kernel_rfl) (by kernel_rfl)).trans (hx)
    clear ha hN_12 hD_12 e1_12 e3_12 e2_12
    clear hx
    repeat (first | refine wp_seq ?_ | (refine wp_skip ?_; refine then_n ?_))
    refine wp_block ?_
    refine wp_loop (fun a W => a.tmps.size = 98 ∧ a.defers = [] ∧ a.eval (.tmp 1) = (.slice (some ⟨g1, 0, none⟩) 7 7) ∧ a.eval (.tmp 3) = (.int .i64 (i : Int)) ∧ Below w.heap.size w W ∧ ∃ (j : Nat) (lv : Value) (L : List (Value × List Nat)), j ≤ 7 ∧ a.eval (.tmp 2) = lv ∧ a.eval (.tmp 4) = .int .i64 (j : Int) ∧ OwnRows W w.heap.size lv L ∧ L.length = 2 + 15 * i + 2 * j ∧ Own W w.heap.size 23 (.slice (some ⟨g1, 0, none⟩) 7 7) (u32s ends7)) (fun a _ => 7 - (intOf (a.eval (.tmp 4))).toNat) ?_ ?_
    · exact ⟨hN_13, hD_13, e1_13, e3_13, bb, 0, lv2, L2, by decide, e2_13, e4_13, hL2, hll2, hE2⟩
    clear hN_13 hD_13 e1_13 e3_13 e2_13 e4_13 hL2 hll2 hE2 bb lv2 L2 W2
    rintro a_30 W1 ⟨hN_30, hD_30, e1_30, e3_30, bb, j, lv, L, hj7, e2_30, e4_30, hL, hll, hE⟩
    have hm : intOf (a_30.eval (.tmp 4)) = (j : Int) := by rw [e4_30]; rfl
    rw [hm]
    clear hm
    repeat (first | refine wp_seq ?_ | (refine wp_skip ?_; refine then_n ?_))
    refine wp_less hN_30 (by kernel_rfl) (by kernel_rfl) (by kernel_rfl) (by kernel_rfl) (by kernel_rfl) (by kernel_rfl) e4_30 e1_30 (len_runD _ _ _ _) (less_run _ _) fun x hx => ?_
    refine then_n ?_
    obtain ⟨a_31, ha⟩ : ∃ a, a = putE x a_30 [(0, some 27), (1, some 28), (2, some 29), (3, some 30)] := ⟨_, rfl⟩
    rw [← ha]
    have hN_31 := size_behind ha hN_30
    have hD_31 := defers_behind ha hD_30
    have e1_31 := slot_old ha (by kernel_rfl) e1_30
    have e2_31 := slot_old ha (by kernel_rfl) e2_30
    have e3_31 := slot_old ha (by kernel_rfl) e3_30
    have e4_31 := slot_old ha (by kernel_rfl) e4_30
    have e30_31 := (slot_new (t := 30) (i := 3) ha hN_30 (by kernel_rfl) (by kernel_rfl)).trans (hx)
    clear ha hN_30 hD_30 e1_30 e2_30 e3_30 e4_30
    clear hx
    by_cases hj : j < 7
    ·
      have hc : decide ((j : Int) < ((7 : Nat) : Int)) = true := decide_eq_true (by omega)
      rw [hc] at e30_31
      clear hc
      refine wp_cond_true e30_31 ?_
      refine wp_skip ?_
      refine then_n ?_
      repeat (first | refine wp_seq ?_ | (refine wp_skip ?_; refine then_n ?_))
      refine wp_block ?_
      obtain ⟨y, hy, hcy⟩ : ∃ y : Nat, y < 4294967296 ∧ W1.cell? ⟨g1, i, none⟩ = some (.int .u32 (y : Int)) := ends_cell hE hi
      obtain ⟨z, hz, hcz⟩ : ∃ z : Nat, z < 4294967296 ∧ W1.cell? ⟨g1, j, none⟩ = some (.int .u32 (z : Int)) := ends_cell hE hj
      refine wp_region_app hN_31 w.heap.size 20 [kIs (lv), kIs ((.slice (some ⟨g1, 0, none⟩) 7 7)), kIs (.int .i64 (i : Int)), kIs (.pointer (some ⟨g1, i, none⟩)), kIs (.int .u32 (y : Int)), kIs ((.slice (some ⟨g1, 0, none⟩) 7 7)), kIs (.int .i64 (j : Int)), kIs (.pointer (some ⟨g1, j, none⟩)), kIs (.int .u32 (z : Int)), kRow w.heap.size [y, z], kIs ((.slice (some ⟨g1, 0, none⟩) 7 7)), kIs (.int .i64 (i : Int)), kIs (.pointer (some ⟨g1, i, none⟩)), kIs (.int .u32 (y : Int)), kIs ((.slice (some ⟨g1, 0, none⟩) 7 7)), kIs (.int .i64 (j : Int)), kIs (.pointer (some ⟨g1, j, none⟩)), kIs (.int .u32 (z : Int)), kRow w.heap.size [y, 0, z], kNews w.heap.size [ [y, z], [y, 0, z] ]] [ [], [], [], [(1, some 34), (2, some 35)], [(3, some 36)], [], [], [(5, some 38), (6, some 39)], [(7, some 40)], [(4, some 37), (8, some 41)], [], [], [(10, some 43), (11, some 44)], [(12, some 45)], [], [], [(14, some 47), (15, some 48)], [(16, some 49)], [(13, some 46), (17, some 50)], [(9, some 42), (18, some 51)], [(0, some 33), (19, some 52)], [(20, some 53)] ] [(0, some 33), (1, some 34), (2, some 35), (3, some 36), (4, some 37), (5, some 38), (6, some 39), (7, some 40), (8, some 41), (9, some 42), (10, some 43), (11, some 44), (12, some 45), (13, some 46), (14, some 47), (15, some 48), (16, some 49), (17, some 50), (18, some 51), (19, some 52), (20, some 53), (21, some 2)] (by kernel_rfl) (by kernel_rfl) rfl (by kernel_rfl) (by kernel_rfl) (by kernel_rfl) (Nat.le_trans bb.size (Nat.le_refl _)) (Longer w.heap.size W1 (.slice (some ⟨g1, 0, none⟩) 7 7) L [ [y, z], [y, 0, z] ]) rfl rfl ?_ ?_ rfl rfl (by kernel_rfl) (by kernel_rfl) ?_
      ·
        refine pk_cons rfl rfl ?_ ?_
        · exact st_pure [] [(2, lv)] lv rfl hN_31 (by kernel_rfl) (by kernel_rfl) (by kernel_rfl) (old1 e2_31) (by kernel_rfl) (by kernel_rfl) (by kernel_rfl) (fun _ => by kernel_rfl)
        refine pk_cons rfl rfl ?_ ?_
        · exact st_pure [] [(1, (.slice (some ⟨g1, 0, none⟩) 7 7))] (.slice (some ⟨g1, 0, none⟩) 7 7) rfl hN_31 (by kernel_rfl) (by kernel_rfl) (by kernel_rfl) (old1 e1_31) (by kernel_rfl) (by kernel_rfl) (by kernel_rfl) (fun _ => by kernel_rfl)
        refine pk_cons rfl rfl ?_ ?_
        · exact st_pure [] [(3, (.int .i64 (i : Int)))] (.int .i64 (i : Int)) rfl hN_31 (by kernel_rfl) (by kernel_rfl) (by kernel_rfl) (old1 e3_31) (by kernel_rfl) (by kernel_rfl) (by kernel_rfl) (fun _ => by kernel_rfl)
        refine pk_cons rfl rfl ?_ ?_
        · exact st_idxD hi hN_31 (by kernel_rfl) (by kernel_rfl) (by kernel_rfl) (by kernel_rfl) rfl rfl rfl
        refine pk_cons rfl rfl ?_ ?_
        · exact st_loadD hcy hN_31 (by kernel_rfl) (by kernel_rfl) rfl rfl
        refine pk_cons rfl rfl ?_ ?_
        · exact st_pure [] [(1, (.slice (some ⟨g1, 0, none⟩) 7 7))] (.slice (some ⟨g1, 0, none⟩) 7 7) rfl hN_31 (by kernel_rfl) (by kernel_rfl) (by kernel_rfl) (old1 e1_31) (by kernel_rfl) (by kernel_rfl) (by kernel_rfl) (fun _ => by kernel_rfl)
        refine pk_cons rfl rfl ?_ ?_
        · exact st_pure [] [(4, (.int .i64 (j : Int)))] (.int .i64 (j : Int)) rfl hN_31 (by kernel_rfl) (by kernel_rfl) (by kernel_rfl) (old1 e4_31) (by kernel_rfl) (by kernel_rfl) (by kernel_rfl) (fun _ => by kernel_rfl)
        refine pk_cons rfl rfl ?_ ?_
        · exact st_idxD hj hN_31 (by kernel_rfl) (by kernel_rfl) (by kernel_rfl) (by kernel_rfl) rfl rfl rfl
        refine pk_cons rfl rfl ?_ ?_
        · exact st_loadD hcz hN_31 (by kernel_rfl) (by kernel_rfl) rfl rfl
        refine pk_cons rfl rfl ?_ ?_
        · exact st_row2 bb.size hN_31 (by kernel_rfl) (by kernel_rfl) (by kernel_rfl) (by kernel_rfl) rfl rfl rfl
        refine pk_cons rfl rfl ?_ ?_
        · exact st_pure [] [(1, (.slice (some ⟨g1, 0, none⟩) 7 7))] (.slice (some ⟨g1, 0, none⟩) 7 7) rfl hN_31 (by kernel_rfl) (by kernel_rfl) (by kernel_rfl) (old1 e1_31) (by kernel_rfl) (by kernel_rfl) (by kernel_rfl) (fun _ => by kernel_rfl)
        refine pk_cons rfl rfl ?_ ?_
        · exact st_pure [] [(3, (.int .i64 (i : Int)))] (.int .i64 (i : Int)) rfl hN_31 (by kernel_rfl) (by kernel_rfl) (by kernel_rfl) (old1 e3_31) (by kernel_rfl) (by kernel_rfl) (by kernel_rfl) (fun _ => by kernel_rfl)
        refine pk_cons rfl rfl ?_ ?_
        · exact st_idxD hi hN_31 (by kernel_rfl) (by kernel_rfl) (by kernel_rfl) (by kernel_rfl) rfl rfl rfl
        refine pk_cons rfl rfl ?_ ?_
        · exact st_loadD hcy hN_31 (by kernel_rfl) (by kernel_rfl) rfl rfl
        refine pk_cons rfl rfl ?_ ?_
        · exact st_pure [] [(1, (.slice (some ⟨g1, 0, none⟩) 7 7))] (.slice (some ⟨g1, 0, none⟩) 7 7) rfl hN_31 (by kernel_rfl) (by kernel_rfl) (by kernel_rfl) (old1 e1_31) (by kernel_rfl) (by kernel_rfl) (by kernel_rfl) (fun _ => by kernel_rfl)
        refine pk_cons rfl rfl ?_ ?_
        · exact st_pure [] [(4, (.int .i64 (j : Int)))] (.int .i64 (j : Int)) rfl hN_31 (by kernel_rfl) (by kernel_rfl) (by kernel_rfl) (old1 e4_31) (by kernel_rfl) (by kernel_rfl) (by kernel_rfl) (fun _ => by kernel_rfl)
        refine pk_cons rfl rfl ?_ ?_
        · exact st_idxD hj hN_31 (by kernel_rfl) (by kernel_rfl) (by kernel_rfl) (by kernel_rfl) rfl rfl rfl
        refine pk_cons rfl rfl ?_ ?_
        · exact st_loadD hcz hN_31 (by kernel_rfl) (by kernel_rfl) rfl rfl
        refine pk_cons rfl rfl ?_ ?_
        · exact st_row3 bb.size hN_31 (by kernel_rfl) (by kernel_rfl) (by kernel_rfl) (by kernel_rfl) rfl rfl rfl
        refine pk_cons rfl rfl ?_ ?_
        · exact st_news2 (Nat.le_refl _) hN_31 (by kernel_rfl) (by kernel_rfl) (by kernel_rfl) (by kernel_rfl) rfl rfl rfl
        exact pk_skip rfl (pk_skip rfl (pk_nil rfl))
      · intro x W hC hall K hK
        exact app_step hL hE rfl bb.size (by rw [hll]; simp only [List.length_cons, List.length_nil]; omega) (by simp) (fun ds hds => small23 hy hz hds) hC hN_31 (by kernel_rfl) (by kernel_rfl) (by kernel_rfl) (by kernel_rfl) (hall 0 (by decide)) (hall 19 (by decide)) hK
      rintro x W2 ⟨vs, hvl, hL2, hE2, b2⟩ hx
      rw [← hx] at hL2
      obtain ⟨a_32, ha⟩ : ∃ a, a = putE x a_31 [(0, some 33), (1, some 34), (2, some 35), (3, some 36), (4, some 37), (5, some 38), (6, some 39), (7, some 40), (8, some 41), (9, some 42), (10, some 43), (11, some 44), (12, some 45), (13, some 46), (14, some 47), (15, some 48), (16, some 49), (17, some 50), (18, some 51), (19, some 52), (20, some 53), (21, some 2)] := ⟨_, rfl⟩
      rw [← ha]
      have hN_32 := size_behind ha hN_31
      have hD_32 := defers_behind ha hD_31
      have e1_32 := slot_old ha (by kernel_rfl) e1_31
      have e3_32 := slot_old ha (by kernel_rfl) e3_31
      have e4_32 := slot_old ha (by kernel_rfl) e4_31
      have e2_32 := (slot_new (t := 2) (i := 21) ha hN_31 (by kernel_rfl) (by kernel_rfl)).trans (rfl)
      clear ha hN_31 hD_31 e1_31 e2_31 e3_31 e4_31 e30_31
      obtain ⟨lv2, hlv⟩ : ∃ v, v = x 21 := ⟨_, rfl⟩
      replace e2_32 : a_32.eval (.tmp 2) = lv2 := e2_32.trans hlv.symm
      replace hL2 : OwnRows W2 w.heap.size lv2 (L ++ vs.zip [ [y, z], [y, 0, z] ]) := by rw [hlv]; exact hL2
      obtain ⟨L2, hL2e⟩ : ∃ M, M = L ++ vs.zip [ [y, z], [y, 0, z] ] := ⟨_, rfl⟩
      have hll2 : L2.length = 2 + 15 * i + 2 * (j + 1) := by rw [hL2e, List.length_append, hll, List.length_zip, hvl]; simp only [List.length_cons, List.length_nil]; omega
      rw [← hL2e] at hL2
      replace bb := bb.trans b2
      clear hx hlv hL2e hvl hL hll hE hcy hcz hy hz y z lv L b2 vs W1
      refine in_block ?_
      refine then_n ?_
      refine wp_incr (n := (j : Int)) (m := ((j + 1 : Nat) : Int)) hN_32 (by kernel_rfl) (by kernel_rfl) e4_32 (add_run j 1 (by omega)) fun x hx => ?_
      obtain ⟨a_33, ha⟩ : ∃ a, a = putE x a_32 [(0, some 31), (1, some 32), (2, some 4)] := ⟨_, rfl⟩
      rw [← ha]
      have hN_33 := size_behind ha hN_32
      have hD_33 := defers_behind ha hD_32
      have e1_33 := slot_old ha (by kernel_rfl) e1_32
      have e3_33 := slot_old ha (by kernel_rfl) e3_32
      have e2_33 := slot_old ha (by kernel_rfl) e2_32
      have e4_33 := (slot_new (t := 4) (i := 2) ha hN_32 (by kernel_rfl) (by kernel_rfl)).trans (hx)
      clear ha hN_32 hD_32 e1_32 e3_32 e4_32 e2_32
      refine then_n ⟨⟨hN_33, hD_33, e1_33, e3_33, bb, j + 1, lv2, L2, by omega, e2_33, e4_33, hL2, hll2, hE2⟩, ?_⟩
      rw [show intOf (a_33.eval (.tmp 4)) = ((j + 1 : Nat) : Int) by rw [e4_33]; rfl]
      omega
    ·
      have hc : decide ((j : Int) < ((7 : Nat) : Int)) = false := decide_eq_false (by omega)
      rw [hc] at e30_31
      clear hc
      refine wp_cond_false e30_31 ?_
      refine wp_exit ?_
      refine then_x ?_
      refine then_x ?_
      refine out_block ?_
      refine in_block ?_
      refine then_n ?_
      refine wp_incr (n := (i : Int)) (m := ((i + 1 : Nat) : Int)) hN_31 (by kernel_rfl) (by kernel_rfl) e3_31 (add_run i 1 (by omega)) fun x hx => ?_
      obtain ⟨a_52, ha⟩ : ∃ a, a = putE x a_31 [(0, some 17), (1, some 18), (2, some 3)] := ⟨_, rfl⟩
      rw [← ha]
      have hN_52 := size_behind ha hN_31
      have hD_52 := defers_behind ha hD_31
      have e1_52 := slot_old ha (by kernel_rfl) e1_31
      have e2_52 := slot_old ha (by kernel_rfl) e2_31
      have e4_52 := slot_old ha (by kernel_rfl) e4_31
      have e30_52 := slot_old ha (by kernel_rfl) e30_31
      have e3_52 := (slot_new (t := 3) (i := 2) ha hN_31 (by kernel_rfl) (by kernel_rfl)).trans (hx)
      clear ha hN_31 hD_31 e1_31 e2_31 e3_31 e4_31 e30_31
      refine then_n ⟨⟨hN_52, hD_52, e1_52, bb, i + 1, lv, L, by omega, e2_52, e3_52, hL, by omega, hE⟩, ?_⟩
      rw [show intOf (a_52.eval (.tmp 3)) = ((i + 1 : Nat) : Int) by rw [e3_52]; rfl]
      omega
  ·
    have hc : decide ((i : Int) < ((7 : Nat) : Int)) = false := decide_eq_false (by omega)
    rw [hc] at e16_11
    clear hc
    refine wp_cond_false e16_11 ?_
    refine wp_exit ?_
    refine then_x ?_
    refine then_x ?_
    refine out_block ?_
    refine then_n ?_
    obtain ⟨A, c, rfl, _, _⟩ := hL.1.slice
    have hl106 : L.length = 106 := by omega
    rw [List.length_map, hl106] at e2_11
    rw [List.length_map, hl106] at hL
    have HL := Lib.hid hL
    have HLL := Lib.hid hl106
    clear hE e1_11 e3_11 e16_11 hll hi7 hi hL hl106
    repeat (first | refine wp_seq ?_ | (refine wp_skip ?_; refine then_n ?_))
    refine wp_set fun x hx => ?_
    refine then_n ?_
    obtain ⟨a_61, ha⟩ : ∃ a, a = putE x a_11 [(0, some 5)] := ⟨_, rfl⟩
    rw [← ha]
    have hN_61 := size_behind ha hN_11
    have hD_61 := defers_behind ha hD_11
    have e2_61 := slot_old ha (by kernel_rfl) e2_11
    have e5_61 := (slot_new (t := 5) (i := 0) ha hN_11 (by kernel_rfl) (by kernel_rfl)).trans (hx)
    clear ha hN_11 hD_11 e2_11
    clear hx
    repeat (first | refine wp_seq ?_ | (refine wp_skip ?_; refine then_n ?_))
    refine wp_block ?_
    refine wp_loop (fun a W => a.tmps.size = 98 ∧ a.defers = [] ∧ a.eval (.tmp 2) = (.slice A 106 c) ∧ Below w.heap.size w W ∧ Below W1.heap.size W1 W ∧ ∃ i : Nat, i ≤ 106 ∧ a.eval (.tmp 5) = .int .i64 (i : Int)) (fun a _ => 106 - (intOf (a.eval (.tmp 5))).toNat) ?_ ?_
    · exact ⟨hN_61, hD_61, e2_61, bb, Below.refl _ _, 0, by decide, e5_61⟩
    clear hN_61 hD_61 e2_61 e5_61
    have B1 := bb
    clear bb
    rintro a_70 W2 ⟨hN_70, hD_70, e2_70, bb, b12, i, hi7, e5_70⟩
    have hm : intOf (a_70.eval (.tmp 5)) = (i : Int) := by rw [e5_70]; rfl
    rw [hm]
    clear hm
    repeat (first | refine wp_seq ?_ | (refine wp_skip ?_; refine then_n ?_))
    refine wp_less hN_70 (by kernel_rfl) (by kernel_rfl) (by kernel_rfl) (by kernel_rfl) (by kernel_rfl) (by kernel_rfl) e5_70 e2_70 (len_runL _ _ _ _) (less_run _ _) fun x hx => ?_
    refine then_n ?_
    obtain ⟨a_71, ha⟩ : ∃ a, a = putE x a_70 [(0, some 54), (1, some 55), (2, some 56), (3, some 57)] := ⟨_, rfl⟩
    rw [← ha]
    have hN_71 := size_behind ha hN_70
    have hD_71 := defers_behind ha hD_70
    have e2_71 := slot_old ha (by kernel_rfl) e2_70
    have e5_71 := slot_old ha (by kernel_rfl) e5_70
    have e57_71 := (slot_new (t := 57) (i := 3) ha hN_70 (by kernel_rfl) (by kernel_rfl)).trans (hx)
    clear ha hN_70 hD_70 e2_70 e5_70
    clear hx
    by_cases hi : i < 106
    ·
      have hc : decide ((i : Int) < ((106 : Nat) : Int)) = true := decide_eq_true (by omega)
      rw [hc] at e57_71
      clear hc
      refine wp_cond_true e57_71 ?_
      refine wp_skip ?_
      refine then_n ?_
      repeat (first | refine wp_seq ?_ | (refine wp_skip ?_; refine then_n ?_))
      refine wp_block ?_
      repeat (first | refine wp_seq ?_ | (refine wp_skip ?_; refine then_n ?_))
      refine wp_set fun x hx => ?_
      refine then_n ?_
      obtain ⟨a_72, ha⟩ : ∃ a, a = putE x a_71 [(0, some 6)] := ⟨_, rfl⟩
      rw [← ha]
      have hN_72 := size_behind ha hN_71
      have hD_72 := defers_behind ha hD_71
      have e2_72 := slot_old ha (by kernel_rfl) e2_71
      have e5_72 := slot_old ha (by kernel_rfl) e5_71
      have e6_72 := (slot_new (t := 6) (i := 0) ha hN_71 (by kernel_rfl) (by kernel_rfl)).trans (hx)
      clear ha hN_71 hD_71 e2_71 e5_71 e57_71
      clear hx
      repeat (first | refine wp_seq ?_ | (refine wp_skip ?_; refine then_n ?_))
      refine wp_block ?_
      refine wp_loop (fun a W => a.tmps.size = 98 ∧ a.defers = [] ∧ a.eval (.tmp 2) = (.slice A 106 c) ∧ a.eval (.tmp 5) = (.int .i64 (i : Int)) ∧ Below w.heap.size w W ∧ Below W1.heap.size W1 W ∧ ∃ k : Nat, k ≤ 108 ∧ a.eval (.tmp 6) = .int .i64 (k : Int)) (fun a _ => 109 - (intOf (a.eval (.tmp 6))).toNat) ?_ ?_
      · exact ⟨hN_72, hD_72, e2_72, e5_72, bb, b12, 0, by decide, e6_72⟩
      clear hN_72 hD_72 e2_72 e5_72 e6_72 bb b12 W2
      rintro a_90 W2 ⟨hN_90, hD_90, e2_90, e5_90, bb, b12, k, hk7, e6_90⟩
      have hm : intOf (a_90.eval (.tmp 6)) = (k : Int) := by rw [e6_90]; rfl
      rw [hm]
      clear hm
      repeat (first | refine wp_seq ?_ | (refine wp_skip ?_; refine then_n ?_))
      refine wp_less hN_90 (by kernel_rfl) (by kernel_rfl) (by kernel_rfl) (by kernel_rfl) (by kernel_rfl) (by kernel_rfl) e6_90 e2_90 (len_runL _ _ _ _) (less_run _ _) fun x hx => ?_
      refine then_n ?_
      obtain ⟨a_91, ha⟩ : ∃ a, a = putE x a_90 [(0, some 60), (1, some 61), (2, some 62), (3, some 63)] := ⟨_, rfl⟩
      rw [← ha]
      have hN_91 := size_behind ha hN_90
      have hD_91 := defers_behind ha hD_90
      have e2_91 := slot_old ha (by kernel_rfl) e2_90
      have e5_91 := slot_old ha (by kernel_rfl) e5_90
      have e6_91 := slot_old ha (by kernel_rfl) e6_90
      have e63_91 := (slot_new (t := 63) (i := 3) ha hN_90 (by kernel_rfl) (by kernel_rfl)).trans (hx)
      clear ha hN_90 hD_90 e2_90 e5_90 e6_90
      clear hx
      by_cases hk : k < 106
      ·
        have hc : decide ((k : Int) < ((106 : Nat) : Int)) = true := decide_eq_true (by omega)
        rw [hc] at e63_91
        clear hc
        refine wp_cond_true e63_91 ?_
        refine wp_skip ?_
        refine then_n ?_
        repeat (first | refine wp_seq ?_ | (refine wp_skip ?_; refine then_n ?_))
        refine wp_block ?_
        repeat (first | refine wp_seq ?_ | (refine wp_skip ?_; refine then_n ?_))
        obtain ⟨g, r, rfl, hr, hcr⟩ := rows_cell HL.out (k := i) (by rw [HLL.out]; exact hi)
        obtain ⟨g', q, hgg, hq, hcq⟩ := rows_cell HL.out (k := k) (by rw [HLL.out]; exact hk)
        obtain rfl : g = g' := by injection hgg with hgg; injection hgg with hgg
        clear hgg
        have hr2 := own32_below hr b12
        have hq2 := own32_below hq b12
        have hcr2 := (b12.cell (cell_lt hcr)).trans hcr
        have hcq2 := (b12.cell (cell_lt hcq)).trans hcq
        refine wp_region_law hN_91 w.heap.size [kIs ((.slice (some ⟨g, 0, none⟩) 106 c)), kIs (.int .i64 (i : Int)), kIs (.pointer (some ⟨g, i, none⟩)), kIs r.1, kIs ((.slice (some ⟨g, 0, none⟩) 106 c)), kIs (.int .i64 (k : Int)), kIs (.pointer (some ⟨g, k, none⟩)), kIs q.1, kIs (.bool true), kIs (.bool false)] [ [], [], [(0, some 69), (1, some 70)], [(2, some 71)], [], [], [(4, some 73), (5, some 74)], [(6, some 75)], [(3, some 72), (7, some 76)], [(8, some 77)] ] [(0, some 69), (1, some 70), (2, some 71), (3, some 72), (4, some 73), (5, some 74), (6, some 75), (7, some 76), (8, some 77), (9, some 78)] [] [] (by kernel_rfl) (by kernel_rfl) (by kernel_rfl) (by kernel_rfl) (by kernel_rfl) (by kernel_rfl) (by kernel_rfl) bb.size ?_ ?_
        ·
          refine pk_cons rfl rfl ?_ ?_
          · exact st_pure [] [(2, (.slice (some ⟨g, 0, none⟩) 106 c))] (.slice (some ⟨g, 0, none⟩) 106 c) rfl hN_91 (by kernel_rfl) (by kernel_rfl) (by kernel_rfl) (old1 e2_91) (by kernel_rfl) (by kernel_rfl) (by kernel_rfl) (fun _ => by kernel_rfl)
          refine pk_cons rfl rfl ?_ ?_
          · exact st_pure [] [(5, (.int .i64 (i : Int)))] (.int .i64 (i : Int)) rfl hN_91 (by kernel_rfl) (by kernel_rfl) (by kernel_rfl) (old1 e5_91) (by kernel_rfl) (by kernel_rfl) (by kernel_rfl) (fun _ => by kernel_rfl)
          refine pk_cons rfl rfl ?_ ?_
          · exact st_idxL hi hN_91 (by kernel_rfl) (by kernel_rfl) (by kernel_rfl) (by kernel_rfl) rfl rfl rfl
          refine pk_cons rfl rfl ?_ ?_
          · exact st_loadL hcr2 hN_91 (by kernel_rfl) (by kernel_rfl) rfl rfl
          refine pk_cons rfl rfl ?_ ?_
          · exact st_pure [] [(2, (.slice (some ⟨g, 0, none⟩) 106 c))] (.slice (some ⟨g, 0, none⟩) 106 c) rfl hN_91 (by kernel_rfl) (by kernel_rfl) (by kernel_rfl) (old1 e2_91) (by kernel_rfl) (by kernel_rfl) (by kernel_rfl) (fun _ => by kernel_rfl)
          refine pk_cons rfl rfl ?_ ?_
          · exact st_pure [] [(6, (.int .i64 (k : Int)))] (.int .i64 (k : Int)) rfl hN_91 (by kernel_rfl) (by kernel_rfl) (by kernel_rfl) (old1 e6_91) (by kernel_rfl) (by kernel_rfl) (by kernel_rfl) (fun _ => by kernel_rfl)
          refine pk_cons rfl rfl ?_ ?_
          · exact st_idxL hk hN_91 (by kernel_rfl) (by kernel_rfl) (by kernel_rfl) (by kernel_rfl) rfl rfl rfl
          refine pk_cons rfl rfl ?_ ?_
          · exact st_loadL hcq2 hN_91 (by kernel_rfl) (by kernel_rfl) rfl rfl
          refine pk_cons rfl rfl ?_ ?_
          · exact st_call2 hN_91 (by kernel_rfl) (by kernel_rfl) (by kernel_rfl) (by kernel_rfl) (by kernel_rfl) rfl rfl rfl fun W3 x v1 v2 hC h1 h2 => tells_told (HT.out W3 r q (bb.trans hC.below) (own32_below hr2 (reg_below hC)) (own32_below hq2 (reg_below hC))) h1 h2
          refine pk_cons rfl rfl ?_ ?_
          · exact st_pure [.bool true] [] (.bool false) rfl hN_91 (by kernel_rfl) (by kernel_rfl) (by kernel_rfl) old0 (by kernel_rfl) (by kernel_rfl) (by kernel_rfl) (fun _ => by kernel_rfl)
          exact pk_nil rfl
        intro W3 x hC hall
        refine then_n ?_
        obtain ⟨a_92, ha⟩ : ∃ a, a = putE x a_91 [(0, some 69), (1, some 70), (2, some 71), (3, some 72), (4, some 73), (5, some 74), (6, some 75), (7, some 76), (8, some 77), (9, some 78)] := ⟨_, rfl⟩
        rw [← ha]
        have hN_92 := size_behind ha hN_91
        have hD_92 := defers_behind ha hD_91
        have e2_92 := slot_old ha (by kernel_rfl) e2_91
        have e5_92 := slot_old ha (by kernel_rfl) e5_91
        have e6_92 := slot_old ha (by kernel_rfl) e6_91
        have e78_92 := (slot_new (t := 78) (i := 9) ha hN_91 (by kernel_rfl) (by kernel_rfl)).trans (show x 9 = .bool false from hall 9 (of_decide_eq_true (by kernel_rfl)))
        clear ha hN_91 hD_91 e2_91 e5_91 e6_91 e63_91
        replace b12 := b12.trans ((reg_below hC).mono b12.size)
        replace bb := bb.trans hC.below
        clear hC hall hr2 hq2 hcr2 hcq2
        refine wp_cond_false e78_92 ?_
        refine wp_skip ?_
        refine in_block ?_
        refine then_n ?_
        refine wp_jump hN_92 (by kernel_rfl) (by kernel_rfl) (by kernel_rfl) (by kernel_rfl) (by kernel_rfl) (by kernel_rfl) (by kernel_rfl) (by kernel_rfl) (by kernel_rfl) e6_92 e5_92 (by omega) (by omega) fun x hx => ?_
        obtain ⟨a_93, ha⟩ : ∃ a, a = putE x a_92 [(0, some 64), (1, some 65), (2, some 66), (3, some 67), (4, some 68), (5, some 6)] := ⟨_, rfl⟩
        rw [← ha]
        have hN_93 := size_behind ha hN_92
        have hD_93 := defers_behind ha hD_92
        have e2_93 := slot_old ha (by kernel_rfl) e2_92
        have e5_93 := slot_old ha (by kernel_rfl) e5_92
        have e6_93 := (slot_new (t := 6) (i := 5) ha hN_92 (by kernel_rfl) (by kernel_rfl)).trans (hx)
        clear ha hN_92 hD_92 e2_92 e5_92 e6_92 e78_92
        refine then_n ⟨⟨hN_93, hD_93, e2_93, e5_93, bb, b12, k + 1 + i % 3, by omega, e6_93⟩, ?_⟩
        rw [show intOf (a_93.eval (.tmp 6)) = ((k + 1 + i % 3 : Nat) : Int) by rw [e6_93]; rfl]
        omega
      ·
        have hc : decide ((k : Int) < ((106 : Nat) : Int)) = false := decide_eq_false (by omega)
        rw [hc] at e63_91
        clear hc
        refine wp_cond_false e63_91 ?_
        refine wp_exit ?_
        refine then_x ?_
        refine then_x ?_
        refine out_block ?_
        refine in_block ?_
        refine then_n ?_
        refine wp_incr (n := (i : Int)) (m := ((i + 1 : Nat) : Int)) hN_91 (by kernel_rfl) (by kernel_rfl) e5_91 (add_run i 1 (by omega)) fun x hx => ?_
        obtain ⟨a_111, ha⟩ : ∃ a, a = putE x a_91 [(0, some 58), (1, some 59), (2, some 5)] := ⟨_, rfl⟩
        rw [← ha]
        have hN_111 := size_behind ha hN_91
        have hD_111 := defers_behind ha hD_91
        have e2_111 := slot_old ha (by kernel_rfl) e2_91
        have e5_111 := (slot_new (t := 5) (i := 2) ha hN_91 (by kernel_rfl) (by kernel_rfl)).trans (hx)
        clear ha hN_91 hD_91 e2_91 e5_91 e6_91 e63_91
        refine then_n ⟨⟨hN_111, hD_111, e2_111, bb, b12, i + 1, by omega, e5_111⟩, ?_⟩
        rw [show intOf (a_111.eval (.tmp 5)) = ((i + 1 : Nat) : Int) by rw [e5_111]; rfl]
        omega
    ·
      have hc : decide ((i : Int) < ((106 : Nat) : Int)) = false := decide_eq_false (by omega)
      rw [hc] at e57_71
      clear hc
      refine wp_cond_false e57_71 ?_
      refine wp_exit ?_
      refine then_x ?_
      refine then_x ?_
      refine out_block ?_
      refine then_n ?_
      repeat (first | refine wp_seq ?_ | (refine wp_skip ?_; refine then_n ?_))
      refine wp_region_law hN_71 w.heap.size [kIs (.bool true), kIs (.bool true), kIs (.bool true), kIs (.bool true), kIs (.bool true), kIs (.bool true), kIs (.bool true), kIs (.bool true), kIs (.bool true), kIs (.bool true), kIs (.bool true), kIs (.bool true), kIs (.bool true), kIs (.bool true), kIs (.bool true), kIs (.bool true), kIs (.bool true), kIs (.bool true), kIs (.bool true), kIs (.bool true)] [ [], [(0, some 79)], [], [(1, some 80), (2, some 81)], [(3, some 82)], [], [(4, some 83), (5, some 84)], [(6, some 85)], [], [(7, some 86), (8, some 87)], [(9, some 88)], [], [(10, some 89), (11, some 90)], [(12, some 91)], [], [(13, some 92), (14, some 93)], [(15, some 94)], [], [(16, some 95), (17, some 96)], [(18, some 97)] ] [(0, some 79), (1, some 80), (2, some 81), (3, some 82), (4, some 83), (5, some 84), (6, some 85), (7, some 86), (8, some 87), (9, some 88), (10, some 89), (11, some 90), (12, some 91), (13, some 92), (14, some 93), (15, some 94), (16, some 95), (17, some 96), (18, some 97), (19, some 0)] [(1, true), (4, true), (7, true), (10, true), (13, true), (16, true)] [] (by kernel_rfl) (by kernel_rfl) (by kernel_rfl) (by kernel_rfl) (by kernel_rfl) (by kernel_rfl) (by kernel_rfl) bb.size ?_ ?_
      ·
        refine pk_cons rfl rfl ?_ ?_
        · exact st_call0 [.string ⟨#[]⟩] hN_71 (by kernel_rfl) (by kernel_rfl) (by kernel_rfl) rfl fun W3 x hC => texts_told (HX.out W3 _ (bb.trans hC.below))
        refine pk_cons rfl rfl ?_ ?_
        · exact st_pure [.bool true] [] (.bool true) rfl hN_71 (by kernel_rfl) (by kernel_rfl) (by kernel_rfl) old0 (by kernel_rfl) (by kernel_rfl) (by kernel_rfl) (fun _ => by kernel_rfl)
        refine pk_cons rfl rfl ?_ ?_
        · exact st_call0 [.string ⟨#[48]⟩] hN_71 (by kernel_rfl) (by kernel_rfl) (by kernel_rfl) rfl fun W3 x hC => texts_told (HX.out W3 _ (bb.trans hC.below))
        refine pk_cons rfl rfl ?_ ?_
        · exact st_pure [.bool true, .bool true] [] (.bool true) rfl hN_71 (by kernel_rfl) (by kernel_rfl) (by kernel_rfl) old0 (by kernel_rfl) (by kernel_rfl) (by kernel_rfl) (fun _ => by kernel_rfl)
        refine pk_cons rfl rfl ?_ ?_
        · exact st_pure [.bool true] [] (.bool true) rfl hN_71 (by kernel_rfl) (by kernel_rfl) (by kernel_rfl) old0 (by kernel_rfl) (by kernel_rfl) (by kernel_rfl) (fun _ => by kernel_rfl)
        refine pk_cons rfl rfl ?_ ?_
        · exact st_call0 [.string ⟨#[48, 48]⟩] hN_71 (by kernel_rfl) (by kernel_rfl) (by kernel_rfl) rfl fun W3 x hC => texts_told (HX.out W3 _ (bb.trans hC.below))
        refine pk_cons rfl rfl ?_ ?_
        · exact st_pure [.bool true, .bool true] [] (.bool true) rfl hN_71 (by kernel_rfl) (by kernel_rfl) (by kernel_rfl) old0 (by kernel_rfl) (by kernel_rfl) (by kernel_rfl) (fun _ => by kernel_rfl)
        refine pk_cons rfl rfl ?_ ?_
        · exact st_pure [.bool true] [] (.bool true) rfl hN_71 (by kernel_rfl) (by kernel_rfl) (by kernel_rfl) old0 (by kernel_rfl) (by kernel_rfl) (by kernel_rfl) (fun _ => by kernel_rfl)
        refine pk_cons rfl rfl ?_ ?_
        · exact st_call0 [.string ⟨#[45, 49]⟩] hN_71 (by kernel_rfl) (by kernel_rfl) (by kernel_rfl) rfl fun W3 x hC => texts_told (HX.out W3 _ (bb.trans hC.below))
        refine pk_cons rfl rfl ?_ ?_
        · exact st_pure [.bool true, .bool true] [] (.bool true) rfl hN_71 (by kernel_rfl) (by kernel_rfl) (by kernel_rfl) old0 (by kernel_rfl) (by kernel_rfl) (by kernel_rfl) (fun _ => by kernel_rfl)
        refine pk_cons rfl rfl ?_ ?_
        · exact st_pure [.bool true] [] (.bool true) rfl hN_71 (by kernel_rfl) (by kernel_rfl) (by kernel_rfl) old0 (by kernel_rfl) (by kernel_rfl) (by kernel_rfl) (fun _ => by kernel_rfl)
        refine pk_cons rfl rfl ?_ ?_
        · exact st_call0 [.string ⟨#[43, 49]⟩] hN_71 (by kernel_rfl) (by kernel_rfl) (by kernel_rfl) rfl fun W3 x hC => texts_told (HX.out W3 _ (bb.trans hC.below))
        refine pk_cons rfl rfl ?_ ?_
        · exact st_pure [.bool true, .bool true] [] (.bool true) rfl hN_71 (by kernel_rfl) (by kernel_rfl) (by kernel_rfl) old0 (by kernel_rfl) (by kernel_rfl) (by kernel_rfl) (fun _ => by kernel_rfl)
        refine pk_cons rfl rfl ?_ ?_
        · exact st_pure [.bool true] [] (.bool true) rfl hN_71 (by kernel_rfl) (by kernel_rfl) (by kernel_rfl) old0 (by kernel_rfl) (by kernel_rfl) (by kernel_rfl) (fun _ => by kernel_rfl)
        refine pk_cons rfl rfl ?_ ?_
        · exact st_call0 [.string ⟨#[49, 48, 48, 48, 48, 48, 48, 48, 48, 48]⟩] hN_71 (by kernel_rfl) (by kernel_rfl) (by kernel_rfl) rfl fun W3 x hC => texts_told (HX.out W3 _ (bb.trans hC.below))
        refine pk_cons rfl rfl ?_ ?_
        · exact st_pure [.bool true, .bool true] [] (.bool true) rfl hN_71 (by kernel_rfl) (by kernel_rfl) (by kernel_rfl) old0 (by kernel_rfl) (by kernel_rfl) (by kernel_rfl) (fun _ => by kernel_rfl)
        refine pk_cons rfl rfl ?_ ?_
        · exact st_pure [.bool true] [] (.bool true) rfl hN_71 (by kernel_rfl) (by kernel_rfl) (by kernel_rfl) old0 (by kernel_rfl) (by kernel_rfl) (by kernel_rfl) (fun _ => by kernel_rfl)
        refine pk_cons rfl rfl ?_ ?_
        · exact st_call0 [.string ⟨#[48, 49]⟩] hN_71 (by kernel_rfl) (by kernel_rfl) (by kernel_rfl) rfl fun W3 x hC => texts_told (HX.out W3 _ (bb.trans hC.below))
        refine pk_cons rfl rfl ?_ ?_
        · exact st_pure [.bool true, .bool true] [] (.bool true) rfl hN_71 (by kernel_rfl) (by kernel_rfl) (by kernel_rfl) old0 (by kernel_rfl) (by kernel_rfl) (by kernel_rfl) (fun _ => by kernel_rfl)
        refine pk_cons rfl rfl ?_ ?_
        · exact st_pure [.bool true] [] (.bool true) rfl hN_71 (by kernel_rfl) (by kernel_rfl) (by kernel_rfl) old0 (by kernel_rfl) (by kernel_rfl) (by kernel_rfl) (fun _ => by kernel_rfl)
        exact pk_nil rfl
      intro W3 x hC hall
      refine then_n ?_
      obtain ⟨a_121, ha⟩ : ∃ a, a = putE x a_71 [(0, some 79), (1, some 80), (2, some 81), (3, some 82), (4, some 83), (5, some 84), (6, some 85), (7, some 86), (8, some 87), (9, some 88), (10, some 89), (11, some 90), (12, some 91), (13, some 92), (14, some 93), (15, some 94), (16, some 95), (17, some 96), (18, some 97), (19, some 0)] := ⟨_, rfl⟩
      rw [← ha]
      have hN_121 := size_behind ha hN_71
      have hD_121 := defers_behind ha hD_71
      have e0_121 := (slot_new (t := 0) (i := 19) ha hN_71 (by kernel_rfl) (by kernel_rfl)).trans (show x 19 = .bool true from hall 19 (of_decide_eq_true (by kernel_rfl)))
      clear ha hN_71 hD_71 e2_71 e5_71 e57_71
      refine wp_ret ?_
      repeat (refine then_r ?_)
      exact ret_one (t := 0) rfl hD_121 e0_121 ⟨rfl, bb.trans hC.below⟩

theorem lawEnds (w : World) (htab : Tab w) (hw : 3 ≤ w.heap.size) :
    Calls Tryd.prog 3 #[] w fun e w' => e = .returned (.bool true) ∧ Below w.heap.size w w' := by
  refine ends_walk w (Lib.hid (awake_any dm_ex w htab hw)) (Lib.hid fun W r q hb hr hq => ?_) (Lib.hid fun W s hb => lawTexts dm_ex s W (htab.below hb hw) (Nat.le_trans hw hb.size))
  obtain ⟨A1, c1, e1, r1, _⟩ := hr.1.slice32
  obtain ⟨A2, c2, e2, r2, _⟩ := hq.1.slice32
  have l1 := hr.2.2
  have l2 := hq.2.2
  rw [e1, e2]
  exact lawTells W (htab.below hb hw) (Nat.le_trans hw hb.size) r1 r2 hr.2.1 hq.2.1 (by omega) (by omega)
end Go.Proofs.YtffcacpffamjfaaDoor

/- Contract of nat.number.divide: quotient and rest by a number above 0; the division by two digits or more comes in as a premise ('LongSpec'), wanted only there. At most 100000 digits. -/
import Derived.Test.YthjgfkmnelefpaaGreatDoorDivS
import Derived.Deep.RegionWith
import Derived.Outline
import Derived.RegionTactic
namespace Go.Proofs.YthjgfkmnelefpaaGreatDoor
open Go.RowKit

theorem IsNat.setOther {w : World} {B n : Nat} {v u0 : Value} (h : IsNat w B v n) {g : Nat} (hg : w.heap[g]? = some (.cells #[u0] 98 (0, 0))) (u : Value) : IsNat (w.setCell ⟨g, 0, none⟩ u) B v n := by
  obtain ⟨rs, h1, h2, h3⟩ := h
  exact ⟨rs, h1, h2, h3.setOther hg (by decide) u⟩
theorem IsNat.below {w w' : World} {B n : Nat} {v : Value} (h : IsNat w B v n) (hb : Below w.heap.size w w') : IsNat w' B v n := by
  obtain ⟨rs, h1, h2, h3⟩ := h
  exact ⟨rs, h1, h2, h3.below hb⟩
theorem IsNat.alloc {w : World} {B n : Nat} {v : Value} (h : IsNat w B v n) (o : Obj) : IsNat (w.alloc o) B v n := h.below ((Below.refl _ _).alloc (Nat.le_refl _) _)
theorem Own.alloc {w : World} {B T : Nat} {v : Value} {xs : List Value} (h : Own w B T v xs) (o : Obj) : Own (w.alloc o) B T v xs := h.below ((Below.refl _ _).alloc (Nat.le_refl _) _)
theorem IsNat.mono {w : World} {B B' n : Nat} {v : Value} (h : IsNat w B v n) (hB : B' ≤ B) : IsNat w B' v n := by
  obtain ⟨rs, h1, h2, h3⟩ := h
  exact ⟨rs, h1, h2, h3.mono hB⟩
/-- Two numbers stored into the two cells of the results. -/
theorem close_two {w W : World} {B0 q r g3 g4 : Nat} {v u v0 u0 : Value} (h3 : W.heap[g3]? = some (.cells #[v0] 98 (0, 0))) (h4 : W.heap[g4]? = some (.cells #[u0] 98 (0, 0))) (hne : g3 ≠ g4) (hg3 : w.heap.size ≤ g3) (hg4 : w.heap.size ≤ g4)
    (hv : IsNat W B0 v q) (hu : IsNat W B0 u r) (hb : Below w.heap.size w W) :
    (IsNat ((W.setCell ⟨g3, 0, none⟩ v).setCell ⟨g4, 0, none⟩ u) B0 v q ∧ IsNat ((W.setCell ⟨g3, 0, none⟩ v).setCell ⟨g4, 0, none⟩ u) B0 u r ∧ Below w.heap.size w ((W.setCell ⟨g3, 0, none⟩ v).setCell ⟨g4, 0, none⟩ u)) ∧
    ((W.setCell ⟨g3, 0, none⟩ v).setCell ⟨g4, 0, none⟩ u).cell? ⟨g3, 0, none⟩ = some v ∧ ((W.setCell ⟨g3, 0, none⟩ v).setCell ⟨g4, 0, none⟩ u).cell? ⟨g4, 0, none⟩ = some u := by
  obtain ⟨t1, t2, t3⟩ := two_cells (u1 := v) (u2 := u) h3 h4 hne
  exact ⟨⟨(hv.setOther h3 v).setOther t1 u, (hu.setOther h3 v).setOther t1 u, (hb.setCell hg3 _).setCell hg4 _⟩, cell_of_one t2, cell_of_one t3⟩
theorem IsNat.shape {w : World} {B n : Nat} {v : Value} (h : IsNat w B v n) : ∃ A m c, v = .slice A m c := by
  obtain ⟨rs, _, _, h3⟩ := h
  obtain ⟨A, c, rfl, _⟩ := h3.slice
  exact ⟨A, _, c, rfl⟩

/-- What divideLong tells. -/
def LongSpec : Prop := ∀ (w : World) (A1 A2 : Option Addr) (c1 c2 : Nat) (xs ys : List Nat), Row w A1 (u32s xs) → Row w A2 (u32s ys) → right xs → right ys → 2 ≤ ys.length → val ys ≤ val xs → xs.length ≤ 100000 →
  Calls Tryz.prog 100 #[.agg #[.slice A1 xs.length c1], .agg #[.slice A2 ys.length c2]] w (RetTwo w w.heap.size (val xs / val ys) (val xs % val ys))

set_option maxRecDepth 100000 in
set_option maxHeartbeats 4000000 in
theorem divide_any {w : World} {B0 : Nat} {A1 A2 : Option Addr} {c1 c2 : Nat} {xs ys : List Nat} (ho1 : Own w B0 55 (.slice A1 xs.length c1) (u32s xs)) (hB0 : B0 ≤ w.heap.size) (hr2 : Row w A2 (u32s ys)) (hx : right xs) (hy : right ys) (hne : ys ≠ []) (hl1 : xs.length ≤ 100000) (hL : ys.length = 1 ∨ LongSpec) :
    Calls Tryz.prog 93 #[.agg #[.slice A1 xs.length c1], .agg #[.slice A2 ys.length c2]] w (RetTwo w B0 (val xs / val ys) (val xs % val ys)) := by
  have hr1 := ho1.row32
  have HL := Lib.hid hL
  have HNE := Lib.hid hne
  clear hL hne
  obtain ⟨W, hW⟩ : ∃ W, W = (((w.alloc (Obj.cells #[Value.slice A1 xs.length c1] 98)).alloc (Obj.cells #[Value.slice A2 ys.length c2] 98)).alloc (Obj.cells #[Value.slice none 0 0] 98)).alloc (Obj.cells #[Value.slice none 0 0] 98) := ⟨_, rfl⟩
  obtain ⟨hbW, hsW, b1, b2, b3, b4⟩ := four_new hW
  have bB1 := Lib.hid b1
  have bB2 := Lib.hid b2
  have bB3 := Lib.hid b3
  have bB4 := Lib.hid b4
  have HSW := Lib.hid hsW
  have HW := Lib.hid hW
  have hs4 : w.heap.size + 4 ≤ W.heap.size := by omega
  have hcmp := compare_any (c1 := c1) (c2 := c2) (hr1.below hbW) (hr2.below hbW) hx hy (by omega)
  have HC := Lib.hid hcmp
  clear b1 b2 b3 b4 hsW hW hcmp
  by_cases hlt : val xs < val ys
  · have ht : decide (ordI (val xs : Int) (val ys : Int) < 0) = true := by unfold ordI; rw [if_pos (by omega)]; rfl
    have HLT := Lib.hid hlt
    clear hlt
    go_enter Tryz.func93, Tryz.ntmps93
    go_wp2_with fail
    rw [← HW.out]
    refine HC.out.mono ?_
    rintro e W2 ⟨rfl, hd2⟩
    have hb2 := hd2.below
    have k1 := (hb2.block _ (by omega)).trans bB1.out
    have k3 := (hb2.block _ (by omega)).trans bB3.out
    have k4 := (hb2.block _ (by omega)).trans bB4.out
    have c1' := cell_of_one k1
    have c3' := cell_of_one k3
    have c4' := cell_of_one k4
    have f3' := free_of_one k3
    have f4' := free_of_one k4
    have K3 := Lib.hid k3
    have K4 := Lib.hid k4
    clear k1 k3 k4
    go_wp2
    go_region
    obtain ⟨⟨n1, n2, n3⟩, n4, n5⟩ := close_two (w := w) (v := .slice none 0 0) (u := .slice A1 xs.length c1) K3.out K4.out (by omega) (by omega) (by omega) ⟨[], right_nil, rfl, Own.nil _ B0 _⟩ ⟨xs, hx, rfl, (ho1.below hbW).below hb2⟩ (hbW.trans (hb2.mono (by omega)))
    go_wp2
    refine bodyPost_ret (v := .tuple #[.agg #[.slice none 0 0], .agg #[.slice A1 xs.length c1]]) (by simp [results, Tryz.results93, go_sem, n4, n5]) rfl ?_
    rw [Nat.div_eq_of_lt HLT.out, Nat.mod_eq_of_lt HLT.out]
    exact ⟨_, _, rfl, n1, n2, n3.drew⟩
  · have ht : decide (ordI (val xs : Int) (val ys : Int) < 0) = false := by
      unfold ordI
      rw [if_neg (by omega)]
      split <;> rfl
    have HGE := Lib.hid (Nat.le_of_not_lt hlt)
    clear hlt
    by_cases h1 : ys.length = 1
    · have hl : ((ys.length : Int) == 1) = true := by rw [h1]; rfl
      obtain ⟨d, hyd⟩ : ∃ d, ys = [d] := by
        match ys, h1 with
        | [d], _ => exact ⟨d, rfl⟩
      have hd : d < 1000000000 := hy.1 d (by rw [hyd]; simp)
      have hd0 : 0 < d := by
        rcases hy.2 with h | h
        · rw [hyd] at h; cases h
        · rw [hyd] at h; simp at h; omega
      have hq : ∀ W2, Below w.heap.size w W2 → Calls Tryz.prog 96 #[.slice A2 ys.length c2, .int .i64 0] W2 fun e w' => e = .returned (.int .u64 (d : Int)) ∧ W2 = w' := fun W2 hb => by
        have := at_any (c := c2) (hr2.below hb) (small_mono hy.1 (by decide)) 0 (by omega)
        rw [show ys.getD (Int.toNat 0) 0 = d from by rw [hyd]; rfl] at this
        exact this
      have HQ := Lib.hid hq
      have HYD : Hid (val ys = d) := by show _ = _; rw [hyd]; simp [val]
      have hw2 : ∀ W2, Below W.heap.size W W2 → W2.heap[w.heap.size]? = some (Obj.cells #[Value.slice A1 xs.length c1] 98) ∧ W2.heap[w.heap.size + 1]? = some (Obj.cells #[Value.slice A2 ys.length c2] 98) ∧ W2.heap[w.heap.size + 1 + 1]? = some (Obj.cells #[Value.slice none 0 0] 98) ∧ W2.heap[w.heap.size + 1 + 1 + 1]? = some (Obj.cells #[Value.slice none 0 0] 98) := fun W2 hb => ⟨(hb.block _ (by omega)).trans bB1.out, (hb.block _ (by omega)).trans bB2.out, (hb.block _ (by omega)).trans bB3.out, (hb.block _ (by omega)).trans bB4.out⟩
      have HW2 := Lib.hid hw2
      clear hw2 hyd h1 hq
      go_enter Tryz.func93, Tryz.ntmps93
      go_wp2_with fail
      rw [← HW.out]
      refine HC.out.mono ?_
      rintro e W2 ⟨rfl, hd2⟩
      have hb2 := hd2.below
      obtain ⟨k1, k2, k3, k4⟩ := HW2.out W2 hb2
      have c1' := cell_of_one k1
      have c2' := cell_of_one k2
      have bA2 : Below w.heap.size w W2.drew := (hbW.trans (hb2.mono (by omega))).drew
      have hs2 : w.heap.size + 4 ≤ W2.heap.size := Nat.le_trans hs4 hb2.size
      clear k1 k2 k3 k4
      go_wp2
      go_region_with (first
        | (go_at_call 96; refine (HQ.out _ bA2).mono ?_; rintro e w' ⟨rfl, rfl⟩)
        | (go_at_call 99; refine (divideShort_any (w := W2.drew) (hr1.below bA2) hx.1 hl1 hd0 hd).mono ?_; rintro e W3 ⟨v, u, rfl, hv, hu, hb3⟩; obtain ⟨Av, nv, cv, rfl⟩ := hv.shape; obtain ⟨Au, nu, cu, rfl⟩ := hu.shape; have hk := HW2.out W3 (hb2.drew.trans (hb3.mono hb2.size)); have j3 := cell_of_one hk.2.2.1; have j4 := free_of_one hk.2.2.1; have j5 := cell_of_one hk.2.2.2; have j6 := free_of_one hk.2.2.2; have HK := Lib.hid hk; clear hk))
      all_goals
        obtain ⟨⟨n1, n2, n3⟩, n4, n5⟩ := close_two (w := w) HK.out.2.2.1 HK.out.2.2.2 (by omega) (by omega) (by omega) (hv.mono (Nat.le_trans hB0 (show w.heap.size ≤ W2.heap.size by omega))) (hu.mono (Nat.le_trans hB0 (show w.heap.size ≤ W2.heap.size by omega))) (bA2.trans (hb3.mono (show w.heap.size ≤ W2.heap.size by omega)))
        go_wp2
        refine bodyPost_ret (v := .tuple #[.agg #[.slice Av nv cv], .agg #[.slice Au nu cu]]) (by simp [results, Tryz.results93, go_sem, n4, n5]) rfl ?_
        rw [HYD.out]
        exact ⟨_, _, rfl, n1, n2, n3⟩
    · have hl : ((ys.length : Int) == 1) = false := by rw [beq_eq_false_iff_ne]; omega
      have hl2 : 2 ≤ ys.length := by
        rcases Nat.lt_or_ge ys.length 1 with h | h
        · exact absurd (List.eq_nil_of_length_eq_zero (by omega)) HNE.out
        · omega
      have HS : Hid LongSpec := HL.out.resolve_left h1
      have hw2 : ∀ W2, Below W.heap.size W W2 → W2.heap[w.heap.size]? = some (Obj.cells #[Value.slice A1 xs.length c1] 98) ∧ W2.heap[w.heap.size + 1]? = some (Obj.cells #[Value.slice A2 ys.length c2] 98) ∧ W2.heap[w.heap.size + 1 + 1]? = some (Obj.cells #[Value.slice none 0 0] 98) ∧ W2.heap[w.heap.size + 1 + 1 + 1]? = some (Obj.cells #[Value.slice none 0 0] 98) := fun W2 hb => ⟨(hb.block _ (by omega)).trans bB1.out, (hb.block _ (by omega)).trans bB2.out, (hb.block _ (by omega)).trans bB3.out, (hb.block _ (by omega)).trans bB4.out⟩
      have HW2 := Lib.hid hw2
      clear hw2 h1
      go_enter Tryz.func93, Tryz.ntmps93
      go_wp2_with fail
      rw [← HW.out]
      refine HC.out.mono ?_
      rintro e W2 ⟨rfl, hd2⟩
      have hb2 := hd2.below
      obtain ⟨k1, k2, k3, k4⟩ := HW2.out W2 hb2
      have c1' := cell_of_one k1
      have c2' := cell_of_one k2
      have bA2 : Below w.heap.size w W2 := hbW.trans (hb2.mono (by omega))
      have hs2 : w.heap.size + 4 ≤ W2.heap.size := Nat.le_trans hs4 hb2.size
      clear k1 k2 k3 k4
      go_wp2_with fail
      refine (HS.out W2 A1 A2 c1 c2 xs ys (hr1.below bA2) (hr2.below bA2) hx hy hl2 HGE.out hl1).mono ?_
      rintro e W3 ⟨v, u, rfl, hv, hu, hb3⟩
      obtain ⟨Av, nv, cv, rfl⟩ := hv.shape
      obtain ⟨Au, nu, cu, rfl⟩ := hu.shape
      have hk := HW2.out W3 (hb2.trans (hb3.mono hb2.size))
      have j3 := cell_of_one hk.2.2.1
      have j4 := free_of_one hk.2.2.1
      have j5 := cell_of_one hk.2.2.2
      have j6 := free_of_one hk.2.2.2
      obtain ⟨⟨n1, n2, n3⟩, n4, n5⟩ := close_two (w := w) hk.2.2.1 hk.2.2.2 (by omega) (by omega) (by omega) (hv.mono (Nat.le_trans hB0 (show w.heap.size ≤ W2.heap.size by omega))) (hu.mono (Nat.le_trans hB0 (show w.heap.size ≤ W2.heap.size by omega))) (bA2.trans (hb3.mono (show w.heap.size ≤ W2.heap.size by omega)))
      clear hk
      have N4 := Lib.hid n4
      have N5 := Lib.hid n5
      clear n4 n5
      go_wp2
      refine bodyPost_ret (v := .tuple #[.agg #[.slice Av nv cv], .agg #[.slice Au nu cu]]) (by simp [results, Tryz.results93, go_sem, N4.out, N5.out]) rfl ?_
      exact ⟨_, _, rfl, n1, n2, n3⟩
end Go.Proofs.YthjgfkmnelefpaaGreatDoor

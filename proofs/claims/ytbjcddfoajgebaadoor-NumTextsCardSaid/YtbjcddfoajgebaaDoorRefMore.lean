/- Contracts of whetstoneref01.Trim, Cmp, Sub, DivMod: what the document's answer tells of any rows of at most 1000 digits. -/
import Derived.Test.YtbjcddfoajgebaaDoorRefPart
import Derived.Test.YtbjcddfoajgebaaDoorRight
import Derived.Test.YtbjcddfoajgebaaDoorVal
namespace Go.Proofs.YtbjcddfoajgebaaDoor
open Go.RowKit

theorem dlen_of {ds : List Nat} {n k : Nat} (h : dright ds) (hv : dval ds = n) (hn : n < 1000000000 ^ k) : ds.length ≤ 9 * k :=
  dlength_le h (by rw [hv, Nat.pow_mul]; exact hn)

set_option maxRecDepth 100000 in
set_option maxHeartbeats 1000000 in
theorem refTrim {w : World} {A : Option Addr} {c k : Nat} {xs : List Nat} (hr : Row w A (u32s xs)) (hd : small 4294967296 xs) (hlen : xs.length ≤ 1000) (hk : val xs < 1000000000 ^ k) (hk2 : k ≤ 2000) :
    Calls Tryd.prog 28 #[.slice A xs.length c] w (RetR w (val xs)) := by
  have hrd := refRead (c := c) hr hd hlen
  have HRD := Lib.hid hrd
  have HK := Lib.hid hk
  clear hrd hk
  go_enter Tryd.func28, Tryd.ntmps28
  go_wp2_with fail
  refine HRD.out.mono ?_
  rintro e w1 ⟨A1, c1, ds, rfl, h1, _, h3, h4, h5⟩
  have hl := dlen_of h3 h4 HK.out
  have hwr := refWrite (c := c1) h1 h3 (by omega)
  rw [h4] at hwr
  have HWR := Lib.hid hwr
  clear hwr h1 h3 h4
  go_wp2_with fail
  refine HWR.out.mono ?_
  rintro e w2 h
  obtain ⟨A2, j2, c2, rfl, hr2, hb2⟩ := retR_of h HK.out (by omega)
  have hb := bstep h5 hb2
  clear h hb2
  go_wp2
  go_ret
  exact ⟨A2, j2, c2, rfl, hr2, hb⟩

set_option maxRecDepth 100000 in
set_option maxHeartbeats 1000000 in
theorem refCmp {w : World} {A1 A2 : Option Addr} {c1 c2 k : Nat} {xs ys : List Nat} (hr1 : Row w A1 (u32s xs)) (hr2 : Row w A2 (u32s ys)) (hx : small 4294967296 xs) (hy : small 4294967296 ys) (hl1 : xs.length ≤ 1000) (hl2 : ys.length ≤ 1000) (hk : val xs < 1000000000 ^ k) (hk2 : k ≤ 2000) :
    Calls Tryd.prog 24 #[.slice A1 xs.length c1, .slice A2 ys.length c2] w fun e w' => e = .returned (.int .i64 (ordI (val xs : Int) (val ys : Int))) ∧ Below w.heap.size w w' := by
  have hrd := refRead (c := c1) hr1 hx hl1
  have hrd2 := fun (W : World) (hW : Below w.heap.size w W) => refRead (c := c2) (hr2.below hW) hy hl2
  have HRD := Lib.hid hrd
  have HRD2 := Lib.hid hrd2
  have HK := Lib.hid hk
  clear hrd hrd2 hk
  go_enter Tryd.func24, Tryd.ntmps24
  go_wp2_with fail
  refine HRD.out.mono ?_
  rintro e w1 ⟨A3, c3, ds, rfl, h1, _, h3, h4, h5⟩
  go_wp2_with fail
  refine (HRD2.out _ h5).mono ?_
  rintro e w2 ⟨A4, c4, es, rfl, g1, _, g3, g4, g5⟩
  have hl := dlen_of h3 h4 HK.out
  have hor := refOrder (c1 := c3) (c2 := c4) (h1.below g5) g1 h3 g3 (by omega)
  rw [h4, g4] at hor
  have HOR := Lib.hid hor
  have hb := bstep h5 g5
  clear hor h1 h3 h4 h5 g1 g3 g4 g5
  go_wp2_with fail
  refine HOR.out.mono ?_
  rintro e w3 ⟨rfl, hd⟩
  have hb3 := bstep hb hd.below
  clear hb hd
  go_wp2
  go_ret
  exact ⟨rfl, hb3⟩

set_option maxRecDepth 100000 in
set_option maxHeartbeats 1000000 in
theorem refSub_yes {w : World} {A1 A2 : Option Addr} {c1 c2 k : Nat} {xs ys : List Nat} (hr1 : Row w A1 (u32s xs)) (hr2 : Row w A2 (u32s ys)) (hx : small 4294967296 xs) (hy : small 4294967296 ys) (hl1 : xs.length ≤ 1000) (hl2 : ys.length ≤ 1000) (hk : val xs < 1000000000 ^ k) (hk2 : k ≤ 2000) (hle : val ys ≤ val xs) :
    Calls Tryd.prog 21 #[.slice A1 xs.length c1, .slice A2 ys.length c2] w (RetS w (val xs - val ys)) := by
  have hrd := refRead (c := c1) hr1 hx hl1
  have hrd2 := fun (W : World) (hW : Below w.heap.size w W) => refRead (c := c2) (hr2.below hW) hy hl2
  have HRD := Lib.hid hrd
  have HRD2 := Lib.hid hrd2
  have HK := Lib.hid hk
  have HLE := Lib.hid hle
  obtain ⟨o, ho⟩ : ∃ o, o = ordI (val xs : Int) (val ys : Int) := ⟨_, rfl⟩
  have hon : decide (o < 0) = false := by
    rw [decide_eq_false_iff_not, ho]; unfold ordI; rw [if_neg (by omega)]; split <;> omega
  have HO := Lib.hid ho
  clear hrd hrd2 hk hle ho
  go_enter Tryd.func21, Tryd.ntmps21
  go_wp2_with fail
  refine HRD.out.mono ?_
  rintro e w1 ⟨A3, c3, ds, rfl, h1, _, h3, h4, h5⟩
  go_wp2_with fail
  refine (HRD2.out _ h5).mono ?_
  rintro e w2 ⟨A4, c4, es, rfl, g1, _, g3, g4, g5⟩
  have hl := dlen_of h3 h4 HK.out
  have h1' := h1.below g5
  have hor := refOrder (c1 := c3) (c2 := c4) h1' g1 h3 g3 (by omega)
  rw [h4, g4, ← HO.out] at hor
  have HOR := Lib.hid hor
  have hb := bstep h5 g5
  have hll : es.length ≤ ds.length := by
    rcases Nat.lt_or_ge ds.length es.length with h | h
    · have h2 := dval_lt_length h3 g3 h
      have := HLE.out
      rw [h4, g4] at h2; omega
    · exact h
  clear hor h1 h5 g5
  go_wp2_with fail
  refine HOR.out.mono ?_
  rintro e w3 ⟨rfl, hd⟩
  have hb3 := bstep hb hd.below
  have hls := refLess (c1 := c3) (c2 := c4) (h1'.drawn hd) (g1.drawn hd) h3.1 g3.1 (by omega) hll (by rw [h4, g4]; exact HLE.out)
  rw [h4, g4] at hls
  have HLS := Lib.hid hls
  clear hb hd h1' g1 h3 g3 h4 g4 hls
  go_wp2_with fail
  refine HLS.out.mono ?_
  rintro e w4 ⟨A5, c5, fs, rfl, f1, f2, f3, f4⟩
  have hb4 := bstep hb3 f4
  have hfl := dlen_of f2 f3 (Nat.lt_of_le_of_lt (Nat.sub_le _ _) HK.out)
  have hwr := refWrite (c := c5) f1.row8 f2 (by omega)
  rw [f3] at hwr
  have HWR := Lib.hid hwr
  clear hwr f1 f2 f3 f4 hb3
  go_wp2_with fail
  refine HWR.out.mono ?_
  rintro e w5 h
  obtain ⟨A6, j6, c6, rfl, hr6, hb6⟩ := retR_of h (Nat.lt_of_le_of_lt (Nat.sub_le _ _) HK.out) (by omega)
  have hb5 := bstep hb4 hb6
  clear h hb6
  go_wp2
  go_ret2
  exact ⟨A6, j6, c6, rfl, hr6, hb5⟩

set_option maxRecDepth 100000 in
set_option maxHeartbeats 1000000 in
theorem refSub_no {w : World} {A1 A2 : Option Addr} {c1 c2 k : Nat} {xs ys : List Nat} (hr1 : Row w A1 (u32s xs)) (hr2 : Row w A2 (u32s ys)) (hx : small 4294967296 xs) (hy : small 4294967296 ys) (hl1 : xs.length ≤ 1000) (hl2 : ys.length ≤ 1000) (hk : val xs < 1000000000 ^ k) (hk2 : k ≤ 2000) (hle : val xs < val ys) :
    Calls Tryd.prog 21 #[.slice A1 xs.length c1, .slice A2 ys.length c2] w fun e w' => e = .returned (.tuple #[.slice none 0 0, .bool false]) ∧ Below w.heap.size w w' := by
  have hrd := refRead (c := c1) hr1 hx hl1
  have hrd2 := fun (W : World) (hW : Below w.heap.size w W) => refRead (c := c2) (hr2.below hW) hy hl2
  have HRD := Lib.hid hrd
  have HRD2 := Lib.hid hrd2
  have HK := Lib.hid hk
  obtain ⟨o, ho⟩ : ∃ o, o = ordI (val xs : Int) (val ys : Int) := ⟨_, rfl⟩
  have hon : decide (o < 0) = true := by
    rw [decide_eq_true_eq, ho]; unfold ordI; rw [if_pos (by omega)]; omega
  have HO := Lib.hid ho
  clear hrd hrd2 hk hle ho
  go_enter Tryd.func21, Tryd.ntmps21
  go_wp2_with fail
  refine HRD.out.mono ?_
  rintro e w1 ⟨A3, c3, ds, rfl, h1, _, h3, h4, h5⟩
  go_wp2_with fail
  refine (HRD2.out _ h5).mono ?_
  rintro e w2 ⟨A4, c4, es, rfl, g1, _, g3, g4, g5⟩
  have hl := dlen_of h3 h4 HK.out
  have hor := refOrder (c1 := c3) (c2 := c4) (h1.below g5) g1 h3 g3 (by omega)
  rw [h4, g4, ← HO.out] at hor
  have HOR := Lib.hid hor
  have hb := bstep h5 g5
  clear hor h1 h3 h4 h5 g1 g3 g4 g5
  go_wp2_with fail
  refine HOR.out.mono ?_
  rintro e w3 ⟨rfl, hd⟩
  have hb3 := bstep hb hd.below
  clear hb hd
  go_wp2
  go_ret2
  exact ⟨rfl, hb3⟩

set_option maxRecDepth 100000 in
set_option maxHeartbeats 1000000 in
theorem refDiv_no {w : World} {A1 A2 : Option Addr} {n1 c1 c2 : Nat} {ys : List Nat} (hr2 : Row w A2 (u32s ys)) (hy : small 4294967296 ys) (hl2 : ys.length ≤ 1000) (h0 : val ys = 0) :
    Calls Tryd.prog 22 #[.slice A1 n1 c1, .slice A2 ys.length c2] w fun e w' => e = .returned (.tuple #[.slice none 0 0, .slice none 0 0, .bool false]) ∧ Below w.heap.size w w' := by
  have hrd := refRead (c := c2) hr2 hy hl2
  have HRD := Lib.hid hrd
  have H0 := Lib.hid h0
  clear hrd h0
  go_enter Tryd.func22, Tryd.ntmps22
  go_wp2_with fail
  refine HRD.out.mono ?_
  rintro e w1 ⟨A3, c3, ds, rfl, h1, _, h3, h4, h5⟩
  have hnil : ds = [] := by
    have := dlength_le h3 (k := 0) (by rw [h4, H0.out]; decide)
    exact List.eq_nil_of_length_eq_zero (by omega)
  subst hnil
  clear h3 h4
  go_wp2
  go_returns
  exact ⟨rfl, h5⟩

set_option maxRecDepth 100000 in
set_option maxHeartbeats 1000000 in
theorem refDiv_yes {w : World} {A1 A2 : Option Addr} {c1 c2 k : Nat} {xs ys : List Nat} (hr1 : Row w A1 (u32s xs)) (hr2 : Row w A2 (u32s ys)) (hx : small 4294967296 xs) (hy : small 4294967296 ys) (hl1 : xs.length ≤ 1000) (hl2 : ys.length ≤ 1000) (hk : val xs < 1000000000 ^ k) (hky : val ys < 1000000000 ^ k) (hk2 : k ≤ 2000) (h0 : 0 < val ys) :
    Calls Tryd.prog 22 #[.slice A1 xs.length c1, .slice A2 ys.length c2] w (RetD w (val xs / val ys) (val xs % val ys)) := by
  have hrd := refRead (c := c2) hr2 hy hl2
  have hrd2 := fun (W : World) (hW : Below w.heap.size w W) => refRead (c := c1) (hr1.below hW) hx hl1
  have HRD := Lib.hid hrd
  have HRD2 := Lib.hid hrd2
  have HK := Lib.hid hk
  have HKY := Lib.hid hky
  have H0 := Lib.hid h0
  clear hrd hrd2 hk hky h0
  go_enter Tryd.func22, Tryd.ntmps22
  go_wp2_with fail
  refine HRD.out.mono ?_
  rintro e w1 ⟨A3, c3, ds, rfl, h1, _, h3, h4, h5⟩
  have hne : ((ds.length : Int) == 0) = false := by
    rw [beq_eq_false_iff_ne]
    intro h
    have h6 : ds = [] := List.eq_nil_of_length_eq_zero (by omega)
    have h7 := H0.out
    rw [← h4, h6] at h7
    simp [dval] at h7
  go_wp2_with fail
  refine (HRD2.out _ h5).mono ?_
  rintro e w2 ⟨A4, c4, es, rfl, g1, _, g3, g4, g5⟩
  have hl := dlen_of h3 h4 HKY.out
  have hle := dlen_of g3 g4 HK.out
  have hpa := refParted (c1 := c4) (c2 := c3) g1 (h1.below g5) g3.1 h3 (by omega) (by omega) (by rw [h4]; exact H0.out)
  rw [h4, g4] at hpa
  have HPA := Lib.hid hpa
  have hb := bstep h5 g5
  clear hpa h1 h3 h4 h5 g1 g3 g4 g5 hne
  go_wp2_with fail
  refine HPA.out.mono ?_
  rintro e w3 ⟨A5, c5, qs, A6, c6, rs, rfl, q1, q2, q3, r1, r2, r3, hb3⟩
  have hb4 := bstep hb hb3
  have hql := dlen_of q2 q3 (Nat.lt_of_le_of_lt (Nat.div_le_self _ _) HK.out)
  have hrl := dlen_of r2 r3 (Nat.lt_of_le_of_lt (Nat.mod_le _ _) HK.out)
  have hw1 := refWrite (c := c5) q1 q2 (by omega)
  have hw2 := fun (W : World) (hW : Below w3.heap.size w3 W) => refWrite (c := c6) (r1.below hW) r2 (by omega)
  rw [q3] at hw1
  rw [r3] at hw2
  have HW1 := Lib.hid hw1
  have HW2 := Lib.hid hw2
  clear hw1 hw2 q1 q2 q3 r1 r2 r3 hb hb3
  go_wp2_with fail
  refine HW1.out.mono ?_
  rintro e w4 h
  obtain ⟨A7, j7, c7, rfl, hr7, hb7⟩ := retR_of h (Nat.lt_of_le_of_lt (Nat.div_le_self _ _) HK.out) (by omega)
  have hb5 := bstep hb4 hb7
  clear h
  go_wp2_with fail
  refine (HW2.out _ hb7).mono ?_
  rintro e w5 h
  obtain ⟨A8, j8, c8, rfl, hr8, hb8⟩ := retR_of h (Nat.lt_of_le_of_lt (Nat.mod_le _ _) HK.out) (by omega)
  have hb6 := bstep hb5 hb8
  have hr7' := hr7.below hb8
  clear h hb8 hb7 hr7 hb5 hb4
  go_wp2
  go_returns
  exact ⟨A7, j7, c7, A8, j8, c8, rfl, hr7', hr8, hb6⟩
theorem all_refSub {w : World} {A1 A2 : Option Addr} {c1 c2 k : Nat} {xs ys : List Nat} (hr1 : Row w A1 (u32s xs)) (hr2 : Row w A2 (u32s ys)) (hx : small 4294967296 xs) (hy : small 4294967296 ys) (hl1 : xs.length ≤ 1000) (hl2 : ys.length ≤ 1000) (hk : val xs < 1000000000 ^ k) (hk2 : k ≤ 2000) :
    Calls Tryd.prog 21 #[.slice A1 xs.length c1, .slice A2 ys.length c2] w (RetSB w (val xs - val ys) (decide (val ys ≤ val xs))) := by
  by_cases h : val ys ≤ val xs
  · rw [decide_eq_true h]; exact refSub_yes hr1 hr2 hx hy hl1 hl2 hk hk2 h
  · rw [decide_eq_false h, Nat.sub_eq_zero_of_le (by omega)]
    exact (refSub_no hr1 hr2 hx hy hl1 hl2 hk hk2 (by omega)).mono fun _ _ ⟨a, b⟩ => ⟨none, 0, 0, a, rr_nil _, b⟩
theorem all_refDiv {w : World} {A1 A2 : Option Addr} {c1 c2 k : Nat} {xs ys : List Nat} (hr1 : Row w A1 (u32s xs)) (hr2 : Row w A2 (u32s ys)) (hx : small 4294967296 xs) (hy : small 4294967296 ys) (hl1 : xs.length ≤ 1000) (hl2 : ys.length ≤ 1000) (hk : val xs < 1000000000 ^ k) (hky : val ys < 1000000000 ^ k) (hk2 : k ≤ 2000) :
    Calls Tryd.prog 22 #[.slice A1 xs.length c1, .slice A2 ys.length c2] w (RetDB w (val xs / val ys) (restOf (val xs) (val ys)) (decide (0 < val ys))) := by
  by_cases h : val ys = 0
  · rw [h, decide_eq_false (by omega), Nat.div_zero, restOf, if_pos rfl]
    exact (refDiv_no hr2 hy hl2 h).mono fun _ _ ⟨a, b⟩ => ⟨none, 0, 0, none, 0, 0, a, rr_nil _, rr_nil _, b⟩
  · rw [decide_eq_true (show 0 < val ys by omega), restOf, if_neg h]; exact refDiv_yes hr1 hr2 hx hy hl1 hl2 hk hky hk2 (by omega)
end Go.Proofs.YtbjcddfoajgebaaDoor

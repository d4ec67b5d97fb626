/- The law NatRing, walked: of any three rows the call returns true. Premise: the table of powers of ten reads as it is laid. (The walk's text is written by wip/gen/ring.py.) -/
import Derived.Test.YtpamcdfbcglflaaDoorVal
import Derived.WalkLawsBesides
namespace Go.Proofs.YtpamcdfbcglflaaDoor
open Go.RowKit

theorem ordI_lt' {a b : Nat} (h : a < b) : ordI (a : Int) (b : Int) = -1 := by unfold ordI; rw [if_pos (by omega)]

theorem ring_bounds {a b c K : Nat} (ha : a < K) (hb : b < K) (hc : c < K) (hK : 3 ≤ K) : a + b < K * K * K ∧ a < K * K * K ∧ a * b < K * K * K ∧ b < K * K * K ∧ a + b + c < K * K * K ∧ a * b * c < K * K * K ∧ c < K * K * K ∧ c * (a + b) < K * K * K ∧ c * a < K * K * K ∧ c * b < K * K * K ∧ b + 1 < K * K * K := by
  have h3 : 3 * K ≤ K * K := Nat.mul_le_mul_right _ hK
  have h9 : K * K * 3 ≤ K * K * K := Nat.mul_le_mul_left _ hK
  have e1 : a * b < K * K := Nat.mul_lt_mul'' ha hb
  have e2 : c * a < K * K := Nat.mul_lt_mul'' hc ha
  have e3 : c * b < K * K := Nat.mul_lt_mul'' hc hb
  have e4 : a * b * c < K * K * K := Nat.mul_lt_mul'' e1 hc
  have e5 : c * (a + b) < K * K * K := by
    rw [Nat.mul_add]; omega
  refine ⟨by omega, by omega, by omega, by omega, by omega, e4, by omega, e5, by omega, by omega, by omega⟩

set_option maxRecDepth 100000 in
set_option maxHeartbeats 8000000 in
theorem ring_zero {A1 A2 A3 : Option Addr} {c1 c2 c3 : Nat} {xs ys zs : List Nat} (w : World) (na nb nc N : Nat)
    (HA : Hid (Calls Tryd.prog 8 #[] w fun e w' => e = .returned (.bool true) ∧ Below w.heap.size w w'))
    (HF : Hid (∀ (W : World), Calls Tryd.prog 9 #[.slice (some ⟨W.heap.size, 0, none⟩) 3 3] (W.alloc (.cells #[.slice A1 xs.length c1, .slice A2 ys.length c2, .slice A3 zs.length c3] 22)) fun e w' => FewRet [(A1, c1, xs), (A2, c2, ys), (A3, c3, zs)] e ∧ w' = W.alloc (.cells #[.slice A1 xs.length c1, .slice A2 ys.length c2, .slice A3 zs.length c3] 22)))
    (HSH : Hid (short [(A1, c1, xs), (A2, c2, ys), (A3, c3, zs)])) (RA : Hid (Rd w (.slice A1 xs.length c1) na)) (RB : Hid (Rd w (.slice A2 ys.length c2) nb)) (RC : Hid (Rd w (.slice A3 zs.length c3) nc))
    (HB : Hid (na + nb < 1000000000 ^ N ∧ na < 1000000000 ^ N ∧ na * nb < 1000000000 ^ N ∧ nb < 1000000000 ^ N ∧ na + nb + nc < 1000000000 ^ N ∧ na * nb * nc < 1000000000 ^ N ∧ nc < 1000000000 ^ N ∧ nc * (na + nb) < 1000000000 ^ N ∧ nc * na < 1000000000 ^ N ∧ nc * nb < 1000000000 ^ N ∧ nb + 1 < 1000000000 ^ N))
    (HN : Hid (N ≤ 4000)) (HN0 : Hid (0 < N)) (HZ : Hid (nb = 0)) :
    Calls Tryd.prog 5 #[.slice A1 xs.length c1, .slice A2 ys.length c2, .slice A3 zs.length c3] w fun e w' => e = .returned (.bool true) ∧ Below w.heap.size w w' := by
  go_enter Tryd.func5, Tryd.ntmps5
  go_wp2_with fail
  refine HA.out.mono ?_
  rintro e w0 ⟨rfl, b0⟩
  go_wp2_with fail
  refine (HF.out _).mono ?_
  rintro e w0' ⟨hf, rfl⟩
  rcases hf with ⟨_, rfl⟩ | ⟨hno, _⟩
  rotate_left 1
  exact absurd HSH.out hno
  obtain ⟨wx, hwx⟩ : ∃ wx, wx = w0.alloc (.cells #[.slice A1 xs.length c1, .slice A2 ys.length c2, .slice A3 zs.length c3] 22) := ⟨_, rfl⟩
  rw [← hwx]
  have b00 : Below w.heap.size w wx := by rw [hwx]; exact bal b0 _
  clear hwx b0
  go_wp2_with fail
  with_reducible refine (val_add2 (RA.out.below b00) (RB.out.below b00) HB.out.1 HN.out).mono ?_
  rintro e w1 ⟨sA, sk, sc, rfl, s_0, h1⟩
  have b1 := bstep (bal b00 _) h1
  clear h1 b00
  go_wp2_with fail
  with_reducible refine (val_mul2 (RA.out.below b1) (RB.out.below b1) HB.out.2.1 HB.out.2.2.1 HN.out HN0.out).mono ?_
  rintro e w2 ⟨prA, prk, prc, rfl, pr_0, h2⟩
  have b2 := bstep (bal b1 _) h2
  have s_2 := (s_0.alloc _).below h2
  clear h2 s_0 b1
  go_wp2_with fail
  with_reducible refine (val_add2 (RB.out.below b2) (RA.out.below b2) (by rw [Nat.add_comm]; exact HB.out.1) HN.out).mono ?_
  rintro e w3 ⟨tA, tk, tc, rfl, t_0, h3⟩
  have b3 := bstep (bal b2 _) h3
  have s_3 := (s_2.alloc _).below h3
  have pr_3 := (pr_0.alloc _).below h3
  clear h3 pr_0 s_2 b2
  go_wp2_with fail
  with_reducible refine (val_same s_3 t_0 (Nat.add_comm _ _)).mono ?_
  rintro e w4 ⟨rfl, h4⟩
  have b4 := bstep b3 h4.below
  have s_4 := s_3.below h4.below
  have pr_4 := pr_3.below h4.below
  clear h4 t_0 pr_3 s_3 b3
  go_wp2_with fail
  with_reducible refine (val_mul2 (RB.out.below b4) (RA.out.below b4) HB.out.2.2.2.1 (by rw [Nat.mul_comm]; exact HB.out.2.2.1) HN.out HN0.out).mono ?_
  rintro e w5 ⟨tA, tk, tc, rfl, t_0, h5⟩
  have b5 := bstep (bal b4 _) h5
  have s_5 := (s_4.alloc _).below h5
  have pr_5 := (pr_4.alloc _).below h5
  clear h5 pr_4 s_4 b4
  go_wp2_with fail
  with_reducible refine (val_same pr_5 t_0 (Nat.mul_comm _ _)).mono ?_
  rintro e w6 ⟨rfl, h6⟩
  have b6 := bstep b5 h6.below
  have s_6 := s_5.below h6.below
  have pr_6 := pr_5.below h6.below
  clear h6 t_0 pr_5 s_5 b5
  go_wp2_with fail
  with_reducible refine (val_add2 s_6.rd (RC.out.below b6) HB.out.2.2.2.2.1 HN.out).mono ?_
  rintro e w7 ⟨tA, tk, tc, rfl, t_0, h7⟩
  have b7 := bstep (bal b6 _) h7
  have s_7 := (s_6.alloc _).below h7
  have pr_7 := (pr_6.alloc _).below h7
  clear h7 pr_6 s_6 b6
  go_wp2_with fail
  with_reducible refine (val_add3 (RA.out.below b7) (RB.out.below b7) (RC.out.below b7) HB.out.2.2.2.2.1 HN.out).mono ?_
  rintro e w8 ⟨uA, uk, uc, rfl, u_0, h8⟩
  have b8 := bstep (bal b7 _) h8
  have s_8 := (s_7.alloc _).below h8
  have pr_8 := (pr_7.alloc _).below h8
  have t_8 := (t_0.alloc _).below h8
  clear h8 t_0 pr_7 s_7 b7
  go_wp2_with fail
  with_reducible refine (val_same t_8 u_0 rfl).mono ?_
  rintro e w9 ⟨rfl, h9⟩
  have b9 := bstep b8 h9.below
  have s_9 := s_8.below h9.below
  have pr_9 := pr_8.below h9.below
  clear h9 u_0 t_8 pr_8 s_8 b8
  go_wp2_with fail
  with_reducible refine (val_mul2 pr_9.rd (RC.out.below b9) HB.out.2.2.1 HB.out.2.2.2.2.2.1 HN.out HN0.out).mono ?_
  rintro e w10 ⟨tA, tk, tc, rfl, t_0, h10⟩
  have b10 := bstep (bal b9 _) h10
  have s_10 := (s_9.alloc _).below h10
  have pr_10 := (pr_9.alloc _).below h10
  clear h10 pr_9 s_9 b9
  go_wp2_with fail
  with_reducible refine (val_mul3 (RA.out.below b10) (RB.out.below b10) (RC.out.below b10) HB.out.2.1 HB.out.2.2.1 HB.out.2.2.2.2.2.1 HN.out HN0.out).mono ?_
  rintro e w11 ⟨uA, uk, uc, rfl, u_0, h11⟩
  have b11 := bstep (bal b10 _) h11
  have s_11 := (s_10.alloc _).below h11
  have pr_11 := (pr_10.alloc _).below h11
  have t_11 := (t_0.alloc _).below h11
  clear h11 t_0 pr_10 s_10 b10
  go_wp2_with fail
  with_reducible refine (val_same t_11 u_0 rfl).mono ?_
  rintro e w12 ⟨rfl, h12⟩
  have b12 := bstep b11 h12.below
  have s_12 := s_11.below h12.below
  have pr_12 := pr_11.below h12.below
  clear h12 u_0 t_11 pr_11 s_11 b11
  go_wp2_with fail
  with_reducible refine (val_mul2 (RC.out.below b12) s_12.rd HB.out.2.2.2.2.2.2.1 HB.out.2.2.2.2.2.2.2.1 HN.out HN0.out).mono ?_
  rintro e w13 ⟨tA, tk, tc, rfl, t_0, h13⟩
  have b13 := bstep (bal b12 _) h13
  have s_13 := (s_12.alloc _).below h13
  have pr_13 := (pr_12.alloc _).below h13
  clear h13 pr_12 s_12 b12
  go_wp2_with fail
  with_reducible refine (val_mul2 (RC.out.below b13) (RA.out.below b13) HB.out.2.2.2.2.2.2.1 HB.out.2.2.2.2.2.2.2.2.1 HN.out HN0.out).mono ?_
  rintro e w14 ⟨uA, uk, uc, rfl, u_0, h14⟩
  have b14 := bstep (bal b13 _) h14
  have s_14 := (s_13.alloc _).below h14
  have pr_14 := (pr_13.alloc _).below h14
  have t_14 := (t_0.alloc _).below h14
  clear h14 t_0 pr_13 s_13 b13
  go_wp2_with fail
  with_reducible refine (val_mul2 (RC.out.below b14) (RB.out.below b14) HB.out.2.2.2.2.2.2.1 HB.out.2.2.2.2.2.2.2.2.2.1 HN.out HN0.out).mono ?_
  rintro e w15 ⟨xA, xk, xc, rfl, x_0, h15⟩
  have b15 := bstep (bal b14 _) h15
  have s_15 := (s_14.alloc _).below h15
  have pr_15 := (pr_14.alloc _).below h15
  have t_15 := (t_14.alloc _).below h15
  have u_15 := (u_0.alloc _).below h15
  clear h15 u_0 t_14 pr_14 s_14 b14
  go_wp2_with fail
  with_reducible refine (val_add2 u_15.rd x_0.rd (by rw [← Nat.mul_add]; exact HB.out.2.2.2.2.2.2.2.1) HN.out).mono ?_
  rintro e w16 ⟨yA, yk, yc, rfl, y_0, h16⟩
  have b16 := bstep (bal b15 _) h16
  have s_16 := (s_15.alloc _).below h16
  have pr_16 := (pr_15.alloc _).below h16
  have t_16 := (t_15.alloc _).below h16
  have u_16 := (u_15.alloc _).below h16
  have x_16 := (x_0.alloc _).below h16
  clear h16 x_0 u_15 t_15 pr_15 s_15 b15
  go_wp2_with fail
  with_reducible refine (val_same t_16 y_0 (Nat.mul_add _ _ _)).mono ?_
  rintro e w17 ⟨rfl, h17⟩
  have b17 := bstep b16 h17.below
  have s_17 := s_16.below h17.below
  have pr_17 := pr_16.below h17.below
  clear h17 y_0 x_16 u_16 t_16 pr_16 s_16 b16
  go_wp2_with fail
  with_reducible refine (val_sub s_17.rd (RB.out.below b17) (Nat.le_add_left _ _) HB.out.1 HN.out).mono ?_
  rintro e w18 ⟨dA, dk, dc, rfl, d_0, h18⟩
  have b18 := bstep b17 h18
  have s_18 := s_17.below h18
  have pr_18 := pr_17.below h18
  clear h18 pr_17 s_17 b17
  have hone := fun (W : World) (hW : Below w.heap.size w W) => val_add2 ((RB.out.below hW).alloc _) (rr_lit1 W).rd HB.out.2.2.2.2.2.2.2.2.2.2 HN.out
  simp only [World.size_alloc] at hone
  have HONE := Lib.hid hone
  clear hone
  go_wp2_with fail
  with_reducible refine (HONE.out _ b18).mono ?_
  rintro e w19 ⟨tA, tk, tc, rfl, t_0, h19⟩
  have b19 := bstep (bal (bal b18 _) _) h19
  have s_19 := ((s_18.alloc _).alloc _).below h19
  have pr_19 := ((pr_18.alloc _).alloc _).below h19
  have d_19 := ((d_0.alloc _).alloc _).below h19
  clear h19 d_0 pr_18 s_18 b18
  go_wp2_with fail
  with_reducible refine (val_sub_no (RB.out.below b19) t_0.rd (Nat.lt_succ_self _)).mono ?_
  rintro e w20 ⟨rfl, h20⟩
  have b20 := bstep b19 h20
  have s_20 := s_19.below h20
  have pr_20 := pr_19.below h20
  have d_20 := d_19.below h20
  clear h20 t_0 d_19 pr_19 s_19 b19
  go_wp2_with fail
  with_reducible refine (val_trim (RA.out.below b20) HB.out.2.1 HN.out).mono ?_
  rintro e w21 ⟨tA, tk, tc, rfl, t_0, h21⟩
  have b21 := bstep b20 h21
  have s_21 := s_20.below h21
  have pr_21 := pr_20.below h21
  have d_21 := d_20.below h21
  clear h21 d_20 pr_20 s_20 b20
  go_wp2_with fail
  with_reducible refine (val_same d_21 t_0 (Nat.add_sub_cancel _ _)).mono ?_
  rintro e w22 ⟨rfl, h22⟩
  have b22 := bstep b21 h22.below
  have s_22 := s_21.below h22.below
  have pr_22 := pr_21.below h22.below
  have d_22 := d_21.below h22.below
  clear h22 t_0 d_21 pr_21 s_21 b21
  go_wp2_with fail
  refine (val_right s_22).mono ?_
  rintro e w' ⟨rfl, hw⟩
  subst hw
  go_wp2_with fail
  refine (val_right pr_22).mono ?_
  rintro e w' ⟨rfl, hw⟩
  subst hw
  go_wp2_with fail
  refine (val_right d_22).mono ?_
  rintro e w' ⟨rfl, hw⟩
  subst hw
  clear s_22 pr_22 d_22
  go_wp2_with fail
  with_reducible refine (val_div_no (RA.out.below b22) (HZ.out ▸ (RB.out.below b22))).mono ?_
  rintro e w23 ⟨rfl, h23⟩
  have b23 := bstep b22 h23
  clear h23 b22
  go_wp2_with fail
  with_reducible refine (val_trim (RB.out.below b23) HB.out.2.2.2.1 HN.out).mono ?_
  rintro e w24 ⟨tA, tk, tc, rfl, t_0, h24⟩
  have b24 := bstep b23 h24
  clear h24 b23
  obtain ⟨At, ct, ts, ev, _, ht, _, hv⟩ := t_0
  obtain rfl : ts = [] := right_zero ht (by rw [hv, HZ.out])
  injection ev with e1 e2 e3
  subst e1; subst e2; subst e3
  go_wp2
  go_returns
  exact ⟨rfl, b24⟩

set_option maxRecDepth 100000 in
set_option maxHeartbeats 8000000 in
theorem ring_yes {A1 A2 A3 : Option Addr} {c1 c2 c3 : Nat} {xs ys zs : List Nat} (w : World) (na nb nc N : Nat)
    (HA : Hid (Calls Tryd.prog 8 #[] w fun e w' => e = .returned (.bool true) ∧ Below w.heap.size w w'))
    (HF : Hid (∀ (W : World), Calls Tryd.prog 9 #[.slice (some ⟨W.heap.size, 0, none⟩) 3 3] (W.alloc (.cells #[.slice A1 xs.length c1, .slice A2 ys.length c2, .slice A3 zs.length c3] 22)) fun e w' => FewRet [(A1, c1, xs), (A2, c2, ys), (A3, c3, zs)] e ∧ w' = W.alloc (.cells #[.slice A1 xs.length c1, .slice A2 ys.length c2, .slice A3 zs.length c3] 22)))
    (HSH : Hid (short [(A1, c1, xs), (A2, c2, ys), (A3, c3, zs)])) (RA : Hid (Rd w (.slice A1 xs.length c1) na)) (RB : Hid (Rd w (.slice A2 ys.length c2) nb)) (RC : Hid (Rd w (.slice A3 zs.length c3) nc))
    (HB : Hid (na + nb < 1000000000 ^ N ∧ na < 1000000000 ^ N ∧ na * nb < 1000000000 ^ N ∧ nb < 1000000000 ^ N ∧ na + nb + nc < 1000000000 ^ N ∧ na * nb * nc < 1000000000 ^ N ∧ nc < 1000000000 ^ N ∧ nc * (na + nb) < 1000000000 ^ N ∧ nc * na < 1000000000 ^ N ∧ nc * nb < 1000000000 ^ N ∧ nb + 1 < 1000000000 ^ N))
    (HN : Hid (N ≤ 4000)) (HN0 : Hid (0 < N)) (HZ : Hid (0 < nb)) :
    Calls Tryd.prog 5 #[.slice A1 xs.length c1, .slice A2 ys.length c2, .slice A3 zs.length c3] w fun e w' => e = .returned (.bool true) ∧ Below w.heap.size w w' := by
  go_enter Tryd.func5, Tryd.ntmps5
  go_wp2_with fail
  refine HA.out.mono ?_
  rintro e w0 ⟨rfl, b0⟩
  go_wp2_with fail
  refine (HF.out _).mono ?_
  rintro e w0' ⟨hf, rfl⟩
  rcases hf with ⟨_, rfl⟩ | ⟨hno, _⟩
  rotate_left 1
  exact absurd HSH.out hno
  obtain ⟨wx, hwx⟩ : ∃ wx, wx = w0.alloc (.cells #[.slice A1 xs.length c1, .slice A2 ys.length c2, .slice A3 zs.length c3] 22) := ⟨_, rfl⟩
  rw [← hwx]
  have b00 : Below w.heap.size w wx := by rw [hwx]; exact bal b0 _
  clear hwx b0
  go_wp2_with fail
  with_reducible refine (val_add2 (RA.out.below b00) (RB.out.below b00) HB.out.1 HN.out).mono ?_
  rintro e w1 ⟨sA, sk, sc, rfl, s_0, h1⟩
  have b1 := bstep (bal b00 _) h1
  clear h1 b00
  go_wp2_with fail
  with_reducible refine (val_mul2 (RA.out.below b1) (RB.out.below b1) HB.out.2.1 HB.out.2.2.1 HN.out HN0.out).mono ?_
  rintro e w2 ⟨prA, prk, prc, rfl, pr_0, h2⟩
  have b2 := bstep (bal b1 _) h2
  have s_2 := (s_0.alloc _).below h2
  clear h2 s_0 b1
  go_wp2_with fail
  with_reducible refine (val_add2 (RB.out.below b2) (RA.out.below b2) (by rw [Nat.add_comm]; exact HB.out.1) HN.out).mono ?_
  rintro e w3 ⟨tA, tk, tc, rfl, t_0, h3⟩
  have b3 := bstep (bal b2 _) h3
  have s_3 := (s_2.alloc _).below h3
  have pr_3 := (pr_0.alloc _).below h3
  clear h3 pr_0 s_2 b2
  go_wp2_with fail
  with_reducible refine (val_same s_3 t_0 (Nat.add_comm _ _)).mono ?_
  rintro e w4 ⟨rfl, h4⟩
  have b4 := bstep b3 h4.below
  have s_4 := s_3.below h4.below
  have pr_4 := pr_3.below h4.below
  clear h4 t_0 pr_3 s_3 b3
  go_wp2_with fail
  with_reducible refine (val_mul2 (RB.out.below b4) (RA.out.below b4) HB.out.2.2.2.1 (by rw [Nat.mul_comm]; exact HB.out.2.2.1) HN.out HN0.out).mono ?_
  rintro e w5 ⟨tA, tk, tc, rfl, t_0, h5⟩
  have b5 := bstep (bal b4 _) h5
  have s_5 := (s_4.alloc _).below h5
  have pr_5 := (pr_4.alloc _).below h5
  clear h5 pr_4 s_4 b4
  go_wp2_with fail
  with_reducible refine (val_same pr_5 t_0 (Nat.mul_comm _ _)).mono ?_
  rintro e w6 ⟨rfl, h6⟩
  have b6 := bstep b5 h6.below
  have s_6 := s_5.below h6.below
  have pr_6 := pr_5.below h6.below
  clear h6 t_0 pr_5 s_5 b5
  go_wp2_with fail
  with_reducible refine (val_add2 s_6.rd (RC.out.below b6) HB.out.2.2.2.2.1 HN.out).mono ?_
  rintro e w7 ⟨tA, tk, tc, rfl, t_0, h7⟩
  have b7 := bstep (bal b6 _) h7
  have s_7 := (s_6.alloc _).below h7
  have pr_7 := (pr_6.alloc _).below h7
  clear h7 pr_6 s_6 b6
  go_wp2_with fail
  with_reducible refine (val_add3 (RA.out.below b7) (RB.out.below b7) (RC.out.below b7) HB.out.2.2.2.2.1 HN.out).mono ?_
  rintro e w8 ⟨uA, uk, uc, rfl, u_0, h8⟩
  have b8 := bstep (bal b7 _) h8
  have s_8 := (s_7.alloc _).below h8
  have pr_8 := (pr_7.alloc _).below h8
  have t_8 := (t_0.alloc _).below h8
  clear h8 t_0 pr_7 s_7 b7
  go_wp2_with fail
  with_reducible refine (val_same t_8 u_0 rfl).mono ?_
  rintro e w9 ⟨rfl, h9⟩
  have b9 := bstep b8 h9.below
  have s_9 := s_8.below h9.below
  have pr_9 := pr_8.below h9.below
  clear h9 u_0 t_8 pr_8 s_8 b8
  go_wp2_with fail
  with_reducible refine (val_mul2 pr_9.rd (RC.out.below b9) HB.out.2.2.1 HB.out.2.2.2.2.2.1 HN.out HN0.out).mono ?_
  rintro e w10 ⟨tA, tk, tc, rfl, t_0, h10⟩
  have b10 := bstep (bal b9 _) h10
  have s_10 := (s_9.alloc _).below h10
  have pr_10 := (pr_9.alloc _).below h10
  clear h10 pr_9 s_9 b9
  go_wp2_with fail
  with_reducible refine (val_mul3 (RA.out.below b10) (RB.out.below b10) (RC.out.below b10) HB.out.2.1 HB.out.2.2.1 HB.out.2.2.2.2.2.1 HN.out HN0.out).mono ?_
  rintro e w11 ⟨uA, uk, uc, rfl, u_0, h11⟩
  have b11 := bstep (bal b10 _) h11
  have s_11 := (s_10.alloc _).below h11
  have pr_11 := (pr_10.alloc _).below h11
  have t_11 := (t_0.alloc _).below h11
  clear h11 t_0 pr_10 s_10 b10
  go_wp2_with fail
  with_reducible refine (val_same t_11 u_0 rfl).mono ?_
  rintro e w12 ⟨rfl, h12⟩
  have b12 := bstep b11 h12.below
  have s_12 := s_11.below h12.below
  have pr_12 := pr_11.below h12.below
  clear h12 u_0 t_11 pr_11 s_11 b11
  go_wp2_with fail
  with_reducible refine (val_mul2 (RC.out.below b12) s_12.rd HB.out.2.2.2.2.2.2.1 HB.out.2.2.2.2.2.2.2.1 HN.out HN0.out).mono ?_
  rintro e w13 ⟨tA, tk, tc, rfl, t_0, h13⟩
  have b13 := bstep (bal b12 _) h13
  have s_13 := (s_12.alloc _).below h13
  have pr_13 := (pr_12.alloc _).below h13
  clear h13 pr_12 s_12 b12
  go_wp2_with fail
  with_reducible refine (val_mul2 (RC.out.below b13) (RA.out.below b13) HB.out.2.2.2.2.2.2.1 HB.out.2.2.2.2.2.2.2.2.1 HN.out HN0.out).mono ?_
  rintro e w14 ⟨uA, uk, uc, rfl, u_0, h14⟩
  have b14 := bstep (bal b13 _) h14
  have s_14 := (s_13.alloc _).below h14
  have pr_14 := (pr_13.alloc _).below h14
  have t_14 := (t_0.alloc _).below h14
  clear h14 t_0 pr_13 s_13 b13
  go_wp2_with fail
  with_reducible refine (val_mul2 (RC.out.below b14) (RB.out.below b14) HB.out.2.2.2.2.2.2.1 HB.out.2.2.2.2.2.2.2.2.2.1 HN.out HN0.out).mono ?_
  rintro e w15 ⟨xA, xk, xc, rfl, x_0, h15⟩
  have b15 := bstep (bal b14 _) h15
  have s_15 := (s_14.alloc _).below h15
  have pr_15 := (pr_14.alloc _).below h15
  have t_15 := (t_14.alloc _).below h15
  have u_15 := (u_0.alloc _).below h15
  clear h15 u_0 t_14 pr_14 s_14 b14
  go_wp2_with fail
  with_reducible refine (val_add2 u_15.rd x_0.rd (by rw [← Nat.mul_add]; exact HB.out.2.2.2.2.2.2.2.1) HN.out).mono ?_
  rintro e w16 ⟨yA, yk, yc, rfl, y_0, h16⟩
  have b16 := bstep (bal b15 _) h16
  have s_16 := (s_15.alloc _).below h16
  have pr_16 := (pr_15.alloc _).below h16
  have t_16 := (t_15.alloc _).below h16
  have u_16 := (u_15.alloc _).below h16
  have x_16 := (x_0.alloc _).below h16
  clear h16 x_0 u_15 t_15 pr_15 s_15 b15
  go_wp2_with fail
  with_reducible refine (val_same t_16 y_0 (Nat.mul_add _ _ _)).mono ?_
  rintro e w17 ⟨rfl, h17⟩
  have b17 := bstep b16 h17.below
  have s_17 := s_16.below h17.below
  have pr_17 := pr_16.below h17.below
  clear h17 y_0 x_16 u_16 t_16 pr_16 s_16 b16
  go_wp2_with fail
  with_reducible refine (val_sub s_17.rd (RB.out.below b17) (Nat.le_add_left _ _) HB.out.1 HN.out).mono ?_
  rintro e w18 ⟨dA, dk, dc, rfl, d_0, h18⟩
  have b18 := bstep b17 h18
  have s_18 := s_17.below h18
  have pr_18 := pr_17.below h18
  clear h18 pr_17 s_17 b17
  have hone := fun (W : World) (hW : Below w.heap.size w W) => val_add2 ((RB.out.below hW).alloc _) (rr_lit1 W).rd HB.out.2.2.2.2.2.2.2.2.2.2 HN.out
  simp only [World.size_alloc] at hone
  have HONE := Lib.hid hone
  clear hone
  go_wp2_with fail
  with_reducible refine (HONE.out _ b18).mono ?_
  rintro e w19 ⟨tA, tk, tc, rfl, t_0, h19⟩
  have b19 := bstep (bal (bal b18 _) _) h19
  have s_19 := ((s_18.alloc _).alloc _).below h19
  have pr_19 := ((pr_18.alloc _).alloc _).below h19
  have d_19 := ((d_0.alloc _).alloc _).below h19
  clear h19 d_0 pr_18 s_18 b18
  go_wp2_with fail
  with_reducible refine (val_sub_no (RB.out.below b19) t_0.rd (Nat.lt_succ_self _)).mono ?_
  rintro e w20 ⟨rfl, h20⟩
  have b20 := bstep b19 h20
  have s_20 := s_19.below h20
  have pr_20 := pr_19.below h20
  have d_20 := d_19.below h20
  clear h20 t_0 d_19 pr_19 s_19 b19
  go_wp2_with fail
  with_reducible refine (val_trim (RA.out.below b20) HB.out.2.1 HN.out).mono ?_
  rintro e w21 ⟨tA, tk, tc, rfl, t_0, h21⟩
  have b21 := bstep b20 h21
  have s_21 := s_20.below h21
  have pr_21 := pr_20.below h21
  have d_21 := d_20.below h21
  clear h21 d_20 pr_20 s_20 b20
  go_wp2_with fail
  with_reducible refine (val_same d_21 t_0 (Nat.add_sub_cancel _ _)).mono ?_
  rintro e w22 ⟨rfl, h22⟩
  have b22 := bstep b21 h22.below
  have s_22 := s_21.below h22.below
  have pr_22 := pr_21.below h22.below
  have d_22 := d_21.below h22.below
  clear h22 t_0 d_21 pr_21 s_21 b21
  go_wp2_with fail
  refine (val_right s_22).mono ?_
  rintro e w' ⟨rfl, hw⟩
  subst hw
  go_wp2_with fail
  refine (val_right pr_22).mono ?_
  rintro e w' ⟨rfl, hw⟩
  subst hw
  go_wp2_with fail
  refine (val_right d_22).mono ?_
  rintro e w' ⟨rfl, hw⟩
  subst hw
  clear s_22 pr_22 d_22
  go_wp2_with fail
  with_reducible refine (val_div (RA.out.below b22) (RB.out.below b22) HZ.out HB.out.2.1 HN.out).mono ?_
  rintro e w23 ⟨qA, qk, qc, rA, rk, rc, rfl, q_0, r_0, h23⟩
  have b23 := bstep b22 h23
  clear h23 b22
  go_wp2_with fail
  refine (val_right q_0).mono ?_
  rintro e w' ⟨rfl, hw⟩
  subst hw
  go_wp2_with fail
  refine (val_right r_0).mono ?_
  rintro e w' ⟨rfl, hw⟩
  subst hw
  have hcm := fun (W : World) (hW : Below w.heap.size w W) (hr : Rr W (.slice rA rk rc) (na % nb)) => val_cmp hr.rd (RB.out.below hW)
  rw [ordI_lt' (Nat.mod_lt na HZ.out)] at hcm
  have HCM := Lib.hid hcm
  clear hcm
  go_wp2_with fail
  with_reducible refine (HCM.out _ b23 r_0).mono ?_
  rintro e w24 ⟨rfl, h24⟩
  have b24 := bstep b23 h24
  have q_24 := q_0.below h24
  have r_24 := r_0.below h24
  clear h24 r_0 q_0 b23
  go_wp2_with fail
  with_reducible refine (val_mul2 q_24.rd (RB.out.below b24) (Nat.lt_of_le_of_lt (Nat.div_le_self _ _) HB.out.2.1) (Nat.lt_of_le_of_lt (Nat.div_mul_le_self _ _) HB.out.2.1) HN.out HN0.out).mono ?_
  rintro e w25 ⟨tA, tk, tc, rfl, t_0, h25⟩
  have b25 := bstep (bal b24 _) h25
  have r_25 := (r_24.alloc _).below h25
  clear h25 r_24 q_24 b24
  go_wp2_with fail
  with_reducible refine (val_add2 t_0.rd r_25.rd (by rw [Nat.mul_comm, Nat.div_add_mod]; exact HB.out.2.1) HN.out).mono ?_
  rintro e w26 ⟨uA, uk, uc, rfl, u_0, h26⟩
  have b26 := bstep (bal b25 _) h26
  clear h26 t_0 r_25 b25
  go_wp2_with fail
  with_reducible refine (val_trim (RA.out.below b26) HB.out.2.1 HN.out).mono ?_
  rintro e w27 ⟨xA, xk, xc, rfl, x_0, h27⟩
  have b27 := bstep b26 h27
  have u_27 := u_0.below h27
  clear h27 u_0 b26
  go_wp2_with fail
  with_reducible refine (val_same u_27 x_0 (by rw [Nat.mul_comm, Nat.div_add_mod])).mono ?_
  rintro e w28 ⟨rfl, h28⟩
  have b28 := bstep b27 h28.below
  clear h28 x_0 u_27 b27
  go_wp2
  go_returns
  exact ⟨rfl, b28⟩

set_option maxRecDepth 100000 in
set_option maxHeartbeats 4000000 in
theorem lawRing {A1 A2 A3 : Option Addr} {c1 c2 c3 : Nat} {xs ys zs : List Nat} (w : World) (htab : Tab w) (hw : 3 ≤ w.heap.size) (r1 : Row w A1 (u32s xs)) (r2 : Row w A2 (u32s ys)) (r3 : Row w A3 (u32s zs)) (d1 : small 4294967296 xs) (d2 : small 4294967296 ys) (d3 : small 4294967296 zs)
    (l1 : xs.length < 9223372036854775808) (l2 : ys.length < 9223372036854775808) (l3 : zs.length < 9223372036854775808) :
    Calls Tryd.prog 5 #[.slice A1 xs.length c1, .slice A2 ys.length c2, .slice A3 zs.length c3] w fun e w' => e = .returned (.bool true) ∧ Below w.heap.size w w' := by
  have haw := awake_any dm_ex w htab hw
  have HA := Lib.hid haw
  have hfew := fun (W : World) => few_three (w := W) (A1 := A1) (A2 := A2) (A3 := A3) (c1 := c1) (c2 := c2) (c3 := c3) l1 l2 l3
  have HF := Lib.hid hfew
  clear haw hfew htab
  by_cases hsh : short [(A1, c1, xs), (A2, c2, ys), (A3, c3, zs)]
  · have m1 : xs.length ≤ 40 := hsh.2 (A1, c1, xs) (by simp)
    have m2 : ys.length ≤ 40 := hsh.2 (A2, c2, ys) (by simp)
    have m3 : zs.length ≤ 40 := hsh.2 (A3, c3, zs) (by simp)
    obtain ⟨M, hM1, hM2⟩ : ∃ M, M ≤ 41 ∧ 41 ≤ M := ⟨41, Nat.le_refl _, Nat.le_refl _⟩
    have bd : ∀ {ds : List Nat}, small 4294967296 ds → ds.length ≤ 40 → val ds < 1000000000 ^ M := fun hd hl => Nat.lt_of_lt_of_le (val_lt32 hd) (Nat.pow_le_pow_right (by decide) (by omega))
    have hK : 3 ≤ 1000000000 ^ M := by
      have h1 : 1000000000 ^ 1 ≤ 1000000000 ^ M := Nat.pow_le_pow_right (by decide) (by omega)
      rw [Nat.pow_one] at h1
      exact Nat.le_trans (by decide) h1
    have hb := ring_bounds (bd d1 m1) (bd d2 m2) (bd d3 m3) hK
    rw [← Nat.pow_add, ← Nat.pow_add] at hb
    have hN : M + M + M ≤ 4000 := by omega
    have hN0 : 0 < M + M + M := by omega
    have ra := rd_of (c := c1) r1 d1 (by omega)
    have rb := rd_of (c := c2) r2 d2 (by omega)
    have rc := rd_of (c := c3) r3 d3 (by omega)
    rcases Nat.eq_zero_or_pos (val ys) with hz | hz
    · exact ring_zero w (val xs) (val ys) (val zs) (M + M + M) HA HF (Lib.hid hsh) (Lib.hid ra) (Lib.hid rb) (Lib.hid rc) (Lib.hid hb) (Lib.hid hN) (Lib.hid hN0) (Lib.hid hz)
    · exact ring_yes w (val xs) (val ys) (val zs) (M + M + M) HA HF (Lib.hid hsh) (Lib.hid ra) (Lib.hid rb) (Lib.hid rc) (Lib.hid hb) (Lib.hid hN) (Lib.hid hN0) (Lib.hid hz)
  · have HSH := Lib.hid hsh
    clear hsh r1 r2 r3 d1 d2 d3
    go_enter Tryd.func5, Tryd.ntmps5
    go_wp2_with fail
    refine HA.out.mono ?_
    rintro e w1 ⟨rfl, b1⟩
    go_wp2_with fail
    refine (HF.out _).mono ?_
    rintro e w1' ⟨hf, rfl⟩
    rcases hf with ⟨hyes, _⟩ | ⟨_, rfl⟩
    exact absurd hyes HSH.out
    have b2 := b1.alloc b1.size
    clear b1
    go_wp2
    go_returns
    exact ⟨rfl, b2 _⟩
end Go.Proofs.YtpamcdfbcglflaaDoor

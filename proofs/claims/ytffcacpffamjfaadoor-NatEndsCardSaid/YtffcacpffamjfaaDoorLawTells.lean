/- What the law NatTells asks, call by call, for all rows in one form: the differences, the quotients, whether a row is right; a row lent. The law NatTells, walked: of any two rows the call returns true. Premise: the table of powers of ten reads as it is laid. (The walk's text is written by wip/gen/tells.py.) The law NatTells: of any two rows the call returns true, all that it asks of its callees laid. Premise: the table of powers of ten reads as it is laid. -/
import Derived.Test.YtffcacpffamjfaaDoorRefText
import Derived.Test.YtffcacpffamjfaaDoorLent
import Derived.WalkLawsBesides
namespace Go.Proofs.YtffcacpffamjfaaDoor
open Go.RowKit

theorem few_two {w : World} {A1 A2 : Option Addr} {c1 c2 : Nat} {xs ys : List Nat} (h1 : xs.length < 9223372036854775808) (h2 : ys.length < 9223372036854775808) :
    Calls Tryd.prog 11 #[.slice (some ⟨w.heap.size, 0, none⟩) 2 2] (w.alloc (.cells #[.slice A1 xs.length c1, .slice A2 ys.length c2] 24)) fun e w' => FewRet [(A1, c1, xs), (A2, c2, ys)] e ∧ w' = w.alloc (.cells #[.slice A1 xs.length c1, .slice A2 ys.length c2] 24) :=
  few_any (L := [(A1, c1, xs), (A2, c2, ys)]) (c := 2) (lit_row w #[.slice A1 xs.length c1, .slice A2 ys.length c2] 24 (by unfold maxLen; simp)) (by simp) (fun r hr => by
    rcases List.mem_cons.1 hr with rfl | hr
    · exact h1
    · rw [List.mem_singleton.1 hr]; exact h2)

theorem row_head {W : World} {A : Option Addr} {xs ms : List Nat} (h : Row W A (u32s (xs ++ ms))) : Row W A (u32s xs) := by
  have := h.take xs.length
  rw [u32s_take, List.take_left] at this
  exact this
theorem rd_lent {W : World} {ad : Addr} {cap : Nat} {xs ms : List Nat} (h : Row W (some ad) (u32s (xs ++ ms))) (hd : small 4294967296 xs) (hl : xs.length ≤ 4000) : Rd W (.slice (some ad) xs.length cap) (val xs) :=
  ⟨_, cap, xs, rfl, row_head h, hd, hl, rfl⟩



theorem all_right (xs : List Nat) : ∃ b : Bool, (∀ (w : World) (A : Option Addr) (c : Nat), Row w A (u32s xs) → small 4294967296 xs → xs.length ≤ 1000000 → Calls Tryd.prog 18 #[.slice A xs.length c] w fun e w' => e = .returned (.bool b) ∧ w = w') ∧
    (∀ (w : World) (A : Option Addr) (c : Nat), Row w A (u32s xs) → small 4294967296 xs → xs.length ≤ 1000000 → Calls Tryd.prog 19 #[.slice A xs.length c] w fun e w' => e = .returned (.bool b) ∧ w = w') := by
  by_cases h : right xs
  · exact ⟨true, fun w A c h1 h2 h3 => (right_any h1 h2 h3).mono fun _ _ k => ⟨k.1.elim (fun a => a.2) (fun a => absurd h a.1), k.2⟩, fun w A c h1 h2 h3 => (refRight h1 h2 h3).mono fun _ _ k => ⟨k.1.elim (fun a => a.2) (fun a => absurd h a.1), k.2⟩⟩
  · exact ⟨false, fun w A c h1 h2 h3 => (right_any h1 h2 h3).mono fun _ _ k => ⟨k.1.elim (fun a => absurd a.1 h) (fun a => a.2), k.2⟩, fun w A c h1 h2 h3 => (refRight h1 h2 h3).mono fun _ _ k => ⟨k.1.elim (fun a => absurd a.1 h) (fun a => a.2), k.2⟩⟩
end Go.Proofs.YtffcacpffamjfaaDoor

namespace Go.Proofs.YtffcacpffamjfaaDoor
open Go.RowKit

theorem own_room {w : World} {B T g n c : Nat} {xs : List Value} (h : Own w B T (.slice (some ⟨g, 0, none⟩) n c) xs) : n ≤ c := by
  obtain ⟨A', c', e, _, hl, _⟩ := h.slice
  injection e with e1 e2 e3
  subst e3; subst e2; exact hl

set_option maxRecDepth 100000 in
set_option maxHeartbeats 8000000 in
theorem tells_in {A1 A2 : Option Addr} {c1 c2 : Nat} {xs ys : List Nat} (w : World) (ρ N : Nat) (b1 b2 b3 : Bool) (o : Int) (S : ByteArray)
    (HA : Hid (Calls Tryd.prog 4 #[] w fun e w' => e = .returned (.bool true) ∧ Below w.heap.size w w'))
    (HF : Hid (∀ (W : World), Calls Tryd.prog 11 #[.slice (some ⟨W.heap.size, 0, none⟩) 2 2] (W.alloc (.cells #[.slice A1 xs.length c1, .slice A2 ys.length c2] 24)) fun e w' => FewRet [(A1, c1, xs), (A2, c2, ys)] e ∧ w' = W.alloc (.cells #[.slice A1 xs.length c1, .slice A2 ys.length c2] 24)))
    (HSH : Hid (short [(A1, c1, xs), (A2, c2, ys)])) (HRA : Hid (Row w A1 (u32s xs))) (HRB : Hid (Row w A2 (u32s ys))) (D1 : Hid (small 4294967296 xs)) (D2 : Hid (small 4294967296 ys)) (L1 : Hid (xs.length ≤ 4000)) (L2 : Hid (ys.length ≤ 4000))
    (HB : Hid (val xs < 1000000000 ^ N)) (HN : Hid (N ≤ 4000))
    (HS : Hid (∀ (W : World) (v1 v2 : Value), Rd W v1 (val xs) → Rd W v2 (val ys) → Calls Tryd.prog 13 #[v1, v2] W (RetSB W (val xs - val ys) b1)))
    (HRS : Hid (∀ (W : World), Below w.heap.size w W → Calls Tryd.prog 14 #[.slice A1 xs.length c1, .slice A2 ys.length c2] W (RetSB W (val xs - val ys) b1)))
    (HD : Hid (∀ (W : World) (v1 v2 : Value), Rd W v1 (val xs) → Rd W v2 (val ys) → Calls Tryd.prog 7 #[v1, v2] W (RetDB W (val xs / val ys) ρ b2)))
    (HRD : Hid (∀ (W : World), Below w.heap.size w W → Calls Tryd.prog 15 #[.slice A1 xs.length c1, .slice A2 ys.length c2] W (RetDB W (val xs / val ys) ρ b2)))
    (HC : Hid (∀ (W : World) (v1 v2 : Value), Rd W v1 (val xs) → Rd W v2 (val ys) → Calls Tryd.prog 16 #[v1, v2] W fun e w' => e = .returned (.int .i64 o) ∧ Below W.heap.size W w'))
    (HRC : Hid (∀ (W : World), Below w.heap.size w W → Calls Tryd.prog 17 #[.slice A1 xs.length c1, .slice A2 ys.length c2] W fun e w' => e = .returned (.int .i64 o) ∧ Below W.heap.size W w'))
    (HR1 : Hid (∀ (W : World) (B : Option Addr) (c : Nat), Row W B (u32s xs) → Calls Tryd.prog 18 #[.slice B xs.length c] W fun e w' => e = .returned (.bool b3) ∧ W = w'))
    (HR2 : Hid (∀ (W : World), Below w.heap.size w W → Calls Tryd.prog 19 #[.slice A1 xs.length c1] W fun e w' => e = .returned (.bool b3) ∧ W = w'))
    (HT : Hid (∀ (W : World) (v1 : Value), Rd W v1 (val xs) → Calls Tryd.prog 20 #[v1] W (RetR W (val xs))))
    (HRT : Hid (∀ (W : World), Below w.heap.size w W → Calls Tryd.prog 21 #[.slice A1 xs.length c1] W (RetR W (val xs))))
    (HX : Hid (∀ (W : World) (B : Option Addr) (c : Nat), Row W B (u32s xs) → Below w.heap.size w W → Calls Tryd.prog 10 #[.slice B xs.length c] W fun e w' => e = .returned (.string S) ∧ Below W.heap.size W w'))
    (HRX : Hid (∀ (W : World), Below w.heap.size w W → Calls Tryd.prog 22 #[.slice A1 xs.length c1] W fun e w' => e = .returned (.string S) ∧ Below W.heap.size W w'))
    (HTO : Hid (∀ (W : World) (B : Option Addr) (c : Nat), Row W B (u32s xs) → Calls Tryd.prog 20 #[.slice B xs.length c] W (RetNat W (val xs)))) :
    Calls Tryd.prog 5 #[.slice A1 xs.length c1, .slice A2 ys.length c2] w fun e w' => e = .returned (.bool true) ∧ Below w.heap.size w w' := by
  go_enter Tryd.func5, Tryd.ntmps5
  go_wp2_with fail
  refine HA.out.mono ?_
  rintro e w0 ⟨rfl, b0⟩
  go_wp2_with fail
  refine (HF.out _).mono ?_
  rintro e w0' ⟨hf, rfl⟩
  rcases hf with ⟨_, rfl⟩ | ⟨hno, _⟩
  rotate_left 1
  exact absurd HSH.out hno
  obtain ⟨wx, hwx⟩ : ∃ wx, wx = w0.alloc (.cells #[.slice A1 xs.length c1, .slice A2 ys.length c2] 24) := ⟨_, rfl⟩
  rw [← hwx]
  have b00 : Below w.heap.size w wx := by rw [hwx]; exact bal b0 _
  clear hwx b0
  go_wp2_with fail
  with_reducible refine (lent_any (HRA.out.below b00) L1.out).mono ?_
  rintro e w1 ⟨xg, xcap, rfl, xhg, xown, h1⟩
  have b1 := bstep b00 h1
  clear h1 b00
  have xcp := own_room xown
  have x_0 := xown.row32
  clear xown
  go_wp2_with fail
  with_reducible refine (lent_any (HRB.out.below b1) L2.out).mono ?_
  rintro e w2 ⟨yg, ycap, rfl, yhg, yown, h2⟩
  have b2 := bstep b1 h2
  have x_2 := x_0.below h2
  clear h2 x_0 b1
  have ycp := own_room yown
  have y_0 := yown.row32
  clear yown
  go_wp2_with fail
  with_reducible refine (HS.out _ _ _ (rd_lent x_2 D1.out L1.out) (rd_lent y_0 D2.out L2.out)).mono ?_
  rintro e w3 ⟨dA, dk, dc, rfl, d_0, h3⟩
  have b3 := bstep b2 h3
  have x_3 := x_2.below h3
  have y_3 := y_0.below h3
  clear h3 y_0 x_2 b2
  go_wp2_with fail
  with_reducible refine (HRS.out _ b3).mono ?_
  rintro e w4 ⟨eA, ek, ec, rfl, e_0, h4⟩
  have b4 := bstep b3 h4
  have x_4 := x_3.below h4
  have y_4 := y_3.below h4
  have d_4 := d_0.below h4
  clear h4 d_0 y_3 x_3 b3
  go_wp2_with fail
  with_reducible refine (HD.out _ _ _ (rd_lent x_4 D1.out L1.out) (rd_lent y_4 D2.out L2.out)).mono ?_
  rintro e w5 ⟨qA, qk, qc, rA, rk, rc, rfl, q_0, r_0, h5⟩
  have b5 := bstep b4 h5
  have x_5 := x_4.below h5
  have y_5 := y_4.below h5
  have d_5 := d_4.below h5
  have e_5 := e_0.below h5
  clear h5 e_0 d_4 y_4 x_4 b4
  go_wp2_with fail
  with_reducible refine (HRD.out _ b5).mono ?_
  rintro e w6 ⟨sA, sk, sc, tA, tk, tc, rfl, s_0, t_0, h6⟩
  have b6 := bstep b5 h6
  have x_6 := x_5.below h6
  have y_6 := y_5.below h6
  have d_6 := d_5.below h6
  have e_6 := e_5.below h6
  have q_6 := q_0.below h6
  have r_6 := r_0.below h6
  clear h6 r_0 q_0 e_5 d_5 y_5 x_5 b5
  go_wp2_with fail
  with_reducible refine (val_same d_6 e_6 rfl).mono ?_
  rintro e w7 ⟨rfl, h7⟩
  have b7 := bstep b6 h7.below
  have x_7 := x_6.below h7.below
  have y_7 := y_6.below h7.below
  have q_7 := q_6.below h7.below
  have r_7 := r_6.below h7.below
  have s_7 := s_0.below h7.below
  have t_7 := t_0.below h7.below
  clear h7 t_0 s_0 r_6 q_6 e_6 d_6 y_6 x_6 b6
  go_wp2_with fail
  with_reducible refine (val_same q_7 s_7 rfl).mono ?_
  rintro e w8 ⟨rfl, h8⟩
  have b8 := bstep b7 h8.below
  have x_8 := x_7.below h8.below
  have y_8 := y_7.below h8.below
  have r_8 := r_7.below h8.below
  have t_8 := t_7.below h8.below
  clear h8 t_7 s_7 r_7 q_7 y_7 x_7 b7
  go_wp2_with fail
  with_reducible refine (val_same r_8 t_8 rfl).mono ?_
  rintro e w9 ⟨rfl, h9⟩
  have b9 := bstep b8 h9.below
  have x_9 := x_8.below h9.below
  have y_9 := y_8.below h9.below
  clear h9 t_8 r_8 y_8 x_8 b8
  go_wp2_with fail
  with_reducible refine (HC.out _ _ _ (rd_lent x_9 D1.out L1.out) (rd_lent y_9 D2.out L2.out)).mono ?_
  rintro e w10 ⟨rfl, h10⟩
  have b10 := bstep b9 h10
  have x_10 := x_9.below h10
  have y_10 := y_9.below h10
  clear h10 y_9 x_9 b9
  go_wp2_with fail
  with_reducible refine (HRC.out _ b10).mono ?_
  rintro e w11 ⟨rfl, h11⟩
  have b11 := bstep b10 h11
  have x_11 := x_10.below h11
  have y_11 := y_10.below h11
  clear h11 y_10 x_10 b10
  go_wp2_with fail
  with_reducible refine (HR1.out _ _ _ (row_head x_11)).mono ?_
  rintro e w' ⟨rfl, hw⟩
  subst hw
  go_wp2_with fail
  with_reducible refine (HR2.out _ b11).mono ?_
  rintro e w' ⟨rfl, hw⟩
  subst hw
  go_wp2_with fail
  with_reducible refine (HT.out _ _ (rd_lent x_11 D1.out L1.out)).mono ?_
  rintro e w12 ⟨uA, uk, uc, rfl, u_0, h12⟩
  have b12 := bstep b11 h12
  have x_12 := x_11.below h12
  have y_12 := y_11.below h12
  clear h12 y_11 x_11 b11
  go_wp2_with fail
  with_reducible refine (HRT.out _ b12).mono ?_
  rintro e w13 ⟨vA, vk, vc, rfl, v_0, h13⟩
  have b13 := bstep b12 h13
  have x_13 := x_12.below h13
  have y_13 := y_12.below h13
  have u_13 := u_0.below h13
  clear h13 u_0 y_12 x_12 b12
  go_wp2_with fail
  with_reducible refine (val_same u_13 v_0 rfl).mono ?_
  rintro e w14 ⟨rfl, h14⟩
  have b14 := bstep b13 h14.below
  have x_14 := x_13.below h14.below
  have y_14 := y_13.below h14.below
  clear h14 v_0 u_13 y_13 x_13 b13
  go_wp2_with fail
  with_reducible refine (HX.out _ _ _ (row_head x_14) b14).mono ?_
  rintro e w15 ⟨rfl, h15⟩
  have b15 := bstep b14 h15
  have x_15 := x_14.below h15
  have y_15 := y_14.below h15
  clear h15 y_14 x_14 b14
  go_wp2_with fail
  with_reducible refine (HRX.out _ b15).mono ?_
  rintro e w16 ⟨rfl, h16⟩
  have b16 := bstep b15 h16
  have x_16 := x_15.below h16
  have y_16 := y_15.below h16
  clear h16 y_15 x_15 b15
  go_wp2_with fail
  with_reducible refine (HTO.out _ _ _ (row_head x_16)).mono ?_
  rintro e w17 ⟨v, rfl, ⟨os, o1, o2, o3⟩, ho⟩
  have hol := Nat.le_trans (right_length_le o1 (by rw [o2]; exact HB.out)) HN.out
  obtain ⟨oA, oc, rfl, _⟩ := o3.slice32
  have hov := over_any o3 hol
  have HOV := Lib.hid hov
  clear hov o1 o2 o3 hol
  go_wp2_with fail
  with_reducible refine HOV.out.mono ?_
  rintro e w17x ⟨⟨v, rfl⟩, hq⟩
  have hoq := ho.trans hq
  have b17 := bstep b16 hoq
  have x_17 := x_16.below hoq
  have y_17 := y_16.below hoq
  clear HOV ho hq hoq y_16 x_16 b16
  go_wp2_with fail
  with_reducible refine (kept_any x_17 xcp (HRA.out.below b17) L1.out).mono ?_
  rintro e w18 ⟨rfl, h18⟩
  have b18 := bstep b17 h18.below
  have x_18 := x_17.below h18.below
  have y_18 := y_17.below h18.below
  clear h18 y_17 x_17 b17
  go_wp2_with fail
  with_reducible refine (kept_any y_18 ycp (HRB.out.below b18) L2.out).mono ?_
  rintro e w19 ⟨rfl, h19⟩
  have b19 := bstep b18 h19.below
  have x_19 := x_18.below h19.below
  have y_19 := y_18.below h19.below
  clear h19 y_18 x_18 b18
  go_wp2
  go_returns
  exact ⟨rfl, b19⟩
end Go.Proofs.YtffcacpffamjfaaDoor

namespace Go.Proofs.YtffcacpffamjfaaDoor
open Go.RowKit

set_option maxRecDepth 100000 in
set_option maxHeartbeats 4000000 in
theorem lawTells {A1 A2 : Option Addr} {c1 c2 : Nat} {xs ys : List Nat} (w : World) (htab : Tab w) (hw : 3 ≤ w.heap.size) (r1 : Row w A1 (u32s xs)) (r2 : Row w A2 (u32s ys)) (d1 : small 4294967296 xs) (d2 : small 4294967296 ys)
    (l1 : xs.length < 9223372036854775808) (l2 : ys.length < 9223372036854775808) :
    Calls Tryd.prog 5 #[.slice A1 xs.length c1, .slice A2 ys.length c2] w fun e w' => e = .returned (.bool true) ∧ Below w.heap.size w w' := by
  have haw := awake_any dm_ex w htab hw
  have HA := Lib.hid haw
  have hfew := fun (W : World) => few_two (w := W) (A1 := A1) (A2 := A2) (c1 := c1) (c2 := c2) l1 l2
  have HF := Lib.hid hfew
  clear haw hfew
  by_cases hsh : short [(A1, c1, xs), (A2, c2, ys)]
  · have m1 : xs.length ≤ 40 := hsh.2 (A1, c1, xs) (by simp)
    have m2 : ys.length ≤ 40 := hsh.2 (A2, c2, ys) (by simp)
    obtain ⟨M, hM1, hM2⟩ : ∃ M, M ≤ 41 ∧ 41 ≤ M := ⟨41, Nat.le_refl _, Nat.le_refl _⟩
    have bd : ∀ {ds : List Nat}, small 4294967296 ds → ds.length ≤ 40 → val ds < 1000000000 ^ M := fun hd hl => Nat.lt_of_lt_of_le (val_lt32 hd) (Nat.pow_le_pow_right (by decide) (by omega))
    have k1 := bd d1 m1
    have k2 := bd d2 m2
    obtain ⟨b3, hr3, hr4⟩ := all_right xs
    refine tells_in w (restOf (val xs) (val ys)) M (decide (val ys ≤ val xs)) (decide (0 < val ys)) b3 (ordI (val xs : Int) (val ys : Int)) (dtext (val xs)) HA HF hsh r1 r2 d1 d2 ?_ ?_ k1 ?_ ?_ ?_ ?_ ?_ ?_ ?_ ?_ ?_ ?_ ?_ ?_ ?_ ?_
    · show _ ≤ _; omega
    · show _ ≤ _; omega
    · show _ ≤ _; omega
    · exact fun W v1 v2 h1 h2 => all_sub h1 h2 k1 (by omega)
    · exact fun W hW => all_refSub (r1.below hW) (r2.below hW) d1 d2 (by omega) (by omega) k1 (by omega)
    · exact fun W v1 v2 h1 h2 => all_div h1 h2 k1 (by omega)
    · exact fun W hW => all_refDiv (r1.below hW) (r2.below hW) d1 d2 (by omega) (by omega) k1 k2 (by omega)
    · exact fun W v1 v2 h1 h2 => val_cmp h1 h2
    · exact fun W hW => refCmp (r1.below hW) (r2.below hW) d1 d2 (by omega) (by omega) k1 (by omega)
    · exact fun W B c h => hr3 W B c h d1 (by omega)
    · exact fun W hW => hr4 W A1 c1 (r1.below hW) d1 (by omega)
    · exact fun W v1 h1 => val_trim h1 k1 (by omega)
    · exact fun W hW => refTrim (r1.below hW) d1 (by omega) k1 (by omega)
    · exact fun W B c h hW => text_any h d1 (by omega) (htab.below hW hw) (Nat.le_trans hw hW.size)
    · exact fun W hW => refText (r1.below hW) d1 (by omega) k1 (by omega)
    · exact fun W B c h => trimRow_any h d1 (by omega)
  · have HSH := Lib.hid hsh
    clear hsh r1 r2 d1 d2 htab
    go_enter Tryd.func5, Tryd.ntmps5
    go_wp2_with fail
    refine HA.out.mono ?_
    rintro e w1 ⟨rfl, b1⟩
    go_wp2_with fail
    refine (HF.out _).mono ?_
    rintro e w1' ⟨hf, rfl⟩
    rcases hf with ⟨hyes, _⟩ | ⟨_, rfl⟩
    exact absurd hyes HSH.out
    have b2 := b1.alloc b1.size
    clear b1
    go_wp2
    go_returns
    exact ⟨rfl, b2 _⟩
end Go.Proofs.YtffcacpffamjfaaDoor

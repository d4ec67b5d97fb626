/- Contract of math/bits.Div64: the quotient of two words by one, where it fits one word; the divisor below 10^18. -/
import Derived.Test.YtffcacpffamjfaaDoorPlain
import Derived.Test.YtffcacpffamjfaaDoorNat1
import Derived.Test.YtffcacpffamjfaaDoorShelf
import Derived.Laws.Bits64b
import Derived.Lib.BitFns
import Derived.Deep.DeepCutAuto
import Derived.Deep.QuietTactic
import Derived.BigQuiet
import Derived.Deep.CutBlock
namespace Go.Proofs.YtffcacpffamjfaaDoor
open Go.RowKit

theorem bitLen_pow : ∀ (n y : Nat), y ≤ n → 0 < y → y < 2 ^ 64 → 0 < Lib.bitLen y ∧ 2 ^ (Lib.bitLen y - 1) ≤ y ∧ y < 2 ^ Lib.bitLen y
  | 0, y, h, h0, _ => by omega
  | n + 1, y, h, h0, h64 => by
    have e := Lib.bitLen_half y (by omega) h64
    rcases Nat.lt_or_ge y 2 with h1 | h1
    · have : y = 1 := by omega
      subst this
      have e1 : Lib.bitLen 1 = 1 := by decide
      rw [e1]; decide
    · obtain ⟨i1, i2, i3⟩ := bitLen_pow n (y / 2) (by omega) (by omega) (by omega)
      obtain ⟨m, hm⟩ : ∃ m, Lib.bitLen (y / 2) = m + 1 := ⟨Lib.bitLen (y / 2) - 1, by omega⟩
      rw [hm] at i2 i3 e
      rw [e, show 1 + (m + 1) = m + 2 from by omega]
      simp only [Nat.add_sub_cancel, show m + 2 - 1 = m + 1 from by omega, Nat.pow_succ] at i2 i3 ⊢
      omega

/-- The divisor, shifted till its highest bit is set. -/
theorem norm_y {y s : Nat} (h0 : 0 < y) (hy : y < 1000000000000000000) (hs : s = 64 - Lib.bitLen y) : 4 ≤ s ∧ s < 64 ∧ 9223372036854775808 ≤ y * 2 ^ s ∧ y * 2 ^ s < 18446744073709551616 := by
  obtain ⟨i1, i2, i3⟩ := bitLen_pow y y (Nat.le_refl _) h0 (by omega)
  have hl := Lib.bitLen_le y 60 (by omega) (by omega)
  obtain ⟨L, hL⟩ : ∃ L, L = Lib.bitLen y := ⟨_, rfl⟩
  rw [← hL] at i1 i2 i3 hl hs
  refine ⟨by omega, by omega, ?_, ?_⟩
  · have h1 : 2 ^ (L - 1) * 2 ^ s ≤ y * 2 ^ s := Nat.mul_le_mul_right _ i2
    rw [← Nat.pow_add, show L - 1 + s = 63 from by omega] at h1
    exact h1
  · have h1 : y * 2 ^ s < 2 ^ L * 2 ^ s := Nat.mul_lt_mul_of_pos_right i3 (Nat.pow_pos (by decide))
    rw [← Nat.pow_add, show L + s = 64 from by omega] at h1
    exact h1

/-- Both words, shifted alike. -/
theorem norm_x {hi lo y s : Nat} (hhi : hi < y) (hlo : lo < 18446744073709551616) (hs : s < 64) :
    lo / 2 ^ (64 - s) < 2 ^ s ∧ hi * 2 ^ s + lo / 2 ^ (64 - s) < y * 2 ^ s ∧ (hi * 2 ^ s + lo / 2 ^ (64 - s)) * 18446744073709551616 + lo * 2 ^ s % 18446744073709551616 = (hi * 18446744073709551616 + lo) * 2 ^ s := by
  obtain ⟨a, ha⟩ : ∃ a, a = 2 ^ s := ⟨_, rfl⟩
  obtain ⟨b, hb⟩ : ∃ b, b = 2 ^ (64 - s) := ⟨_, rfl⟩
  have hab : b * a = 18446744073709551616 := by rw [ha, hb, ← Nat.pow_add, show 64 - s + s = 64 from by omega]
  have ha0 : 0 < a := by rw [ha]; exact Nat.pow_pos (by decide)
  have hb0 : 0 < b := by rw [hb]; exact Nat.pow_pos (by decide)
  rw [← ha, ← hb]
  have e : lo * a / 18446744073709551616 = lo / b := by rw [← hab]; exact Nat.mul_div_mul_right lo b ha0
  have e2 := Nat.div_add_mod (lo * a) 18446744073709551616
  rw [e] at e2
  have h3 : (hi * a + lo / b) * 18446744073709551616 + lo * a % 18446744073709551616 = (hi * 18446744073709551616 + lo) * a := by
    rw [Nat.add_mul, Nat.add_mul, Nat.mul_right_comm hi a]; omega
  refine ⟨?_, ?_, h3⟩
  · rw [Nat.div_lt_iff_lt_mul hb0, Nat.mul_comm, hab]; exact hlo
  · have h4 : (hi + 1) * 18446744073709551616 * a ≤ y * 18446744073709551616 * a := Nat.mul_le_mul_right _ (Nat.mul_le_mul_right _ hhi)
    have h5 : (hi * 18446744073709551616 + lo) * a < (hi + 1) * 18446744073709551616 * a := Nat.mul_lt_mul_of_pos_right (by omega) ha0
    have h6 : y * 18446744073709551616 * a = y * a * 18446744073709551616 := Nat.mul_right_comm _ _ _
    omega

theorem or_shift {hi s c : Nat} (hs : s < 64) (hc : c < 2 ^ s) (hh : hi * 2 ^ s + c < 18446744073709551616) : bits .or .u64 ((hi * 2 ^ s : Nat) : Int) (c : Int) = ((hi * 2 ^ s + c : Nat) : Int) := by
  have h1 : 2 ^ s < 2 ^ 64 := Nat.pow_lt_pow_right (by decide) hs
  rw [bits_or_u64_nat _ _ (by omega) (by omega), Nat.mul_comm hi, ← Nat.two_pow_add_eq_or_of_lt hc]
theorem mask32 (a : Nat) (ha : a < 18446744073709551616) : bits .and .u64 (a : Int) 4294967295 = ((a % 4294967296 : Nat) : Int) := by
  have h := bits_and_u64_nat a 4294967295 ha (by omega)
  have e : a &&& 4294967295 = a % 4294967296 := Nat.and_two_pow_sub_one_eq_mod a 32
  rw [e] at h
  exact h
theorem wrap_small {g : Nat} (h : g < 18446744073709551616) : IntKind.u64.wrap (g : Int) = (g : Int) := by rw [IntKind.wrap_u64]; omega
theorem split32 {Y a b : Nat} (ha : a = Y / 4294967296) (hb : b = Y % 4294967296) : a * 4294967296 + b = Y := by omega
/-- What is left, reckoned in words that wrap. -/
theorem wrap_left {U u q Y : Nat} (hY : 0 < Y) (hY2 : Y < 18446744073709551616) (hq : q = (U * 4294967296 + u) / Y) :
    IntKind.u64.wrap (IntKind.u64.wrap (IntKind.u64.wrap ((U : Int) * 4294967296) + (u : Int)) - IntKind.u64.wrap ((q : Int) * (Y : Int))) = (((U * 4294967296 + u) % Y : Nat) : Int) := by
  have h := Nat.div_add_mod (U * 4294967296 + u) Y
  rw [← hq] at h
  have hl := Nat.mod_lt (U * 4294967296 + u) hY
  obtain ⟨p, hp⟩ : ∃ p, p = Y * q := ⟨_, rfl⟩
  have e : (q : Int) * (Y : Int) = (p : Int) := by rw [hp, Nat.mul_comm]; simp
  rw [e, IntKind.wrap_u64, IntKind.wrap_u64, IntKind.wrap_u64, IntKind.wrap_u64]
  rw [← hp] at h
  omega

/-- What Div64 tells. -/
def DivRet (hi lo y : Nat) (e : Ending) : Prop := e = .returned (.tuple #[.int .u64 (((hi * 18446744073709551616 + lo) / y : Nat) : Int), .int .u64 (((hi * 18446744073709551616 + lo) % y : Nat) : Int)])
theorem div_ret {hi lo y : Nat} {a r : Int} (h : a = (((hi * 18446744073709551616 + lo) / y : Nat) : Int)) (h2 : r = (((hi * 18446744073709551616 + lo) % y : Nat) : Int)) : DivRet hi lo y (.returned (.tuple #[.int .u64 a, .int .u64 r])) := by
  unfold DivRet; rw [h, h2]
/-- What is left behind both digits, shifted back. -/
theorem rest_back {N U u1 u0 y Y s R : Nat} (hY : Y = y * 2 ^ s) (hx : U * (R * R) + (u1 * R + u0) = N * 2 ^ s) : ((U * R + u1) % Y * R + u0) % Y / 2 ^ s = N % y := by
  have e : U * (R * R) + (u1 * R + u0) = Y * ((U * R + u1) / Y * R) + ((U * R + u1) % Y * R + u0) := by
    have h := Nat.div_add_mod (U * R + u1) Y
    have h2 : (Y * ((U * R + u1) / Y) + (U * R + u1) % Y) * R = (U * R + u1) * R := by rw [h]
    rw [Nat.add_mul, Nat.add_mul, Nat.mul_assoc, Nat.mul_assoc U R R] at h2
    omega
  have e2 : ((U * R + u1) % Y * R + u0) % Y = (N * 2 ^ s) % Y := by rw [← hx, e, Nat.mul_add_mod]
  rw [e2, hY, Nat.mul_mod_mul_right, Nat.mul_div_cancel _ (Nat.pow_pos (by decide))]

set_option maxRecDepth 100000 in
set_option maxHeartbeats 4000000 in
theorem div64_s {hi lo y : Nat} (h0 : 0 < y) (hy : y < 1000000000000000000) (hhi : hi < y) (hlo : lo < 18446744073709551616) (w : World)
   (HLZ : Hid (∀ w, Calls Tryd.prog 80 #[.int .u64 y] w fun e w' => e = .returned (.int .i64 ((64 - Lib.bitLen y : Nat) : Int)) ∧ w = w')) :
    Calls Tryd.prog 71 #[.int .u64 hi, .int .u64 lo, .int .u64 y] w fun e w' => DivRet hi lo y e ∧ Drawn w w' := by
  have hy0 : ((y : Int) == 0) = false := by rw [beq_eq_false_iff_ne]; omega
  have hyh : ¬ (y : Int) ≤ (hi : Int) := by omega
  by_cases hz : hi = 0
  · subst hz
    obtain ⟨q, hq⟩ : ∃ q, q = lo / y := ⟨_, rfl⟩
    have e1 : (lo : Int) / (y : Int) = (q : Int) := by rw [hq]; simp
    have hql := wrap_small (g := q) (by rw [hq]; exact Nat.lt_of_le_of_lt (Nat.div_le_self _ _) hlo)
    have HQL := Lib.hid hql
    have HQ := Lib.hid hq
    clear hq hql
    go_enter Tryd.func71, Tryd.ntmps71
    go_wp2
    go_quiet (fail)
    go_wp2
    go_ret2
    exact ⟨div_ret (by rw [HQL.out, HQ.out]; simp) (by rw [Nat.zero_mul, Nat.zero_add]; simp), ⟨_, rfl⟩⟩
  · have hz0 : ((hi : Int) == 0) = false := by rw [beq_eq_false_iff_ne]; omega
    obtain ⟨s, hs⟩ : ∃ s : Nat, s = 64 - Lib.bitLen y := ⟨_, rfl⟩
    obtain ⟨Y, hY⟩ : ∃ Y : Nat, Y = y * 2 ^ s := ⟨_, rfl⟩
    obtain ⟨yn1, hyn1⟩ : ∃ n : Nat, n = Y / 4294967296 := ⟨_, rfl⟩
    obtain ⟨yn0, hyn0⟩ : ∃ n : Nat, n = Y % 4294967296 := ⟨_, rfl⟩
    obtain ⟨hs1, hs2, b1, b2⟩ := norm_y h0 hy hs
    rw [← hY] at b1 b2
    obtain ⟨x1, x2, x3⟩ := norm_x (s := s) hhi hlo hs2
    rw [← hY] at x2
    obtain ⟨U, hU⟩ : ∃ U : Nat, U = hi * 2 ^ s + lo / 2 ^ (64 - s) := ⟨_, rfl⟩
    obtain ⟨V, hV⟩ : ∃ V : Nat, V = lo * 2 ^ s % 18446744073709551616 := ⟨_, rfl⟩
    rw [← hU] at x2
    rw [← hU, ← hV] at x3
    have hVl : V < 18446744073709551616 := by rw [hV]; exact Nat.mod_lt _ (by decide)
    obtain ⟨u1, hu1⟩ : ∃ n : Nat, n = V / 4294967296 := ⟨_, rfl⟩
    obtain ⟨u0, hu0⟩ : ∃ n : Nat, n = V % 4294967296 := ⟨_, rfl⟩
    have e1 : IntKind.u64.wrap ((y : Int) * 2 ^ s) = (Y : Int) := by
      rw [show (y : Int) * 2 ^ s = ((y * 2 ^ s : Nat) : Int) from by simp, ← hY, IntKind.wrap_u64]; omega
    have e2 : (Y : Int) / 4294967296 = (yn1 : Int) := by omega
    have e3 : bits .and .u64 (Y : Int) 4294967295 = (yn0 : Int) := by rw [mask32 _ b2, ← hyn0]
    have e4 : bits .or .u64 (IntKind.u64.wrap ((hi : Int) * 2 ^ s)) ((lo : Int) / 2 ^ (64 - s)) = (U : Int) := by
      have k1 : hi * 2 ^ s + lo / 2 ^ (64 - s) < 18446744073709551616 := by rw [← hU]; omega
      have k2 : IntKind.u64.wrap ((hi : Int) * 2 ^ s) = ((hi * 2 ^ s : Nat) : Int) := by
        rw [show (hi : Int) * 2 ^ s = ((hi * 2 ^ s : Nat) : Int) from by simp]
        exact wrap_small (Nat.lt_of_le_of_lt (Nat.le_add_right _ _) k1)
      have k3 : (lo : Int) / 2 ^ (64 - s) = ((lo / 2 ^ (64 - s) : Nat) : Int) := by simp
      rw [k2, k3, or_shift hs2 x1 k1, hU]
    have e5 : IntKind.u64.wrap ((lo : Int) * 2 ^ s) = (V : Int) := by
      rw [show (lo : Int) * 2 ^ s = ((lo * 2 ^ s : Nat) : Int) from by simp, IntKind.wrap_u64, hV]; omega
    have e6 : (V : Int) / 4294967296 = (u1 : Int) := by omega
    have e7 : bits .and .u64 (V : Int) 4294967295 = (u0 : Int) := by rw [mask32 _ hVl, ← hu0]
    have b3 : 2147483648 ≤ yn1 := by omega
    have b4 : yn1 < 4294967296 := by omega
    have b5 : yn0 < 4294967296 := by omega
    have hYs : yn1 * 4294967296 + yn0 = Y := split32 hyn1 hyn0
    have b6 : u1 < 4294967296 := by omega
    have b7 : u0 < 4294967296 := by omega
    have hVs : V = u1 * 4294967296 + u0 := (split32 hu1 hu0).symm
    have e8 : ((yn1 : Int) == 0) = false := by rw [beq_eq_false_iff_ne]; omega
    have hfin : (hi * 18446744073709551616 + lo) / y = (U * 4294967296 + u1) / Y * 4294967296 + ((U * 4294967296 + u1) % Y * 4294967296 + u0) / Y := by
      rw [← two_digits (R := 4294967296) (by omega : 0 < Y), ← shifted _ _ s, ← x3, ← hY, hVs]
    obtain ⟨q1, hq1⟩ : ∃ n : Nat, n = (U * 4294967296 + u1) / Y := ⟨_, rfl⟩
    obtain ⟨U2, hU2⟩ : ∃ n : Nat, n = (U * 4294967296 + u1) % Y := ⟨_, rfl⟩
    obtain ⟨q0, hq0⟩ : ∃ n : Nat, n = (U2 * 4294967296 + u0) / Y := ⟨_, rfl⟩
    have hU2Y : U2 < Y := by rw [hU2]; exact Nat.mod_lt _ (by omega)
    have q1l : q1 < 4294967296 := by rw [hq1]; exact digit_lt x2 b6
    have q0l : q0 < 4294967296 := by rw [hq0]; exact digit_lt hU2Y b7
    rw [← hq1, ← hU2, ← hq0] at hfin
    obtain ⟨W, hW⟩ : ∃ n : Nat, n = (U2 * 4294967296 + u0) % Y := ⟨_, rfl⟩
    obtain ⟨rr, hrr⟩ : ∃ n : Nat, n = W / 2 ^ s := ⟨_, rfl⟩
    have hrst : rr = (hi * 18446744073709551616 + lo) % y := by
      rw [hrr, hW, hU2]
      exact rest_back (R := 4294967296) hY (by rw [← x3, hVs])
    have hw0 := wrap_left (U := U2) (u := u0) (q := q0) (Y := Y) (by omega) b2 hq0
    rw [← hW] at hw0
    have bW : W < 18446744073709551616 := by rw [hW]; exact Nat.lt_trans (Nat.mod_lt _ (by omega)) b2
    have ew : (W : Int) / 2 ^ s = (rr : Int) := by rw [hrr]; simp
    have HRST := Lib.hid hrst
    have hw1 := wrap_left (U := U) (u := u1) (q := q1) (Y := Y) (by omega) b2 hq1
    rw [← hU2] at hw1
    obtain ⟨a1, ha1⟩ : ∃ n : Nat, n = U / yn1 := ⟨_, rfl⟩
    obtain ⟨r1, hr1⟩ : ∃ n : Nat, n = U % yn1 := ⟨_, rfl⟩
    obtain ⟨a0, ha0⟩ : ∃ n : Nat, n = U2 / yn1 := ⟨_, rfl⟩
    obtain ⟨r0, hr0⟩ : ∃ n : Nat, n = U2 % yn1 := ⟨_, rfl⟩
    have i1 := divInv_start (R := 4294967296) (yn1 := yn1) (yn0 := yn0) (U := U) (u := u1) (by omega) b4 b6
    have i0 := divInv_start (R := 4294967296) (yn1 := yn1) (yn0 := yn0) (U := U2) (u := u0) (by omega) b4 b7
    rw [← ha1, ← hr1] at i1
    rw [← ha0, ← hr0] at i0
    have d1 : (U : Int) / (yn1 : Int) = (a1 : Int) := by rw [ha1]; simp
    have d0 : (U2 : Int) / (yn1 : Int) = (a0 : Int) := by rw [ha0]; simp
    have l1 : a1 ≤ 8589934592 := by
      rw [ha1]
      have := Nat.div_le_div_left (a := U) b3 (by decide)
      omega
    have l0 : a0 ≤ 8589934592 := by
      rw [ha0]
      have := Nat.div_le_div_left (a := U2) b3 (by decide)
      omega
    have m1 : IntKind.u64.wrap ((U : Int) - IntKind.u64.wrap ((a1 : Int) * (yn1 : Int))) = (r1 : Int) := by
      have h := i1.1
      obtain ⟨p, hp⟩ : ∃ p, p = a1 * yn1 := ⟨_, rfl⟩
      rw [← hp] at h
      rw [show (a1 : Int) * (yn1 : Int) = (p : Int) from by rw [hp]; simp, IntKind.wrap_u64, IntKind.wrap_u64]; omega
    have m0 : IntKind.u64.wrap ((U2 : Int) - IntKind.u64.wrap ((a0 : Int) * (yn1 : Int))) = (r0 : Int) := by
      have h := i0.1
      obtain ⟨p, hp⟩ : ∃ p, p = a0 * yn1 := ⟨_, rfl⟩
      rw [← hp] at h
      rw [show (a0 : Int) * (yn1 : Int) = (p : Int) from by rw [hp]; simp, IntKind.wrap_u64, IntKind.wrap_u64]; omega
    have bU : U < 18446744073709551616 := by omega
    have bU2 : U2 < 18446744073709551616 := by omega
    have HX := Lib.hid x2
    have HU2Y := Lib.hid hU2Y
    have HYs := Lib.hid hYs
    have HFIN := Lib.hid hfin
    have HQ1 := Lib.hid hq1
    have HQ0 := Lib.hid hq0
    have I1 := Lib.hid i1
    have I0 := Lib.hid i0
    rw [← hs] at HLZ
    clear x1 x2 x3 b1 b2 hY hyn1 hyn0 hs hU hV hu1 hu0 hVs hYs hfin hW hrr hrst hq1 hq0 hU2 hU2Y ha1 hr1 ha0 hr0 i1 i0
    go_enter Tryd.func71, Tryd.ntmps71
    go_upto_block 0 with (go_at_call 80; refine (HLZ.out _).mono ?_; rintro e w' ⟨rfl, rfl⟩)
    go_cut [15] (fun v wx => v = .int .u64 (q1 : Int) ∧ w = wx)
    case first =>
      go_wp2_with fail
      go_loop [15, 16] (fun v x => ∃ q r : Nat, v = .int .u64 (q : Int) ∧ x = .int .u64 (r : Int) ∧ q ≤ 8589934592 ∧ r < 4294967296 ∧ Hid (DivInv 4294967296 yn1 yn0 U u1 q r)) (fun v _ => (intOf v).toNat)
      case atStart => exact ⟨a1, r1, rfl, rfl, l1, I1.out.2.1, I1.out⟩
      case round =>
        obtain ⟨q, r, rfl, rfl, hq, hr, HI⟩ := hrel
        obtain ⟨z, hz⟩ : ∃ z : Nat, z = q * yn0 := ⟨_, rfl⟩
        have ez : (q : Int) * (yn0 : Int) = (z : Int) := by rw [hz]; simp
        have HZ := Lib.hid hz
        have hYp : 0 < yn1 * 4294967296 + yn0 := by omega
        have HUY : Hid (U < yn1 * 4294967296 + yn0) := by show _ < _; rw [HYs.out]; exact HX.out
        have hdown := fun (ht : 4294967296 ≤ q ∨ 4294967296 * r + u1 < z) (hb : r + yn1 < 4294967296) => divInv_down HI.out hYp HUY.out b6 (by rw [← HZ.out]; exact ht) hb
        have hlast := fun (ht : 4294967296 ≤ q ∨ 4294967296 * r + u1 < z) (hb : 4294967296 ≤ r + yn1) => divInv_last HI.out hYp HUY.out b5 b6 (by rw [← HZ.out]; exact ht) hb
        rw [HYs.out, ← HQ1.out] at hlast
        have HD := Lib.hid hdown
        have HL := Lib.hid hlast
        have hex := fun (ht : ¬ 4294967296 * r + u1 < z) => divInv_exit HI.out hYp (by rw [← HZ.out]; exact ht)
        rw [HYs.out, ← HQ1.out] at hex
        have HE := Lib.hid hex
        clear hz hdown hlast hex
        by_cases hR : 4294967296 ≤ q
        · have hR' : (4294967296 : Int) ≤ (q : Int) := by omega
          by_cases hb : 4294967296 ≤ r + yn1
          · have h1 := (HL.out (.inl hR) hb).2
            have H1 := Lib.hid h1
            have hbd : decide ((4294967296 : Int) ≤ (r : Int) + (yn1 : Int)) = true := by rw [decide_eq_true_eq]; omega
            clear h1 hb
            go_wp2
            go_meet
            exact ⟨int_eq (by have := H1.out; omega), rfl⟩
          · have h1 := (HD.out (.inl hR) (by omega)).2
            have H1 := Lib.hid h1
            have hbd : decide ((4294967296 : Int) ≤ (r : Int) + (yn1 : Int)) = false := by rw [decide_eq_false_iff_not]; omega
            have HB := Lib.hid (Nat.lt_of_not_le hb)
            clear h1 hb
            go_wp2
            go_round
            case rel => exact ⟨q - 1, r + yn1, int_eq (by omega), by go_num, by omega, HB.out, H1.out⟩
            case measure => simp [intOf]; omega
        · have hzb : z < 18446744073709551616 := by
            rw [HZ.out]
            have := Nat.mul_le_mul (show q ≤ 4294967295 by omega) (show yn0 ≤ 4294967295 by omega)
            omega
          have hRd : decide ((4294967296 : Int) ≤ (q : Int)) = false := by rw [decide_eq_false_iff_not]; omega
          have hqi : q ≤ 4294967295 := by omega
          obtain ⟨x, hx⟩ : ∃ x : Nat, x = 4294967296 * r + u1 := ⟨_, rfl⟩
          have ex : (4294967296 : Int) * (r : Int) + (u1 : Int) = (x : Int) := by omega
          rw [← hx] at HD HL HE
          clear hx hR hq
          by_cases ht : x < z
          · have h0q := Nat.lt_of_not_le (fun h : q ≤ 0 => by have e0 : q = 0 := by omega
                                                              have := HZ.out; rw [e0, Nat.zero_mul] at this; omega)
            by_cases hb : 4294967296 ≤ r + yn1
            · have h1 := (HL.out (.inr ht) hb).2
              have H1 := Lib.hid h1
              have hbd : decide ((4294967296 : Int) ≤ (r : Int) + (yn1 : Int)) = true := by rw [decide_eq_true_eq]; omega
              clear h1 hb
              go_wp2
              go_meet
              exact ⟨int_eq (by have := H1.out; omega), rfl⟩
            · have h1 := (HD.out (.inr ht) (by omega)).2
              have H1 := Lib.hid h1
              have hbd : decide ((4294967296 : Int) ≤ (r : Int) + (yn1 : Int)) = false := by rw [decide_eq_false_iff_not]; omega
              have HB := Lib.hid (Nat.lt_of_not_le hb)
              clear h1 hb
              go_wp2
              go_round
              case rel => exact ⟨q - 1, r + yn1, int_eq (by omega), by go_num, by omega, HB.out, H1.out⟩
              case measure => simp [intOf]; omega
          · have h1 := HE.out ht
            have H1 := Lib.hid h1
            clear h1
            go_wp2
            go_meet
            exact ⟨int_eq (by have := H1.out; omega), rfl⟩
    case rest =>
      obtain ⟨rfl, hwc⟩ := hcut
      subst hwc
      go_upto_block 2 with fail
      go_cut [18] (fun v wx => v = .int .u64 (q0 : Int) ∧ w = wx)
      case first =>
        go_wp2_with fail
        go_loop [18, 16] (fun v x => ∃ q r : Nat, v = .int .u64 (q : Int) ∧ x = .int .u64 (r : Int) ∧ q ≤ 8589934592 ∧ r < 4294967296 ∧ Hid (DivInv 4294967296 yn1 yn0 U2 u0 q r)) (fun v _ => (intOf v).toNat)
        case atStart => exact ⟨a0, r0, rfl, rfl, l0, I0.out.2.1, I0.out⟩
        case round =>
          obtain ⟨q, r, rfl, rfl, hq, hr, HI⟩ := hrel
          obtain ⟨z, hz⟩ : ∃ z : Nat, z = q * yn0 := ⟨_, rfl⟩
          have ez : (q : Int) * (yn0 : Int) = (z : Int) := by rw [hz]; simp
          have HZ := Lib.hid hz
          have hYp : 0 < yn1 * 4294967296 + yn0 := by omega
          have HUY : Hid (U2 < yn1 * 4294967296 + yn0) := by show _ < _; rw [HYs.out]; exact HU2Y.out
          have hdown := fun (ht : 4294967296 ≤ q ∨ 4294967296 * r + u0 < z) (hb : r + yn1 < 4294967296) => divInv_down HI.out hYp HUY.out b7 (by rw [← HZ.out]; exact ht) hb
          have hlast := fun (ht : 4294967296 ≤ q ∨ 4294967296 * r + u0 < z) (hb : 4294967296 ≤ r + yn1) => divInv_last HI.out hYp HUY.out b5 b7 (by rw [← HZ.out]; exact ht) hb
          rw [HYs.out, ← HQ0.out] at hlast
          have HD := Lib.hid hdown
          have HL := Lib.hid hlast
          have hex := fun (ht : ¬ 4294967296 * r + u0 < z) => divInv_exit HI.out hYp (by rw [← HZ.out]; exact ht)
          rw [HYs.out, ← HQ0.out] at hex
          have HE := Lib.hid hex
          clear hz hdown hlast hex
          by_cases hR : 4294967296 ≤ q
          · have hR' : (4294967296 : Int) ≤ (q : Int) := by omega
            by_cases hb : 4294967296 ≤ r + yn1
            · have h1 := (HL.out (.inl hR) hb).2
              have H1 := Lib.hid h1
              have hbd : decide ((4294967296 : Int) ≤ (r : Int) + (yn1 : Int)) = true := by rw [decide_eq_true_eq]; omega
              clear h1 hb
              go_wp2
              go_meet
              exact ⟨int_eq (by have := H1.out; omega), rfl⟩
            · have h1 := (HD.out (.inl hR) (by omega)).2
              have H1 := Lib.hid h1
              have hbd : decide ((4294967296 : Int) ≤ (r : Int) + (yn1 : Int)) = false := by rw [decide_eq_false_iff_not]; omega
              have HB := Lib.hid (Nat.lt_of_not_le hb)
              clear h1 hb
              go_wp2
              go_round
              case rel => exact ⟨q - 1, r + yn1, int_eq (by omega), by go_num, by omega, HB.out, H1.out⟩
              case measure => simp [intOf]; omega
          · have hzb : z < 18446744073709551616 := by
              rw [HZ.out]
              have := Nat.mul_le_mul (show q ≤ 4294967295 by omega) (show yn0 ≤ 4294967295 by omega)
              omega
            have hRd : decide ((4294967296 : Int) ≤ (q : Int)) = false := by rw [decide_eq_false_iff_not]; omega
            have hqi : q ≤ 4294967295 := by omega
            obtain ⟨x, hx⟩ : ∃ x : Nat, x = 4294967296 * r + u0 := ⟨_, rfl⟩
            have ex : (4294967296 : Int) * (r : Int) + (u0 : Int) = (x : Int) := by omega
            rw [← hx] at HD HL HE
            clear hx hR hq
            by_cases ht : x < z
            · have h0q := Nat.lt_of_not_le (fun h : q ≤ 0 => by have e0 : q = 0 := by omega
                                                                have := HZ.out; rw [e0, Nat.zero_mul] at this; omega)
              by_cases hb : 4294967296 ≤ r + yn1
              · have h1 := (HL.out (.inr ht) hb).2
                have H1 := Lib.hid h1
                have hbd : decide ((4294967296 : Int) ≤ (r : Int) + (yn1 : Int)) = true := by rw [decide_eq_true_eq]; omega
                clear h1 hb
                go_wp2
                go_meet
                exact ⟨int_eq (by have := H1.out; omega), rfl⟩
              · have h1 := (HD.out (.inr ht) (by omega)).2
                have H1 := Lib.hid h1
                have hbd : decide ((4294967296 : Int) ≤ (r : Int) + (yn1 : Int)) = false := by rw [decide_eq_false_iff_not]; omega
                have HB := Lib.hid (Nat.lt_of_not_le hb)
                clear h1 hb
                go_wp2
                go_round
                case rel => exact ⟨q - 1, r + yn1, int_eq (by omega), by go_num, by omega, HB.out, H1.out⟩
                case measure => simp [intOf]; omega
            · have h1 := HE.out ht
              have H1 := Lib.hid h1
              clear h1
              go_wp2
              go_meet
              exact ⟨int_eq (by have := H1.out; omega), rfl⟩
      case rest =>
        obtain ⟨rfl, rfl⟩ := hcut
        go_wp2
        go_ret2
        exact ⟨div_ret (by rw [HFIN.out]; simp) (by rw [HRST.out]), Drawn.refl _⟩

/-- For any word at all. -/
theorem div64_any {hi lo y : Nat} (h0 : 0 < y) (hy : y < 1000000000000000000) (hhi : hi < y) (hlo : lo < 18446744073709551616) (w : World) :
    Calls Tryd.prog 71 #[.int .u64 hi, .int .u64 lo, .int .u64 y] w fun e w' => DivRet hi lo y e ∧ Drawn w w' :=
  div64_s h0 hy hhi hlo w (fun w => by
    have h := Tryd.bits_LeadingZeros64 (y : Int) w (by omega) (by omega)
    have hl := Lib.bitLen_le y 60 (by omega) (by omega)
    rw [Int.toNat_natCast, show (64 : Int) - (Lib.bitLen y : Int) = ((64 - Lib.bitLen y : Nat) : Int) from by omega] at h
    exact h.mono fun _ _ k => ⟨k.1, k.2.symm⟩)
end Go.Proofs.YtffcacpffamjfaaDoor

/- Plain numbers: one digit of a quotient by a divisor of two digits to the base R, guessed out of the higher one and brought down, as math/bits.Div64 does it; the whole division of two words by one. No program, no condition. -/
import Derived.Test.YtpamcdfbcglflaaDoorMath
namespace Go.Proofs.YtpamcdfbcglflaaDoor

/-- q is at least the quotient's digit, and r is what the higher digit of the divisor leaves of U. -/
def DivInv (R yn1 yn0 U u q r : Nat) : Prop := q * yn1 + r = U ∧ r < R ∧ (U * R + u) / (yn1 * R + yn0) ≤ q

theorem divInv_start {R yn1 yn0 U u : Nat} (h1 : 0 < yn1) (h1R : yn1 < R) (hu : u < R) : DivInv R yn1 yn0 U u (U / yn1) (U % yn1) := by
  have hR : 0 < R := by omega
  refine ⟨?_, Nat.lt_trans (Nat.mod_lt _ h1) h1R, ?_⟩
  · have := Nat.div_add_mod U yn1
    rw [Nat.mul_comm] at this; exact this
  · have hY : 0 < yn1 * R := Nat.mul_pos h1 hR
    have e1 : (U * R + u) / (yn1 * R + yn0) ≤ (U * R + u) / (yn1 * R) := Nat.div_le_div_left (Nat.le_add_right _ _) hY
    have e2 : (U * R + u) / (yn1 * R) = U / yn1 := by
      rw [Nat.mul_comm yn1 R, ← Nat.div_div_eq_div_mul, Nat.mul_comm U R, Nat.mul_add_div hR, Nat.div_eq_of_lt hu, Nat.add_zero]
    omega

theorem digit_lt {R Y U u : Nat} (hU : U < Y) (hu : u < R) : (U * R + u) / Y < R := by
  rw [Nat.div_lt_iff_lt_mul (by omega)]
  have h1 : (U + 1) * R ≤ Y * R := Nat.mul_le_mul_right R hU
  rw [Nat.add_mul, Nat.one_mul, Nat.mul_comm Y R] at h1
  omega

/-- What q times the divisor is. -/
theorem mul_split {R yn1 yn0 U q r : Nat} (h : q * yn1 + r = U) : q * (yn1 * R + yn0) + R * r = U * R + q * yn0 := by
  rw [← h, Nat.mul_add, ← Nat.mul_assoc, Nat.add_mul, Nat.mul_comm r R]
  omega

/-- The test is true: one less is still enough. -/
theorem divInv_down {R yn1 yn0 U u q r : Nat} (hi : DivInv R yn1 yn0 U u q r) (hY : 0 < yn1 * R + yn0) (hU : U < yn1 * R + yn0) (hu : u < R) (ht : R ≤ q ∨ R * r + u < q * yn0) (hr : r + yn1 < R) :
    0 < q ∧ DivInv R yn1 yn0 U u (q - 1) (r + yn1) := by
  have h0 : 0 < q := by
    rcases Nat.eq_zero_or_pos q with h | h
    · subst h; rcases ht with h | h <;> omega
    · exact h
  have hlt : (U * R + u) / (yn1 * R + yn0) < q := by
    rcases ht with h | h
    · exact Nat.lt_of_lt_of_le (digit_lt hU hu) h
    · rw [Nat.div_lt_iff_lt_mul hY]
      have := mul_split (R := R) (yn0 := yn0) hi.1
      omega
  refine ⟨h0, ?_, hr, by omega⟩
  obtain ⟨p, rfl⟩ : ∃ p, q = p + 1 := ⟨q - 1, by omega⟩
  have := hi.1
  rw [Nat.add_mul, Nat.one_mul] at this
  rw [Nat.add_sub_cancel]; omega

/-- The test is true, and the rest is greater than a digit: one less is the quotient's digit. -/
theorem divInv_last {R yn1 yn0 U u q r : Nat} (hi : DivInv R yn1 yn0 U u q r) (hY : 0 < yn1 * R + yn0) (hU : U < yn1 * R + yn0) (hy0 : yn0 < R) (hu : u < R) (ht : R ≤ q ∨ R * r + u < q * yn0) (hr : R ≤ r + yn1) :
    0 < q ∧ q - 1 = (U * R + u) / (yn1 * R + yn0) := by
  have h0 : 0 < q := by
    rcases Nat.eq_zero_or_pos q with h | h
    · subst h; rcases ht with h | h <;> omega
    · exact h
  have hlt : (U * R + u) / (yn1 * R + yn0) < q := by
    rcases ht with h | h
    · exact Nat.lt_of_lt_of_le (digit_lt hU hu) h
    · rw [Nat.div_lt_iff_lt_mul hY]
      have := mul_split (R := R) (yn0 := yn0) hi.1
      omega
  refine ⟨h0, ?_⟩
  obtain ⟨p, rfl⟩ : ∃ p, q = p + 1 := ⟨q - 1, by omega⟩
  have h1 := hi.1
  rw [Nat.add_mul, Nat.one_mul] at h1
  have h2 : p * yn1 + (r + yn1) = U := by omega
  have hs := mul_split (R := R) (yn0 := yn0) h2
  have hp : p * yn1 < R * yn1 := by rw [Nat.mul_comm R]; omega
  have hpR : p < R := Nat.lt_of_mul_lt_mul_right hp
  have h3 : p * yn0 ≤ R * R := Nat.le_trans (Nat.mul_le_mul (Nat.le_of_lt hpR) (Nat.le_of_lt hy0)) (Nat.le_refl _)
  have h4 : R * R ≤ R * (r + yn1) := Nat.mul_le_mul_left R hr
  have hle : p ≤ (U * R + u) / (yn1 * R + yn0) := by
    rw [Nat.le_div_iff_mul_le hY]; omega
  rw [Nat.add_sub_cancel]; omega

/-- The test is false: q is the quotient's digit. -/
theorem divInv_exit {R yn1 yn0 U u q r : Nat} (hi : DivInv R yn1 yn0 U u q r) (hY : 0 < yn1 * R + yn0) (ht : ¬ R * r + u < q * yn0) : q = (U * R + u) / (yn1 * R + yn0) := by
  have hs := mul_split (R := R) (yn0 := yn0) hi.1
  have hle : q ≤ (U * R + u) / (yn1 * R + yn0) := by
    rw [Nat.le_div_iff_mul_le hY]; omega
  have := hi.2.2
  omega

/-- Two digits of the quotient, one behind the other. -/
theorem two_digits {R Y U u1 u0 : Nat} (hY : 0 < Y) : (U * (R * R) + (u1 * R + u0)) / Y = (U * R + u1) / Y * R + ((U * R + u1) % Y * R + u0) / Y := by
  have e : U * (R * R) + (u1 * R + u0) = Y * ((U * R + u1) / Y * R) + ((U * R + u1) % Y * R + u0) := by
    have h := Nat.div_add_mod (U * R + u1) Y
    have h2 : (Y * ((U * R + u1) / Y) + (U * R + u1) % Y) * R = (U * R + u1) * R := by rw [h]
    rw [Nat.add_mul, Nat.add_mul, Nat.mul_assoc, Nat.mul_assoc U R R] at h2
    omega
  rw [e, Nat.mul_add_div hY]

/-- Both shifted, the quotient is the same. -/
theorem shifted (N y s : Nat) : (N * 2 ^ s) / (y * 2 ^ s) = N / y := Nat.mul_div_mul_right N y (Nat.pow_pos (by decide))

end Go.Proofs.YtpamcdfbcglflaaDoor

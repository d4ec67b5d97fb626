/- Plain numbers: a quotient guessed out of the highest digits is right, or 1 too great, and at most the base. No program, no condition. -/
import Derived.Test.YtpamcdfbcglflaaDoorMath
namespace Go.Proofs.YtpamcdfbcglflaaDoor

theorem guess_math {P D K B p d : Nat} (hK : 0 < K) (hp : p = P / K) (hd : d = D / K) (hB : 0 < B) (hBd : B ≤ d) (hPD : P < D * B) : P / D ≤ p / d ∧ p / d ≤ P / D + 1 ∧ p / d ≤ B := by
  have hd0 : 0 < d := by omega
  have h1 : d * K ≤ D := by rw [hd]; exact Nat.div_mul_le_self D K
  have h2 : D < (d + 1) * K := by
    have h := Nat.div_add_mod D K
    have hm := Nat.mod_lt D hK
    rw [← hd, Nat.mul_comm] at h
    rw [Nat.add_mul, Nat.one_mul]; omega
  have h3 : p * K ≤ P := by rw [hp]; exact Nat.div_mul_le_self P K
  have hD0 : 0 < D := Nat.lt_of_lt_of_le (Nat.mul_pos hd0 hK) h1
  have hgB : p / d ≤ B := by
    have h4 : p < (B + 1) * d := by
      have h5 : p < (d + 1) * B := by
        rw [hp, Nat.div_lt_iff_lt_mul hK]
        refine Nat.lt_of_lt_of_le hPD ?_
        have h6 : D * B ≤ (d + 1) * K * B := Nat.mul_le_mul_right _ (Nat.le_of_lt h2)
        rw [Nat.mul_assoc, Nat.mul_comm B K, ← Nat.mul_assoc]; exact h6
      have h7 : (d + 1) * B = d * B + B := by rw [Nat.add_mul, Nat.one_mul]
      have h8 : (B + 1) * d = d * B + d := by rw [Nat.add_mul, Nat.one_mul, Nat.mul_comm]
      omega
    have := (Nat.div_lt_iff_lt_mul hd0).2 h4
    omega
  refine ⟨?_, ?_, hgB⟩
  · rw [Nat.le_div_iff_mul_le hd0, hp, Nat.le_div_iff_mul_le hK]
    have h4 : P / D * (d * K) ≤ P / D * D := Nat.mul_le_mul_left _ h1
    have h5 := Nat.div_mul_le_self P D
    rw [Nat.mul_assoc]; omega
  · obtain ⟨g, hg⟩ : ∃ g, g = p / d := ⟨_, rfl⟩
    rw [← hg] at hgB ⊢
    cases g with
    | zero => exact Nat.zero_le _
    | succ e =>
      have h4 : (e + 1) * d ≤ p := by rw [hg]; exact Nat.div_mul_le_self p d
      have h5 : (e + 1) * d * K ≤ p * K := Nat.mul_le_mul_right _ h4
      have h6 : e * D ≤ e * ((d + 1) * K) := Nat.mul_le_mul_left _ (Nat.le_of_lt h2)
      have h7 : e * K ≤ d * K := Nat.mul_le_mul_right _ (by omega)
      have h8 : e * ((d + 1) * K) = e * (d * K) + e * K := by rw [Nat.add_mul, Nat.one_mul, Nat.mul_add]
      have h9 : (e + 1) * d * K = e * (d * K) + d * K := by rw [Nat.add_mul, Nat.one_mul, Nat.add_mul, Nat.mul_assoc]
      have h10 : e ≤ P / D := by rw [Nat.le_div_iff_mul_le hD0]; omega
      exact Nat.succ_le_succ h10
end Go.Proofs.YtpamcdfbcglflaaDoor

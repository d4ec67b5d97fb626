/- Plain numbers: a quotient guessed out of the highest digits is right, or 1 too great, and at most the base. No program, no condition. Plain numbers: one digit of a quotient by a divisor of two digits to the base R, guessed out of the higher one and brought down, as math/bits.Div64 does it; the whole division of two words by one. No program, no condition. Plain numbers: one digit of a long division: a part of what is left is lessened by the divisor so many times; what is left then, and the quotient. No program, no condition. -/
import Derived.Test.YtffcacpffamjfaaDoorMath
namespace Go.Proofs.YtffcacpffamjfaaDoor

theorem guess_math {P D K B p d : Nat} (hK : 0 < K) (hp : p = P / K) (hd : d = D / K) (hB : 0 < B) (hBd : B ≤ d) (hPD : P < D * B) : P / D ≤ p / d ∧ p / d ≤ P / D + 1 ∧ p / d ≤ B := by
  have hd0 : 0 < d := by omega
  have h1 : d * K ≤ D := by rw [hd]; exact Nat.div_mul_le_self D K
  have h2 : D < (d + 1) * K := by
    have h := Nat.div_add_mod D K
    have hm := Nat.mod_lt D hK
    rw [← hd, Nat.mul_comm] at h
    rw [Nat.add_mul, Nat.one_mul]; omega
  have h3 : p * K ≤ P := by rw [hp]; exact Nat.div_mul_le_self P K
  have hD0 : 0 < D := Nat.lt_of_lt_of_le (Nat.mul_pos hd0 hK) h1
  have hgB : p / d ≤ B := by
    have h4 : p < (B + 1) * d := by
      have h5 : p < (d + 1) * B := by
        rw [hp, Nat.div_lt_iff_lt_mul hK]
        refine Nat.lt_of_lt_of_le hPD ?_
        have h6 : D * B ≤ (d + 1) * K * B := Nat.mul_le_mul_right _ (Nat.le_of_lt h2)
        rw [Nat.mul_assoc, Nat.mul_comm B K, ← Nat.mul_assoc]; exact h6
      have h7 : (d + 1) * B = d * B + B := by rw [Nat.add_mul, Nat.one_mul]
      have h8 : (B + 1) * d = d * B + d := by rw [Nat.add_mul, Nat.one_mul, Nat.mul_comm]
      omega
    have := (Nat.div_lt_iff_lt_mul hd0).2 h4
    omega
  refine ⟨?_, ?_, hgB⟩
  · rw [Nat.le_div_iff_mul_le hd0, hp, Nat.le_div_iff_mul_le hK]
    have h4 : P / D * (d * K) ≤ P / D * D := Nat.mul_le_mul_left _ h1
    have h5 := Nat.div_mul_le_self P D
    rw [Nat.mul_assoc]; omega
  · obtain ⟨g, hg⟩ : ∃ g, g = p / d := ⟨_, rfl⟩
    rw [← hg] at hgB ⊢
    cases g with
    | zero => exact Nat.zero_le _
    | succ e =>
      have h4 : (e + 1) * d ≤ p := by rw [hg]; exact Nat.div_mul_le_self p d
      have h5 : (e + 1) * d * K ≤ p * K := Nat.mul_le_mul_right _ h4
      have h6 : e * D ≤ e * ((d + 1) * K) := Nat.mul_le_mul_left _ (Nat.le_of_lt h2)
      have h7 : e * K ≤ d * K := Nat.mul_le_mul_right _ (by omega)
      have h8 : e * ((d + 1) * K) = e * (d * K) + e * K := by rw [Nat.add_mul, Nat.one_mul, Nat.mul_add]
      have h9 : (e + 1) * d * K = e * (d * K) + d * K := by rw [Nat.add_mul, Nat.one_mul, Nat.add_mul, Nat.mul_assoc]
      have h10 : e ≤ P / D := by rw [Nat.le_div_iff_mul_le hD0]; omega
      exact Nat.succ_le_succ h10
end Go.Proofs.YtffcacpffamjfaaDoor

namespace Go.Proofs.YtffcacpffamjfaaDoor

/-- q is at least the quotient's digit, and r is what the higher digit of the divisor leaves of U. -/
def DivInv (R yn1 yn0 U u q r : Nat) : Prop := q * yn1 + r = U ∧ r < R ∧ (U * R + u) / (yn1 * R + yn0) ≤ q

theorem divInv_start {R yn1 yn0 U u : Nat} (h1 : 0 < yn1) (h1R : yn1 < R) (hu : u < R) : DivInv R yn1 yn0 U u (U / yn1) (U % yn1) := by
  have hR : 0 < R := by omega
  refine ⟨?_, Nat.lt_trans (Nat.mod_lt _ h1) h1R, ?_⟩
  · have := Nat.div_add_mod U yn1
    rw [Nat.mul_comm] at this; exact this
  · have hY : 0 < yn1 * R := Nat.mul_pos h1 hR
    have e1 : (U * R + u) / (yn1 * R + yn0) ≤ (U * R + u) / (yn1 * R) := Nat.div_le_div_left (Nat.le_add_right _ _) hY
    have e2 : (U * R + u) / (yn1 * R) = U / yn1 := by
      rw [Nat.mul_comm yn1 R, ← Nat.div_div_eq_div_mul, Nat.mul_comm U R, Nat.mul_add_div hR, Nat.div_eq_of_lt hu, Nat.add_zero]
    omega

theorem digit_lt {R Y U u : Nat} (hU : U < Y) (hu : u < R) : (U * R + u) / Y < R := by
  rw [Nat.div_lt_iff_lt_mul (by omega)]
  have h1 : (U + 1) * R ≤ Y * R := Nat.mul_le_mul_right R hU
  rw [Nat.add_mul, Nat.one_mul, Nat.mul_comm Y R] at h1
  omega

/-- What q times the divisor is. -/
theorem mul_split {R yn1 yn0 U q r : Nat} (h : q * yn1 + r = U) : q * (yn1 * R + yn0) + R * r = U * R + q * yn0 := by
  rw [← h, Nat.mul_add, ← Nat.mul_assoc, Nat.add_mul, Nat.mul_comm r R]
  omega

/-- The test is true: one less is still enough. -/
theorem divInv_down {R yn1 yn0 U u q r : Nat} (hi : DivInv R yn1 yn0 U u q r) (hY : 0 < yn1 * R + yn0) (hU : U < yn1 * R + yn0) (hu : u < R) (ht : R ≤ q ∨ R * r + u < q * yn0) (hr : r + yn1 < R) :
    0 < q ∧ DivInv R yn1 yn0 U u (q - 1) (r + yn1) := by
  have h0 : 0 < q := by
    rcases Nat.eq_zero_or_pos q with h | h
    · subst h; rcases ht with h | h <;> omega
    · exact h
  have hlt : (U * R + u) / (yn1 * R + yn0) < q := by
    rcases ht with h | h
    · exact Nat.lt_of_lt_of_le (digit_lt hU hu) h
    · rw [Nat.div_lt_iff_lt_mul hY]
      have := mul_split (R := R) (yn0 := yn0) hi.1
      omega
  refine ⟨h0, ?_, hr, by omega⟩
  obtain ⟨p, rfl⟩ : ∃ p, q = p + 1 := ⟨q - 1, by omega⟩
  have := hi.1
  rw [Nat.add_mul, Nat.one_mul] at this
  rw [Nat.add_sub_cancel]; omega

/-- The test is true, and the rest is greater than a digit: one less is the quotient's digit. -/
theorem divInv_last {R yn1 yn0 U u q r : Nat} (hi : DivInv R yn1 yn0 U u q r) (hY : 0 < yn1 * R + yn0) (hU : U < yn1 * R + yn0) (hy0 : yn0 < R) (hu : u < R) (ht : R ≤ q ∨ R * r + u < q * yn0) (hr : R ≤ r + yn1) :
    0 < q ∧ q - 1 = (U * R + u) / (yn1 * R + yn0) := by
  have h0 : 0 < q := by
    rcases Nat.eq_zero_or_pos q with h | h
    · subst h; rcases ht with h | h <;> omega
    · exact h
  have hlt : (U * R + u) / (yn1 * R + yn0) < q := by
    rcases ht with h | h
    · exact Nat.lt_of_lt_of_le (digit_lt hU hu) h
    · rw [Nat.div_lt_iff_lt_mul hY]
      have := mul_split (R := R) (yn0 := yn0) hi.1
      omega
  refine ⟨h0, ?_⟩
  obtain ⟨p, rfl⟩ : ∃ p, q = p + 1 := ⟨q - 1, by omega⟩
  have h1 := hi.1
  rw [Nat.add_mul, Nat.one_mul] at h1
  have h2 : p * yn1 + (r + yn1) = U := by omega
  have hs := mul_split (R := R) (yn0 := yn0) h2
  have hp : p * yn1 < R * yn1 := by rw [Nat.mul_comm R]; omega
  have hpR : p < R := Nat.lt_of_mul_lt_mul_right hp
  have h3 : p * yn0 ≤ R * R := Nat.le_trans (Nat.mul_le_mul (Nat.le_of_lt hpR) (Nat.le_of_lt hy0)) (Nat.le_refl _)
  have h4 : R * R ≤ R * (r + yn1) := Nat.mul_le_mul_left R hr
  have hle : p ≤ (U * R + u) / (yn1 * R + yn0) := by
    rw [Nat.le_div_iff_mul_le hY]; omega
  rw [Nat.add_sub_cancel]; omega

/-- The test is false: q is the quotient's digit. -/
theorem divInv_exit {R yn1 yn0 U u q r : Nat} (hi : DivInv R yn1 yn0 U u q r) (hY : 0 < yn1 * R + yn0) (ht : ¬ R * r + u < q * yn0) : q = (U * R + u) / (yn1 * R + yn0) := by
  have hs := mul_split (R := R) (yn0 := yn0) hi.1
  have hle : q ≤ (U * R + u) / (yn1 * R + yn0) := by
    rw [Nat.le_div_iff_mul_le hY]; omega
  have := hi.2.2
  omega

/-- Two digits of the quotient, one behind the other. -/
theorem two_digits {R Y U u1 u0 : Nat} (hY : 0 < Y) : (U * (R * R) + (u1 * R + u0)) / Y = (U * R + u1) / Y * R + ((U * R + u1) % Y * R + u0) / Y := by
  have e : U * (R * R) + (u1 * R + u0) = Y * ((U * R + u1) / Y * R) + ((U * R + u1) % Y * R + u0) := by
    have h := Nat.div_add_mod (U * R + u1) Y
    have h2 : (Y * ((U * R + u1) / Y) + (U * R + u1) % Y) * R = (U * R + u1) * R := by rw [h]
    rw [Nat.add_mul, Nat.add_mul, Nat.mul_assoc, Nat.mul_assoc U R R] at h2
    omega
  rw [e, Nat.mul_add_div hY]

/-- Both shifted, the quotient is the same. -/
theorem shifted (N y s : Nat) : (N * 2 ^ s) / (y * 2 ^ s) = N / y := Nat.mul_div_mul_right N y (Nat.pow_pos (by decide))

end Go.Proofs.YtffcacpffamjfaaDoor

namespace Go.Proofs.YtffcacpffamjfaaDoor

/-- The part that is divided is below the divisor times the base; what stands behind it is 0. -/
theorem long_part {P part T : List Nat} {p m Y : Nat} (hP : P.length = p) (hpart : part.length = m + 1) (hs : small 1000000000 part) (hY : Y < 1000000000 ^ m) (htop : val ((P ++ part ++ T).drop (p + 1)) < Y) : val part < Y * 1000000000 ∧ val T = 0 := by
  match part, hpart with
  | d :: part1, hpart =>
    have h1 : part1.length = m := by simpa using hpart
    have e : (P ++ d :: part1 ++ T).drop (p + 1) = part1 ++ T := by
      rw [List.append_assoc, ← hP, ← List.drop_drop, List.drop_left']
      · simp
      · rfl
    rw [e, val_append, h1] at htop
    have hd := hs d (List.mem_cons_self ..)
    have hT : val T = 0 := by
      rcases Nat.eq_zero_or_pos (val T) with h | h
      · exact h
      · have : 1000000000 ^ m * 1 ≤ 1000000000 ^ m * val T := Nat.mul_le_mul_left _ h
        omega
    refine ⟨?_, hT⟩
    rw [hT, Nat.mul_zero, Nat.add_zero] at htop
    simp only [val]
    omega

/-- The digit was right: what is left of the part. -/
theorem long_right {V V' Y dg bo ca M : Nat} (hM : Y * 1000000000 < M * 1000000000) (hdg : dg ≤ 1000000000) (h1 : V / Y ≤ dg) (h2 : V' + Y * dg = V + M * 1000000000 * (bo + ca)) (h3 : M * 1000000000 * ca ≤ Y * dg) (hbo : bo = 0) (hY : 0 < Y) : dg = V / Y ∧ V' = V % Y := by
  have k1 : Y * dg ≤ Y * 1000000000 := Nat.mul_le_mul_left _ hdg
  have hca : ca = 0 := by
    rcases Nat.eq_zero_or_pos ca with h | h
    · exact h
    · have : M * 1000000000 * 1 ≤ M * 1000000000 * ca := Nat.mul_le_mul_left _ h
      omega
  subst hbo
  rw [hca, Nat.add_zero, Nat.mul_zero, Nat.add_zero] at h2
  have hle : dg ≤ V / Y := by rw [Nat.le_div_iff_mul_le hY, Nat.mul_comm]; omega
  have he : dg = V / Y := Nat.le_antisymm hle h1
  refine ⟨he, ?_⟩
  have := Nat.div_add_mod V Y
  rw [← he] at this
  omega

/-- The digit was 1 too great: what is left of the part, the divisor given back. -/
theorem long_back {V V' V2 Y dg bo ca cy M : Nat} (hM : Y * 1000000000 < M * 1000000000) (hdg : dg ≤ 1000000000) (h1 : V / Y ≤ dg) (h1' : dg ≤ V / Y + 1) (h2 : V' + Y * dg = V + M * 1000000000 * (bo + ca)) (h3 : M * 1000000000 * ca ≤ Y * dg) (h4 : V' < M * 1000000000) (hbo : bo = 1) (hY : 0 < Y)
    (h5 : V2 + M * 1000000000 * cy = V' + Y) (h6 : V2 < M * 1000000000) (hcy : cy ≤ 1) : 0 < dg ∧ dg - 1 = V / Y ∧ V2 = V % Y := by
  have k1 : Y * dg ≤ Y * 1000000000 := Nat.mul_le_mul_left _ hdg
  have hca : ca = 0 := by
    rcases Nat.eq_zero_or_pos ca with h | h
    · exact h
    · have : M * 1000000000 * 1 ≤ M * 1000000000 * ca := Nat.mul_le_mul_left _ h
      omega
  subst hbo
  rw [hca, Nat.add_zero, Nat.mul_one] at h2
  have hdm := Nat.div_add_mod V Y
  have hml := Nat.mod_lt V hY
  have hne : dg ≠ V / Y := by
    intro h
    rw [h] at h2
    omega
  have he : dg = V / Y + 1 := by omega
  rw [he, Nat.mul_add, Nat.mul_one] at h2
  refine ⟨by rw [he]; exact Nat.succ_pos _, by rw [he]; rfl, ?_⟩
  clear he h1 h1' hne h3 k1
  generalize V / Y = z at *
  generalize V % Y = r at *
  have h01 : cy = 0 ∨ cy = 1 := by omega
  rcases h01 with h | h
  · rw [h, Nat.mul_zero, Nat.add_zero] at h5
    exfalso; omega
  · rw [h, Nat.mul_one] at h5
    omega

theorem dg_pos {V V' Y dg bo ca M : Nat} (h2 : V' + Y * dg = V + M * 1000000000 * (bo + ca)) (h4 : V' < M * 1000000000) (hbo : bo = 1) : 1 ≤ dg := by
  rcases Nat.eq_zero_or_pos dg with h | h
  · exfalso
    subst h; subst hbo
    rw [Nat.mul_zero, Nat.mul_add] at h2
    omega
  · exact h
/-- One digit more of the quotient. -/
theorem long_step {P part part' T qs : List Nat} {p Y X : Nat} (hP : P.length = p) (hq : p < qs.length) (hT : val T = 0) (hv : val part' = val part % Y)
    (h : val (qs.drop (p + 1)) * Y * 1000000000 ^ (p + 1) + val (P ++ part ++ T) = X) :
    val ((qs.set p (val part / Y)).drop p) * Y * 1000000000 ^ p + val (P ++ part' ++ T) = X := by
  have e1 : (qs.set p (val part / Y)).drop p = (val part / Y) :: qs.drop (p + 1) := by
    have hl : p < (qs.set p (val part / Y)).length := by rw [List.length_set]; omega
    rw [List.drop_eq_getElem_cons hl]
    congr 1
    · simp
    · rw [List.drop_set_of_lt (by omega)]
  rw [e1, val, val_append, val_append, hT, Nat.mul_zero, Nat.add_zero, hP, hv]
  rw [val_append, val_append, hT, Nat.mul_zero, Nat.add_zero, hP, Nat.pow_succ] at h
  rw [← h]
  have hdm := Nat.div_add_mod (val part) Y
  generalize val (qs.drop (p + 1)) = Q
  generalize 1000000000 ^ p = K
  have e2 : K * val part = val part / Y * Y * K + K * (val part % Y) := by
    have e3 : K * val part = K * (Y * (val part / Y) + val part % Y) := by rw [hdm]
    rw [e3, Nat.mul_add]
    congr 1
    rw [Nat.mul_comm Y]; exact Nat.mul_comm _ _
  rw [e2, Nat.add_mul, Nat.add_mul]
  have e4 : 1000000000 * Q * Y * K = Q * Y * (K * 1000000000) := by ac_rfl
  omega
theorem long_top {P part' T : List Nat} {p Y : Nat} (hP : P.length = p) (hT : val T = 0) (h : val part' < Y) : val ((P ++ part' ++ T).drop p) < Y := by
  rw [List.append_assoc, ← hP, List.drop_left' rfl, val_append, hT, Nat.mul_zero, Nat.add_zero]; exact h
/-- A list in three parts. -/
theorem three_parts {L : List Nat} {p m : Nat} (h : p + m ≤ L.length) : ∃ P part T, L = P ++ part ++ T ∧ P.length = p ∧ part.length = m := by
  refine ⟨L.take p, (L.drop p).take m, (L.drop p).drop m, ?_, ?_, ?_⟩
  · rw [List.append_assoc, List.take_append_drop, List.take_append_drop]
  · rw [List.length_take]; omega
  · rw [List.length_take, List.length_drop]; omega
end Go.Proofs.YtffcacpffamjfaaDoor

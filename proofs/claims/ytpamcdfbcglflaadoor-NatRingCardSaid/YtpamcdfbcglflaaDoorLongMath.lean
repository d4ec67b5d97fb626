/- Plain numbers: one digit of a long division: a part of what is left is lessened by the divisor so many times; what is left then, and the quotient. No program, no condition. -/
import Derived.Test.YtpamcdfbcglflaaDoorMath
namespace Go.Proofs.YtpamcdfbcglflaaDoor

/-- The part that is divided is below the divisor times the base; what stands behind it is 0. -/
theorem long_part {P part T : List Nat} {p m Y : Nat} (hP : P.length = p) (hpart : part.length = m + 1) (hs : small 1000000000 part) (hY : Y < 1000000000 ^ m) (htop : val ((P ++ part ++ T).drop (p + 1)) < Y) : val part < Y * 1000000000 ∧ val T = 0 := by
  match part, hpart with
  | d :: part1, hpart =>
    have h1 : part1.length = m := by simpa using hpart
    have e : (P ++ d :: part1 ++ T).drop (p + 1) = part1 ++ T := by
      rw [List.append_assoc, ← hP, ← List.drop_drop, List.drop_left']
      · simp
      · rfl
    rw [e, val_append, h1] at htop
    have hd := hs d (List.mem_cons_self ..)
    have hT : val T = 0 := by
      rcases Nat.eq_zero_or_pos (val T) with h | h
      · exact h
      · have : 1000000000 ^ m * 1 ≤ 1000000000 ^ m * val T := Nat.mul_le_mul_left _ h
        omega
    refine ⟨?_, hT⟩
    rw [hT, Nat.mul_zero, Nat.add_zero] at htop
    simp only [val]
    omega

/-- The digit was right: what is left of the part. -/
theorem long_right {V V' Y dg bo ca M : Nat} (hM : Y * 1000000000 < M * 1000000000) (hdg : dg ≤ 1000000000) (h1 : V / Y ≤ dg) (h2 : V' + Y * dg = V + M * 1000000000 * (bo + ca)) (h3 : M * 1000000000 * ca ≤ Y * dg) (hbo : bo = 0) (hY : 0 < Y) : dg = V / Y ∧ V' = V % Y := by
  have k1 : Y * dg ≤ Y * 1000000000 := Nat.mul_le_mul_left _ hdg
  have hca : ca = 0 := by
    rcases Nat.eq_zero_or_pos ca with h | h
    · exact h
    · have : M * 1000000000 * 1 ≤ M * 1000000000 * ca := Nat.mul_le_mul_left _ h
      omega
  subst hbo
  rw [hca, Nat.add_zero, Nat.mul_zero, Nat.add_zero] at h2
  have hle : dg ≤ V / Y := by rw [Nat.le_div_iff_mul_le hY, Nat.mul_comm]; omega
  have he : dg = V / Y := Nat.le_antisymm hle h1
  refine ⟨he, ?_⟩
  have := Nat.div_add_mod V Y
  rw [← he] at this
  omega

/-- The digit was 1 too great: what is left of the part, the divisor given back. -/
theorem long_back {V V' V2 Y dg bo ca cy M : Nat} (hM : Y * 1000000000 < M * 1000000000) (hdg : dg ≤ 1000000000) (h1 : V / Y ≤ dg) (h1' : dg ≤ V / Y + 1) (h2 : V' + Y * dg = V + M * 1000000000 * (bo + ca)) (h3 : M * 1000000000 * ca ≤ Y * dg) (h4 : V' < M * 1000000000) (hbo : bo = 1) (hY : 0 < Y)
    (h5 : V2 + M * 1000000000 * cy = V' + Y) (h6 : V2 < M * 1000000000) (hcy : cy ≤ 1) : 0 < dg ∧ dg - 1 = V / Y ∧ V2 = V % Y := by
  have k1 : Y * dg ≤ Y * 1000000000 := Nat.mul_le_mul_left _ hdg
  have hca : ca = 0 := by
    rcases Nat.eq_zero_or_pos ca with h | h
    · exact h
    · have : M * 1000000000 * 1 ≤ M * 1000000000 * ca := Nat.mul_le_mul_left _ h
      omega
  subst hbo
  rw [hca, Nat.add_zero, Nat.mul_one] at h2
  have hdm := Nat.div_add_mod V Y
  have hml := Nat.mod_lt V hY
  have hne : dg ≠ V / Y := by
    intro h
    rw [h] at h2
    omega
  have he : dg = V / Y + 1 := by omega
  rw [he, Nat.mul_add, Nat.mul_one] at h2
  refine ⟨by rw [he]; exact Nat.succ_pos _, by rw [he]; rfl, ?_⟩
  clear he h1 h1' hne h3 k1
  generalize V / Y = z at *
  generalize V % Y = r at *
  have h01 : cy = 0 ∨ cy = 1 := by omega
  rcases h01 with h | h
  · rw [h, Nat.mul_zero, Nat.add_zero] at h5
    exfalso; omega
  · rw [h, Nat.mul_one] at h5
    omega

theorem dg_pos {V V' Y dg bo ca M : Nat} (h2 : V' + Y * dg = V + M * 1000000000 * (bo + ca)) (h4 : V' < M * 1000000000) (hbo : bo = 1) : 1 ≤ dg := by
  rcases Nat.eq_zero_or_pos dg with h | h
  · exfalso
    subst h; subst hbo
    rw [Nat.mul_zero, Nat.mul_add] at h2
    omega
  · exact h
/-- One digit more of the quotient. -/
theorem long_step {P part part' T qs : List Nat} {p Y X : Nat} (hP : P.length = p) (hq : p < qs.length) (hT : val T = 0) (hv : val part' = val part % Y)
    (h : val (qs.drop (p + 1)) * Y * 1000000000 ^ (p + 1) + val (P ++ part ++ T) = X) :
    val ((qs.set p (val part / Y)).drop p) * Y * 1000000000 ^ p + val (P ++ part' ++ T) = X := by
  have e1 : (qs.set p (val part / Y)).drop p = (val part / Y) :: qs.drop (p + 1) := by
    have hl : p < (qs.set p (val part / Y)).length := by rw [List.length_set]; omega
    rw [List.drop_eq_getElem_cons hl]
    congr 1
    · simp
    · rw [List.drop_set_of_lt (by omega)]
  rw [e1, val, val_append, val_append, hT, Nat.mul_zero, Nat.add_zero, hP, hv]
  rw [val_append, val_append, hT, Nat.mul_zero, Nat.add_zero, hP, Nat.pow_succ] at h
  rw [← h]
  have hdm := Nat.div_add_mod (val part) Y
  generalize val (qs.drop (p + 1)) = Q
  generalize 1000000000 ^ p = K
  have e2 : K * val part = val part / Y * Y * K + K * (val part % Y) := by
    have e3 : K * val part = K * (Y * (val part / Y) + val part % Y) := by rw [hdm]
    rw [e3, Nat.mul_add]
    congr 1
    rw [Nat.mul_comm Y]; exact Nat.mul_comm _ _
  rw [e2, Nat.add_mul, Nat.add_mul]
  have e4 : 1000000000 * Q * Y * K = Q * Y * (K * 1000000000) := by ac_rfl
  omega
theorem long_top {P part' T : List Nat} {p Y : Nat} (hP : P.length = p) (hT : val T = 0) (h : val part' < Y) : val ((P ++ part' ++ T).drop p) < Y := by
  rw [List.append_assoc, ← hP, List.drop_left' rfl, val_append, hT, Nat.mul_zero, Nat.add_zero]; exact h
/-- A list in three parts. -/
theorem three_parts {L : List Nat} {p m : Nat} (h : p + m ≤ L.length) : ∃ P part T, L = P ++ part ++ T ∧ P.length = p ∧ part.length = m := by
  refine ⟨L.take p, (L.drop p).take m, (L.drop p).drop m, ?_, ?_, ?_⟩
  · rw [List.append_assoc, List.take_append_drop, List.take_append_drop]
  · rw [List.length_take]; omega
  · rw [List.length_take, List.length_drop]; omega
end Go.Proofs.YtpamcdfbcglflaaDoor

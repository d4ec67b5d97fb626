/- Plain numbers: decimal texts: how the text of a number follows from the texts of its digits to the base 10^9. No program, no condition. -/
import Derived.Test.YthjgfkmnelefpaaGreatDoorMath
import Derived.Lib.ItoaMem
import Derived.Lib.Repeat
namespace Go.Proofs.YthjgfkmnelefpaaGreatDoor
open Go.Lib

/-- The last k decimal digits of v, with noughts ahead. -/
def pad : Nat → Nat → List UInt8
  | 0, _ => []
  | k + 1, v => pad k (v / 10) ++ [UInt8.ofNat (48 + v % 10)]

theorem decDigits_small {u : Nat} (h : u < 10) : decDigits u = [UInt8.ofNat (48 + u)] := by rw [decDigits, dif_pos h]
theorem decDigits_big {u : Nat} (h : ¬ u < 10) : decDigits u = decDigits (u / 10) ++ [UInt8.ofNat (48 + u % 10)] := by rw [decDigits, dif_neg h]

theorem decDigits_pad (k : Nat) : ∀ u v : Nat, 0 < u → v < 10 ^ k → decDigits (u * 10 ^ k + v) = decDigits u ++ pad k v := by
  induction k with
  | zero =>
    intro u v hu hv
    have : v = 0 := by simpa using hv
    subst this
    simp [pad]
  | succ k ih =>
    intro u v hu hv
    have hp : 0 < 10 ^ k := Nat.pow_pos (by decide)
    have h1 : u * 10 ^ (k + 1) = 10 * (u * 10 ^ k) := by rw [Nat.pow_succ, Nat.mul_comm 10, Nat.mul_assoc]
    have h2 : 1 ≤ u * 10 ^ k := Nat.mul_pos hu hp
    rw [h1]
    have h3 : v / 10 < 10 ^ k := by
      rw [Nat.pow_succ] at hv
      omega
    rw [decDigits_big (by omega)]
    have e1 : (10 * (u * 10 ^ k) + v) / 10 = u * 10 ^ k + v / 10 := by omega
    have e2 : (10 * (u * 10 ^ k) + v) % 10 = v % 10 := by omega
    rw [e1, e2, ih u (v / 10) hu h3, List.append_assoc]
    rfl

theorem pad_zero (k : Nat) : pad k 0 = List.replicate k 48 := by
  induction k with
  | zero => rfl
  | succ k ih => rw [pad, Nat.zero_div, ih, List.replicate_succ']; rfl

theorem pad_eq (k : Nat) : ∀ v : Nat, v < 10 ^ (k + 1) → pad (k + 1) v = List.replicate (k + 1 - nDigits v) 48 ++ decDigits v := by
  induction k with
  | zero =>
    intro v hv
    have hv' : v < 10 := by simpa using hv
    rw [pad, nDigits_small hv', decDigits_small hv', Nat.mod_eq_of_lt hv']
    rfl
  | succ k ih =>
    intro v hv
    rcases Nat.lt_or_ge v 10 with h | h
    · rw [pad, Nat.div_eq_of_lt h, pad_zero, nDigits_small h, decDigits_small h, Nat.mod_eq_of_lt h]
      rfl
    · have h1 : v / 10 < 10 ^ (k + 1) := Nat.div_lt_of_lt_mul (by rw [Nat.mul_comm, ← Nat.pow_succ]; exact hv)
      have h2 : nDigits v = nDigits (v / 10) + 1 := nDigits_big (by omega)
      have h3 : decDigits v = decDigits (v / 10) ++ [UInt8.ofNat (48 + v % 10)] := decDigits_big (by omega)
      have h4 : pad (k + 1 + 1) v = pad (k + 1) (v / 10) ++ [UInt8.ofNat (48 + v % 10)] := rfl
      rw [h4, ih (v / 10) h1, h2, h3, List.append_assoc, show k + 1 + 1 - (nDigits (v / 10) + 1) = k + 1 - nDigits (v / 10) from by omega]

theorem nDigits_le (k : Nat) : ∀ v : Nat, v < 10 ^ (k + 1) → nDigits v ≤ k + 1 := by
  induction k with
  | zero =>
    intro v hv
    rw [nDigits_small (by simpa using hv)]; exact Nat.le_refl _
  | succ k ih =>
    intro v hv
    rcases Nat.lt_or_ge v 10 with h | h
    · rw [nDigits_small h]; omega
    · have h1 : v / 10 < 10 ^ (k + 1) := Nat.div_lt_of_lt_mul (by rw [Nat.mul_comm, ← Nat.pow_succ]; exact hv)
      rw [nDigits_big (by omega)]
      have := ih _ h1
      omega
theorem nDigits_le9 {v : Nat} (h : v < 1000000000) : nDigits v ≤ 9 := nDigits_le 8 v h

theorem repeat48 (k : Nat) : repeatL [48] k = List.replicate k 48 := by
  induction k with
  | zero => rfl
  | succ k ih => rw [repeatL, ih]; rfl

/-- The text of a number whose last digit to the base 10^9 is v. -/
theorem decDigits_base {u v : Nat} (hu : 0 < u) (hv : v < 1000000000) : decDigits (v + 1000000000 * u) = decDigits u ++ (repeatL [48] (9 - nDigits v) ++ decDigits v) := by
  have h := decDigits_pad 9 u v hu hv
  rw [show u * 10 ^ 9 + v = v + 1000000000 * u from by omega] at h
  rw [h, repeat48, pad_eq 8 v hv]
end Go.Proofs.YthjgfkmnelefpaaGreatDoor

/- Decimal texts: a number's digits are a decimal text of it; longer ones are of greater numbers; of two that are as long the greater number's is the greater. -/
import Derived.Test.YthjgfkmnelefpaaGreatDoorOf
import Derived.Test.YthjgfkmnelefpaaGreatDoorDec
import Derived.Test.YthjgfkmnelefpaaGreatDoorDig
namespace Go.Proofs.YthjgfkmnelefpaaGreatDoor
open Go.RowKit Go.Lib

theorem dig_toNat {r : Nat} (h : r < 10) : (UInt8.ofNat (48 + r)).toNat = 48 + r := by
  rw [UInt8.toNat_ofNat']; omega
theorem decDigits_ne (n : Nat) : 0 < (decDigits n).length := by
  by_cases h : n < 10
  · rw [decDigits_small h]; simp
  · rw [decDigits_big h]; simp
theorem decDigits_mono : ∀ (n m : Nat), m ≤ n → (decDigits m).length ≤ (decDigits n).length := by
  intro n
  induction n using Nat.strongRecOn with
  | _ n ih =>
    intro m hm
    by_cases h1 : m < 10
    · rw [decDigits_small h1]; exact decDigits_ne n
    · rw [decDigits_big h1, decDigits_big (show ¬ n < 10 by omega), List.length_append, List.length_append]
      exact Nat.add_le_add_right (ih (n / 10) (by omega) (m / 10) (by omega)) _
theorem decDigits_len_lt {n m : Nat} (h : (decDigits n).length < (decDigits m).length) : n < m := by
  rcases Nat.lt_or_ge n m with h1 | h1
  · exact h1
  · have := decDigits_mono n m h1; omega

def dgl (l : List UInt8) : List Nat := ((l.map (·.toNat)).map (· - 48)).reverse
theorem dgl_snoc (l : List UInt8) (b : UInt8) : dgl (l ++ [b]) = (b.toNat - 48) :: dgl l := by simp [dgl]
theorem dval_dgl : ∀ n : Nat, dval (dgl (decDigits n)) = n := by
  intro n
  induction n using Nat.strongRecOn with
  | _ n ih =>
    by_cases h : n < 10
    · rw [decDigits_small h]
      have := dgl_snoc [] (UInt8.ofNat (48 + n))
      rw [List.nil_append] at this
      rw [this, dig_toNat h]
      simp [dval, dgl]
    · rw [decDigits_big h, dgl_snoc, dval, ih (n / 10) (by omega), dig_toNat (Nat.mod_lt _ (by decide))]
      have := Nat.mod_add_div n 10
      omega
theorem decDigits_inj {n m : Nat} (h : decDigits n = decDigits m) : n = m := by
  rw [← dval_dgl n, h, dval_dgl m]

theorem less_snoc : ∀ (x y : List UInt8) (a b : UInt8), x.length = y.length → Op.bytesLess (x ++ [a]) (y ++ [b]) = (Op.bytesLess x y || (x == y && decide (a < b))) := by
  intro x
  induction x with
  | nil =>
    intro y a b h
    obtain rfl : y = [] := List.eq_nil_of_length_eq_zero h.symm
    simp [Op.bytesLess]
  | cons c x ih =>
    intro y a b h
    cases y with
    | nil => simp at h
    | cons d y =>
      have := ih y a b (by simpa using h)
      have e : ((c :: x) == (d :: y)) = (c == d && x == y) := rfl
      simp only [List.cons_append, Op.bytesLess, this]
      rw [e]
      generalize (c == d) = q
      cases q <;> simp [Bool.or_assoc]
theorem dig_lt {r s : Nat} (hr : r < 10) (hs : s < 10) : decide (UInt8.ofNat (48 + r) < UInt8.ofNat (48 + s)) = decide (r < s) := by
  have h1 := dig_toNat hr
  have h2 := dig_toNat hs
  rw [decide_eq_decide, UInt8.lt_iff_toNat_lt, h1, h2]
  omega
theorem decDigits_less : ∀ (n m : Nat), (decDigits n).length = (decDigits m).length → Op.bytesLess (decDigits n) (decDigits m) = decide (n < m) := by
  intro n
  induction n using Nat.strongRecOn with
  | _ n ih =>
    intro m h
    by_cases h1 : n < 10
    · by_cases h2 : m < 10
      · rw [decDigits_small h1, decDigits_small h2, ← dig_lt h1 h2]
        simp [Op.bytesLess]
      · rw [decDigits_small h1, decDigits_big h2] at h
        have := decDigits_ne (m / 10)
        simp at h
        rw [h] at this
        simp at this
    · by_cases h2 : m < 10
      · rw [decDigits_big h1, decDigits_small h2] at h
        have := decDigits_ne (n / 10)
        simp at h
        rw [h] at this
        simp at this
      · have hl : (decDigits (n / 10)).length = (decDigits (m / 10)).length := by
          rw [decDigits_big h1, decDigits_big h2] at h
          simpa using h
        rw [decDigits_big h1, decDigits_big h2, less_snoc _ _ _ _ hl, ih (n / 10) (by omega) (m / 10) hl, dig_lt (Nat.mod_lt _ (by decide)) (Nat.mod_lt _ (by decide))]
        by_cases h3 : n / 10 = m / 10
        · rw [h3]
          by_cases h4 : n % 10 < m % 10
          · have : n < m := by omega
            simp [h4, this]
          · have : ¬ n < m := by omega
            simp [h4, this]
        · have h5 : decDigits (n / 10) ≠ decDigits (m / 10) := fun e => h3 (decDigits_inj e)
          by_cases h4 : n / 10 < m / 10
          · have : n < m := by omega
            simp [h4, this]
          · have : ¬ n < m := by omega
            simp [h4, this, h5]

theorem decDigits_digs (n : Nat) : ∀ b ∈ decDigits n, 48 ≤ b.toNat ∧ b.toNat ≤ 57 := by
  induction n using Nat.strongRecOn with
  | _ n ih =>
    intro b hb
    by_cases h : n < 10
    · rw [decDigits_small h] at hb
      rw [List.mem_singleton.1 hb, dig_toNat h]; omega
    · rw [decDigits_big h] at hb
      rcases List.mem_append.1 hb with h1 | h1
      · exact ih (n / 10) (by omega) b h1
      · rw [List.mem_singleton.1 h1, dig_toNat (Nat.mod_lt _ (by decide))]
        have := Nat.mod_lt n (show 0 < 10 by decide)
        omega
theorem decDigits_head (n : Nat) (hn : 0 < n) : ((decDigits n).map (·.toNat)).getD 0 0 ≠ 48 := by
  induction n using Nat.strongRecOn with
  | _ n ih =>
    by_cases h : n < 10
    · rw [decDigits_small h]
      have := dig_toNat h
      simp only [List.map_cons, List.getD_cons_zero]
      omega
    · have h1 := ih (n / 10) (by omega) (by omega)
      have h2 := decDigits_ne (n / 10)
      rw [decDigits_big h, List.map_append]
      rw [List.getD_eq_getElem?_getD, List.getElem?_append_left (by simpa using h2), ← List.getD_eq_getElem?_getD]
      exact h1

def dtext (n : Nat) : ByteArray := ⟨(decDigits n).toArray⟩
theorem dtext_bt (n : Nat) : bt (dtext n) = (decDigits n).map (·.toNat) := by simp [bt, dtext]
theorem dtext_size (n : Nat) : (dtext n).size = (decDigits n).length := by rw [← bt_length, dtext_bt, List.length_map]
theorem dtext_isDec (n : Nat) : isDec (bt (dtext n)) := by
  rw [dtext_bt]
  refine ⟨fun k hk => ?_, ?_⟩
  · rw [List.length_map] at hk
    have := decDigits_digs n _ (List.getElem_mem hk)
    rw [List.getD_eq_getElem?_getD, List.getElem?_map, List.getElem?_eq_getElem hk]
    exact this
  · rcases Nat.eq_zero_or_pos n with rfl | hn
    · left; rw [decDigits_small (by decide)]; decide
    · right
      exact ⟨fun e => by have := decDigits_ne n; rw [List.map_eq_nil_iff] at e; rw [e] at this; simp at this, decDigits_head n hn⟩
theorem dtext_val (n : Nat) : dval (dg (dtext n)) = n := by
  rw [dg, dtext_bt]
  exact dval_dgl n
theorem dtext_toList (n : Nat) : (dtext n).toList = decDigits n := by
  rw [ByteArray.toList_eq]; simp [dtext]
end Go.Proofs.YthjgfkmnelefpaaGreatDoor

/- What terms weigh (plain numbers): a part's 1, its name's eighths, its digits, its kids. No program, no condition. -/
import Derived.Test.YtlikpnaffpngiaaGreatDoorTree
set_option linter.unusedVariables false
set_option linter.unusedSimpArgs false
namespace Go.Proofs.YtlikpnaffpngiaaGreatDoor

mutual
def wtT : Tm → Nat
  | .mk _ s _ ds l => 1 + s.size / 8 + ds.length + wtL l
def wtL : List Tm → Nat
  | [] => 0
  | t :: l => wtT t + wtL l
end
theorem wtT_eq (t : Tm) : wtT t = 1 + t.name.size / 8 + t.ds.length + wtL t.kids := by
  cases t; rw [wtT]; rfl
theorem wtT_pos (t : Tm) : 0 < wtT t := by rw [wtT_eq]; omega
theorem wtL_nil : wtL [] = 0 := by rw [wtL]
theorem wtL_cons (t : Tm) (l : List Tm) : wtL (t :: l) = wtT t + wtL l := by rw [wtL]
theorem wtL_append : ∀ (a b : List Tm), wtL (a ++ b) = wtL a + wtL b
  | [], b => by rw [List.nil_append, wtL_nil, Nat.zero_add]
  | t :: a, b => by rw [List.cons_append, wtL_cons, wtL_cons, wtL_append a b, Nat.add_assoc]
theorem wtL_snoc {l : List Tm} {i : Nat} {t : Tm} (h : l[i]? = some t) : wtL (l.take (i + 1)) = wtL (l.take i) + wtT t := by
  rw [List.take_add_one, h, wtL_append]
  show _ + wtL [t] = _
  rw [wtL_cons, wtL_nil, Nat.add_zero]
theorem wtL_take_le (l : List Tm) (i : Nat) : wtL (l.take i) ≤ wtL l := by
  have h := congrArg wtL (List.take_append_drop i l)
  rw [wtL_append] at h
  omega
theorem wtL_mem {l : List Tm} {t : Tm} (h : t ∈ l) : wtT t ≤ wtL l := by
  obtain ⟨i, hi⟩ := List.getElem?_of_mem h
  have := wtL_snoc hi
  have := wtL_take_le l (i + 1)
  omega
/-- What is told of a weight N, as far as m. -/
def Cnt (N : Nat) (m n : Int) : Prop := 0 ≤ n ∧ n ≤ (m + 1) * 281474976710656 ∧ ((N : Int) ≤ m → n = N) ∧ (m < N → m < n)
theorem Cnt.nil {m : Int} (hm : -1 ≤ m) : Cnt 0 m 0 := ⟨by omega, by omega, fun _ => rfl, fun h => by omega⟩
/-- One more, where what was told before is no more than m. -/
theorem Cnt.more {a b : Nat} {m n k : Int} (h : Cnt a m n) (hn : n ≤ m) (hk : Cnt b (m - n) k) : Cnt (a + b) m (n + k) ∧ n + k < 9223372036854775808 ∨ 3000 < m := by
  obtain ⟨h1, h2, h3, h4⟩ := h
  obtain ⟨k1, k2, k3, k4⟩ := hk
  by_cases hm : 3000 < m
  · exact .inr hm
  refine .inl ⟨⟨by omega, by omega, fun hN => ?_, fun hN => ?_⟩, by omega⟩
  · have e1 := h3 (by omega)
    have e2 := k3 (by omega)
    omega
  · by_cases ha : (a : Int) ≤ m
    · have e1 := h3 ha
      have := k4 (by omega)
      omega
    · have := h4 (by omega)
      omega
/-- A part, its kids told as far as one less. -/
theorem Cnt.part {b : Nat} {m k : Int} {s d : Nat} (hm : 0 ≤ m) (hs : s ≤ 140737488355328) (hd : d ≤ 140737488355328) (h : Cnt b (m - 1) k) : Cnt (1 + s / 8 + d + b) m (1 + (s : Int) / 8 + d + k) := by
  obtain ⟨h1, h2, h3, h4⟩ := h
  refine ⟨by omega, by omega, fun hN => ?_, fun hN => ?_⟩
  · have e := h3 (by omega)
    omega
  · by_cases hb : (b : Int) ≤ m - 1
    · have := h3 hb
      omega
    · have := h4 (by omega)
      omega
end Go.Proofs.YtlikpnaffpngiaaGreatDoor

/- Plain numbers: lists of decimal digits, the lowest first; cut into digits to the base 10^9. No program, no condition. -/
import Derived.Test.YthjgfkmnelefpaaGreatDoorMath
namespace Go.Proofs.YthjgfkmnelefpaaGreatDoor

/-- What a list of decimal digits stands for. -/
def dval : List Nat → Nat
  | [] => 0
  | d :: ds => d + 10 * dval ds

theorem dval_append (xs ys : List Nat) : dval (xs ++ ys) = dval xs + 10 ^ xs.length * dval ys := by
  induction xs with
  | nil => simp [dval]
  | cons x xs ih => simp only [List.cons_append, dval, ih, List.length_cons, Nat.pow_succ]; rw [Nat.mul_add, Nat.mul_comm (10 ^ xs.length) 10, Nat.mul_assoc]; omega
theorem dval_lt {ds : List Nat} (h : small 10 ds) : dval ds < 10 ^ ds.length := by
  induction ds with
  | nil => simp [dval]
  | cons d ds ih =>
    have h1 := h d (List.mem_cons_self ..)
    have h2 := ih (fun x hx => h x (List.mem_cons_of_mem _ hx))
    simp only [dval, List.length_cons, Nat.pow_succ]
    omega
theorem dval_strip (ds : List Nat) : dval (strip ds) = dval ds := by
  induction ds with
  | nil => rfl
  | cons d ds ih =>
    rw [strip]
    split
    · rename_i h
      rw [h] at ih
      simp only [dval] at ih ⊢
      split
      · rename_i h0; simp only [dval]; omega
      · simp only [dval]; omega
    · simp only [dval, ih]
/-- A right list of decimal digits: each below 10, the last one not 0. -/
def dright (ds : List Nat) : Prop := small 10 ds ∧ (ds = [] ∨ ds.getLast? ≠ some 0)
theorem strip_dright {ds : List Nat} (h : small 10 ds) : dright (strip ds) := ⟨fun x hx => h x (strip_mem ds x hx), strip_last ds⟩
theorem dval_pos {ds : List Nat} (hne : ds ≠ []) (hl : ds.getLast? ≠ some 0) : 0 < dval ds := by
  induction ds with
  | nil => exact absurd rfl hne
  | cons d ds ih =>
    cases ds with
    | nil =>
      have : d ≠ 0 := by simpa using hl
      simp [dval]; omega
    | cons x xs =>
      rw [List.getLast?_cons_cons] at hl
      have := ih (by simp) hl
      simp only [dval] at this ⊢
      omega
theorem dval_getD (ds : List Nat) (k : Nat) (hk : k < ds.length) : dval (ds.drop k) = ds.getD k 0 + 10 * dval (ds.drop (k + 1)) := by
  rw [List.drop_eq_getElem_cons hk, dval, List.getD_eq_getElem?_getD, List.getElem?_eq_getElem hk]; rfl

/-- The t-th digit to the base 10^9. -/
def chunk (ds : List Nat) (t : Nat) : Nat := dval ((ds.drop (9 * t)).take 9)
def chunks (ds : List Nat) (n : Nat) : List Nat := (List.range n).map (chunk ds)
theorem chunks_succ (ds : List Nat) (n : Nat) : chunks ds (n + 1) = chunks ds n ++ [chunk ds n] := by simp [chunks, List.range_succ]
theorem chunks_length (ds : List Nat) (n : Nat) : (chunks ds n).length = n := by simp [chunks]
theorem chunk_lt {ds : List Nat} (h : small 10 ds) (t : Nat) : chunk ds t < 1000000000 := by
  have h1 := dval_lt (small_take (small_drop h (9 * t)) 9)
  have h2 : 10 ^ ((ds.drop (9 * t)).take 9).length ≤ 10 ^ 9 := Nat.pow_le_pow_right (by omega) (by rw [List.length_take]; omega)
  have h3 : (10 : Nat) ^ 9 = 1000000000 := by decide
  unfold chunk
  omega
theorem chunks_small {ds : List Nat} (h : small 10 ds) (n : Nat) : small 1000000000 (chunks ds n) := by
  intro d hd
  obtain ⟨t, _, rfl⟩ := List.mem_map.1 hd
  exact chunk_lt h t
theorem chunks_val (ds : List Nat) (n : Nat) : val (chunks ds n) + 1000000000 ^ n * dval (ds.drop (9 * n)) = dval ds := by
  induction n with
  | zero => simp [chunks, val]
  | succ n ih =>
    rw [chunks_succ, val_snoc, chunks_length, ← ih]
    have h1 : ds.drop (9 * n) = (ds.drop (9 * n)).take 9 ++ ds.drop (9 * (n + 1)) := by
      rw [show 9 * (n + 1) = 9 * n + 9 from by omega, ← List.drop_drop, List.take_append_drop]
    have h2 : dval (ds.drop (9 * n)) = chunk ds n + 1000000000 * dval (ds.drop (9 * (n + 1))) := by
      rcases Nat.lt_or_ge (ds.drop (9 * n)).length 9 with h | h
      · have e : ds.drop (9 * (n + 1)) = [] := List.drop_of_length_le (by rw [List.length_drop] at h; omega)
        rw [e, chunk, List.take_of_length_le (by omega)]; simp [dval]
      · rw [h1, dval_append, List.length_take, Nat.min_eq_left h]; rfl
    rw [h2, Nat.pow_succ]
    generalize dval (ds.drop (9 * (n + 1))) = x
    rw [Nat.mul_add, Nat.mul_assoc, Nat.add_assoc]
/-- All of it, cut so: the right list of the number, if the last decimal digit is not 0. -/
theorem chunks_all {ds : List Nat} {n : Nat} (h : ds.length ≤ 9 * n) : val (chunks ds n) = dval ds := by
  have := chunks_val ds n
  rw [List.drop_of_length_le h] at this
  simpa [dval] using this
theorem chunks_right {ds : List Nat} {n : Nat} (hd : dright ds) (h : ds.length ≤ 9 * n) (h2 : n = 0 ∨ 9 * (n - 1) < ds.length) : right (chunks ds n) := by
  refine ⟨chunks_small hd.1 n, ?_⟩
  rcases Nat.eq_zero_or_pos n with rfl | hp
  · exact .inl rfl
  · right
    obtain ⟨m, rfl⟩ : ∃ m, n = m + 1 := ⟨n - 1, by omega⟩
    have h3 : 9 * m < ds.length := by
      rcases h2 with h2 | h2
      · omega
      · simpa using h2
    rw [chunks_succ]
    simp only [List.getLast?_append, List.getLast?_singleton, Option.some_or, ne_eq, Option.some.injEq]
    have e : chunk ds m = dval (ds.drop (9 * m)) := by rw [chunk, List.take_of_length_le (by rw [List.length_drop]; omega)]
    rw [e]
    have := dval_pos (ds := ds.drop (9 * m)) (by intro e; have := congrArg List.length e; rw [List.length_drop] at this; simp at this; omega) (by
      rw [List.getLast?_drop, if_neg (by omega)]
      rcases hd.2 with h | h
      · subst h; simp at h3
      · exact h)
    omega
end Go.Proofs.YthjgfkmnelefpaaGreatDoor

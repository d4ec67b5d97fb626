/- Plain numbers: what a list of digits to the base 10^9 stands for; right lists; that the right list of a number is one alone. No program, no condition. -/
namespace Go.Proofs.YtbccknhinmgibaaDoor

/-- What a list of digits stands for. -/
def val : List Nat → Nat
  | [] => 0
  | d :: ds => d + 1000000000 * val ds

theorem val_append (xs ys : List Nat) : val (xs ++ ys) = val xs + 1000000000 ^ xs.length * val ys := by
  induction xs with
  | nil => simp [val]
  | cons x xs ih => simp only [List.cons_append, val, ih, List.length_cons, Nat.pow_succ]; rw [Nat.mul_add, Nat.mul_comm (1000000000 ^ xs.length) 1000000000, Nat.mul_assoc]; omega

theorem val_snoc (xs : List Nat) (d : Nat) : val (xs ++ [d]) = val xs + 1000000000 ^ xs.length * d := by
  rw [val_append]; simp [val]

theorem val_take_succ (ds : List Nat) (k : Nat) (hk : k < ds.length) : val (ds.take (k + 1)) = val (ds.take k) + 1000000000 ^ k * ds.getD k 0 := by
  rw [List.take_add_one, List.getElem?_eq_getElem hk]
  simp only [Option.toList_some]
  rw [val_snoc, List.length_take, Nat.min_eq_left (by omega), List.getD_eq_getElem?_getD, List.getElem?_eq_getElem hk]
  rfl

def small (b : Nat) (ds : List Nat) : Prop := ∀ d ∈ ds, d < b

theorem small_nil (b : Nat) : small b [] := fun d h => by cases h
theorem small_snoc {b d : Nat} {ds : List Nat} (h : small b ds) (hd : d < b) : small b (ds ++ [d]) := by
  intro x hx
  rcases List.mem_append.1 hx with h1 | h1
  · exact h x h1
  · rw [List.mem_singleton.1 h1]; exact hd
theorem small_getD {ds : List Nat} {b : Nat} (h : small b ds) (hb : 0 < b) (k : Nat) : ds.getD k 0 < b := by
  rw [List.getD_eq_getElem?_getD]
  cases hk : ds[k]? with
  | none => simpa using hb
  | some x => simpa using h x (List.mem_of_getElem? hk)
theorem small_take {b : Nat} {ds : List Nat} (h : small b ds) (k : Nat) : small b (ds.take k) := fun d hd => h d (List.mem_of_mem_take hd)
theorem small_drop {b : Nat} {ds : List Nat} (h : small b ds) (k : Nat) : small b (ds.drop k) := fun d hd => h d (List.mem_of_mem_drop hd)
theorem small_mono {b b' : Nat} {ds : List Nat} (h : small b ds) (hb : b ≤ b') : small b' ds := fun d hd => Nat.lt_of_lt_of_le (h d hd) hb

theorem val_lt {ds : List Nat} (h : small 1000000000 ds) : val ds < 1000000000 ^ ds.length := by
  induction ds with
  | nil => simp [val]
  | cons d ds ih =>
    have h1 := h d (List.mem_cons_self ..)
    have h2 := ih (fun x hx => h x (List.mem_cons_of_mem _ hx))
    simp only [val, List.length_cons, Nat.pow_succ]
    omega

/-- The list without noughts behind. -/
def strip : List Nat → List Nat
  | [] => []
  | d :: ds => match strip ds with
    | [] => if d = 0 then [] else [d]
    | r => d :: r

theorem strip_take_of_zeros (ds : List Nat) (k : Nat) (h : ∀ j, k ≤ j → ds.getD j 0 = 0) (hk : k ≤ ds.length) (hlast : k = 0 ∨ ds.getD (k - 1) 0 ≠ 0) : strip ds = ds.take k := by
  induction ds generalizing k with
  | nil => simp at hk; subst hk; rfl
  | cons d ds ih =>
    cases k with
    | zero =>
      have h0 : d = 0 := by simpa using h 0 (by omega)
      have := ih 0 (fun j _ => by simpa using h (j + 1) (by omega)) (by omega) (.inl rfl)
      simp [strip, this, h0]
    | succ k =>
      have hh := ih k (fun j hj => by simpa using h (j + 1) (by omega)) (by simpa using hk) (by
        cases k with
        | zero => exact .inl rfl
        | succ k => right; rcases hlast with h1 | h1
                    · omega
                    · simpa using h1)
      rw [strip, hh]
      cases k with
      | zero =>
        have : d ≠ 0 := by
          rcases hlast with h1 | h1
          · omega
          · simpa using h1
        simp [this]
      | succ k =>
        cases ds with
        | nil => simp at hk
        | cons x xs => simp

def right (ds : List Nat) : Prop := small 1000000000 ds ∧ (ds = [] ∨ ds.getLast? ≠ some 0)

theorem strip_val (ds : List Nat) : val (strip ds) = val ds := by
  induction ds with
  | nil => rfl
  | cons d ds ih =>
    rw [strip]
    split
    · rename_i h
      rw [h] at ih
      simp only [val] at ih ⊢
      split
      · rename_i h0; simp only [val]; omega
      · simp only [val]; omega
    · simp only [val, ih]

theorem strip_mem (ds : List Nat) (x : Nat) (h : x ∈ strip ds) : x ∈ ds := by
  induction ds with
  | nil => exact h
  | cons d ds ih =>
    rw [strip] at h
    split at h
    · split at h
      · cases h
      · rw [List.mem_singleton.1 h]; exact List.mem_cons_self ..
    · rcases List.mem_cons.1 h with h1 | h1
      · rw [h1]; exact List.mem_cons_self ..
      · exact List.mem_cons_of_mem _ (ih h1)

theorem strip_last (ds : List Nat) : strip ds = [] ∨ (strip ds).getLast? ≠ some 0 := by
  induction ds with
  | nil => exact .inl rfl
  | cons d ds ih =>
    rw [strip]
    split
    · split
      · exact .inl rfl
      · right; simp; omega
    · rename_i r hr
      right
      rcases ih with h | h
      · exact absurd h hr
      · cases hs : strip ds with
        | nil => exact absurd hs hr
        | cons x xs => rw [hs] at h; rw [List.getLast?_cons_cons]; exact h

theorem strip_right {ds : List Nat} (h : small 1000000000 ds) : right (strip ds) := ⟨fun x hx => h x (strip_mem ds x hx), strip_last ds⟩

theorem strip_length (ds : List Nat) : (strip ds).length ≤ ds.length := by
  induction ds with
  | nil => exact Nat.le_refl _
  | cons d ds ih =>
    rw [strip]
    split
    · split <;> simp
    · simpa using ih

theorem right_nil : right [] := ⟨small_nil _, .inl rfl⟩

theorem right_tail {d : Nat} {ds : List Nat} (h : right (d :: ds)) : right ds := by
  refine ⟨fun x hx => h.1 x (List.mem_cons_of_mem _ hx), ?_⟩
  rcases h.2 with h1 | h1
  · cases h1
  · cases ds with
    | nil => exact .inl rfl
    | cons x xs => rw [List.getLast?_cons_cons] at h1; exact .inr h1

theorem right_pos {ds : List Nat} (h : right ds) (hne : ds ≠ []) : 1000000000 ^ (ds.length - 1) ≤ val ds := by
  induction ds with
  | nil => exact absurd rfl hne
  | cons d ds ih =>
    cases ds with
    | nil =>
      have : d ≠ 0 := by
        rcases h.2 with h1 | h1
        · cases h1
        · simpa using h1
      simp [val]; omega
    | cons x xs =>
      have := ih (right_tail h) (by simp)
      simp only [val, List.length_cons, Nat.add_sub_cancel, Nat.pow_succ] at this ⊢
      omega

theorem right_zero {ds : List Nat} (h : right ds) (h0 : val ds = 0) : ds = [] := by
  rcases Decidable.em (ds = []) with h1 | h1
  · exact h1
  · have := right_pos h h1
    have h2 : 0 < 1000000000 ^ (ds.length - 1) := Nat.pow_pos (by omega)
    omega

theorem right_unique {xs ys : List Nat} (hx : right xs) (hy : right ys) (h : val xs = val ys) : xs = ys := by
  induction xs generalizing ys with
  | nil => exact (right_zero hy (by rw [← h]; rfl)).symm
  | cons x xs ih =>
    cases ys with
    | nil => exact right_zero hx (by rw [h]; rfl)
    | cons y ys =>
      have h1 := hx.1 x (List.mem_cons_self ..)
      have h2 := hy.1 y (List.mem_cons_self ..)
      simp only [val] at h
      have e1 : x = y := by omega
      have e2 : val xs = val ys := by omega
      rw [e1, ih (right_tail hx) (right_tail hy) e2]

/-- The length tells how great a right list is. -/
theorem right_lt_of_length {xs ys : List Nat} (hx : right xs) (hy : right ys) (h : xs.length < ys.length) : val xs < val ys := by
  have h1 := val_lt hx.1
  have h2 := right_pos hy (fun e => by subst e; simp at h)
  have h3 : 1000000000 ^ xs.length ≤ 1000000000 ^ (ys.length - 1) := Nat.pow_le_pow_right (by omega) (by omega)
  omega

theorem right_length_le {xs : List Nat} (hx : right xs) {k : Nat} (h : val xs < 1000000000 ^ k) : xs.length ≤ k := by
  rcases Nat.lt_or_ge k xs.length with h1 | h1
  · have h2 := right_pos hx (fun e => by subst e; simp at h1)
    have h3 : 1000000000 ^ k ≤ 1000000000 ^ (xs.length - 1) := Nat.pow_le_pow_right (by omega) (by omega)
    omega
  · exact h1

theorem aux32 (d v q : Nat) (h1 : d < 4294967296) (h2 : v * 999999999 + 4294967295 ≤ q) : (d + 1000000000 * v) * 999999999 + 4294967295 ≤ q * 1000000000 := by
  have e : (d + 1000000000 * v) * 999999999 = d * 999999999 + 1000000000 * (v * 999999999) := by rw [Nat.add_mul, Nat.mul_assoc]
  have h3 := Nat.mul_le_mul_left 1000000000 h2
  have h4 : d * 999999999 ≤ 4294967295 * 999999999 := Nat.mul_le_mul_right _ (by omega)
  have e5 : 4294967295 * 999999999 + 4294967295 = 1000000000 * 4294967295 := by decide
  rw [Nat.mul_add] at h3
  rw [e, Nat.mul_comm q]
  exact Nat.le_trans (by rw [Nat.add_right_comm]; exact Nat.add_le_add_right (Nat.le_trans (Nat.add_le_add_right h4 _) (Nat.le_of_eq e5)) _) (Nat.le_trans (Nat.le_of_eq (Nat.add_comm _ _)) h3)
theorem val_lt32' {ds : List Nat} (h : small 4294967296 ds) : val ds * 999999999 + 4294967295 ≤ 4294967295 * 1000000000 ^ ds.length := by
  induction ds with
  | nil => simp [val]
  | cons d ds ih =>
    have h2 := aux32 d (val ds) _ (h d (List.mem_cons_self ..)) (ih (fun x hx => h x (List.mem_cons_of_mem _ hx)))
    rw [Nat.mul_assoc, ← Nat.pow_succ] at h2
    exact h2
theorem aux32' (v p : Nat) (h : v * 999999999 + 4294967295 ≤ 4294967295 * p) : v < p * 1000000000 := by omega
/-- A list of digits of 32 bits stands for a number of at most one digit more. -/
theorem val_lt32 {ds : List Nat} (h : small 4294967296 ds) : val ds < 1000000000 ^ (ds.length + 1) := by
  rw [Nat.pow_succ]
  exact aux32' _ _ (val_lt32' h)

end Go.Proofs.YtbccknhinmgibaaDoor

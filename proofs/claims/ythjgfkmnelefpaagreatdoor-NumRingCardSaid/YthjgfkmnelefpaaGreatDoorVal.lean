/- Values that read as numbers, whatever row they are: 'Rd' any row of 32-bit digits, 'Rr' a right row; and the calls of package nat over them. Rows of at most 4000 digits. -/
import Derived.Test.YthjgfkmnelefpaaGreatDoorLawMore
import Derived.Test.YthjgfkmnelefpaaGreatDoorRight
namespace Go.Proofs.YthjgfkmnelefpaaGreatDoor
open Go.RowKit

/-- v is a row that stands for n. -/
def Rd (W : World) (v : Value) (n : Nat) : Prop := ∃ A c xs, v = .slice A xs.length c ∧ Row W A (u32s xs) ∧ small 4294967296 xs ∧ xs.length ≤ 4000 ∧ val xs = n
/-- v is the right row of n. -/
def Rr (W : World) (v : Value) (n : Nat) : Prop := ∃ A c xs, v = .slice A xs.length c ∧ Row W A (u32s xs) ∧ right xs ∧ xs.length ≤ 4000 ∧ val xs = n
theorem Rr.rd {W : World} {v : Value} {n : Nat} (h : Rr W v n) : Rd W v n := by
  obtain ⟨A, c, xs, h1, h2, h3, h4, h5⟩ := h
  exact ⟨A, c, xs, h1, h2, small_mono' h3, h4, h5⟩
theorem Rd.below {W w' : World} {v : Value} {n : Nat} (h : Rd W v n) (hb : Below W.heap.size W w') : Rd w' v n := by
  obtain ⟨A, c, xs, h1, h2, h3⟩ := h
  exact ⟨A, c, xs, h1, h2.below hb, h3⟩
theorem Rr.below {W w' : World} {v : Value} {n : Nat} (h : Rr W v n) (hb : Below W.heap.size W w') : Rr w' v n := by
  obtain ⟨A, c, xs, h1, h2, h3⟩ := h
  exact ⟨A, c, xs, h1, h2.below hb, h3⟩
theorem Rd.alloc {W : World} {v : Value} {n : Nat} (h : Rd W v n) (o : Obj) : Rd (W.alloc o) v n := h.below ((Below.refl _ _).alloc (Nat.le_refl _) _)
theorem Rr.alloc {W : World} {v : Value} {n : Nat} (h : Rr W v n) (o : Obj) : Rr (W.alloc o) v n := h.below ((Below.refl _ _).alloc (Nat.le_refl _) _)
theorem bal {w W : World} (h : Below w.heap.size w W) (o : Obj) : Below w.heap.size w (W.alloc o) := h.alloc h.size o
theorem rd_of {W : World} {A : Option Addr} {c : Nat} {xs : List Nat} (h : Row W A (u32s xs)) (hd : small 4294967296 xs) (hl : xs.length ≤ 4000) : Rd W (.slice A xs.length c) (val xs) := ⟨A, c, xs, rfl, h, hd, hl, rfl⟩
/-- A row of one digit, written out. -/
theorem rr_one (W : World) (d : Nat) (h0 : d ≠ 0) (h : d < 1000000000) : Rr (W.alloc (.cells #[.int .u32 (d : Int)] 55)) (.slice (some ⟨W.heap.size, 0, none⟩) 1 1) d :=
  ⟨_, 1, [d], rfl, row_lit W 55 #[.int .u32 (d : Int)] [d] rfl, right_one h0 h, by simp, by simp [val]⟩

theorem rr_lit1 (W : World) : Rr (W.alloc (.cells #[.int .u32 1] 55)) (.slice (some ⟨W.heap.size, 0, none⟩) 1 1) 1 := rr_one W 1 (by decide) (by decide)

/-- A call that tells the right row of n. -/
def RetR (W : World) (n : Nat) (e : Ending) (w' : World) : Prop := ∃ A k c, e = .returned (.slice A k c) ∧ Rr w' (.slice A k c) n ∧ Below W.heap.size W w'
theorem Rr.shape {W : World} {v : Value} {n : Nat} (h : Rr W v n) : ∃ A k c, v = .slice A k c := by
  obtain ⟨A, c, xs, h1, _⟩ := h
  exact ⟨A, _, c, h1⟩
theorem rr_isNat {W : World} {B n N : Nat} {v : Value} (h : IsNat W B v n) (hn : n < 1000000000 ^ N) (hN : N ≤ 4000) : Rr W v n := by
  obtain ⟨rs, h1, h2, h3⟩ := h
  obtain ⟨A, c, e, hr, _⟩ := h3.slice32
  exact ⟨A, c, rs, e, hr, h1, Nat.le_trans (right_length_le h1 (by rw [h2]; exact hn)) hN, h2⟩
theorem retR_of {W w' : World} {n N : Nat} {e : Ending} (h : RetNat W n e w') (hn : n < 1000000000 ^ N) (hN : N ≤ 4000) : RetR W n e w' := by
  obtain ⟨v, he, hi, hb⟩ := h
  have hr := rr_isNat hi hn hN
  obtain ⟨A, k, c, rfl⟩ := hr.shape
  exact ⟨A, k, c, he, hr, hb⟩

theorem rows_of2 {W : World} {v1 v2 : Value} {n1 n2 : Nat} (h1 : Rd W v1 n1) (h2 : Rd W v2 n2) (T : TypeId) : ∃ L : List Arow, L.length = 2 ∧ Rows_ (W.alloc (.cells #[v1, v2] T)) (some ⟨W.heap.size, 0, none⟩) L ∧ vals L = [n1, n2] := by
  obtain ⟨A1, c1, xs, rfl, r1, d1, l1, e1⟩ := h1
  obtain ⟨A2, c2, ys, rfl, r2, d2, l2, e2⟩ := h2
  refine ⟨[(A1, c1, xs), (A2, c2, ys)], rfl, rows_lit (L := [(A1, c1, xs), (A2, c2, ys)]) T (by simp) fun r hr => ?_, by simp [vals, e1, e2]⟩
  rcases List.mem_cons.1 hr with rfl | hr
  · exact ⟨r1, d1, by show xs.length ≤ 10000; omega⟩
  · rw [List.mem_singleton.1 hr]; exact ⟨r2, d2, by show ys.length ≤ 10000; omega⟩
theorem rows_of3 {W : World} {v1 v2 v3 : Value} {n1 n2 n3 : Nat} (h1 : Rd W v1 n1) (h2 : Rd W v2 n2) (h3 : Rd W v3 n3) (T : TypeId) : ∃ L : List Arow, L.length = 3 ∧ Rows_ (W.alloc (.cells #[v1, v2, v3] T)) (some ⟨W.heap.size, 0, none⟩) L ∧ vals L = [n1, n2, n3] := by
  obtain ⟨A1, c1, xs, rfl, r1, d1, l1, e1⟩ := h1
  obtain ⟨A2, c2, ys, rfl, r2, d2, l2, e2⟩ := h2
  obtain ⟨A3, c3, zs, rfl, r3, d3, l3, e3⟩ := h3
  refine ⟨[(A1, c1, xs), (A2, c2, ys), (A3, c3, zs)], rfl, rows_lit (L := [(A1, c1, xs), (A2, c2, ys), (A3, c3, zs)]) T (by simp) fun r hr => ?_, by simp [vals, e1, e2, e3]⟩
  rcases List.mem_cons.1 hr with rfl | hr
  · exact ⟨r1, d1, by show xs.length ≤ 10000; omega⟩
  rcases List.mem_cons.1 hr with rfl | hr
  · exact ⟨r2, d2, by show ys.length ≤ 10000; omega⟩
  · rw [List.mem_singleton.1 hr]; exact ⟨r3, d3, by show zs.length ≤ 10000; omega⟩

theorem val_add2 {W : World} {v1 v2 : Value} {n1 n2 N : Nat} (h1 : Rd W v1 n1) (h2 : Rd W v2 n2) (hn : n1 + n2 < 1000000000 ^ N) (hN : N ≤ 4000) :
    Calls Tryz.prog 74 #[.slice (some ⟨W.heap.size, 0, none⟩) 2 2] (W.alloc (.cells #[v1, v2] 27)) (RetR (W.alloc (.cells #[v1, v2] 27)) (n1 + n2)) := by
  obtain ⟨L, hl, hL, hv⟩ := rows_of2 h1 h2 27
  have h := add_any (N := N) (c := 2) hL (fun k hk => by
    rw [hv]; rw [hl] at hk
    match k, hk with
    | 0, _ => simp; omega
    | 1, _ => simp; omega
    | k + 2, hk => simp; exact hn) (by omega) (by omega)
  rw [hl, hv] at h
  have e : [n1, n2].foldl (fun a b => a + b) 0 = n1 + n2 := by simp
  rw [e] at h
  exact h.mono fun _ _ k => retR_of k hn hN
theorem val_add3 {W : World} {v1 v2 v3 : Value} {n1 n2 n3 N : Nat} (h1 : Rd W v1 n1) (h2 : Rd W v2 n2) (h3 : Rd W v3 n3) (hn : n1 + n2 + n3 < 1000000000 ^ N) (hN : N ≤ 4000) :
    Calls Tryz.prog 74 #[.slice (some ⟨W.heap.size, 0, none⟩) 3 3] (W.alloc (.cells #[v1, v2, v3] 27)) (RetR (W.alloc (.cells #[v1, v2, v3] 27)) (n1 + n2 + n3)) := by
  obtain ⟨L, hl, hL, hv⟩ := rows_of3 h1 h2 h3 27
  have h := add_any (N := N) (c := 3) hL (fun k hk => by
    rw [hv]; rw [hl] at hk
    match k, hk with
    | 0, _ => simp; omega
    | 1, _ => simp; omega
    | 2, _ => simp; omega
    | k + 3, hk => simp; exact hn) (by omega) (by omega)
  rw [hl, hv] at h
  have e : [n1, n2, n3].foldl (fun a b => a + b) 0 = n1 + n2 + n3 := by simp
  rw [e] at h
  exact h.mono fun _ _ k => retR_of k hn hN
theorem val_mul2 {W : World} {v1 v2 : Value} {n1 n2 N : Nat} (h1 : Rd W v1 n1) (h2 : Rd W v2 n2) (hn1 : n1 < 1000000000 ^ N) (hn : n1 * n2 < 1000000000 ^ N) (hN : N ≤ 4000) (hN0 : 0 < N) :
    Calls Tryz.prog 79 #[.slice (some ⟨W.heap.size, 0, none⟩) 2 2] (W.alloc (.cells #[v1, v2] 27)) (RetR (W.alloc (.cells #[v1, v2] 27)) (n1 * n2)) := by
  obtain ⟨L, hl, hL, hv⟩ := rows_of2 h1 h2 27
  have h1N : 1 < 1000000000 ^ N := Nat.one_lt_pow (by omega) (by decide)
  have h := mul_any (N := N) (c := 2) hL (fun k hk => by
    rw [hv]; rw [hl] at hk
    match k, hk with
    | 0, _ => simpa using h1N
    | 1, _ => simpa using hn1
    | k + 2, hk => simpa using hn) (by omega) (by omega)
  rw [hl, hv] at h
  have e : [n1, n2].foldl (fun a b => a * b) 1 = n1 * n2 := by simp
  rw [e] at h
  exact h.mono fun _ _ k => retR_of k hn hN
theorem val_mul3 {W : World} {v1 v2 v3 : Value} {n1 n2 n3 N : Nat} (h1 : Rd W v1 n1) (h2 : Rd W v2 n2) (h3 : Rd W v3 n3) (hn1 : n1 < 1000000000 ^ N) (hn2 : n1 * n2 < 1000000000 ^ N) (hn : n1 * n2 * n3 < 1000000000 ^ N) (hN : N ≤ 4000) (hN0 : 0 < N) :
    Calls Tryz.prog 79 #[.slice (some ⟨W.heap.size, 0, none⟩) 3 3] (W.alloc (.cells #[v1, v2, v3] 27)) (RetR (W.alloc (.cells #[v1, v2, v3] 27)) (n1 * n2 * n3)) := by
  obtain ⟨L, hl, hL, hv⟩ := rows_of3 h1 h2 h3 27
  have h1N : 1 < 1000000000 ^ N := Nat.one_lt_pow (by omega) (by decide)
  have h := mul_any (N := N) (c := 3) hL (fun k hk => by
    rw [hv]; rw [hl] at hk
    match k, hk with
    | 0, _ => simpa using h1N
    | 1, _ => simpa using hn1
    | 2, _ => simpa using hn2
    | k + 3, hk => simpa using hn) (by omega) (by omega)
  rw [hl, hv] at h
  have e : [n1, n2, n3].foldl (fun a b => a * b) 1 = n1 * n2 * n3 := by simp
  rw [e] at h
  exact h.mono fun _ _ k => retR_of k hn hN

theorem val_trim {W : World} {v : Value} {n N : Nat} (h : Rd W v n) (hn : n < 1000000000 ^ N) (hN : N ≤ 4000) :
    Calls Tryz.prog 68 #[v] W (RetR W n) := by
  obtain ⟨A, c, xs, rfl, r, d, l, e⟩ := h
  have := trimRow_any (c := c) r d (by omega)
  rw [e] at this
  exact this.mono fun _ _ k => retR_of k hn hN
theorem val_cmp {W : World} {v1 v2 : Value} {n1 n2 : Nat} (h1 : Rd W v1 n1) (h2 : Rd W v2 n2) :
    Calls Tryz.prog 86 #[v1, v2] W fun e w' => e = .returned (.int .i64 (ordI (n1 : Int) (n2 : Int))) ∧ Below W.heap.size W w' := by
  obtain ⟨A1, c1, xs, rfl, r1, p1, l1, e1⟩ := h1
  obtain ⟨A2, c2, ys, rfl, r2, p2, l2, e2⟩ := h2
  have := cmp_any (c1 := c1) (c2 := c2) r1 r2 p1 p2 (by omega) (by omega)
  rw [e1, e2] at this
  exact this
theorem val_right {W : World} {v : Value} {n : Nat} (h : Rr W v n) : Calls Tryz.prog 50 #[v] W fun e w' => e = .returned (.bool true) ∧ W = w' := by
  obtain ⟨A, c, xs, rfl, r, p, l, e⟩ := h
  exact (right_any r (small_mono' p) (by omega)).mono fun _ _ k => ⟨by
    rcases k.1 with ⟨_, h⟩ | ⟨h, _⟩
    · exact h
    · exact absurd p h, k.2⟩
/-- Two values and true. -/
def RetS (W : World) (n : Nat) (e : Ending) (w' : World) : Prop := ∃ A k c, e = .returned (.tuple #[.slice A k c, .bool true]) ∧ Rr w' (.slice A k c) n ∧ Below W.heap.size W w'
theorem val_sub {W : World} {v1 v2 : Value} {n1 n2 N : Nat} (h1 : Rd W v1 n1) (h2 : Rd W v2 n2) (hle : n2 ≤ n1) (hn : n1 < 1000000000 ^ N) (hN : N ≤ 4000) :
    Calls Tryz.prog 75 #[v1, v2] W (RetS W (n1 - n2)) := by
  obtain ⟨A1, c1, xs, rfl, r1, p1, l1, e1⟩ := h1
  obtain ⟨A2, c2, ys, rfl, r2, p2, l2, e2⟩ := h2
  have := sub_yes (c1 := c1) (c2 := c2) r1 r2 p1 p2 (by omega) (by omega) (by rw [e1, e2]; exact hle)
  rw [e1, e2] at this
  refine this.mono fun _ _ ⟨v, he, hi, hb⟩ => ?_
  have hr := rr_isNat hi (Nat.lt_of_le_of_lt (Nat.sub_le _ _) hn) hN
  obtain ⟨A, k, c, rfl⟩ := hr.shape
  exact ⟨A, k, c, he, hr, hb⟩
theorem val_sub_no {W : World} {v1 v2 : Value} {n1 n2 : Nat} (h1 : Rd W v1 n1) (h2 : Rd W v2 n2) (hlt : n1 < n2) :
    Calls Tryz.prog 75 #[v1, v2] W fun e w' => e = .returned (.tuple #[.slice none 0 0, .bool false]) ∧ Below W.heap.size W w' := by
  obtain ⟨A1, c1, xs, rfl, r1, p1, l1, e1⟩ := h1
  obtain ⟨A2, c2, ys, rfl, r2, p2, l2, e2⟩ := h2
  exact sub_no (c1 := c1) (c2 := c2) r1 r2 p1 p2 (by omega) (by omega) (by rw [e1, e2]; exact hlt)
def RetD (W : World) (q r : Nat) (e : Ending) (w' : World) : Prop := ∃ A k c B j d, e = .returned (.tuple #[.slice A k c, .slice B j d, .bool true]) ∧ Rr w' (.slice A k c) q ∧ Rr w' (.slice B j d) r ∧ Below W.heap.size W w'
theorem val_div {W : World} {v1 v2 : Value} {n1 n2 N : Nat} (h1 : Rd W v1 n1) (h2 : Rd W v2 n2) (h0 : 0 < n2) (hn : n1 < 1000000000 ^ N) (hN : N ≤ 4000) :
    Calls Tryz.prog 81 #[v1, v2] W (RetD W (n1 / n2) (n1 % n2)) := by
  obtain ⟨A1, c1, xs, rfl, r1, p1, l1, e1⟩ := h1
  obtain ⟨A2, c2, ys, rfl, r2, p2, l2, e2⟩ := h2
  have := divMod_all (c1 := c1) (c2 := c2) r1 r2 p1 p2 (by omega) (by omega) (by rw [e2]; exact h0)
  rw [e1, e2] at this
  refine this.mono fun _ _ ⟨v, u, he, hv, hu, hb⟩ => ?_
  have hr := rr_isNat hv (Nat.lt_of_le_of_lt (Nat.div_le_self _ _) hn) hN
  have hs := rr_isNat hu (Nat.lt_of_le_of_lt (Nat.mod_le _ _) hn) hN
  obtain ⟨A, k, c, rfl⟩ := hr.shape
  obtain ⟨B, j, d, rfl⟩ := hs.shape
  exact ⟨A, k, c, B, j, d, he, hr, hs, hb⟩
theorem val_div_no {W : World} {v1 v2 : Value} {n1 : Nat} (h1 : Rd W v1 n1) (h2 : Rd W v2 0) :
    Calls Tryz.prog 81 #[v1, v2] W fun e w' => e = .returned (.tuple #[.slice none 0 0, .slice none 0 0, .bool false]) ∧ Below W.heap.size W w' := by
  obtain ⟨A1, c1, xs, rfl, r1, p1, l1, e1⟩ := h1
  obtain ⟨A2, c2, ys, rfl, r2, p2, l2, e2⟩ := h2
  exact divMod_no r2 p2 (by omega) e2
theorem rr_nil (W : World) : Rr W (.slice none 0 0) 0 := ⟨none, 0, [], rfl, Row.nil _ _, right_nil, by simp, rfl⟩
/-- A difference, and whether there is one. -/
def RetSB (W : World) (n : Nat) (b : Bool) (e : Ending) (w' : World) : Prop := ∃ A k c, e = .returned (.tuple #[.slice A k c, .bool b]) ∧ Rr w' (.slice A k c) n ∧ Below W.heap.size W w'
theorem all_sub {W : World} {v1 v2 : Value} {n1 n2 N : Nat} (h1 : Rd W v1 n1) (h2 : Rd W v2 n2) (hn : n1 < 1000000000 ^ N) (hN : N ≤ 4000) :
    Calls Tryz.prog 75 #[v1, v2] W (RetSB W (n1 - n2) (decide (n2 ≤ n1))) := by
  by_cases h : n2 ≤ n1
  · rw [decide_eq_true h]; exact val_sub h1 h2 h hn hN
  · rw [decide_eq_false h, Nat.sub_eq_zero_of_le (by omega)]
    exact (val_sub_no h1 h2 (by omega)).mono fun _ _ ⟨a, b⟩ => ⟨none, 0, 0, a, rr_nil _, b⟩
/-- The rest, 0 where there is no quotient. -/
def restOf (a b : Nat) : Nat := if b = 0 then 0 else a % b
def RetDB (W : World) (q r : Nat) (b : Bool) (e : Ending) (w' : World) : Prop := ∃ A k c B j d, e = .returned (.tuple #[.slice A k c, .slice B j d, .bool b]) ∧ Rr w' (.slice A k c) q ∧ Rr w' (.slice B j d) r ∧ Below W.heap.size W w'
theorem all_div {W : World} {v1 v2 : Value} {n1 n2 N : Nat} (h1 : Rd W v1 n1) (h2 : Rd W v2 n2) (hn : n1 < 1000000000 ^ N) (hN : N ≤ 4000) :
    Calls Tryz.prog 81 #[v1, v2] W (RetDB W (n1 / n2) (restOf n1 n2) (decide (0 < n2))) := by
  by_cases h : n2 = 0
  · subst h
    rw [decide_eq_false (by omega), Nat.div_zero, restOf, if_pos rfl]
    exact (val_div_no h1 h2).mono fun _ _ ⟨a, b⟩ => ⟨none, 0, 0, none, 0, 0, a, rr_nil _, rr_nil _, b⟩
  · rw [decide_eq_true (show 0 < n2 by omega), restOf, if_neg h]; exact val_div h1 h2 (by omega) hn hN
end Go.Proofs.YthjgfkmnelefpaaGreatDoor

/- DivMod's one example that the law asks for: 1000000000 by 7. What the laws of sums, products and quotients share: products written out in new memory; DivMod for any rows. -/
import Derived.Test.YthjgfkmnelefpaaGreatDoorAwake
import Derived.Test.YthjgfkmnelefpaaGreatDoorDivMod
import Derived.Test.YthjgfkmnelefpaaGreatDoorLawKit
import Derived.Test.YthjgfkmnelefpaaGreatDoorFoldMul
import Derived.Test.YthjgfkmnelefpaaGreatDoorMinus
import Derived.Test.YthjgfkmnelefpaaGreatDoorLong
import Derived.Test.YthjgfkmnelefpaaGreatDoorDecOrd
namespace Go.Proofs.YthjgfkmnelefpaaGreatDoor
open Go.RowKit

theorem dm_ex : DmEx := fun w A1 A2 c1 c2 h1 h2 => by
  have h := divMod_yes (w := w) (c1 := c1) (c2 := c2) (xs := [0, 1]) (ys := [7]) h1 h2 (fun d hd => by
    rcases List.mem_cons.1 hd with rfl | hd
    · decide
    · rw [List.mem_singleton.1 hd]; decide) (fun d hd => by rw [List.mem_singleton.1 hd]; decide) (by simp) (by simp) (by simp [val]) (.inl (by simp [val]))
  refine h.mono fun e w' hh => ?_
  obtain ⟨v, u, he, hv, hu, hb⟩ := hh
  have e1 : val [0, 1] / val [7] = 142857142 := by simp [val]
  have e2 : val [0, 1] % val [7] = 6 := by simp [val]
  rw [e1] at hv
  rw [e2] at hu
  exact ⟨v, u, he, hv, hu, hb⟩
end Go.Proofs.YthjgfkmnelefpaaGreatDoor

namespace Go.Proofs.YthjgfkmnelefpaaGreatDoor
open Go.RowKit

theorem bstep {w W w' : World} (h1 : Below w.heap.size w W) (h2 : Below W.heap.size W w') : Below w.heap.size w w' := h1.trans (h2.mono h1.size)

theorem small_mono' {rs : List Nat} (h : right rs) : small 4294967296 rs := small_mono h.1 (by decide)
/-- DivMod for any rows, the divisor above 0. -/
theorem divMod_all {w : World} {A1 A2 : Option Addr} {c1 c2 : Nat} {xs ys : List Nat} (hr1 : Row w A1 (u32s xs)) (hr2 : Row w A2 (u32s ys)) (hx : small 4294967296 xs) (hy : small 4294967296 ys) (hl1 : xs.length ≤ 10000) (hl2 : ys.length ≤ 10000) (h0 : 0 < val ys) :
    Calls Tryz.prog 81 #[.slice A1 xs.length c1, .slice A2 ys.length c2] w (RetQR w (val xs / val ys) (val xs % val ys)) :=
  divMod_yes hr1 hr2 hx hy hl1 hl2 h0 (.inr long_any)

/-- The product of two rows, written out in new memory. -/
theorem mul_two {w : World} {A1 A2 : Option Addr} {c1 c2 : Nat} {xs ys : List Nat} (hr1 : Row w A1 (u32s xs)) (hr2 : Row w A2 (u32s ys)) (hx : small 4294967296 xs) (hy : small 4294967296 ys) (hl1 : xs.length ≤ 1000) (hl2 : ys.length ≤ 1000) :
    Calls Tryz.prog 79 #[.slice (some ⟨w.heap.size, 0, none⟩) 2 2] (w.alloc (.cells #[.slice A1 xs.length c1, .slice A2 ys.length c2] 27)) (RetNat (w.alloc (.cells #[.slice A1 xs.length c1, .slice A2 ys.length c2] 27)) (val xs * val ys)) := by
  have hR : Rows_ (w.alloc (.cells #[.slice A1 xs.length c1, .slice A2 ys.length c2] 27)) (some ⟨w.heap.size, 0, none⟩) [(A1, c1, xs), (A2, c2, ys)] :=
    rows_lit (L := [(A1, c1, xs), (A2, c2, ys)]) 27 (by simp) fun r hr => by
      rcases List.mem_cons.1 hr with rfl | hr
      · exact ⟨hr1, hx, by show xs.length ≤ 10000; omega⟩
      · rw [List.mem_singleton.1 hr]; exact ⟨hr2, hy, by show ys.length ≤ 10000; omega⟩
  obtain ⟨M, hM1, hM2⟩ : ∃ M, M ≤ 1001 ∧ 1001 ≤ M := ⟨1001, Nat.le_refl _, Nat.le_refl _⟩
  have hv1 : val xs < 1000000000 ^ M := Nat.lt_of_lt_of_le (val_lt32 hx) (Nat.pow_le_pow_right (by decide) (by omega))
  have hv2 : val ys < 1000000000 ^ M := Nat.lt_of_lt_of_le (val_lt32 hy) (Nat.pow_le_pow_right (by decide) (by omega))
  have hp : 1 ≤ 1000000000 ^ M := Nat.pow_pos (by decide)
  have hv12 : val xs * val ys < 1000000000 ^ (M + M) := by
    rw [Nat.pow_add]; exact Nat.mul_lt_mul'' hv1 hv2
  have hMM : 1000000000 ^ M < 1000000000 ^ (M + M) := Nat.pow_lt_pow_right (by decide) (by omega)
  have h := mul_any (N := M + M) (c := 2) hR (fun k hk => by
    match k, hk with
    | 0, _ => simp; omega
    | 1, _ => simp [vals]; omega
    | k + 2, hk => simp [vals]; exact hv12) (by omega) (by simp)
  have e : (vals [(A1, c1, xs), (A2, c2, ys)]).foldl (fun a b => a * b) 1 = val xs * val ys := by simp [vals]
  rw [e] at h
  exact h

/-- A nought behind a number's text. -/
theorem dtext_ten {m : Nat} (h : 0 < m) : dtext m ++ ⟨#[48]⟩ = dtext (m * 10) := by
  have e : Lib.decDigits (m * 10) = Lib.decDigits m ++ [48] := by
    rw [decDigits_big (by omega), Nat.mul_div_cancel _ (by decide), Nat.mul_mod_left]; rfl
  unfold dtext
  rw [e]
  apply ByteArray.ext
  simp
end Go.Proofs.YthjgfkmnelefpaaGreatDoor

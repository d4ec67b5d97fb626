/- Contract of nat.guess: the digit guessed out of the highest digits is the quotient's, or 1 more; at most 10^9. Rows of digits below 10^9; at most 100000 digits. -/
import Derived.Test.YtffcacpffamjfaaDoorDiv64
import Derived.Test.YtffcacpffamjfaaDoorPlain
import Derived.Test.YtffcacpffamjfaaDoorTake
import Derived.Laws.Externs
namespace Go.Proofs.YtffcacpffamjfaaDoor
open Go.RowKit

/-- The value of a list out of its parts from place k on. -/
theorem val_take_drop (ds : List Nat) (k : Nat) (hk : k ≤ ds.length) : val (ds.drop k) = val ds / 1000000000 ^ k ∨ ¬ small 1000000000 ds := by
  by_cases hs : small 1000000000 ds
  · left
    have h1 := val_split ds k hk
    have h2 := val_lt (small_take hs k)
    rw [List.length_take, Nat.min_eq_left hk] at h2
    rw [h1, Nat.add_comm, Nat.mul_add_div (Nat.pow_pos (by decide)), Nat.div_eq_of_lt h2, Nat.add_zero]
  · exact .inr hs
theorem val_high {ds : List Nat} (hs : small 1000000000 ds) (k : Nat) (hk : k ≤ ds.length) : val (ds.drop k) = val ds / 1000000000 ^ k := (val_take_drop ds k hk).resolve_right (fun h => h hs)
theorem val_drop2 (ds : List Nat) {n : Nat} (h : ds.length = n + 2) : val (ds.drop n) = ds.getD n 0 + 1000000000 * ds.getD (n + 1) 0 := by
  rw [val_drop ds n (by omega), val_drop ds (n + 1) (by omega), List.drop_of_length_le (by omega)]; simp [val]
theorem val_drop3 (ds : List Nat) {n : Nat} (h : ds.length = n + 3) : val (ds.drop n) = ds.getD n 0 + 1000000000 * (ds.getD (n + 1) 0 + 1000000000 * ds.getD (n + 2) 0) := by
  rw [val_drop ds n (by omega), val_drop ds (n + 1) (by omega), val_drop ds (n + 1 + 1) (by omega), List.drop_of_length_le (by omega)]; simp [val]

/-- math/bits.Add64, which the model has as it is. -/
theorem add64_any (x y : Nat) (w : World) : (callFunc 70 #[.int .u64 (x : Int), .int .u64 (y : Int), .int .u64 0]).run Tryd.prog w = .ok (.value (.tuple #[.int .u64 (((x + y) % 18446744073709551616 : Nat) : Int), .int .u64 (((x + y) / 18446744073709551616 : Nat) : Int)])) w := by
  have h := run_add64 (P := Tryd.prog) (x : Int) (y : Int) 0 (by omega) (by omega) (by omega) (by omega) w
  rw [run_callFunc_extern Tryd.func70 (by kernel_rfl) (by kernel_rfl) (by kernel_rfl) (e := add64Entry) (by kernel_rfl), h]
  simp [Result.andThen]

/-- What guess tells. -/
def GuessRet (a b : Nat) (e : Ending) : Prop := ∃ dg : Nat, e = .returned (.int .u64 (dg : Int)) ∧ a / b ≤ dg ∧ dg ≤ a / b + 1 ∧ dg ≤ 1000000000
theorem guess_ret {a b : Nat} {x : Int} (dg : Nat) (hx : x = (dg : Int)) (h : a / b ≤ dg ∧ dg ≤ a / b + 1 ∧ dg ≤ 1000000000) : GuessRet a b (.returned (.int .u64 x)) := ⟨dg, by rw [hx], h⟩

set_option maxRecDepth 100000 in
set_option maxHeartbeats 400000 in
theorem guess_any {w : World} {A1 A2 : Option Addr} {c1 c2 : Nat} {ps ys : List Nat} (hr1 : Row w A1 (u32s ps)) (hr2 : Row w A2 (u32s ys)) (hsp : small 1000000000 ps) (hsy : small 1000000000 ys) (hl : ps.length = ys.length + 1) (h2 : 2 ≤ ys.length) (hl2 : ys.length ≤ 100000)
    (htop : ys.getD (ys.length - 1) 0 ≠ 0) (hlt : val ps < val ys * 1000000000) :
    Calls Tryd.prog 58 #[.slice A1 ps.length c1, .slice A2 ys.length c2] w fun e w' => GuessRet (val ps) (val ys) e ∧ Drawn w w' := by
  obtain ⟨n, hn⟩ : ∃ n, ys.length = n + 2 := ⟨ys.length - 2, by omega⟩
  have hpn : ps.length = n + 3 := by omega
  have hsp' := small_mono hsp (show 1000000000 ≤ 4294967296 by decide)
  have hsy' := small_mono hsy (show 1000000000 ≤ 4294967296 by decide)
  obtain ⟨p0, hp0⟩ : ∃ d, d = ps.getD n 0 := ⟨_, rfl⟩
  obtain ⟨p1, hp1⟩ : ∃ d, d = ps.getD (n + 1) 0 := ⟨_, rfl⟩
  obtain ⟨p2, hp2⟩ : ∃ d, d = ps.getD (n + 2) 0 := ⟨_, rfl⟩
  obtain ⟨d0, hd0⟩ : ∃ d, d = ys.getD n 0 := ⟨_, rfl⟩
  obtain ⟨d1, hd1⟩ : ∃ d, d = ys.getD (n + 1) 0 := ⟨_, rfl⟩
  have bp0 : p0 < 1000000000 := by rw [hp0]; exact small_getD hsp (by decide) _
  have bp1 : p1 < 1000000000 := by rw [hp1]; exact small_getD hsp (by decide) _
  have bp2 : p2 < 1000000000 := by rw [hp2]; exact small_getD hsp (by decide) _
  have bd0 : d0 < 1000000000 := by rw [hd0]; exact small_getD hsy (by decide) _
  have bd1 : d1 < 1000000000 := by rw [hd1]; exact small_getD hsy (by decide) _
  have td1 : 1 ≤ d1 := by
    rw [hn, show n + 2 - 1 = n + 1 from by omega, ← hd1] at htop; omega
  have vp := val_drop3 ps hpn
  have vy := val_drop2 ys hn
  rw [val_high hsp n (by omega), ← hp0, ← hp1, ← hp2] at vp
  rw [val_high hsy n (by omega), ← hd0, ← hd1] at vy
  obtain ⟨P, hP⟩ : ∃ P, P = p0 + 1000000000 * (p1 + 1000000000 * p2) := ⟨_, rfl⟩
  obtain ⟨D, hD⟩ : ∃ D, D = d0 + 1000000000 * d1 := ⟨_, rfl⟩
  rw [← hP] at vp
  rw [← hD] at vy
  have hg := guess_math (P := val ps) (D := val ys) (K := 1000000000 ^ n) (B := 1000000000) (p := P) (d := D) (Nat.pow_pos (by decide)) vp.symm vy.symm (by decide) (by omega) hlt
  have hPD : P < (D + 1) * 1000000000 := by
    have k1 : val ys < (D + 1) * 1000000000 ^ n := by
      rw [← Nat.div_lt_iff_lt_mul (Nat.pow_pos (by decide)), vy]; exact Nat.lt_succ_self _
    rw [← vp, Nat.div_lt_iff_lt_mul (Nat.pow_pos (by decide))]
    have k2 : val ys * 1000000000 ≤ (D + 1) * 1000000000 ^ n * 1000000000 := Nat.mul_le_mul_right _ (Nat.le_of_lt k1)
    rw [Nat.mul_right_comm] at k2
    omega
  have hD1 : D < 1000000000000000000 := by omega
  have hD2 : 1000000000 ≤ D := by omega
  obtain ⟨x, hx⟩ : ∃ x, x = p2 * 1000000000 + p1 := ⟨_, rfl⟩
  obtain ⟨h1, hh1⟩ : ∃ h, h = x * 1000000000 / 18446744073709551616 := ⟨_, rfl⟩
  obtain ⟨l1, hl1⟩ : ∃ h, h = x * 1000000000 % 18446744073709551616 := ⟨_, rfl⟩
  obtain ⟨l2, hl2'⟩ : ∃ h, h = (l1 + p0) % 18446744073709551616 := ⟨_, rfl⟩
  obtain ⟨cy, hcy⟩ : ∃ h, h = (l1 + p0) / 18446744073709551616 := ⟨_, rfl⟩
  have hsum : (h1 + cy) * 18446744073709551616 + l2 = P := by omega
  have hhD : h1 + cy < D := by omega
  have bx : x < 1000000000000000000 := by omega
  have bl1 : l1 < 18446744073709551616 := by omega
  have bl2 : l2 < 18446744073709551616 := by omega
  have bh1 : h1 < 1000000000000000000 := by omega
  have bcy : cy ≤ 1 := by omega
  have q0 : ∀ W, Drawn w W → Calls Tryd.prog 47 #[.slice A1 (n + 3) c1, .int .i64 (n : Int)] W (fun e w' => e = .returned (.int .u64 (p0 : Int)) ∧ W = w') := fun W hW => by
    have := at_any (c := c1) (hr1.drawn hW) hsp' (n : Int) (by omega)
    rw [Int.toNat_natCast, ← hp0, hpn] at this; exact this
  have q1 : ∀ W, Drawn w W → Calls Tryd.prog 47 #[.slice A1 (n + 3) c1, .int .i64 ((n : Int) + 2 - 1)] W (fun e w' => e = .returned (.int .u64 (p1 : Int)) ∧ W = w') := fun W hW => by
    have := at_any (c := c1) (hr1.drawn hW) hsp' ((n : Int) + 2 - 1) (by omega)
    rw [show ((n : Int) + 2 - 1).toNat = n + 1 from by omega, ← hp1, hpn] at this; exact this
  have q2 : ∀ W, Drawn w W → Calls Tryd.prog 47 #[.slice A1 (n + 3) c1, .int .i64 ((n : Int) + 2)] W (fun e w' => e = .returned (.int .u64 (p2 : Int)) ∧ W = w') := fun W hW => by
    have := at_any (c := c1) (hr1.drawn hW) hsp' ((n : Int) + 2) (by omega)
    rw [show ((n : Int) + 2).toNat = n + 2 from by omega, ← hp2, hpn] at this; exact this
  have q3 : ∀ W, Drawn w W → Calls Tryd.prog 47 #[.slice A2 (n + 2) c2, .int .i64 (n : Int)] W (fun e w' => e = .returned (.int .u64 (d0 : Int)) ∧ W = w') := fun W hW => by
    have := at_any (c := c2) (hr2.drawn hW) hsy' (n : Int) (by omega)
    rw [Int.toNat_natCast, ← hd0, hn] at this; exact this
  have q4 : ∀ W, Drawn w W → Calls Tryd.prog 47 #[.slice A2 (n + 2) c2, .int .i64 ((n : Int) + 2 - 1)] W (fun e w' => e = .returned (.int .u64 (d1 : Int)) ∧ W = w') := fun W hW => by
    have := at_any (c := c2) (hr2.drawn hW) hsy' ((n : Int) + 2 - 1) (by omega)
    rw [show ((n : Int) + 2 - 1).toNat = n + 1 from by omega, ← hd1, hn] at this; exact this
  have qm : ∀ W, Drawn w W → Calls Tryd.prog 69 #[.int .u64 x, .int .u64 1000000000] W (fun e w' => e = .returned (.tuple #[.int .u64 (h1 : Int), .int .u64 (l1 : Int)]) ∧ W = w') := fun W hW => by
    have := Tryd.bits_Mul64 x 1000000000 (by omega) (by omega) W
    rw [← hh1, ← hl1] at this; exact this.mono fun _ _ k => ⟨k.1, k.2.symm⟩
  have hadd := fun W => add64_any l1 p0 W
  rw [← hl2', ← hcy] at hadd
  have qd : ∀ W, Calls Tryd.prog 71 #[.int .u64 ((h1 : Int) + (cy : Int)), .int .u64 (l2 : Int), .int .u64 (D : Int)] W (fun e w' => e = .returned (.tuple #[.int .u64 ((P / D : Nat) : Int), .int .u64 ((P % D : Nat) : Int)]) ∧ ∃ m, w' = W.drewN m) := fun W => by
    have := div64_any (hi := h1 + cy) (lo := l2) (y := D) (by omega) hD1 hhD bl2 W
    unfold DivRet at this
    rw [hsum] at this
    rw [show ((h1 : Int) + (cy : Int)) = ((h1 + cy : Nat) : Int) from by simp]
    exact this
  have QD := Lib.hid qd
  have Q0 := Lib.hid q0
  have Q1 := Lib.hid q1
  have Q2 := Lib.hid q2
  have Q3 := Lib.hid q3
  have Q4 := Lib.hid q4
  have QM := Lib.hid qm
  have HG := Lib.hid hg
  rw [hn, hpn]
  have hn1 : n ≤ 100000 := by omega
  clear qd q0 q1 q2 q3 q4 qm hg hl hn hpn hr1 hr2 hsp hsy hsp' hsy' hp0 hp1 hp2 hd0 hd1 htop hlt vp vy hPD
  go_enter Tryd.func58, Tryd.ntmps58
  have ex : (p2 : Int) * 1000000000 + (p1 : Int) = (x : Int) := by omega
  have eD : (d1 : Int) * 1000000000 + (d0 : Int) = (D : Int) := by omega
  clear hx hD hsum hh1 hl1 hl2' hcy hP
  go_wp2_with fail
  with_reducible refine (Q2.out w (Drawn.refl w)).mono ?_
  rintro e w' ⟨rfl, hw⟩
  subst hw
  go_wp2_with fail
  with_reducible refine (Q1.out w (Drawn.refl w)).mono ?_
  rintro e w' ⟨rfl, hw⟩
  subst hw
  go_wp2_with fail
  with_reducible refine (QM.out w (Drawn.refl w)).mono ?_
  rintro e w' ⟨rfl, hw⟩
  subst hw
  go_wp2_with fail
  with_reducible refine (Q0.out w (Drawn.refl w)).mono ?_
  rintro e w' ⟨rfl, hw⟩
  subst hw
  go_wp2_with fail
  with_reducible refine (Q4.out w (Drawn.refl w)).mono ?_
  rintro e w' ⟨rfl, hw⟩
  subst hw
  go_wp2_with fail
  with_reducible refine (Q3.out w (Drawn.refl w)).mono ?_
  rintro e w' ⟨rfl, hw⟩
  subst hw
  go_wp2_with fail
  with_reducible refine (QD.out w).mono ?_
  rintro e w' ⟨rfl, m, hw⟩
  go_wp2
  go_ret
  exact ⟨guess_ret (P / D) rfl HG.out, ⟨m, rfl⟩⟩
end Go.Proofs.YtffcacpffamjfaaDoor

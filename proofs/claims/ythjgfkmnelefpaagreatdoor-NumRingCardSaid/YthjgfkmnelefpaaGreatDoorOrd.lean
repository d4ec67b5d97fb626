/- Contracts of cmp.Compare at int and uint32, and of nat.digits.compare at right rows. -/
import Derived.Test.YthjgfkmnelefpaaGreatDoorNat2
import Derived.BigQuiet
import Derived.Deep.QuietTactic
namespace Go.Proofs.YthjgfkmnelefpaaGreatDoor
open Go.RowKit

/-- -1, 0, 1. -/
def ordI (a b : Int) : Int := if a < b then -1 else if b < a then 1 else 0

theorem nan_int (x : Int) (w : World) : Calls Tryz.prog 105 #[.int .i64 x] w fun e w' => e = .returned (.bool false) ∧ w' = w := by
  go_enter Tryz.func105, Tryz.ntmps105
  go_wp2
  go_ret
  exact ⟨by simp, rfl⟩
theorem nan_u32 (x : Int) (w : World) : Calls Tryz.prog 106 #[.int .u32 x] w fun e w' => e = .returned (.bool false) ∧ w' = w := by
  go_enter Tryz.func106, Tryz.ntmps106
  go_wp2
  go_ret
  exact ⟨by simp, rfl⟩

theorem cmp_int (x y : Int) (w : World) : Calls Tryz.prog 97 #[.int .i64 x, .int .i64 y] w fun e w' => e = .returned (.int .i64 (ordI x y)) ∧ w = w' := by
  rcases Int.lt_trichotomy x y with h | h | h
  · go_enter Tryz.func97, Tryz.ntmps97
    go_wp2_with (first | (go_at_call 105; refine (nan_int _ _).mono ?_; rintro e w' ⟨rfl, rfl⟩))
    go_ret
    exact ⟨ret_of (by unfold ordI; rw [if_pos h]), rfl⟩
  · subst h
    go_enter Tryz.func97, Tryz.ntmps97
    go_wp2_with (first | (go_at_call 105; refine (nan_int _ _).mono ?_; rintro e w' ⟨rfl, rfl⟩))
    go_ret
    exact ⟨ret_of (by unfold ordI; rw [if_neg (by omega), if_neg (by omega)]), rfl⟩
  · go_enter Tryz.func97, Tryz.ntmps97
    go_wp2_with (first | (go_at_call 105; refine (nan_int _ _).mono ?_; rintro e w' ⟨rfl, rfl⟩))
    go_ret
    exact ⟨ret_of (by unfold ordI; rw [if_neg (by omega), if_pos h]), rfl⟩
theorem cmp_u32 (x y : Int) (w : World) : Calls Tryz.prog 98 #[.int .u32 x, .int .u32 y] w fun e w' => e = .returned (.int .i64 (ordI x y)) ∧ w' = w := by
  rcases Int.lt_trichotomy x y with h | h | h
  · go_enter Tryz.func98, Tryz.ntmps98
    go_wp2_with (first | (go_at_call 106; refine (nan_u32 _ _).mono ?_; rintro e w' ⟨rfl, rfl⟩))
    go_ret
    exact ⟨ret_of (by unfold ordI; rw [if_pos h]), rfl⟩
  · subst h
    go_enter Tryz.func98, Tryz.ntmps98
    go_wp2_with (first | (go_at_call 106; refine (nan_u32 _ _).mono ?_; rintro e w' ⟨rfl, rfl⟩))
    go_ret
    exact ⟨ret_of (by unfold ordI; rw [if_neg (by omega), if_neg (by omega)]), rfl⟩
  · go_enter Tryz.func98, Tryz.ntmps98
    go_wp2_with (first | (go_at_call 106; refine (nan_u32 _ _).mono ?_; rintro e w' ⟨rfl, rfl⟩))
    go_ret
    exact ⟨ret_of (by unfold ordI; rw [if_neg (by omega), if_pos h]), rfl⟩

/-- The order of two lists of digits that are as long. -/
theorem val_split (ds : List Nat) (k : Nat) (hk : k ≤ ds.length) : val ds = val (ds.take k) + 1000000000 ^ k * val (ds.drop k) := by
  have := val_append (ds.take k) (ds.drop k)
  rw [List.take_append_drop, List.length_take, Nat.min_eq_left hk] at this
  exact this

theorem val_drop (ds : List Nat) (k : Nat) (hk : k < ds.length) : val (ds.drop k) = ds.getD k 0 + 1000000000 * val (ds.drop (k + 1)) := by
  rw [List.drop_eq_getElem_cons hk, val, List.getD_eq_getElem?_getD, List.getElem?_eq_getElem hk]; rfl

theorem drop_eq_of {xs ys : List Nat} (hl : xs.length = ys.length) {k : Nat} (h : ∀ j, k ≤ j → xs.getD j 0 = ys.getD j 0) : xs.drop k = ys.drop k := by
  apply List.ext_getElem?
  intro i
  rw [List.getElem?_drop, List.getElem?_drop]
  have := h (k + i) (by omega)
  rw [List.getD_eq_getElem?_getD, List.getD_eq_getElem?_getD] at this
  rcases Nat.lt_or_ge (k + i) xs.length with h1 | h1
  · rw [List.getElem?_eq_getElem h1, List.getElem?_eq_getElem (by omega)] at this ⊢
    simpa using this
  · rw [List.getElem?_eq_none h1, List.getElem?_eq_none (by omega)]

theorem val_lt_of {xs ys : List Nat} (hx : small 1000000000 xs) (hl : xs.length = ys.length) {k : Nat} (hk : k < xs.length) (h : ∀ j, k + 1 ≤ j → xs.getD j 0 = ys.getD j 0) (hlt : xs.getD k 0 < ys.getD k 0) : val xs < val ys := by
  rw [val_split xs k (by omega), val_split ys k (by omega), val_drop xs k hk, val_drop ys k (by omega), drop_eq_of hl h]
  have h1 := val_lt (small_take hx k)
  rw [List.length_take, Nat.min_eq_left (by omega)] at h1
  have h2 : 1000000000 ^ k * (xs.getD k 0 + 1 + 1000000000 * val (ys.drop (k + 1))) ≤ 1000000000 ^ k * (ys.getD k 0 + 1000000000 * val (ys.drop (k + 1))) := Nat.mul_le_mul_left _ (by omega)
  have h3 : 1000000000 ^ k * (xs.getD k 0 + 1 + 1000000000 * val (ys.drop (k + 1))) = 1000000000 ^ k * (xs.getD k 0 + 1000000000 * val (ys.drop (k + 1))) + 1000000000 ^ k := by
    rw [← Nat.mul_succ]; congr 1; omega
  omega

theorem ordI_length {xs ys : List Nat} (hx : right xs) (hy : right ys) (h : xs.length ≠ ys.length) : ordI (xs.length : Int) (ys.length : Int) = ordI (val xs : Int) (val ys : Int) := by
  unfold ordI
  rcases Nat.lt_or_ge xs.length ys.length with h1 | h1
  · have := right_lt_of_length hx hy h1
    rw [if_pos (by omega), if_pos (by omega)]
  · have := right_lt_of_length hy hx (by omega)
    rw [if_neg (by omega), if_pos (by omega), if_neg (by omega), if_pos (by omega)]

set_option maxHeartbeats 1000000 in
theorem compare_any {w : World} {A1 A2 : Option Addr} {c1 c2 : Nat} {xs ys : List Nat} (hr1 : Row w A1 (u32s xs)) (hr2 : Row w A2 (u32s ys)) (hx : right xs) (hy : right ys) (hlen : xs.length ≤ 1000000) :
    Calls Tryz.prog 89 #[.slice A1 xs.length c1, .slice A2 ys.length c2] w fun e w' => e = .returned (.int .i64 (ordI (val xs : Int) (val ys : Int))) ∧ Drawn w w' := by
  by_cases hl : xs.length = ys.length
  · have hne : (ordI (xs.length : Int) (ys.length : Int) != 0) = false := by unfold ordI; rw [if_neg (by omega), if_neg (by omega)]; rfl
    have HL := Lib.hid hl
    clear hl
    go_enter Tryz.func89, Tryz.ntmps89
    go_wp2_with (first | (go_at_call 97; refine (cmp_int _ _ _).mono ?_; rintro e w' ⟨rfl, rfl⟩))
    go_loopw [6] (fun i wr => ∃ k : Nat, k ≤ xs.length ∧ i = .int .i64 ((k : Int) - 1) ∧ Hid (∀ j, k ≤ j → xs.getD j 0 = ys.getD j 0) ∧ Hid (Drawn w wr)) (fun i _ => (intOf i + 1).toNat)
    case atStart => exact ⟨xs.length, Nat.le_refl _, rfl, fun j hj => by
      rw [List.getD_eq_getElem?_getD, List.getD_eq_getElem?_getD, List.getElem?_eq_none hj, List.getElem?_eq_none (by rw [← HL.out]; exact hj)], Drawn.refl _⟩
    case round =>
      obtain ⟨k, hk, rfl, HE, HW⟩ := hrel
      rcases Nat.eq_zero_or_pos k with rfl | hpos
      · go_wp2
        go_ret
        refine ⟨ret_of ?_, HW.out⟩
        have : xs = ys := by simpa using drop_eq_of HL.out HE.out
        rw [this]; unfold ordI; rw [if_neg (by omega), if_neg (by omega)]
      · obtain ⟨p, rfl⟩ : ∃ p, k = p + 1 := ⟨k - 1, by omega⟩
        rw [show ((p + 1 : Nat) : Int) - 1 = (p : Int) from by omega]
        have hlt2 : p < ys.length := by rw [← HL.out]; omega
        obtain ⟨ad1, x, rfl, hc1, hx1, _⟩ := (hr1.drawn HW.out).dig (k := p) (by omega)
        obtain ⟨ad2, y, rfl, hc2, hy1, _⟩ := (hr2.drawn HW.out).dig (k := p) hlt2
        have hi1 : (p : Int) < xs.length := by omega
        have hi2 : (p : Int) < ys.length := by omega
        have hi0 : 0 ≤ (p : Int) := by omega
        rcases Nat.lt_trichotomy x y with h | h | h
        · have ht : (ordI (x : Int) (y : Int) != 0) = true := by rw [bne_iff_ne]; unfold ordI; rw [if_pos (by omega)]; decide
          go_wp2
          go_quiet ((go_at_call 98; exact Calls.quiet_of_same (cmp_u32 _ _ _)))
          go_wp2
          go_ret
          refine ⟨ret_of ?_, HW.out.more nq⟩
          have e1 : ordI (x : Int) (y : Int) = -1 := by unfold ordI; rw [if_pos (by omega)]
          have e2 := val_lt_of hx.1 HL.out (k := p) (by omega) (fun j hj => HE.out j hj) (by rw [hx1.out, hy1.out]; exact h)
          rw [e1]; unfold ordI; rw [if_pos (by omega)]
        · subst h
          have ht : (ordI (x : Int) (x : Int) != 0) = false := by unfold ordI; rw [if_neg (by omega), if_neg (by omega)]; rfl
          go_wp2
          go_quiet ((go_at_call 98; exact Calls.quiet_of_same (cmp_u32 _ _ _)))
          go_wp2
          go_roundw
          case rel => exact ⟨p, by omega, by go_num, fun j hj => by
            rcases Nat.lt_or_ge j (p + 1) with h | h
            · have : j = p := by omega
              rw [this, hx1.out, hy1.out]
            · exact HE.out j h, HW.out.more nq⟩
          case measure => first | (simp [intOf]; done) | (simp [intOf]; omega)
        · have ht : (ordI (x : Int) (y : Int) != 0) = true := by rw [bne_iff_ne]; unfold ordI; rw [if_neg (by omega), if_pos (by omega)]; decide
          go_wp2
          go_quiet ((go_at_call 98; exact Calls.quiet_of_same (cmp_u32 _ _ _)))
          go_wp2
          go_ret
          refine ⟨ret_of ?_, HW.out.more nq⟩
          have e1 : ordI (x : Int) (y : Int) = 1 := by unfold ordI; rw [if_neg (by omega), if_pos (by omega)]
          have e2 := val_lt_of hy.1 HL.out.symm (k := p) hlt2 (fun j hj => (HE.out j hj).symm) (by rw [hx1.out, hy1.out]; exact h)
          rw [e1]; unfold ordI; rw [if_neg (by omega), if_pos (by omega)]
  · have hne : (ordI (xs.length : Int) (ys.length : Int) != 0) = true := by
      rw [bne_iff_ne]; unfold ordI; split
      · decide
      · split
        · decide
        · omega
    have HL := Lib.hid hl
    clear hl
    go_enter Tryz.func89, Tryz.ntmps89
    go_wp2_with (first | (go_at_call 97; refine (cmp_int _ _ _).mono ?_; rintro e w' ⟨rfl, rfl⟩))
    go_ret
    exact ⟨ret_of (ordI_length hx hy HL.out), Drawn.refl _⟩
end Go.Proofs.YthjgfkmnelefpaaGreatDoor

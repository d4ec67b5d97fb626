/- Contract of whetstoneref01.order: the order of what two rows of decimal digits without noughts behind stand for; at most 1000000 digits. -/
import Derived.Test.YtpamcdfbcglflaaDoorRefPlus
import Derived.Test.YtpamcdfbcglflaaDoorOrd
namespace Go.Proofs.YtpamcdfbcglflaaDoor
open Go.RowKit

theorem dval_split (ds : List Nat) (k : Nat) (hk : k ≤ ds.length) : dval ds = dval (ds.take k) + 10 ^ k * dval (ds.drop k) := by
  have := dval_append (ds.take k) (ds.drop k)
  rw [List.take_append_drop, List.length_take, Nat.min_eq_left hk] at this
  exact this
theorem dval_lt_of {xs ys : List Nat} (hx : small 10 xs) (hl : xs.length = ys.length) {k : Nat} (hk : k < xs.length) (h : ∀ j, k + 1 ≤ j → xs.getD j 0 = ys.getD j 0) (hlt : xs.getD k 0 < ys.getD k 0) : dval xs < dval ys := by
  rw [dval_split xs k (by omega), dval_split ys k (by omega), dval_getD xs k hk, dval_getD ys k (by omega), drop_eq_of hl h]
  have h1 := dval_lt (small_take hx k)
  rw [List.length_take, Nat.min_eq_left (by omega)] at h1
  have h2 : 10 ^ k * (xs.getD k 0 + 1 + 10 * dval (ys.drop (k + 1))) ≤ 10 ^ k * (ys.getD k 0 + 10 * dval (ys.drop (k + 1))) := Nat.mul_le_mul_left _ (by omega)
  have h3 : 10 ^ k * (xs.getD k 0 + 1 + 10 * dval (ys.drop (k + 1))) = 10 ^ k * (xs.getD k 0 + 10 * dval (ys.drop (k + 1))) + 10 ^ k := by
    rw [← Nat.mul_succ]; congr 1; omega
  omega
theorem dlength_le {xs : List Nat} (hx : dright xs) {k : Nat} (h : dval xs < 10 ^ k) : xs.length ≤ k := by
  rcases Nat.lt_or_ge k xs.length with h1 | h1
  · exfalso
    have hne : xs ≠ [] := fun e => by rw [e] at h1; simp at h1
    have h2 := dval_split xs k (by omega)
    have h3 := dval_pos (ds := xs.drop k) (by intro e; have := congrArg List.length e; rw [List.length_drop] at this; simp at this; omega) (by
      rw [List.getLast?_drop, if_neg (by omega)]
      rcases hx.2 with h | h
      · exact absurd h hne
      · exact h)
    have h4 : 10 ^ k * 1 ≤ 10 ^ k * dval (xs.drop k) := Nat.mul_le_mul_left _ h3
    omega
  · exact h1
theorem dval_lt_length {xs ys : List Nat} (hx : dright xs) (hy : dright ys) (h : xs.length < ys.length) : dval xs < dval ys := by
  rcases Nat.lt_or_ge (dval xs) (dval ys) with h1 | h1
  · exact h1
  · have h2 := dval_lt hx.1
    have h3 := dlength_le hy (k := xs.length) (by omega)
    omega

set_option maxRecDepth 100000 in
set_option maxHeartbeats 4000000 in
theorem refOrder {w : World} {A1 A2 : Option Addr} {c1 c2 : Nat} {xs ys : List Nat} (hr1 : Row w A1 (u8s xs)) (hr2 : Row w A2 (u8s ys)) (hx : dright xs) (hy : dright ys) (hlen : xs.length ≤ 1000000) :
    Calls Tryd.prog 41 #[.slice A1 xs.length c1, .slice A2 ys.length c2] w fun e w' => e = .returned (.int .i64 (ordI (dval xs : Int) (dval ys : Int))) ∧ Drawn w w' := by
  by_cases hl : xs.length = ys.length
  · have hne : ((xs.length : Int) != (ys.length : Int)) = false := by rw [bne_eq_false_iff_eq]; omega
    have HL := Lib.hid hl
    clear hl
    go_enter Tryd.func41, Tryd.ntmps41
    go_wp2
    go_loopw [5] (fun i wr => ∃ k : Nat, k ≤ xs.length ∧ i = .int .i64 ((k : Int) - 1) ∧ Hid (∀ j, k ≤ j → xs.getD j 0 = ys.getD j 0) ∧ Hid (Drawn w wr)) (fun i _ => (intOf i + 1).toNat)
    case atStart => exact ⟨xs.length, Nat.le_refl _, rfl, fun j hj => by
      rw [List.getD_eq_getElem?_getD, List.getD_eq_getElem?_getD, List.getElem?_eq_none hj, List.getElem?_eq_none (by rw [← HL.out]; exact hj)], Drawn.refl _⟩
    case round =>
      obtain ⟨k, hk, rfl, HE, HW⟩ := hrel
      rcases Nat.eq_zero_or_pos k with rfl | hpos
      · go_wp2
        go_ret
        refine ⟨ret_of ?_, HW.out⟩
        have : xs = ys := by simpa using drop_eq_of HL.out HE.out
        rw [this]; unfold ordI; rw [if_neg (by omega), if_neg (by omega)]
      · obtain ⟨p, rfl⟩ : ∃ p, k = p + 1 := ⟨k - 1, by omega⟩
        rw [show ((p + 1 : Nat) : Int) - 1 = (p : Int) from by omega]
        have hlt2 : p < ys.length := by rw [← HL.out]; omega
        obtain ⟨ad1, x, rfl, hc1, hx1, _⟩ := (hr1.drawn HW.out).byte (k := p) (by omega)
        obtain ⟨ad2, y, rfl, hc2, hy1, _⟩ := (hr2.drawn HW.out).byte (k := p) hlt2
        have hi1 : (p : Int) < xs.length := by omega
        have hi2 : (p : Int) < ys.length := by omega
        have hi0 : 0 ≤ (p : Int) := by omega
        rcases Nat.lt_trichotomy x y with h | h | h
        · have ht : (x : Int) < (y : Int) := by omega
          go_wp2
          go_region
          all_goals
            go_wp2
            go_ret
            refine ⟨ret_of ?_, HW.out.more 1⟩
            have e2 := dval_lt_of hx.1 HL.out (k := p) (by omega) (fun j hj => HE.out j hj) (by rw [hx1.out, hy1.out]; exact h)
            unfold ordI; rw [if_pos (by omega)]
        · subst h
          go_wp2
          go_region
          all_goals
            go_wp2
            go_region
            all_goals
              go_wp2
              go_roundw
              case rel => exact ⟨p, by omega, by go_num, fun j hj => by
                rcases Nat.lt_or_ge j (p + 1) with h | h
                · have : j = p := by omega
                  rw [this, hx1.out, hy1.out]
                · exact HE.out j h, (HW.out.more 1).more 1⟩
              case measure => first | (simp [intOf]; done) | (simp [intOf]; omega)
        · have ht : ¬ (x : Int) < (y : Int) := by omega
          have ht2 : (y : Int) < (x : Int) := by omega
          go_wp2
          go_region
          all_goals
            go_wp2
            go_region
            all_goals
              go_wp2
              go_ret
              refine ⟨ret_of ?_, (HW.out.more 1).more 1⟩
              have e2 := dval_lt_of hy.1 HL.out.symm (k := p) hlt2 (fun j hj => (HE.out j hj).symm) (by rw [hx1.out, hy1.out]; exact h)
              unfold ordI; rw [if_neg (by omega), if_pos (by omega)]
  · have hne : ((xs.length : Int) != (ys.length : Int)) = true := by rw [bne_iff_ne]; omega
    rcases Nat.lt_or_ge xs.length ys.length with h | h
    · have h2 := dval_lt_length hx hy h
      have h3 : (xs.length : Int) < (ys.length : Int) := by omega
      have h4 : (-1 : Int) = ordI (dval xs : Int) (dval ys : Int) := by unfold ordI; rw [if_pos (by omega)]
      have H4 := Lib.hid h4
      clear h4 h2
      go_enter Tryd.func41, Tryd.ntmps41
      go_wp2
      go_ret
      exact ⟨ret_of H4.out, Drawn.refl _⟩
    · have h2 := dval_lt_length hy hx (by omega)
      have h3 : ¬ (xs.length : Int) < (ys.length : Int) := by omega
      have h4 : (1 : Int) = ordI (dval xs : Int) (dval ys : Int) := by unfold ordI; rw [if_neg (by omega), if_pos (by omega)]
      have H4 := Lib.hid h4
      clear h4 h2
      go_enter Tryd.func41, Tryd.ntmps41
      go_wp2
      go_ret
      exact ⟨ret_of H4.out, Drawn.refl _⟩
end Go.Proofs.YtpamcdfbcglflaaDoor

/- Contracts of whetstonekit.SameLimbs and of the laws' same: two slices that read as one list are the same; two that read as different lists are not. At most 1000000 digits. -/
import Derived.Test.YtlikpnaffpngiaaGreatDoorMem
import Derived.Test.YtlikpnaffpngiaaGreatDoorChecked
namespace Go.Proofs.YtlikpnaffpngiaaGreatDoor
open Go.RowKit

set_option maxHeartbeats 1000000 in
theorem same_yes0 {w : World} {A1 A2 : Option Addr} {c1 c2 : Nat} {xs : List Nat} (hr1 : Row w A1 (u32s xs)) (hr2 : Row w A2 (u32s xs)) (hlen : xs.length ≤ 1000000) :
    Calls Tryz.prog 36 #[.slice A1 xs.length c1, .slice A2 xs.length c2] w fun e w' => e = .returned (.bool true) ∧ Drawn w w' := by
  go_enter Tryz.func36, Tryz.ntmps36
  go_wp2
  go_loopw [5] (fun i wr => ∃ k : Nat, k ≤ xs.length ∧ i = .int .i64 k ∧ Hid (Drawn w wr)) (fun i _ => xs.length - (intOf i).toNat)
  case atStart => exact ⟨0, Nat.zero_le _, rfl, Drawn.refl _⟩
  case round =>
    obtain ⟨k, hk, rfl, HW⟩ := hrel
    by_cases hlt : k < xs.length
    · obtain ⟨ad1, x, rfl, hc1, hx1, _⟩ := (hr1.drawn HW.out).dig hlt
      obtain ⟨ad2, y, rfl, hc2, hy1, _⟩ := (hr2.drawn HW.out).dig hlt
      obtain rfl : x = y := hx1.out.symm.trans hy1.out
      have hi1 : (k : Int) < xs.length := by omega
      have hi0 : 0 ≤ (k : Int) := by omega
      go_wp2
      go_quiet (fail)
      go_wp2
      go_roundw
      case rel => exact ⟨k + 1, by omega, by go_num, HW.out.more nq⟩
      case measure => first | (simp [intOf]; done) | (simp [intOf]; omega)
    · go_wp2
      go_ret
      exact ⟨rfl, HW.out⟩

set_option maxHeartbeats 1000000 in
theorem same_no0 {w : World} {A1 A2 : Option Addr} {c1 c2 : Nat} {xs ys : List Nat} (hr1 : Row w A1 (u32s xs)) (hr2 : Row w A2 (u32s ys)) (hlen : xs.length ≤ 1000000) (hne : xs ≠ ys) :
    Calls Tryz.prog 36 #[.slice A1 xs.length c1, .slice A2 ys.length c2] w fun e w' => e = .returned (.bool false) ∧ Drawn w w' := by
  have HN := Lib.hid hne
  clear hne
  by_cases hl : xs.length = ys.length
  · have HL := Lib.hid hl
    have hl1 : ((xs.length : Int) != (ys.length : Int)) = false := by rw [hl]; simp
    have hl2 : xs.length ≤ ys.length := by omega
    have hl3 : ys.length ≤ xs.length := by omega
    clear hl
    go_enter Tryz.func36, Tryz.ntmps36
    go_wp2
    go_loopw [5] (fun i wr => ∃ k : Nat, k ≤ xs.length ∧ i = .int .i64 k ∧ Hid (Drawn w wr) ∧ Hid (∀ j, j < k → xs.getD j 0 = ys.getD j 0)) (fun i _ => xs.length - (intOf i).toNat)
    case atStart => exact ⟨0, Nat.zero_le _, rfl, Drawn.refl _, fun j hj => absurd hj (by omega)⟩
    case round =>
      obtain ⟨k, hk, rfl, HW, HE⟩ := hrel
      by_cases hlt : k < xs.length
      · obtain ⟨ad1, x, rfl, hc1, hx1, _⟩ := (hr1.drawn HW.out).dig hlt
        obtain ⟨ad2, y, rfl, hc2, hy1, _⟩ := (hr2.drawn HW.out).dig (k := k) (by omega)
        have hi1 : (k : Int) < xs.length := by omega
        have hi2 : (k : Int) < ys.length := by omega
        have hi0 : 0 ≤ (k : Int) := by omega
        by_cases hxy : x = y
        · subst hxy
          go_wp2
          go_quiet (fail)
          go_wp2
          go_roundw
          case rel => exact ⟨k + 1, by omega, by go_num, HW.out.more nq, fun j hj => by
            rcases Nat.lt_or_ge j k with h | h
            · exact HE.out j h
            · have : j = k := by omega
              rw [this, hx1.out, hy1.out]⟩
          case measure => first | (simp [intOf]; done) | (simp [intOf]; omega)
        · have ht : ((x : Int) != (y : Int)) = true := by rw [bne_iff_ne]; omega
          clear hxy
          go_wp2
          go_quiet (fail)
          go_wp2
          go_ret
          exact ⟨rfl, HW.out.more nq⟩
      · exact absurd (List.ext_getElem HL.out (fun j h1 h2 => by
          have := HE.out j (by omega)
          rw [List.getD_eq_getElem?_getD, List.getD_eq_getElem?_getD, List.getElem?_eq_getElem h1, List.getElem?_eq_getElem h2] at this
          simpa using this)) HN.out
  · have hl1 : ((xs.length : Int) != (ys.length : Int)) = true := by rw [bne_iff_ne]; omega
    clear hl
    go_enter Tryz.func36, Tryz.ntmps36
    go_wp2
    go_ret
    exact ⟨rfl, Drawn.refl _⟩


end Go.Proofs.YtlikpnaffpngiaaGreatDoor

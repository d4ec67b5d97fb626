/- Contract of nat.Right: whether a row of 32-bit digits is right; at most 1000000 digits. Contract of whetstoneref01.Right: whether a row of 32-bit digits is right; at most 1000000 digits. -/
import Derived.Test.YthjgfkmnelefpaaGreatDoorNat1
namespace Go.Proofs.YthjgfkmnelefpaaGreatDoor
open Go.RowKit

def RightRet (xs : List Nat) (e : Ending) : Prop := (right xs ∧ e = .returned (.bool true)) ∨ (¬ right xs ∧ e = .returned (.bool false))

set_option maxRecDepth 100000 in
set_option maxHeartbeats 1000000 in
theorem right_any {w : World} {A : Option Addr} {c : Nat} {xs : List Nat} (hr : Row w A (u32s xs)) (hd : small 4294967296 xs) (hlen : xs.length ≤ 1000000) :
    Calls Tryz.prog 50 #[.slice A xs.length c] w fun e w' => RightRet xs e ∧ w = w' := by
  obtain ⟨n, hn⟩ : ∃ n, n = xs.length := ⟨_, rfl⟩
  have hn1 : n ≤ 1000000 := by omega
  rw [← hn]
  have HN := Lib.hid hn
  clear hn hlen
  go_enter Tryz.func50, Tryz.ntmps50
  go_wp2
  go_loop [7] (fun iv => ∃ k : Nat, k ≤ n ∧ iv = .int .i64 (k : Int) ∧ Hid (small 1000000000 (xs.take k))) (fun iv => n - (intOf iv).toNat)
  case atStart => exact ⟨0, Nat.zero_le _, rfl, small_nil _⟩
  case round =>
    obtain ⟨k, hk, rfl, HS⟩ := hrel
    by_cases hlt : k < n
    · obtain ⟨ad, x, rfl, hc, hx, hm⟩ := hr.dig (k := k) (by rw [← HN.out]; exact hlt)
      have hx32 := hd x hm
      have HM := Lib.hid hm
      have HST : Hid (xs.take (k + 1) = xs.take k ++ [x]) := by
        have hkx : k < xs.length := by rw [← HN.out]; exact hlt
        show _ = _
        rw [List.take_add_one, List.getElem?_eq_getElem hkx, ← hx.out, List.getD_eq_getElem?_getD, List.getElem?_eq_getElem hkx]; rfl
      clear hm
      by_cases hb : 1000000000 ≤ x
      · have hbd : decide ((1000000000 : Int) ≤ (x : Int)) = true := by rw [decide_eq_true_eq]; omega
        have HB := Lib.hid hb
        clear hb
        go_wp2
        go_ret
        exact ⟨.inr ⟨fun h => by have := h.1 x HM.out; have := HB.out; omega, rfl⟩, rfl⟩
      · have hbd : decide ((1000000000 : Int) ≤ (x : Int)) = false := by rw [decide_eq_false_iff_not]; omega
        have HB := Lib.hid (Nat.lt_of_not_le hb)
        clear hb
        go_wp2
        go_round
        case rel => exact ⟨k + 1, by omega, by go_num, by
          show small 1000000000 (xs.take (k + 1))
          rw [HST.out]; exact small_snoc HS.out HB.out⟩
        case measure => simp [intOf]; omega
    · have hkn : k = n := by omega
      have hsm : small 1000000000 xs := by
        have := HS.out
        rw [hkn, HN.out, List.take_length] at this; exact this
      have HSM := Lib.hid hsm
      clear hkn hsm
      by_cases h0 : n = 0
      · have hl0 : ((n : Int) == 0) = true := by rw [h0]; rfl
        have hx0 : xs = [] := List.eq_nil_of_length_eq_zero (by rw [← HN.out]; exact h0)
        have HX := Lib.hid hx0
        clear h0 hx0
        go_wp2
        go_ret
        exact ⟨.inl ⟨⟨HSM.out, .inl HX.out⟩, rfl⟩, rfl⟩
      · have hl0 : ((n : Int) == 0) = false := by rw [beq_eq_false_iff_ne]; omega
        obtain ⟨ad, x, rfl, hc, hx, hm⟩ := hr.dig (k := n - 1) (by rw [← HN.out]; omega)
        have hx32 := hd x hm
        have hlast : xs.getLast? = some x := by
          rw [List.getLast?_eq_getElem?, ← HN.out, List.getElem?_eq_getElem (by rw [← HN.out]; omega), ← hx.out, List.getD_eq_getElem?_getD, List.getElem?_eq_getElem (by rw [← HN.out]; omega)]; rfl
        have HL := Lib.hid hlast
        have hne : xs ≠ [] := fun h => h0 (by rw [HN.out, h]; rfl)
        have HNE := Lib.hid hne
        have hn1' : 1 ≤ n := by omega
        clear hlast hne hm h0
        by_cases hx0 : x = 0
        · have ht : ((x : Int) != 0) = false := by rw [bne_eq_false_iff_eq]; omega
          have HX := Lib.hid hx0
          clear hx0
          go_wp2
          go_ret
          exact ⟨.inr ⟨fun h => by
            rcases h.2 with h1 | h1
            · exact HNE.out h1
            · exact h1 (by rw [HL.out, HX.out]), by simp [HX.out]⟩, rfl⟩
        · have ht : ((x : Int) != 0) = true := by rw [bne_iff_ne]; omega
          have HX := Lib.hid hx0
          clear hx0
          go_wp2
          go_ret
          exact ⟨.inl ⟨⟨HSM.out, .inr (fun h => HX.out (by rw [HL.out] at h; injection h))⟩, by simp⟩, rfl⟩
end Go.Proofs.YthjgfkmnelefpaaGreatDoor

namespace Go.Proofs.YthjgfkmnelefpaaGreatDoor
open Go.RowKit


end Go.Proofs.YthjgfkmnelefpaaGreatDoor

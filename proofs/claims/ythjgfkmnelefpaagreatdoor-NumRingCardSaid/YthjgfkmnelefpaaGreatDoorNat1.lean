/- Contracts of small functions of package nat: at, none, stripped: called with a slice that reads as a list of digits of 32 bits. No condition beside that. -/
import Derived.Test.YthjgfkmnelefpaaGreatDoorMem
import Derived.Test.YthjgfkmnelefpaaGreatDoorMath
import Derived.Test.YthjgfkmnelefpaaGreatDoorChecked
namespace Go.Proofs.YthjgfkmnelefpaaGreatDoor
open Go.RowKit

/-- nat.digits.at: the digit at place i, 0 behind the last. -/
theorem at_any {w : World} {A : Option Addr} {c : Nat} {ds : List Nat} (hr : Row w A (u32s ds)) (hd : ∀ d ∈ ds, d < 4294967296) (i : Int) (h0 : 0 ≤ i) :
    Calls Tryz.prog 96 #[.slice A ds.length c, .int .i64 i] w fun e w' => e = .returned (.int .u64 ((ds.getD i.toNat 0 : Nat) : Int)) ∧ w = w' := by
  obtain ⟨k, rfl⟩ := Int.eq_ofNat_of_zero_le h0
  rw [Int.toNat_natCast]
  by_cases hk : k < ds.length
  · obtain ⟨ad, x, rfl, hc, hx, hm⟩ := hr.dig hk
    have hb := hd x hm
    clear hm
    go_enter Tryz.func96, Tryz.ntmps96
    go_wp2
    go_ret
    exact ⟨ret_of (by rw [hx.out]), rfl⟩
  · have e : ds.getD k 0 = 0 := by rw [List.getD_eq_getElem?_getD, List.getElem?_eq_none (by omega)]; rfl
    rw [e]
    go_enter Tryz.func96, Tryz.ntmps96
    go_wp2
    go_ret
    exact ⟨rfl, rfl⟩

/-- nat.digits.none. -/
theorem none_any (w : World) (A : Option Addr) (n c : Nat) :
    Calls Tryz.prog 92 #[.slice A n c] w fun e w' => e = .returned (.bool ((n : Int) == 0)) ∧ w = w' := by
  go_enter Tryz.func92, Tryz.ntmps92
  go_wp2
  go_ret
  exact ⟨rfl, rfl⟩

set_option maxHeartbeats 400000 in
/-- nat.digits.stripped: a row of the call's own is cut behind its last digit that is not 0; nil, if nothing is left. -/
theorem stripped_any {w : World} {B : Nat} {A : Option Addr} {n c : Nat} {ds : List Nat} (ho : Own w B 55 (.slice A n c) (u32s ds)) (hlen : ds.length ≤ 1000000) :
    Calls Tryz.prog 84 #[.slice A n c] w fun e w' => (∃ v, e = .returned v ∧ Own w B 55 v (u32s (strip ds))) ∧ w = w' := by
  obtain ⟨A', c', e, hr, hle, _⟩ := ho.slice
  injection e with e1 e2 e3
  subst e1; subst e2; subst e3
  rw [u32s_length] at ho hle ⊢
  go_enter Tryz.func84, Tryz.ntmps84
  go_wp2
  go_loop [3] (fun i => ∃ k : Nat, k ≤ ds.length ∧ i = .int .i64 k ∧ ∀ j, k ≤ j → ds.getD j 0 = 0) (fun i => (intOf i).toNat)
  case atStart => exact ⟨ds.length, Nat.le_refl _, rfl, fun j hj => by rw [List.getD_eq_getElem?_getD, List.getElem?_eq_none hj]; rfl⟩
  case round =>
    obtain ⟨k, hk, rfl, hz⟩ := hrel
    have HZ := Lib.hid hz
    clear hz
    rcases Nat.eq_zero_or_pos k with rfl | hpos
    · go_wp2
      go_ret
      exact ⟨⟨_, rfl, by rw [strip_take_of_zeros ds 0 HZ.out (Nat.zero_le _) (.inl rfl)]; exact Own.nil _ _ _⟩, rfl⟩
    · obtain ⟨ad, x, rfl, hc, hx, _⟩ := hr.dig (k := k - 1) (by omega)
      have hb : k ≤ c := by omega
      by_cases hd : x = 0
      · subst hd
        go_wp2
        go_round
        case rel => exact ⟨k - 1, by omega, by go_num, fun j hj => by
          rcases Nat.lt_or_ge j k with h | h
          · have : j = k - 1 := by omega
            rw [this]; exact hx.out
          · exact HZ.out j h⟩
        case measure => simp [intOf]; omega
      · have ht : ((x : Int) == 0) = false := by rw [beq_eq_false_iff_ne]; omega
        have hk0 : ((k : Int) == 0) = false := by rw [beq_eq_false_iff_ne]; omega
        have HD := Lib.hid hd
        clear hd
        go_wp2
        go_ret
        refine ⟨⟨_, rfl, ?_⟩, rfl⟩
        rw [strip_take_of_zeros ds k HZ.out hk (.inr (by rw [hx.out]; exact HD.out)), ← u32s_take]
        exact ho.cut k (by rw [u32s_length]; exact hk)
theorem at_q {w : World} {A : Option Addr} {c : Nat} {ds : List Nat} (hr : Row w A (u32s ds)) (hd : ∀ d ∈ ds, d < 4294967296) (i : Int) (h0 : 0 ≤ i) :
    Calls Tryz.prog 96 #[.slice A ds.length c, .int .i64 i] w fun e w' => e = .returned (.int .u64 ((ds.getD i.toNat 0 : Nat) : Int)) ∧ w' = w :=
  (at_any hr hd i h0).mono fun _ _ h => ⟨h.1, h.2.symm⟩
end Go.Proofs.YthjgfkmnelefpaaGreatDoor

/- The sign of the document's answer of layer 13, walked: it says what the pure sign does. -/
import Derived.Test.YtbccknhinmgibaaDoorLPl
set_option linter.unusedVariables false
set_option linter.unusedSimpArgs false
namespace Go.Proofs.YtbccknhinmgibaaDoor
open Go.RowKit

set_option maxRecDepth 100000 in
set_option maxHeartbeats 3200000 in
theorem rsign_ok (c : UInt8) (w : World) :
    Calls Tryd.prog 38 #[.int .u8 (c.toNat : Int)] w fun e w' => e = .returned (.bool (signB c)) ∧ w' = w := by
  obtain ⟨n, hn⟩ : ∃ n : Nat, n = c.toNat := ⟨_, rfl⟩
  have hs : signB c = ((decide (97 ≤ n) && decide (n ≤ 122)) || (decide (48 ≤ n) && decide (n ≤ 57)) || ([95, 45, 46, 43, 42, 47, 61, 60, 62] : List UInt8).contains c) := by rw [hn]; rfl
  rw [← hn]
  have HNn := Lib.hid hn
  clear hn
  by_cases a1 : 97 ≤ n
  · by_cases a2 : n ≤ 122
    · have r : signB c = true := by rw [hs]; simp [a1, a2]
      rw [r]
      have b1 : decide ((97 : Int) ≤ (n : Int)) = true := decide_eq_true (by omega)
      have b2 : decide ((n : Int) ≤ 122) = true := decide_eq_true (by omega)
      clear hs r a1 a2
      go_enter Tryd.func38, Tryd.ntmps38
      go_wp2
      go_ret
      exact ⟨rfl, rfl⟩
    · have a4 : ¬ n ≤ 57 := by omega
      have r : signB c = ([95, 45, 46, 43, 42, 47, 61, 60, 62] : List UInt8).contains c := by rw [hs]; simp [a2, a4]
      rw [r]
      have b1 : decide ((97 : Int) ≤ (n : Int)) = true := decide_eq_true (by omega)
      have b2 : decide ((n : Int) ≤ 122) = false := decide_eq_false (by omega)
      have b3 : decide ((48 : Int) ≤ (n : Int)) = true := decide_eq_true (by omega)
      have b4 : decide ((n : Int) ≤ 57) = false := decide_eq_false (by omega)
      clear hs r a1 a2 a4
      go_enter Tryd.func38, Tryd.ntmps38
      go_wp2
      go_loopw [4] (fun iv wr => ∃ i : Nat, i ≤ 9 ∧ iv = .int .i64 (i : Int) ∧ Hid (wr = w ∧ (([95, 45, 46, 43, 42, 47, 61, 60, 62] : List UInt8).drop i).contains c = ([95, 45, 46, 43, 42, 47, 61, 60, 62] : List UInt8).contains c)) (fun iv _ => 9 - (intOf iv).toNat)
      case atStart => exact ⟨0, by omega, rfl, Lib.hid ⟨rfl, rfl⟩⟩
      case round =>
        obtain ⟨i, hi9, rfl, HR⟩ := hrel
        obtain ⟨hw, hc⟩ := HR.out
        subst hw
        by_cases hlt : i < 9
        · have hlt2 : decide (i < 9) = true := decide_eq_true hlt
          have hlt3 : decide ((i : Int) < 9) = true := decide_eq_true (by omega)
          have hlt4 : (i : Int) < 9 := by omega
          have hb : i < (⟨#[95, 45, 46, 43, 42, 47, 61, 60, 62]⟩ : ByteArray).size := hlt
          obtain ⟨x, hx⟩ : ∃ x : UInt8, x = (⟨#[95, 45, 46, 43, 42, 47, 61, 60, 62]⟩ : ByteArray)[i]'hb := ⟨_, rfl⟩
          have hd : ([95, 45, 46, 43, 42, 47, 61, 60, 62] : List UInt8).drop i = x :: ([95, 45, 46, 43, 42, 47, 61, 60, 62] : List UInt8).drop (i + 1) := by rw [hx]; exact List.drop_eq_getElem_cons (by simpa using hlt)
          rw [hd, List.contains_cons] at hc
          have HC := Lib.hid (show _ ∧ _ from ⟨hc, hx⟩)
          obtain ⟨q, hq⟩ : ∃ q, ((((⟨#[95, 45, 46, 43, 42, 47, 61, 60, 62]⟩ : ByteArray)[i]'hb).toNat : Int) == (n : Int)) = q := ⟨_, rfl⟩
          have HQ := Lib.hid (show ((x.toNat : Int) == (n : Int)) = q by rw [hx]; exact hq)
          clear hc hd hx HR
          cases q with
          | true =>
            go_wp2
            go_ret
            exact ⟨by
              have e : x = c := UInt8.toNat_inj.1 (by have := eq_of_beq HQ.out; rw [← HNn.out]; omega)
              rw [← HC.out.1, e, BEq.rfl, Bool.true_or]
              rfl, rfl⟩
          | false =>
            have HD := Lib.hid (show (([95, 45, 46, 43, 42, 47, 61, 60, 62] : List UInt8).drop (i + 1)).contains c = ([95, 45, 46, 43, 42, 47, 61, 60, 62] : List UInt8).contains c by
              have hne : (c == x) = false := beq_eq_false_iff_ne.2 fun e => by
                have h2 := HQ.out
                rw [← e, ← HNn.out] at h2
                simp at h2
              rw [← HC.out.1, hne, Bool.false_or])
            go_wp2
            go_roundw
            case rel => exact ⟨i + 1, by omega, by go_num, Lib.hid ⟨trivial, HD.out⟩⟩
            case measure => simp [intOf]; omega
        · obtain rfl : i = 9 := by omega
          have hr : ([95, 45, 46, 43, 42, 47, 61, 60, 62] : List UInt8).contains c = false := by rw [← hc]; rfl
          have HE := Lib.hid hr
          clear hr hc HR
          go_wp2
          go_ret
          exact ⟨by rw [HE.out]; rfl, rfl⟩
  · by_cases a3 : 48 ≤ n
    · by_cases a4 : n ≤ 57
      · have r : signB c = true := by rw [hs]; simp [a3, a4]
        rw [r]
        have b1 : decide ((97 : Int) ≤ (n : Int)) = false := decide_eq_false (by omega)
        have b3 : decide ((48 : Int) ≤ (n : Int)) = true := decide_eq_true (by omega)
        have b4 : decide ((n : Int) ≤ 57) = true := decide_eq_true (by omega)
        clear hs r a1 a3 a4
        go_enter Tryd.func38, Tryd.ntmps38
        go_wp2
        go_ret
        exact ⟨rfl, rfl⟩
      · have r : signB c = ([95, 45, 46, 43, 42, 47, 61, 60, 62] : List UInt8).contains c := by rw [hs]; simp [a1, a4]
        rw [r]
        have b1 : decide ((97 : Int) ≤ (n : Int)) = false := decide_eq_false (by omega)
        have b3 : decide ((48 : Int) ≤ (n : Int)) = true := decide_eq_true (by omega)
        have b4 : decide ((n : Int) ≤ 57) = false := decide_eq_false (by omega)
        clear hs r a1 a3 a4
        go_enter Tryd.func38, Tryd.ntmps38
        go_wp2
        go_loopw [4] (fun iv wr => ∃ i : Nat, i ≤ 9 ∧ iv = .int .i64 (i : Int) ∧ Hid (wr = w ∧ (([95, 45, 46, 43, 42, 47, 61, 60, 62] : List UInt8).drop i).contains c = ([95, 45, 46, 43, 42, 47, 61, 60, 62] : List UInt8).contains c)) (fun iv _ => 9 - (intOf iv).toNat)
        case atStart => exact ⟨0, by omega, rfl, Lib.hid ⟨rfl, rfl⟩⟩
        case round =>
          obtain ⟨i, hi9, rfl, HR⟩ := hrel
          obtain ⟨hw, hc⟩ := HR.out
          subst hw
          by_cases hlt : i < 9
          · have hlt2 : decide (i < 9) = true := decide_eq_true hlt
            have hlt3 : decide ((i : Int) < 9) = true := decide_eq_true (by omega)
            have hlt4 : (i : Int) < 9 := by omega
            have hb : i < (⟨#[95, 45, 46, 43, 42, 47, 61, 60, 62]⟩ : ByteArray).size := hlt
            obtain ⟨x, hx⟩ : ∃ x : UInt8, x = (⟨#[95, 45, 46, 43, 42, 47, 61, 60, 62]⟩ : ByteArray)[i]'hb := ⟨_, rfl⟩
            have hd : ([95, 45, 46, 43, 42, 47, 61, 60, 62] : List UInt8).drop i = x :: ([95, 45, 46, 43, 42, 47, 61, 60, 62] : List UInt8).drop (i + 1) := by rw [hx]; exact List.drop_eq_getElem_cons (by simpa using hlt)
            rw [hd, List.contains_cons] at hc
            have HC := Lib.hid (show _ ∧ _ from ⟨hc, hx⟩)
            obtain ⟨q, hq⟩ : ∃ q, ((((⟨#[95, 45, 46, 43, 42, 47, 61, 60, 62]⟩ : ByteArray)[i]'hb).toNat : Int) == (n : Int)) = q := ⟨_, rfl⟩
            have HQ := Lib.hid (show ((x.toNat : Int) == (n : Int)) = q by rw [hx]; exact hq)
            clear hc hd hx HR
            cases q with
            | true =>
              go_wp2
              go_ret
              exact ⟨by
                have e : x = c := UInt8.toNat_inj.1 (by have := eq_of_beq HQ.out; rw [← HNn.out]; omega)
                rw [← HC.out.1, e, BEq.rfl, Bool.true_or]
                rfl, rfl⟩
            | false =>
              have HD := Lib.hid (show (([95, 45, 46, 43, 42, 47, 61, 60, 62] : List UInt8).drop (i + 1)).contains c = ([95, 45, 46, 43, 42, 47, 61, 60, 62] : List UInt8).contains c by
                have hne : (c == x) = false := beq_eq_false_iff_ne.2 fun e => by
                  have h2 := HQ.out
                  rw [← e, ← HNn.out] at h2
                  simp at h2
                rw [← HC.out.1, hne, Bool.false_or])
              go_wp2
              go_roundw
              case rel => exact ⟨i + 1, by omega, by go_num, Lib.hid ⟨trivial, HD.out⟩⟩
              case measure => simp [intOf]; omega
          · obtain rfl : i = 9 := by omega
            have hr : ([95, 45, 46, 43, 42, 47, 61, 60, 62] : List UInt8).contains c = false := by rw [← hc]; rfl
            have HE := Lib.hid hr
            clear hr hc HR
            go_wp2
            go_ret
            exact ⟨by rw [HE.out]; rfl, rfl⟩
    · have r : signB c = ([95, 45, 46, 43, 42, 47, 61, 60, 62] : List UInt8).contains c := by rw [hs]; simp [a1, a3]
      rw [r]
      have b1 : decide ((97 : Int) ≤ (n : Int)) = false := decide_eq_false (by omega)
      have b3 : decide ((48 : Int) ≤ (n : Int)) = false := decide_eq_false (by omega)
      clear hs r a1 a3
      go_enter Tryd.func38, Tryd.ntmps38
      go_wp2
      go_loopw [4] (fun iv wr => ∃ i : Nat, i ≤ 9 ∧ iv = .int .i64 (i : Int) ∧ Hid (wr = w ∧ (([95, 45, 46, 43, 42, 47, 61, 60, 62] : List UInt8).drop i).contains c = ([95, 45, 46, 43, 42, 47, 61, 60, 62] : List UInt8).contains c)) (fun iv _ => 9 - (intOf iv).toNat)
      case atStart => exact ⟨0, by omega, rfl, Lib.hid ⟨rfl, rfl⟩⟩
      case round =>
        obtain ⟨i, hi9, rfl, HR⟩ := hrel
        obtain ⟨hw, hc⟩ := HR.out
        subst hw
        by_cases hlt : i < 9
        · have hlt2 : decide (i < 9) = true := decide_eq_true hlt
          have hlt3 : decide ((i : Int) < 9) = true := decide_eq_true (by omega)
          have hlt4 : (i : Int) < 9 := by omega
          have hb : i < (⟨#[95, 45, 46, 43, 42, 47, 61, 60, 62]⟩ : ByteArray).size := hlt
          obtain ⟨x, hx⟩ : ∃ x : UInt8, x = (⟨#[95, 45, 46, 43, 42, 47, 61, 60, 62]⟩ : ByteArray)[i]'hb := ⟨_, rfl⟩
          have hd : ([95, 45, 46, 43, 42, 47, 61, 60, 62] : List UInt8).drop i = x :: ([95, 45, 46, 43, 42, 47, 61, 60, 62] : List UInt8).drop (i + 1) := by rw [hx]; exact List.drop_eq_getElem_cons (by simpa using hlt)
          rw [hd, List.contains_cons] at hc
          have HC := Lib.hid (show _ ∧ _ from ⟨hc, hx⟩)
          obtain ⟨q, hq⟩ : ∃ q, ((((⟨#[95, 45, 46, 43, 42, 47, 61, 60, 62]⟩ : ByteArray)[i]'hb).toNat : Int) == (n : Int)) = q := ⟨_, rfl⟩
          have HQ := Lib.hid (show ((x.toNat : Int) == (n : Int)) = q by rw [hx]; exact hq)
          clear hc hd hx HR
          cases q with
          | true =>
            go_wp2
            go_ret
            exact ⟨by
              have e : x = c := UInt8.toNat_inj.1 (by have := eq_of_beq HQ.out; rw [← HNn.out]; omega)
              rw [← HC.out.1, e, BEq.rfl, Bool.true_or]
              rfl, rfl⟩
          | false =>
            have HD := Lib.hid (show (([95, 45, 46, 43, 42, 47, 61, 60, 62] : List UInt8).drop (i + 1)).contains c = ([95, 45, 46, 43, 42, 47, 61, 60, 62] : List UInt8).contains c by
              have hne : (c == x) = false := beq_eq_false_iff_ne.2 fun e => by
                have h2 := HQ.out
                rw [← e, ← HNn.out] at h2
                simp at h2
              rw [← HC.out.1, hne, Bool.false_or])
            go_wp2
            go_roundw
            case rel => exact ⟨i + 1, by omega, by go_num, Lib.hid ⟨trivial, HD.out⟩⟩
            case measure => simp [intOf]; omega
        · obtain rfl : i = 9 := by omega
          have hr : ([95, 45, 46, 43, 42, 47, 61, 60, 62] : List UInt8).contains c = false := by rw [← hc]; rfl
          have HE := Lib.hid hr
          clear hr hc HR
          go_wp2
          go_ret
          exact ⟨by rw [HE.out]; rfl, rfl⟩
end Go.Proofs.YtbccknhinmgibaaDoor

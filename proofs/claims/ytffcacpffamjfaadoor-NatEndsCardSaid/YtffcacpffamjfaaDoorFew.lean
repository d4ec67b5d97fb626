/- Contract of whetstonelaw01.few: whether there are at most 8 rows, of at most 40 digits each. -/
import Derived.Test.YtffcacpffamjfaaDoorFold
namespace Go.Proofs.YtffcacpffamjfaaDoor
open Go.RowKit

/-- A list of slices, read: nothing is asked of what they hold. -/
def short (L : List Arow) : Prop := L.length ≤ 8 ∧ ∀ r ∈ L, r.2.2.length ≤ 40
def FewRet (L : List Arow) (e : Ending) : Prop := (short L ∧ e = .returned (.bool true)) ∨ (¬ short L ∧ e = .returned (.bool false))

set_option maxRecDepth 100000 in
set_option maxHeartbeats 2000000 in
theorem few_any {w : World} {A : Option Addr} {c : Nat} {L : List Arow} (hL : Row w A (L.map sl)) (hlen : L.length < 9223372036854775808) (hlens : ∀ r ∈ L, r.2.2.length < 9223372036854775808) :
    Calls Tryd.prog 11 #[.slice A L.length c] w fun e w' => FewRet L e ∧ w' = w := by
  have HLS := Lib.hid hlens
  clear hlens
  obtain ⟨n, hn⟩ : ∃ n : Nat, n = L.length := ⟨_, rfl⟩
  have hn1 : n < 9223372036854775808 := by omega
  rw [← hn]
  have HN := Lib.hid hn
  clear hn hlen
  go_enter Tryd.func11, Tryd.ntmps11
  go_wp2
  go_loop [3] (fun i => ∃ k : Nat, k ≤ n ∧ i = .int .i64 (k : Int) ∧ Hid (∀ r ∈ L.take k, r.2.2.length ≤ 40)) (fun i => n - (intOf i).toNat)
  case atStart => exact ⟨0, Nat.zero_le _, rfl, fun r hr => by simp at hr⟩
  case round =>
    obtain ⟨k, hk, rfl, HK⟩ := hrel
    by_cases hlt : k < n
    · obtain ⟨ad, rfl, hce⟩ := hL.at_ (k := k) (by rw [List.length_map, ← HN.out]; exact hlt)
      rw [List.getElem_map] at hce
      have hkL : k < L.length := by rw [← HN.out]; exact hlt
      obtain ⟨r, hr⟩ : ∃ r, r = L[k] := ⟨_, rfl⟩
      rw [← hr] at hce
      have hrm : r ∈ L := by rw [hr]; exact List.getElem_mem _
      have hT : L.take (k + 1) = L.take k ++ [r] := by
        rw [List.take_add_one, List.getElem?_eq_getElem hkL, hr]; rfl
      have hb1 := HLS.out r hrm
      obtain ⟨Ar, cr, ds⟩ := r
      have hce' : w.cell? (ad.add k) = some (.slice Ar ds.length cr) := hce
      obtain ⟨m, hm⟩ : ∃ m : Nat, m = ds.length := ⟨_, rfl⟩
      have hb2 : m < 9223372036854775808 := by rw [hm]; exact hb1
      rw [← hm] at hce'
      have HM := Lib.hid hm
      have HT := Lib.hid hT
      have HR := Lib.hid hrm
      clear hr hce hrm hb1 hm hT hkL
      by_cases hgt : 40 < m
      · go_wp2
        go_ret
        exact ⟨.inr ⟨fun h => by have h2 : ds.length ≤ 40 := h.2 _ HR.out; rw [← HM.out] at h2; omega, rfl⟩, rfl⟩
      · go_wp2
        go_round
        case rel => exact ⟨k + 1, by omega, by go_num, by
          show ∀ r ∈ L.take (k + 1), _
          rw [HT.out]
          intro r hr
          rcases List.mem_append.1 hr with h | h
          · exact HK.out r h
          · rw [List.mem_singleton.1 h]; show ds.length ≤ 40; rw [← HM.out]; omega⟩
        case measure => simp [intOf]; omega
    · have hk' : k = n := by omega
      have hall : ∀ r ∈ L, r.2.2.length ≤ 40 := fun r hr => HK.out r (by rw [hk', HN.out, List.take_length]; exact hr)
      have HA := Lib.hid hall
      clear hall
      by_cases h8 : n ≤ 8
      · have h8' : (n : Int) ≤ 8 := by omega
        go_wp2
        go_ret
        exact ⟨.inl ⟨⟨by rw [← HN.out]; exact h8, HA.out⟩, by simp⟩, rfl⟩
      · have h8' : ¬ (n : Int) ≤ 8 := by omega
        go_wp2
        go_ret
        exact ⟨.inr ⟨fun h => h8 (by rw [HN.out]; exact h.1), by simp⟩, rfl⟩
end Go.Proofs.YtffcacpffamjfaaDoor

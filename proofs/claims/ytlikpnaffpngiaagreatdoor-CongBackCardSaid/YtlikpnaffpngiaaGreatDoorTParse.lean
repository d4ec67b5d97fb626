/- strconv.ParseUint at base 10 of the digits of a number that fits: at 8, 32 and 62 bits. -/
import Derived.Test.YtlikpnaffpngiaaGreatDoorTKey
import Derived.Test.YtlikpnaffpngiaaGreatDoorShelf
import Derived.Lib.ConvBytes
import Derived.Lib.ParseIntBCases
set_option linter.unusedVariables false
set_option linter.unusedSimpArgs false
namespace Go.Proofs.YtlikpnaffpngiaaGreatDoor
open Go.RowKit Go.Lib

theorem worth_le (a b : List UInt8) : worth a ≤ worth (a ++ b) := by
  have key : ∀ (n : Nat) (b : List UInt8), b.length = n → worth a ≤ worth (a ++ b) := by
    intro n
    induction n with
    | zero => intro b hb; rw [List.length_eq_zero_iff.1 hb, List.append_nil]; exact Nat.le_refl _
    | succ n ih =>
      intro b hb
      have hne : b ≠ [] := fun e => by rw [e] at hb; simp at hb
      rw [← List.dropLast_concat_getLast hne, ← List.append_assoc, worth_snoc]
      have := ih b.dropLast (by rw [List.length_dropLast]; omega)
      omega
  exact key _ b rfl
theorem worth_take (l : List UInt8) {k : Nat} (hk : k < l.length) : worth (l.take (k + 1)) = worth (l.take k) * 10 + (l[k].toNat - 48) := by
  rw [List.take_add_one, List.getElem?_eq_getElem hk]; exact worth_snoc _ _
theorem worth_take_le (l : List UInt8) (k : Nat) : worth (l.take k) ≤ worth l := by
  have := worth_le (l.take k) (l.drop k)
  rwa [List.take_append_drop] at this
/-- Digits whose number fits are parsed as it. -/
theorem parseM_ok (M : Nat) (hM : M ≤ 18446744073709551615) : ∀ (l a : List UInt8), (∀ b ∈ l, isDig b) → worth (a ++ l) ≤ M → parseUintM M (worth a) l = .ok (worth (a ++ l))
  | [], a, _, _ => by rw [List.append_nil]; rfl
  | c :: r, a, hd, hm => by
    have hc := hd c (List.mem_cons_self ..)
    have e1 : a ++ c :: r = (a ++ [c]) ++ r := by simp
    have h1 := worth_le (a ++ [c]) r
    rw [← e1] at h1
    rw [worth_snoc] at h1
    unfold isDig at hc
    have h2 : ¬ (1844674407370955162 ≤ worth a) := by omega
    have h3 : ¬ (M < worth a * 10 + (c.toNat - 48)) := by omega
    have h4 : parseUintM M (worth a) (c :: r) = parseUintM M (worth a * 10 + (c.toNat - 48)) r := by simp only [parseUintM, hc, and_self, if_true, h2, h3, if_false]
    rw [h4, ← worth_snoc, e1]
    exact parseM_ok M hM r (a ++ [c]) (fun b hb => hd b (List.mem_cons_of_mem _ hb)) (by rw [← e1]; exact hm)
theorem parseB_ok {B u : Nat} (hB : B ≤ 64) (h : u < 2 ^ B) : parseUintB B (decDigits u) = .ok u := by
  unfold parseUintB
  rw [if_neg (dec_ne u)]
  have h1 : 2 ^ B ≤ 2 ^ 64 := Nat.pow_le_pow_right (by decide) hB
  have h2 : (2 : Nat) ^ 64 = 18446744073709551616 := by decide
  have := parseM_ok (2 ^ B - 1) (by omega) (decDigits u) [] (decDigits_dig u) (by rw [List.nil_append, worth_dec]; omega)
  rw [List.nil_append, worth_dec] at this
  exact this
set_option maxHeartbeats 32000000 in
set_option maxRecDepth 100000 in
theorem parse62_in (t : ByteArray) (u : Nat) (ht : t.data.toList = decDigits u) (hu : u < 4611686018427387904) (w : World) :
    Calls Tryz.prog 81 #[.string t, .int .i64 10, .int .i64 62] w fun e w' => e = .returned (.tuple #[.int .u64 u, .nilIface]) ∧ w' = bytesWorld w 5 t := by
  have hlen : t.size = (decDigits u).length := by rw [← ht]; exact (Array.length_toList).symm
  have hmax : t.size ≤ 20 := by rw [hlen]; exact dec_len (by omega)
  have hne : t.size ≠ 0 := fun e => by
    rw [hlen] at e
    exact dec_ne u (List.length_eq_zero_iff.1 e)
  have hemp : t.toList.isEmpty = false := by
    rw [← decide_eq_emptyBytes]
    exact decide_eq_false (fun h => hne (by rw [h]; rfl))
  have hcv := Go.Lib.run_convert_string_bytes (P := Tryz.prog) w 9 98 5 t (u := .string) Tryz.underlying9 Tryz.underlying98 Tryz.underlying5
  have hB : ∀ j, j < t.size → (bytesWorld w 5 t).cell? ⟨w.heap.size, j, none⟩ = some (.int .u8 (t.data.toList.getD j 0).toNat) := fun j hj => bytesWorld_cell w 5 t j hj
  obtain ⟨W1, hW1⟩ : ∃ W1, W1 = bytesWorld w 5 t := ⟨_, rfl⟩
  rw [← hW1] at hcv hB ⊢
  rw [ht] at hB
  have HD := hid (show _ ∧ _ ∧ _ from ⟨hlen, hu, ht⟩)
  clear hW1 hlen hu ht
  have hmv : IntKind.u64.wrap (IntKind.u64.wrap 4611686018427387904 - 1) = 4611686018427387903 := by
    rw [IntKind.wrap_u64, IntKind.wrap_u64]
    decide
  go_enter Tryz.func81, Tryz.ntmps81
  go_wp2
  go_loop [12, 13, 101] (fun vu vn vi => ∃ (k : Nat) (a : Int), vu = .bool false ∧ vn = .int .u64 a ∧ vi = .int .i64 k ∧ k ≤ t.size ∧ Hid (a = (worth ((decDigits u).take k) : Int)))
    (fun _ _ vi => t.size - (RowKit.intOf vi).toNat)
  case atStart => exact ⟨0, 0, rfl, rfl, rfl, by omega, rfl⟩
  case round =>
    obtain ⟨k, a, rfl, rfl, rfl, hk, HA⟩ := hrel
    obtain ⟨hlen, hu, ht⟩ := HD.out
    have ha := HA.out
    by_cases hkn : k < t.size
    · have hkl : k < (decDigits u).length := by omega
      have hc := hB k hkn
      have hget : (decDigits u).getD k 0 = (decDigits u)[k] := by simp [List.getD, List.getElem?_eq_getElem hkl]
      have hdg := decDigits_dig u _ (List.getElem_mem hkl)
      have hwt := worth_take (decDigits u) hkl
      have hle := worth_take_le (decDigits u) (k + 1)
      rw [worth_dec, hwt] at hle
      rw [hget] at hc
      generalize (decDigits u)[k] = c at hc hdg hwt hle
      unfold isDig at hdg
      obtain ⟨hd0, hd1⟩ := hdg
      have a0 : 0 ≤ a := by omega
      have iov : a * 10 + ((c.toNat : Int) - 48) ≤ 4611686018427387903 := by omega
      have HN : Hid (a * 10 + ((c.toNat : Int) - 48) = (worth ((decDigits u).take (k + 1)) : Int)) := hid (by rw [hwt]; omega)
      clear hB hget hwt hle ha hlen hu ht hkl
      go_wp2
      refine ⟨⟨k + 1, a * 10 + ((c.toNat : Int) - 48), rfl, (by first | rfl | (congr 1; omega)), (by first | rfl | (congr 1; omega)), by omega, HN⟩, by simp [RowKit.intOf]; omega⟩
    · have hkk : k = t.size := by omega
      subst hkk
      have e1 : a = (u : Int) := by rw [ha, hlen, List.take_length, worth_dec]
      subst e1
      clear hB ha hlen hu ht
      go_wp2
      go_ret2
      exact ⟨rfl, rfl⟩
end Go.Proofs.YtlikpnaffpngiaaGreatDoor

/- The law NatTexts, walked: of any text nat.Of and the document's Of tell the same. Premises: the table of powers of ten reads as it is laid; DivMod's one example. -/
import Derived.Test.YtffcacpffamjfaaDoorAwake
import Derived.Test.YtffcacpffamjfaaDoorRefPlus
namespace Go.Proofs.YtffcacpffamjfaaDoor
open Go.RowKit

theorem pow9 (n : Nat) : (10 : Nat) ^ n ≤ 1000000000 ^ n := Nat.pow_le_pow_left (by decide) n

set_option maxRecDepth 100000 in
set_option maxHeartbeats 4000000 in
theorem lawTexts (hdm : DmEx) (s : ByteArray) (w : World) (htab : Tab w) (hw : 3 ≤ w.heap.size) :
    Calls Tryd.prog 6 #[.string s] w fun e w' => e = .returned (.bool true) ∧ Below w.heap.size w w' := by
  have haw := awake_any hdm w htab hw
  have HA := Lib.hid haw
  clear haw hdm htab
  rcases Nat.lt_or_ge 300 s.size with h300 | h300
  · go_enter Tryd.func6, Tryd.ntmps6
    go_wp2_with fail
    refine HA.out.mono ?_
    rintro e w1 ⟨rfl, hb1⟩
    go_wp2_with fail
    go_returns
    exact ⟨rfl, hb1⟩
  · by_cases hdec : isDec (bt s)
    · have hof := fun (W : World) => of_yes (s := s) W (by omega) hdec
      have h0 : 0 < s.size := by
        rw [← bt_length]
        rcases hdec.2 with h | h
        · rw [h]; decide
        · exact List.length_pos_iff.2 h.1
      have h1 : s.size = 1 ∨ (bt s).getD 0 0 ≠ 48 := by
        rcases hdec.2 with h | h
        · left; rw [← bt_length, h]; rfl
        · exact .inr h.2
      have href := fun (W : World) => refOf_body (s := s) W (by omega) h0 h1
      have hlt : dval (dg s) < 1000000000 ^ 300 := by
        refine Nat.lt_of_lt_of_le (dval_lt (dg_small hdec.1)) (Nat.le_trans (Nat.pow_le_pow_right (by decide) ?_) (pow9 300))
        rw [dg_length]; exact h300
      have HO := Lib.hid hof
      have HR := Lib.hid href
      have HD := Lib.hid hdec
      have HL := Lib.hid hlt
      clear hof href hdec hlt h1
      go_enter Tryd.func6, Tryd.ntmps6
      go_wp2_with fail
      refine HA.out.mono ?_
      rintro e w1 ⟨rfl, hb1⟩
      go_wp2_with fail
      refine (HO.out _).mono ?_
      rintro e w2 ⟨v, rfl, hv, hb2⟩
      obtain ⟨ts, ht1, ht2, ht3⟩ := hv
      have htl : ts.length ≤ 1000000 := Nat.le_trans (right_length_le ht1 (by rw [ht2]; exact HL.out)) (by decide)
      obtain ⟨A1, c1, rfl, hr1, _⟩ := ht3.slice32
      go_wp2_with fail
      refine (HR.out _).mono ?_
      rintro e w3 ⟨_, hy, hb3⟩
      obtain ⟨u, rfl, hu⟩ := hy HD.out.1
      obtain ⟨A2, c2, rfl, hr2⟩ := isNat_row hu ts ht1 ht2
      have s1 := hb1.size
      have s2 := hb2.size
      have bw : Below w.heap.size w w3 := (hb1.trans (hb2.mono s1)).trans (hb3.mono (by omega))
      have hr1' := hr1.below hb3
      clear hy hb1 hb2 hb3 hr1 ht3 hu
      go_wp2_with fail
      refine (same_yes hr1' hr2 htl).mono ?_
      rintro e w4 ⟨rfl, hd4⟩
      have b4 : Below w.heap.size w w4 := bw.trans (hd4.below.mono (by have := bw.size; omega))
      clear hd4
      go_wp2
      go_returns
      exact ⟨rfl, b4⟩
    · have hof := fun (W : World) => of_no (s := s) W (by omega) hdec
      have href : ∀ W, Calls Tryd.prog 26 #[.string s] W fun e w' => e = .returned (.tuple #[.slice none 0 0, .bool false]) ∧ Below W.heap.size W w' := by
        intro W
        by_cases h0 : s.size = 0 ∨ 1 < s.size ∧ (bt s).getD 0 0 = 48
        · exact (refOf_head W h0).mono fun e w' h => ⟨h.1, h.2 ▸ Below.refl _ _⟩
        · have hp : 0 < s.size := Nat.pos_of_ne_zero fun h => h0 (.inl h)
          have h1 : s.size = 1 ∨ (bt s).getD 0 0 ≠ 48 := by
            rcases Nat.lt_or_ge 1 s.size with h | h
            · exact .inr fun h2 => h0 (.inr ⟨h, h2⟩)
            · exact .inl (by omega)
          refine (refOf_body W (by omega) hp h1).mono fun e w' h => ⟨h.1 fun hd => hdec ⟨hd, ?_⟩, h.2.2⟩
          rcases h1 with h1 | h1
          · by_cases h48 : (bt s).getD 0 0 = 48
            · left
              have hbl := bt_length s
              match hb : bt s with
              | [] => rw [hb] at hbl; simp at hbl; omega
              | [d] => rw [hb] at h48; simp at h48; rw [h48]
              | a :: b :: r => rw [hb] at hbl; simp at hbl; omega
            · exact .inr ⟨fun e => by have := bt_length s; rw [e] at this; simp at this; omega, h48⟩
          · exact .inr ⟨fun e => by have := bt_length s; rw [e] at this; simp at this; omega, h1⟩
      have HO := Lib.hid hof
      have HR := Lib.hid href
      clear hof href hdec
      go_enter Tryd.func6, Tryd.ntmps6
      go_wp2_with fail
      refine HA.out.mono ?_
      rintro e w1 ⟨rfl, hb1⟩
      go_wp2_with fail
      refine (HO.out _).mono ?_
      rintro e w2 ⟨rfl, rfl⟩
      go_wp2_with fail
      refine (HR.out _).mono ?_
      rintro e w3 ⟨rfl, hb3⟩
      have s1 := hb1.size
      have bw : Below w.heap.size w w3 := hb1.trans (hb3.mono s1)
      clear hb1 hb3
      go_wp2_with fail
      refine (same_yes (xs := []) (A1 := none) (A2 := none) (c1 := 0) (c2 := 0) (Row.nil _ _) (Row.nil _ _) (by simp)).mono ?_
      rintro e w4 ⟨rfl, hd4⟩
      have b4 : Below w.heap.size w w4 := bw.trans (hd4.below.mono (by have := bw.size; omega))
      clear hd4
      go_wp2
      go_returns
      exact ⟨rfl, b4⟩
end Go.Proofs.YtffcacpffamjfaaDoor

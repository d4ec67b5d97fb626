/- The law NatOrder, walked: of any three rows the call returns true. Premises: the table of powers of ten reads as it is laid; DivMod's one example. -/
import Derived.Test.YtdppkljnbdendaaDoorLawKit
import Derived.Test.YtdppkljnbdendaaDoorDecOrd
import Derived.WalkLawsBesides
namespace Go.Proofs.YtdppkljnbdendaaDoor
open Go.RowKit

theorem below_step {w W w' : World} (h1 : Below w.heap.size w W) (h2 : Below W.heap.size W w') : Below w.heap.size w w' := h1.trans (h2.mono h1.size)

theorem ordI_lt {a b : Nat} (h : a < b) : ordI (a : Int) (b : Int) = -1 := by unfold ordI; rw [if_pos (by omega)]
theorem ordI_eq {a b : Nat} (h : a = b) : ordI (a : Int) (b : Int) = 0 := by unfold ordI; rw [if_neg (by omega), if_neg (by omega)]
theorem ordI_gt {a b : Nat} (h : b < a) : ordI (a : Int) (b : Int) = 1 := by unfold ordI; rw [if_neg (by omega), if_pos (by omega)]
theorem ordI_shift (a b c : Nat) : ordI ((a + c : Nat) : Int) ((b + c : Nat) : Int) = ordI (a : Int) (b : Int) := by
  unfold ordI
  by_cases h : a < b
  · rw [if_pos (by omega), if_pos (by omega)]
  · by_cases h2 : b < a
    · rw [if_neg (by omega), if_pos (by omega), if_neg (by omega), if_pos (by omega)]
    · rw [if_neg (by omega), if_neg (by omega), if_neg (by omega), if_neg (by omega)]
theorem ordI_le {a b : Nat} : ordI (a : Int) (b : Int) ≤ 0 ↔ a ≤ b := by
  unfold ordI
  by_cases h : a < b
  · rw [if_pos (by omega)]; omega
  · by_cases h2 : b < a
    · rw [if_neg (by omega), if_pos (by omega)]; omega
    · rw [if_neg (by omega), if_neg (by omega)]; omega

set_option maxRecDepth 100000 in
set_option maxHeartbeats 16000000 in
theorem lawOrder (hdm : DmEx) {A1 A2 A3 : Option Addr} {c1 c2 c3 : Nat} {xs ys zs : List Nat} (w : World) (htab : Tab w) (hw : 3 ≤ w.heap.size) (r1 : Row w A1 (u32s xs)) (r2 : Row w A2 (u32s ys)) (r3 : Row w A3 (u32s zs)) (d1 : small 4294967296 xs) (d2 : small 4294967296 ys) (d3 : small 4294967296 zs)
    (l1 : xs.length < 9223372036854775808) (l2 : ys.length < 9223372036854775808) (l3 : zs.length < 9223372036854775808) :
    Calls Tryd.prog 8 #[.slice A1 xs.length c1, .slice A2 ys.length c2, .slice A3 zs.length c3] w fun e w' => e = .returned (.bool true) ∧ Below w.heap.size w w' := by
  have haw := awake_any hdm w htab hw
  have HA := Lib.hid haw
  have hfew := fun (W : World) => few_three (w := W) (A1 := A1) (A2 := A2) (A3 := A3) (c1 := c1) (c2 := c2) (c3 := c3) l1 l2 l3
  have HF := Lib.hid hfew
  have HT := Lib.hid htab
  clear haw hdm hfew htab
  by_cases hsh : short [(A1, c1, xs), (A2, c2, ys), (A3, c3, zs)]
  · have m1 : xs.length ≤ 40 := hsh.2 (A1, c1, xs) (by simp)
    have m2 : ys.length ≤ 40 := hsh.2 (A2, c2, ys) (by simp)
    have m3 : zs.length ≤ 40 := hsh.2 (A3, c3, zs) (by simp)
    obtain ⟨va, hva⟩ : ∃ va, va = val xs := ⟨_, rfl⟩
    obtain ⟨vb, hvb⟩ : ∃ vb, vb = val ys := ⟨_, rfl⟩
    obtain ⟨vc, hvc⟩ : ∃ vc, vc = val zs := ⟨_, rfl⟩
    obtain ⟨M, hM1, hM2⟩ : ∃ M, M ≤ 41 ∧ 41 ≤ M := ⟨41, Nat.le_refl _, Nat.le_refl _⟩
    have ba : va < 1000000000 ^ M := by rw [hva]; exact Nat.lt_of_lt_of_le (val_lt32 d1) (Nat.pow_le_pow_right (by decide) (by omega))
    have bb : vb < 1000000000 ^ M := by rw [hvb]; exact Nat.lt_of_lt_of_le (val_lt32 d2) (Nat.pow_le_pow_right (by decide) (by omega))
    have bc : vc < 1000000000 ^ M := by rw [hvc]; exact Nat.lt_of_lt_of_le (val_lt32 d3) (Nat.pow_le_pow_right (by decide) (by omega))
    have bs : ∀ {p q : Nat}, p < 1000000000 ^ M → q < 1000000000 ^ M → p + q < 1000000000 ^ (M + 1) := fun {p q} hp hq => by rw [Nat.pow_succ]; omega
    obtain ⟨x, hx⟩ : ∃ x, x = ordI (va : Int) (vb : Int) := ⟨_, rfl⟩
    obtain ⟨nx, hnx⟩ : ∃ nx, nx = ordI (vb : Int) (va : Int) := ⟨_, rfl⟩
    obtain ⟨y, hy⟩ : ∃ y, y = ordI (vb : Int) (vc : Int) := ⟨_, rfl⟩
    obtain ⟨z, hz⟩ : ∃ z, z = ordI (va : Int) (vc : Int) := ⟨_, rfl⟩
    obtain ⟨b, hb⟩ : ∃ b, b = decide (va = vb) := ⟨_, rfl⟩
    obtain ⟨S, hS⟩ : ∃ S, S = dtext va := ⟨_, rfl⟩
    obtain ⟨T, hT⟩ : ∃ T, T = dtext vb := ⟨_, rfl⟩
    have cab := fun (W : World) (hW : Below w.heap.size w W) => cmp_any (c1 := c1) (c2 := c2) (r1.below hW) (r2.below hW) d1 d2 (by omega) (by omega)
    have cba := fun (W : World) (hW : Below w.heap.size w W) => cmp_any (c1 := c2) (c2 := c1) (r2.below hW) (r1.below hW) d2 d1 (by omega) (by omega)
    have cbc := fun (W : World) (hW : Below w.heap.size w W) => cmp_any (c1 := c2) (c2 := c3) (r2.below hW) (r3.below hW) d2 d3 (by omega) (by omega)
    have cac := fun (W : World) (hW : Below w.heap.size w W) => cmp_any (c1 := c1) (c2 := c3) (r1.below hW) (r3.below hW) d1 d3 (by omega) (by omega)
    have sac := fun (W : World) (hW : Below w.heap.size w W) => add_two (c1 := c1) (c2 := c3) (r1.below hW) (r3.below hW) d1 d3 (by omega) (by omega)
    have sbc := fun (W : World) (hW : Below w.heap.size w W) => add_two (c1 := c2) (c2 := c3) (r2.below hW) (r3.below hW) d2 d3 (by omega) (by omega)
    have tra := fun (W : World) (hW : Below w.heap.size w W) => trimRow_any (c := c1) (r1.below hW) d1 (by omega)
    have trb := fun (W : World) (hW : Below w.heap.size w W) => trimRow_any (c := c2) (r2.below hW) d2 (by omega)
    have txa := fun (W : World) (hW : Below w.heap.size w W) => text_any (c := c1) (r1.below hW) d1 (by omega) (HT.out.below hW hw) (Nat.le_trans hw hW.size)
    have txb := fun (W : World) (hW : Below w.heap.size w W) => text_any (c := c2) (r2.below hW) d2 (by omega) (HT.out.below hW hw) (Nat.le_trans hw hW.size)
    have hSs : S.size ≤ 100000 := by
      rw [hS, dtext_size]
      exact Nat.le_trans (decDigits_len ba (by omega)) (by omega)
    have ofs := fun (W : World) => of_yes (s := S) W hSs (by rw [hS]; exact dtext_isDec va)
    have hdS : dval (dg S) = va := by rw [hS]; exact dtext_val va
    rw [hdS] at ofs
    rw [← hva, ← hvb, ← hx] at cab
    rw [← hva, ← hvb, ← hnx] at cba
    rw [← hvb, ← hvc, ← hy] at cbc
    rw [← hva, ← hvc, ← hz] at cac
    rw [← hva, ← hvc] at sac
    rw [← hvb, ← hvc] at sbc
    rw [← hva] at tra txa
    rw [← hvb] at trb txb
    rw [show (⟨(Lib.decDigits va).toArray⟩ : ByteArray) = S from hS.symm] at txa
    rw [show (⟨(Lib.decDigits vb).toArray⟩ : ByteArray) = T from hT.symm] at txb
    have c2s : ∀ (W : World) (rs ts : List Nat) (B1 B2 : Option Addr) (e1 e2 : Nat), Row W B1 (u32s rs) → Row W B2 (u32s ts) → right rs → right ts → val rs = va + vc → val ts = vb + vc →
        Calls Tryd.prog 18 #[.slice B1 rs.length e1, .slice B2 ts.length e2] W fun e w' => e = .returned (.int .i64 x) ∧ Below W.heap.size W w' := fun W rs ts B1 B2 e1 e2 q1 q2 h1 h2 v1 v2 => by
      have k1 := right_length_le h1 (by rw [v1]; exact bs ba bc)
      have k2 := right_length_le h2 (by rw [v2]; exact bs bb bc)
      have := cmp_any (c1 := e1) (c2 := e2) q1 q2 (small_mono h1.1 (by decide)) (small_mono h2.1 (by decide)) (by omega) (by omega)
      rw [v1, v2, ordI_shift, ← hx] at this
      exact this
    have sm : ∀ (W : World) (rs ts : List Nat) (B1 B2 : Option Addr) (e1 e2 : Nat), Row W B1 (u32s rs) → Row W B2 (u32s ts) → right rs → right ts → val rs = va → val ts = vb →
        Calls Tryd.prog 17 #[.slice B1 rs.length e1, .slice B2 ts.length e2] W fun e w' => e = .returned (.bool b) ∧ Drawn W w' := fun W rs ts B1 B2 e1 e2 q1 q2 h1 h2 v1 v2 => by
      have k1 := right_length_le h1 (by rw [v1]; exact ba)
      refine same_eq q1 q2 (by omega) ?_
      rw [hb, decide_eq_true_eq]
      constructor
      · intro h; exact right_unique h1 h2 (by rw [v1, v2, h])
      · intro h; rw [← v1, ← v2, h]
    have sa : ∀ (W : World) (rs ts : List Nat) (B1 B2 : Option Addr) (e1 e2 : Nat), Row W B1 (u32s rs) → Row W B2 (u32s ts) → right rs → right ts → val rs = va → val ts = va →
        Calls Tryd.prog 17 #[.slice B1 rs.length e1, .slice B2 ts.length e2] W fun e w' => e = .returned (.bool true) ∧ Drawn W w' := fun W rs ts B1 B2 e1 e2 q1 q2 h1 h2 v1 v2 => by
      have k1 := right_length_le h1 (by rw [v1]; exact ba)
      obtain rfl : rs = ts := right_unique h1 h2 (by rw [v1, v2])
      exact same_yes q1 q2 (by omega)
    have CAB := Lib.hid cab
    have CBA := Lib.hid cba
    have CBC := Lib.hid cbc
    have CAC := Lib.hid cac
    have SAC := Lib.hid sac
    have SBC := Lib.hid sbc
    have TRA := Lib.hid tra
    have TRB := Lib.hid trb
    have TXA := Lib.hid txa
    have TXB := Lib.hid txb
    have OFS := Lib.hid ofs
    have C2S := Lib.hid c2s
    have SM := Lib.hid sm
    have SA := Lib.hid sa
    have HSH := Lib.hid hsh
    have hcase : (x = 1 ∧ nx = -1 ∧ b = false ∧ T.size < S.size ∨ x = 1 ∧ nx = -1 ∧ b = false ∧ S.size = T.size ∧ Op.bytesLess S.toList T.toList = false) ∨ (x = 0 ∧ nx = 0 ∧ b = true ∧ S = T ∧ Op.bytesLess S.toList S.toList = false) ∨
        (x = -1 ∧ nx = 1 ∧ b = false ∧ S.size < T.size ∨ x = -1 ∧ nx = 1 ∧ b = false ∧ S.size = T.size ∧ Op.bytesLess S.toList T.toList = true) := by
      have e1 : S.size = (Lib.decDigits va).length := by rw [hS, dtext_size]
      have e2 : T.size = (Lib.decDigits vb).length := by rw [hT, dtext_size]
      rcases Nat.lt_trichotomy va vb with h | h | h
      · right; right
        have k := decDigits_mono vb va (by omega)
        have g1 : x = -1 := by rw [hx, ordI_lt h]
        have g2 : nx = 1 := by rw [hnx, ordI_gt h]
        have g3 : b = false := by rw [hb]; exact decide_eq_false (by omega)
        rcases Nat.lt_or_ge S.size T.size with h2 | h2
        · exact .inl ⟨g1, g2, g3, h2⟩
        · refine .inr ⟨g1, g2, g3, by omega, ?_⟩
          rw [hS, hT, dtext_toList, dtext_toList, decDigits_less _ _ (by omega)]
          exact decide_eq_true h
      · right; left
        refine ⟨by rw [hx, ordI_eq h], by rw [hnx, ordI_eq h.symm], by rw [hb]; exact decide_eq_true h, by rw [hS, hT, h], ?_⟩
        rw [hS, dtext_toList, decDigits_less _ _ rfl]
        exact decide_eq_false (by omega)
      · left
        have k := decDigits_mono va vb (by omega)
        have g1 : x = 1 := by rw [hx, ordI_gt h]
        have g2 : nx = -1 := by rw [hnx, ordI_lt h]
        have g3 : b = false := by rw [hb]; exact decide_eq_false (by omega)
        rcases Nat.lt_or_ge T.size S.size with h2 | h2
        · exact .inl ⟨g1, g2, g3, h2⟩
        · refine .inr ⟨g1, g2, g3, by omega, ?_⟩
          rw [hS, hT, dtext_toList, dtext_toList, decDigits_less _ _ (by omega)]
          exact decide_eq_false (by omega)
    have hyz : 0 < x ∨ x ≤ 0 ∧ 0 < y ∨ x ≤ 0 ∧ y ≤ 0 ∧ z ≤ 0 := by
      rcases Int.lt_or_le 0 x with h | h
      · exact .inl h
      · rcases Int.lt_or_le 0 y with h2 | h2
        · exact .inr (.inl ⟨h, h2⟩)
        · refine .inr (.inr ⟨h, h2, ?_⟩)
          rw [hx, ordI_le] at h
          rw [hy, ordI_le] at h2
          rw [hz, ordI_le]
          omega
    clear cab cba cbc cac sac sbc tra trb txa txb ofs c2s sm sa hsh hx hnx hy hz hb hS hT hva hvb hvc ba bb bc bs hdS hM1 hM2 m1 m2 m3 l1 l2 l3 d1 d2 d3 r1 r2 r3 HT hSs
    have hcs : (x = 1 ∧ nx = -1 ∧ b = false ∧ (T.size < S.size ∨ S.size = T.size ∧ Op.bytesLess S.toList T.toList = false)) ∨ (x = 0 ∧ nx = 0 ∧ b = true ∧ S = T ∧ Op.bytesLess S.toList S.toList = false) ∨ (x = -1 ∧ nx = 1 ∧ b = false ∧ (S.size < T.size ∨ S.size = T.size ∧ Op.bytesLess S.toList T.toList = true)) := by
      rcases hcase with (⟨a1, a2, a3, a4⟩ | ⟨a1, a2, a3, a4⟩) | h | ⟨a1, a2, a3, a4⟩ | ⟨a1, a2, a3, a4⟩
      · exact .inl ⟨a1, a2, a3, .inl a4⟩
      · exact .inl ⟨a1, a2, a3, .inr a4⟩
      · exact .inr (.inl h)
      · exact .inr (.inr ⟨a1, a2, a3, .inl a4⟩)
      · exact .inr (.inr ⟨a1, a2, a3, .inr a4⟩)
    clear hcase
    rcases hcs with ⟨rfl, rfl, rfl, h4 | ⟨h4, hless⟩⟩ | ⟨rfl, rfl, rfl, rfl, hless⟩ | ⟨rfl, rfl, rfl, h4 | ⟨h4, hless⟩⟩
    · have hl : ¬ (S.size : Int) < (T.size : Int) := by omega
      have hne : ((S.size : Int) != (T.size : Int)) = true := by rw [bne_iff_ne]; omega
      clear hyz h4
      go_enter Tryd.func8, Tryd.ntmps8
      go_wp2_with fail
      refine HA.out.mono ?_
      rintro e w1 ⟨rfl, b1⟩
      go_wp2_with fail
      refine (HF.out _).mono ?_
      rintro e w1' ⟨hf, rfl⟩
      rcases hf with ⟨_, rfl⟩ | ⟨hno, _⟩
      rotate_left 1
      exact absurd HSH.out hno
      have b2 := b1.alloc b1.size
      clear b1
      go_wp2_with fail
      refine (CAB.out _ (b2 _)).mono ?_
      rintro e w2 ⟨rfl, h2⟩
      have b3 := below_step (b2 _) h2
      clear b2 h2
      go_wp2_with fail
      refine (CBC.out _ b3).mono ?_
      rintro e w3 ⟨rfl, h3⟩
      have b4 := below_step b3 h3
      clear b3 h3
      go_wp2_with fail
      refine (CAC.out _ b4).mono ?_
      rintro e w4 ⟨rfl, h4⟩
      have b5 := below_step b4 h4
      clear b4 h4
      go_wp2_with fail
      refine (CBA.out _ b5).mono ?_
      rintro e w5 ⟨rfl, h5⟩
      have b6 := below_step b5 h5
      clear b5 h5
      go_wp2_with fail
      refine (SAC.out _ b6).mono ?_
      rintro e w6 ⟨v, rfl, ⟨rs, p1, p2, p3⟩, h6⟩
      have b7 := below_step (b6.alloc b6.size _) h6
      obtain ⟨B1, e1, rfl, q1, _⟩ := p3.slice32
      clear b6 h6 p3
      go_wp2_with fail
      refine (SBC.out _ b7).mono ?_
      rintro e w7 ⟨v, rfl, ⟨ts, s1, s2, s3⟩, h7⟩
      have b8 := below_step (b7.alloc b7.size _) h7
      have q1' := (q1.alloc _).below h7
      obtain ⟨B2, e2, rfl, q2, _⟩ := s3.slice32
      clear b7 h7 s3 q1
      go_wp2_with fail
      refine (C2S.out _ rs ts B1 B2 e1 e2 q1' q2 p1 s1 p2 s2).mono ?_
      rintro e w8 ⟨rfl, h8⟩
      have b9 := below_step b8 h8
      clear b8 h8 q1' q2 p1 s1 p2 s2
      go_wp2_with fail
      refine (TRA.out _ b9).mono ?_
      rintro e w9 ⟨v, rfl, ⟨rs2, p1, p2, p3⟩, h9⟩
      have b10 := below_step b9 h9
      obtain ⟨B3, e3, rfl, q1, _⟩ := p3.slice32
      clear b9 h9 p3
      go_wp2_with fail
      refine (TRB.out _ b10).mono ?_
      rintro e w10 ⟨v, rfl, ⟨ts2, s1, s2, s3⟩, h10⟩
      have b11 := below_step b10 h10
      have q1' := q1.below h10
      obtain ⟨B4, e4, rfl, q2, _⟩ := s3.slice32
      clear b10 h10 s3 q1
      go_wp2_with fail
      refine (SM.out _ rs2 ts2 B3 B4 e3 e4 q1' q2 p1 s1 p2 s2).mono ?_
      rintro e w11 ⟨rfl, h11⟩
      have b12 := below_step b11 h11.below
      clear b11 h11 q1' q2 p1 s1 p2 s2
      go_wp2_with fail
      refine (TXA.out _ b12).mono ?_
      rintro e w12 ⟨rfl, h12⟩
      have b13 := below_step b12 h12
      clear b12 h12
      go_wp2_with fail
      refine (TXB.out _ b13).mono ?_
      rintro e w13 ⟨rfl, h13⟩
      have b14 := below_step b13 h13
      clear b13 h13
      go_wp2_with fail
      refine (OFS.out _).mono ?_
      rintro e w14 ⟨v, rfl, ⟨rs3, p1, p2, p3⟩, h14⟩
      have b15 := below_step b14 h14
      obtain ⟨B5, e5, rfl, q1, _⟩ := p3.slice32
      clear b14 h14 p3
      go_wp2_with fail
      refine (TRA.out _ b15).mono ?_
      rintro e w15 ⟨v, rfl, ⟨ts3, s1, s2, s3⟩, h15⟩
      have b16 := below_step b15 h15
      have q1' := q1.below h15
      obtain ⟨B6, e6, rfl, q2, _⟩ := s3.slice32
      clear b15 h15 s3 q1
      go_wp2_with fail
      refine (SA.out _ rs3 ts3 B5 B6 e5 e6 q1' q2 p1 s1 p2 s2).mono ?_
      rintro e w16 ⟨rfl, h16⟩
      have b17 := below_step b16 h16.below
      clear b16 h16 q1' q2 p1 s1 p2 s2
      go_wp2
      go_returns
      exact ⟨rfl, b17⟩
    · have hl : ¬ (S.size : Int) < (T.size : Int) := by omega
      have hne : ((S.size : Int) != (T.size : Int)) = false := by rw [bne_eq_false_iff_eq]; omega
      clear hyz h4
      go_enter Tryd.func8, Tryd.ntmps8
      go_wp2_with fail
      refine HA.out.mono ?_
      rintro e w1 ⟨rfl, b1⟩
      go_wp2_with fail
      refine (HF.out _).mono ?_
      rintro e w1' ⟨hf, rfl⟩
      rcases hf with ⟨_, rfl⟩ | ⟨hno, _⟩
      rotate_left 1
      exact absurd HSH.out hno
      have b2 := b1.alloc b1.size
      clear b1
      go_wp2_with fail
      refine (CAB.out _ (b2 _)).mono ?_
      rintro e w2 ⟨rfl, h2⟩
      have b3 := below_step (b2 _) h2
      clear b2 h2
      go_wp2_with fail
      refine (CBC.out _ b3).mono ?_
      rintro e w3 ⟨rfl, h3⟩
      have b4 := below_step b3 h3
      clear b3 h3
      go_wp2_with fail
      refine (CAC.out _ b4).mono ?_
      rintro e w4 ⟨rfl, h4⟩
      have b5 := below_step b4 h4
      clear b4 h4
      go_wp2_with fail
      refine (CBA.out _ b5).mono ?_
      rintro e w5 ⟨rfl, h5⟩
      have b6 := below_step b5 h5
      clear b5 h5
      go_wp2_with fail
      refine (SAC.out _ b6).mono ?_
      rintro e w6 ⟨v, rfl, ⟨rs, p1, p2, p3⟩, h6⟩
      have b7 := below_step (b6.alloc b6.size _) h6
      obtain ⟨B1, e1, rfl, q1, _⟩ := p3.slice32
      clear b6 h6 p3
      go_wp2_with fail
      refine (SBC.out _ b7).mono ?_
      rintro e w7 ⟨v, rfl, ⟨ts, s1, s2, s3⟩, h7⟩
      have b8 := below_step (b7.alloc b7.size _) h7
      have q1' := (q1.alloc _).below h7
      obtain ⟨B2, e2, rfl, q2, _⟩ := s3.slice32
      clear b7 h7 s3 q1
      go_wp2_with fail
      refine (C2S.out _ rs ts B1 B2 e1 e2 q1' q2 p1 s1 p2 s2).mono ?_
      rintro e w8 ⟨rfl, h8⟩
      have b9 := below_step b8 h8
      clear b8 h8 q1' q2 p1 s1 p2 s2
      go_wp2_with fail
      refine (TRA.out _ b9).mono ?_
      rintro e w9 ⟨v, rfl, ⟨rs2, p1, p2, p3⟩, h9⟩
      have b10 := below_step b9 h9
      obtain ⟨B3, e3, rfl, q1, _⟩ := p3.slice32
      clear b9 h9 p3
      go_wp2_with fail
      refine (TRB.out _ b10).mono ?_
      rintro e w10 ⟨v, rfl, ⟨ts2, s1, s2, s3⟩, h10⟩
      have b11 := below_step b10 h10
      have q1' := q1.below h10
      obtain ⟨B4, e4, rfl, q2, _⟩ := s3.slice32
      clear b10 h10 s3 q1
      go_wp2_with fail
      refine (SM.out _ rs2 ts2 B3 B4 e3 e4 q1' q2 p1 s1 p2 s2).mono ?_
      rintro e w11 ⟨rfl, h11⟩
      have b12 := below_step b11 h11.below
      clear b11 h11 q1' q2 p1 s1 p2 s2
      go_wp2_with fail
      refine (TXA.out _ b12).mono ?_
      rintro e w12 ⟨rfl, h12⟩
      have b13 := below_step b12 h12
      clear b12 h12
      go_wp2_with fail
      refine (TXB.out _ b13).mono ?_
      rintro e w13 ⟨rfl, h13⟩
      have b14 := below_step b13 h13
      clear b13 h13
      go_wp2_with fail
      refine (OFS.out _).mono ?_
      rintro e w14 ⟨v, rfl, ⟨rs3, p1, p2, p3⟩, h14⟩
      have b15 := below_step b14 h14
      obtain ⟨B5, e5, rfl, q1, _⟩ := p3.slice32
      clear b14 h14 p3
      go_wp2_with fail
      refine (TRA.out _ b15).mono ?_
      rintro e w15 ⟨v, rfl, ⟨ts3, s1, s2, s3⟩, h15⟩
      have b16 := below_step b15 h15
      have q1' := q1.below h15
      obtain ⟨B6, e6, rfl, q2, _⟩ := s3.slice32
      clear b15 h15 s3 q1
      go_wp2_with fail
      refine (SA.out _ rs3 ts3 B5 B6 e5 e6 q1' q2 p1 s1 p2 s2).mono ?_
      rintro e w16 ⟨rfl, h16⟩
      have b17 := below_step b16 h16.below
      clear b16 h16 q1' q2 p1 s1 p2 s2
      go_wp2
      go_returns
      exact ⟨rfl, b17⟩
    · have hl : ¬ (S.size : Int) < (S.size : Int) := by omega
      have hne : ((S.size : Int) != (S.size : Int)) = false := by rw [bne_eq_false_iff_eq]
      rcases hyz with h | ⟨_, hy⟩ | ⟨_, hy, hz⟩
      · omega
      all_goals
        go_enter Tryd.func8, Tryd.ntmps8
        go_wp2_with fail
        refine HA.out.mono ?_
        rintro e w1 ⟨rfl, b1⟩
        go_wp2_with fail
        refine (HF.out _).mono ?_
        rintro e w1' ⟨hf, rfl⟩
        rcases hf with ⟨_, rfl⟩ | ⟨hno, _⟩
        rotate_left 1
        exact absurd HSH.out hno
        have b2 := b1.alloc b1.size
        clear b1
        go_wp2_with fail
        refine (CAB.out _ (b2 _)).mono ?_
        rintro e w2 ⟨rfl, h2⟩
        have b3 := below_step (b2 _) h2
        clear b2 h2
        go_wp2_with fail
        refine (CBC.out _ b3).mono ?_
        rintro e w3 ⟨rfl, h3⟩
        have b4 := below_step b3 h3
        clear b3 h3
        go_wp2_with fail
        refine (CAC.out _ b4).mono ?_
        rintro e w4 ⟨rfl, h4⟩
        have b5 := below_step b4 h4
        clear b4 h4
        go_wp2_with fail
        refine (CBA.out _ b5).mono ?_
        rintro e w5 ⟨rfl, h5⟩
        have b6 := below_step b5 h5
        clear b5 h5
        go_wp2_with fail
        refine (SAC.out _ b6).mono ?_
        rintro e w6 ⟨v, rfl, ⟨rs, p1, p2, p3⟩, h6⟩
        have b7 := below_step (b6.alloc b6.size _) h6
        obtain ⟨B1, e1, rfl, q1, _⟩ := p3.slice32
        clear b6 h6 p3
        go_wp2_with fail
        refine (SBC.out _ b7).mono ?_
        rintro e w7 ⟨v, rfl, ⟨ts, s1, s2, s3⟩, h7⟩
        have b8 := below_step (b7.alloc b7.size _) h7
        have q1' := (q1.alloc _).below h7
        obtain ⟨B2, e2, rfl, q2, _⟩ := s3.slice32
        clear b7 h7 s3 q1
        go_wp2_with fail
        refine (C2S.out _ rs ts B1 B2 e1 e2 q1' q2 p1 s1 p2 s2).mono ?_
        rintro e w8 ⟨rfl, h8⟩
        have b9 := below_step b8 h8
        clear b8 h8 q1' q2 p1 s1 p2 s2
        go_wp2_with fail
        refine (TRA.out _ b9).mono ?_
        rintro e w9 ⟨v, rfl, ⟨rs2, p1, p2, p3⟩, h9⟩
        have b10 := below_step b9 h9
        obtain ⟨B3, e3, rfl, q1, _⟩ := p3.slice32
        clear b9 h9 p3
        go_wp2_with fail
        refine (TRB.out _ b10).mono ?_
        rintro e w10 ⟨v, rfl, ⟨ts2, s1, s2, s3⟩, h10⟩
        have b11 := below_step b10 h10
        have q1' := q1.below h10
        obtain ⟨B4, e4, rfl, q2, _⟩ := s3.slice32
        clear b10 h10 s3 q1
        go_wp2_with fail
        refine (SM.out _ rs2 ts2 B3 B4 e3 e4 q1' q2 p1 s1 p2 s2).mono ?_
        rintro e w11 ⟨rfl, h11⟩
        have b12 := below_step b11 h11.below
        clear b11 h11 q1' q2 p1 s1 p2 s2
        go_wp2_with fail
        refine (TXA.out _ b12).mono ?_
        rintro e w12 ⟨rfl, h12⟩
        have b13 := below_step b12 h12
        clear b12 h12
        go_wp2_with fail
        refine (TXB.out _ b13).mono ?_
        rintro e w13 ⟨rfl, h13⟩
        have b14 := below_step b13 h13
        clear b13 h13
        go_wp2_with fail
        refine (OFS.out _).mono ?_
        rintro e w14 ⟨v, rfl, ⟨rs3, p1, p2, p3⟩, h14⟩
        have b15 := below_step b14 h14
        obtain ⟨B5, e5, rfl, q1, _⟩ := p3.slice32
        clear b14 h14 p3
        go_wp2_with fail
        refine (TRA.out _ b15).mono ?_
        rintro e w15 ⟨v, rfl, ⟨ts3, s1, s2, s3⟩, h15⟩
        have b16 := below_step b15 h15
        have q1' := q1.below h15
        obtain ⟨B6, e6, rfl, q2, _⟩ := s3.slice32
        clear b15 h15 s3 q1
        go_wp2_with fail
        refine (SA.out _ rs3 ts3 B5 B6 e5 e6 q1' q2 p1 s1 p2 s2).mono ?_
        rintro e w16 ⟨rfl, h16⟩
        have b17 := below_step b16 h16.below
        clear b16 h16 q1' q2 p1 s1 p2 s2
        go_wp2
        go_returns
        exact ⟨rfl, b17⟩
    · have hl : (S.size : Int) < (T.size : Int) := by omega
      have hne : ((S.size : Int) != (T.size : Int)) = true := by rw [bne_iff_ne]; omega
      clear h4
      rcases hyz with h | ⟨_, hy⟩ | ⟨_, hy, hz⟩
      · omega
      all_goals
        go_enter Tryd.func8, Tryd.ntmps8
        go_wp2_with fail
        refine HA.out.mono ?_
        rintro e w1 ⟨rfl, b1⟩
        go_wp2_with fail
        refine (HF.out _).mono ?_
        rintro e w1' ⟨hf, rfl⟩
        rcases hf with ⟨_, rfl⟩ | ⟨hno, _⟩
        rotate_left 1
        exact absurd HSH.out hno
        have b2 := b1.alloc b1.size
        clear b1
        go_wp2_with fail
        refine (CAB.out _ (b2 _)).mono ?_
        rintro e w2 ⟨rfl, h2⟩
        have b3 := below_step (b2 _) h2
        clear b2 h2
        go_wp2_with fail
        refine (CBC.out _ b3).mono ?_
        rintro e w3 ⟨rfl, h3⟩
        have b4 := below_step b3 h3
        clear b3 h3
        go_wp2_with fail
        refine (CAC.out _ b4).mono ?_
        rintro e w4 ⟨rfl, h4⟩
        have b5 := below_step b4 h4
        clear b4 h4
        go_wp2_with fail
        refine (CBA.out _ b5).mono ?_
        rintro e w5 ⟨rfl, h5⟩
        have b6 := below_step b5 h5
        clear b5 h5
        go_wp2_with fail
        refine (SAC.out _ b6).mono ?_
        rintro e w6 ⟨v, rfl, ⟨rs, p1, p2, p3⟩, h6⟩
        have b7 := below_step (b6.alloc b6.size _) h6
        obtain ⟨B1, e1, rfl, q1, _⟩ := p3.slice32
        clear b6 h6 p3
        go_wp2_with fail
        refine (SBC.out _ b7).mono ?_
        rintro e w7 ⟨v, rfl, ⟨ts, s1, s2, s3⟩, h7⟩
        have b8 := below_step (b7.alloc b7.size _) h7
        have q1' := (q1.alloc _).below h7
        obtain ⟨B2, e2, rfl, q2, _⟩ := s3.slice32
        clear b7 h7 s3 q1
        go_wp2_with fail
        refine (C2S.out _ rs ts B1 B2 e1 e2 q1' q2 p1 s1 p2 s2).mono ?_
        rintro e w8 ⟨rfl, h8⟩
        have b9 := below_step b8 h8
        clear b8 h8 q1' q2 p1 s1 p2 s2
        go_wp2_with fail
        refine (TRA.out _ b9).mono ?_
        rintro e w9 ⟨v, rfl, ⟨rs2, p1, p2, p3⟩, h9⟩
        have b10 := below_step b9 h9
        obtain ⟨B3, e3, rfl, q1, _⟩ := p3.slice32
        clear b9 h9 p3
        go_wp2_with fail
        refine (TRB.out _ b10).mono ?_
        rintro e w10 ⟨v, rfl, ⟨ts2, s1, s2, s3⟩, h10⟩
        have b11 := below_step b10 h10
        have q1' := q1.below h10
        obtain ⟨B4, e4, rfl, q2, _⟩ := s3.slice32
        clear b10 h10 s3 q1
        go_wp2_with fail
        refine (SM.out _ rs2 ts2 B3 B4 e3 e4 q1' q2 p1 s1 p2 s2).mono ?_
        rintro e w11 ⟨rfl, h11⟩
        have b12 := below_step b11 h11.below
        clear b11 h11 q1' q2 p1 s1 p2 s2
        go_wp2_with fail
        refine (TXA.out _ b12).mono ?_
        rintro e w12 ⟨rfl, h12⟩
        have b13 := below_step b12 h12
        clear b12 h12
        go_wp2_with fail
        refine (TXB.out _ b13).mono ?_
        rintro e w13 ⟨rfl, h13⟩
        have b14 := below_step b13 h13
        clear b13 h13
        go_wp2_with fail
        refine (OFS.out _).mono ?_
        rintro e w14 ⟨v, rfl, ⟨rs3, p1, p2, p3⟩, h14⟩
        have b15 := below_step b14 h14
        obtain ⟨B5, e5, rfl, q1, _⟩ := p3.slice32
        clear b14 h14 p3
        go_wp2_with fail
        refine (TRA.out _ b15).mono ?_
        rintro e w15 ⟨v, rfl, ⟨ts3, s1, s2, s3⟩, h15⟩
        have b16 := below_step b15 h15
        have q1' := q1.below h15
        obtain ⟨B6, e6, rfl, q2, _⟩ := s3.slice32
        clear b15 h15 s3 q1
        go_wp2_with fail
        refine (SA.out _ rs3 ts3 B5 B6 e5 e6 q1' q2 p1 s1 p2 s2).mono ?_
        rintro e w16 ⟨rfl, h16⟩
        have b17 := below_step b16 h16.below
        clear b16 h16 q1' q2 p1 s1 p2 s2
        go_wp2
        go_returns
        exact ⟨rfl, b17⟩
    · have hl : ¬ (S.size : Int) < (T.size : Int) := by omega
      have hne : ((S.size : Int) != (T.size : Int)) = false := by rw [bne_eq_false_iff_eq]; omega
      clear h4
      rcases hyz with h | ⟨_, hy⟩ | ⟨_, hy, hz⟩
      · omega
      all_goals
        go_enter Tryd.func8, Tryd.ntmps8
        go_wp2_with fail
        refine HA.out.mono ?_
        rintro e w1 ⟨rfl, b1⟩
        go_wp2_with fail
        refine (HF.out _).mono ?_
        rintro e w1' ⟨hf, rfl⟩
        rcases hf with ⟨_, rfl⟩ | ⟨hno, _⟩
        rotate_left 1
        exact absurd HSH.out hno
        have b2 := b1.alloc b1.size
        clear b1
        go_wp2_with fail
        refine (CAB.out _ (b2 _)).mono ?_
        rintro e w2 ⟨rfl, h2⟩
        have b3 := below_step (b2 _) h2
        clear b2 h2
        go_wp2_with fail
        refine (CBC.out _ b3).mono ?_
        rintro e w3 ⟨rfl, h3⟩
        have b4 := below_step b3 h3
        clear b3 h3
        go_wp2_with fail
        refine (CAC.out _ b4).mono ?_
        rintro e w4 ⟨rfl, h4⟩
        have b5 := below_step b4 h4
        clear b4 h4
        go_wp2_with fail
        refine (CBA.out _ b5).mono ?_
        rintro e w5 ⟨rfl, h5⟩
        have b6 := below_step b5 h5
        clear b5 h5
        go_wp2_with fail
        refine (SAC.out _ b6).mono ?_
        rintro e w6 ⟨v, rfl, ⟨rs, p1, p2, p3⟩, h6⟩
        have b7 := below_step (b6.alloc b6.size _) h6
        obtain ⟨B1, e1, rfl, q1, _⟩ := p3.slice32
        clear b6 h6 p3
        go_wp2_with fail
        refine (SBC.out _ b7).mono ?_
        rintro e w7 ⟨v, rfl, ⟨ts, s1, s2, s3⟩, h7⟩
        have b8 := below_step (b7.alloc b7.size _) h7
        have q1' := (q1.alloc _).below h7
        obtain ⟨B2, e2, rfl, q2, _⟩ := s3.slice32
        clear b7 h7 s3 q1
        go_wp2_with fail
        refine (C2S.out _ rs ts B1 B2 e1 e2 q1' q2 p1 s1 p2 s2).mono ?_
        rintro e w8 ⟨rfl, h8⟩
        have b9 := below_step b8 h8
        clear b8 h8 q1' q2 p1 s1 p2 s2
        go_wp2_with fail
        refine (TRA.out _ b9).mono ?_
        rintro e w9 ⟨v, rfl, ⟨rs2, p1, p2, p3⟩, h9⟩
        have b10 := below_step b9 h9
        obtain ⟨B3, e3, rfl, q1, _⟩ := p3.slice32
        clear b9 h9 p3
        go_wp2_with fail
        refine (TRB.out _ b10).mono ?_
        rintro e w10 ⟨v, rfl, ⟨ts2, s1, s2, s3⟩, h10⟩
        have b11 := below_step b10 h10
        have q1' := q1.below h10
        obtain ⟨B4, e4, rfl, q2, _⟩ := s3.slice32
        clear b10 h10 s3 q1
        go_wp2_with fail
        refine (SM.out _ rs2 ts2 B3 B4 e3 e4 q1' q2 p1 s1 p2 s2).mono ?_
        rintro e w11 ⟨rfl, h11⟩
        have b12 := below_step b11 h11.below
        clear b11 h11 q1' q2 p1 s1 p2 s2
        go_wp2_with fail
        refine (TXA.out _ b12).mono ?_
        rintro e w12 ⟨rfl, h12⟩
        have b13 := below_step b12 h12
        clear b12 h12
        go_wp2_with fail
        refine (TXB.out _ b13).mono ?_
        rintro e w13 ⟨rfl, h13⟩
        have b14 := below_step b13 h13
        clear b13 h13
        go_wp2_with fail
        refine (OFS.out _).mono ?_
        rintro e w14 ⟨v, rfl, ⟨rs3, p1, p2, p3⟩, h14⟩
        have b15 := below_step b14 h14
        obtain ⟨B5, e5, rfl, q1, _⟩ := p3.slice32
        clear b14 h14 p3
        go_wp2_with fail
        refine (TRA.out _ b15).mono ?_
        rintro e w15 ⟨v, rfl, ⟨ts3, s1, s2, s3⟩, h15⟩
        have b16 := below_step b15 h15
        have q1' := q1.below h15
        obtain ⟨B6, e6, rfl, q2, _⟩ := s3.slice32
        clear b15 h15 s3 q1
        go_wp2_with fail
        refine (SA.out _ rs3 ts3 B5 B6 e5 e6 q1' q2 p1 s1 p2 s2).mono ?_
        rintro e w16 ⟨rfl, h16⟩
        have b17 := below_step b16 h16.below
        clear b16 h16 q1' q2 p1 s1 p2 s2
        go_wp2
        go_returns
        exact ⟨rfl, b17⟩
  · have HSH := Lib.hid hsh
    clear hsh
    go_enter Tryd.func8, Tryd.ntmps8
    go_wp2_with fail
    refine HA.out.mono ?_
    rintro e w1 ⟨rfl, hb1⟩
    go_wp2_with fail
    refine (HF.out _).mono ?_
    rintro e w1' ⟨hf, rfl⟩
    rcases hf with ⟨hyes, _⟩ | ⟨_, rfl⟩
    · exact absurd hyes HSH.out
    · have hb2 := hb1.alloc hb1.size
      go_wp2
      go_returns
      exact ⟨rfl, hb2 _⟩
end Go.Proofs.YtdppkljnbdendaaDoor

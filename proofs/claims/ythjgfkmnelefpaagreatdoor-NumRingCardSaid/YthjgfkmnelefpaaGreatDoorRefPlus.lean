/- Contract of whetstoneref01.plus: the decimal digits of the sum, without noughts behind; at most 100000 digits each. -/
import Derived.Test.YthjgfkmnelefpaaGreatDoorRefOf
namespace Go.Proofs.YthjgfkmnelefpaaGreatDoor
open Go.RowKit

/-- A call that tells the decimal digits of n, without noughts behind, and changes nothing that was there. -/
def RetDec (w : World) (n : Nat) (e : Ending) (w' : World) : Prop := ∃ A c ds, e = .returned (.slice A ds.length c) ∧ Row w' A (u8s ds) ∧ ds.length ≤ c ∧ dright ds ∧ dval ds = n ∧ Below w.heap.size w w'

theorem dval_take_succ (ds : List Nat) (k : Nat) : dval (ds.take (k + 1)) = dval (ds.take k) + 10 ^ k * ds.getD k 0 := by
  rcases Nat.lt_or_ge k ds.length with h | h
  · rw [List.take_add_one, List.getElem?_eq_getElem h, Option.toList_some, dval_append, List.length_take, Nat.min_eq_left (by omega), List.getD_eq_getElem?_getD, List.getElem?_eq_getElem h]
    simp [dval]
  · rw [List.take_of_length_le h, List.take_of_length_le (by omega), List.getD_eq_getElem?_getD, List.getElem?_eq_none h]; simp
theorem dsum_step {out xs ys : List Nat} {k cy x y : Nat} (hx : xs.getD k 0 = x) (hy : ys.getD k 0 = y) (hlen : out.length = k) (hval : dval out + 10 ^ k * cy = dval (xs.take k) + dval (ys.take k)) :
    dval (out ++ [(cy + x + y) % 10]) + 10 ^ (k + 1) * ((cy + x + y) / 10) = dval (xs.take (k + 1)) + dval (ys.take (k + 1)) := by
  rw [dval_append, dval_take_succ, dval_take_succ, hlen, hx, hy, Nat.pow_succ, Nat.mul_assoc]
  simp only [dval, Nat.mul_zero, Nat.add_zero]
  have h2 := Nat.mod_add_div (cy + x + y) 10
  have h3 : 10 ^ k * (cy + x + y) = 10 ^ k * ((cy + x + y) % 10) + 10 ^ k * (10 * ((cy + x + y) / 10)) := by rw [← Nat.mul_add, h2]
  rw [Nat.mul_add, Nat.mul_add] at h3
  omega
theorem own_app8 {w : World} {B n : Nat} {v : Value} {ds : List Nat} {d : Nat} (h : w.ownsRow B 5 1 v n (u8s ds ++ [.int .u8 (d : Int)])) : Own w B 5 v (u8s (ds ++ [d])) := by
  rw [← u8s_snoc]; exact Own.mk_ h
theorem getD_out {ds : List Nat} {k : Nat} (h : ¬ k < ds.length) : ds.getD k 0 = 0 := by
  rw [List.getD_eq_getElem?_getD, List.getElem?_eq_none (by omega)]; rfl

set_option maxRecDepth 100000 in
set_option maxHeartbeats 16000000 in
theorem refPlus {w : World} {A1 A2 : Option Addr} {c1 c2 : Nat} {xs ys : List Nat} (hr1 : Row w A1 (u8s xs)) (hr2 : Row w A2 (u8s ys)) (hx : small 10 xs) (hy : small 10 ys) (hl1 : xs.length ≤ 100000) (hl2 : ys.length ≤ 100000) :
    Calls Tryz.prog 76 #[.slice A1 xs.length c1, .slice A2 ys.length c2] w (RetDec w (dval xs + dval ys)) := by
  obtain ⟨i0, hi, hz0, hz1, hz2⟩ := info_parts info_u8
  obtain ⟨B, hB⟩ : ∃ B, B = w.heap.size := ⟨_, rfl⟩
  have HB := Lib.hid hB
  clear hB
  obtain ⟨n, hn⟩ : ∃ n : Nat, n = xs.length := ⟨_, rfl⟩
  obtain ⟨m, hm⟩ : ∃ m : Nat, m = ys.length := ⟨_, rfl⟩
  have hn1 : n ≤ 100000 := by omega
  have hm1 : m ≤ 100000 := by omega
  rw [← hn, ← hm]
  have HN := Lib.hid hn
  have HM := Lib.hid hm
  clear hn hm
  go_enter Tryz.func76, Tryz.ntmps76
  go_wp2
  go_loopw [5, 6, 7] (fun v cv iv wr => ∃ (k cy : Nat) (out : List Nat), k ≤ n + m + 1 ∧ (k ≤ n ∨ k ≤ m ∨ cy = 0) ∧ iv = .int .i64 (k : Int) ∧ cv = .int .u8 (cy : Int) ∧ cy ≤ 1 ∧ Own wr B 5 v (u8s out) ∧ Hid (out.length = k ∧ small 10 out ∧ dval out + 10 ^ k * cy = dval (xs.take k) + dval (ys.take k)) ∧ Below w.heap.size w wr)
    (fun _ _ iv _ => n + m + 2 - (intOf iv).toNat)
  case atStart => exact ⟨0, 0, [], Nat.zero_le _, .inl (Nat.zero_le _), rfl, rfl, by omega, Own.nil _ _ _, ⟨rfl, small_nil _, by simp [dval]⟩, Below.refl _ _⟩
  case round =>
    obtain ⟨k, cy, out, hk, hkk, rfl, rfl, hcy, hout, HO, hb⟩ := hrel
    have hsz := hb.size
    have hkn : k ≤ 300000 := by omega
    by_cases hgo : k < n ∨ k < m ∨ 0 < cy
    · have hx1 : ∃ x : Nat, x < 10 ∧ Hid (xs.getD k 0 = x) ∧ (k < n → ∃ ad, A1 = some ad ∧ wr.cell? (ad.add k) = some (.int .u8 (x : Int))) ∧ (¬ k < n → x = 0) := by
        by_cases h : k < n
        · obtain ⟨ad, x, e, hc, hxx, hm⟩ := (hr1.below hb).byte (k := k) (by rw [← HN.out]; exact h)
          exact ⟨x, hx x hm, hxx, fun _ => ⟨ad, e, hc⟩, fun h' => absurd h h'⟩
        · exact ⟨0, by omega, getD_out (by rw [← HN.out]; exact h), fun h' => absurd h' h, fun _ => rfl⟩
      have hy1 : ∃ y : Nat, y < 10 ∧ Hid (ys.getD k 0 = y) ∧ (k < m → ∃ ad, A2 = some ad ∧ wr.cell? (ad.add k) = some (.int .u8 (y : Int))) ∧ (¬ k < m → y = 0) := by
        by_cases h : k < m
        · obtain ⟨ad, y, e, hc, hyy, hm⟩ := (hr2.below hb).byte (k := k) (by rw [← HM.out]; exact h)
          exact ⟨y, hy y hm, hyy, fun _ => ⟨ad, e, hc⟩, fun h' => absurd h h'⟩
        · exact ⟨0, by omega, getD_out (by rw [← HM.out]; exact h), fun h' => absurd h' h, fun _ => rfl⟩
      obtain ⟨x, hx10, HX, hxc, hx0⟩ := hx1
      obtain ⟨y, hy10, HY, hyc, hy0⟩ := hy1
      have hkle : k + 1 ≤ n + m + 1 := by omega
      have hkor : k + 1 ≤ n ∨ k + 1 ≤ m ∨ (cy + x + y) / 10 = 0 := by
        by_cases h : k < n
        · exact .inl h
        · by_cases h' : k < m
          · exact .inr (.inl h')
          · right; right; rw [hx0 h, hy0 h']; omega
      have HK := Lib.hid hkor
      clear hkor hkk
      by_cases ha : k < n
      · obtain ⟨ad1, rfl, hc1⟩ := hxc ha
        clear hx0 hgo
        by_cases hbb : k < m
        · obtain ⟨ad2, rfl, hc2⟩ := hyc hbb
          clear hy0 hxc hyc
          go_wp2_with (at_builtin; refine wpList_append_own _ rfl _ _ 81 rfl B 5 i0 (.int .u8 0) 1 1 Tryz.underlying81 hi hz0 hz1 hz2 rfl (by decide) _ _ _ rfl (hout.alloc _) ⟨wr.heap.size, 0, none⟩ 1 1 [.int .u8 (((cy + x + y) % 10 : Nat) : Int)] rfl rfl (one_news (int_eq (by omega))) one_cell (by rw [u8s_length, HO.out.1]; unfold maxLen; omega) (by rw [u8s_length, HO.out.1]; omega) (by rw [HB.out]; simp; omega) ?_)
          intro v' w2 hown' hgrow' _
          have ho2 := own_app8 hown'
          have hb2 := below_app hb hout HB hgrow'
          clear hown' hgrow' hout hb hc1 hc2
          go_wp2
          go_roundw
          case rel => exact ⟨k + 1, (cy + x + y) / 10, _, by omega, HK.out, by go_num, by go_num, by omega, ho2, ⟨by rw [List.length_append, HO.out.1]; rfl, small_snoc HO.out.2.1 (Nat.mod_lt _ (by decide)), dsum_step HX.out HY.out HO.out.1 HO.out.2.2⟩, hb2⟩
          case measure => first | (simp [intOf]; done) | (simp [intOf]; omega)
        · obtain rfl : y = 0 := hy0 hbb
          clear hxc hyc
          go_wp2_with (at_builtin; refine wpList_append_own _ rfl _ _ 81 rfl B 5 i0 (.int .u8 0) 1 1 Tryz.underlying81 hi hz0 hz1 hz2 rfl (by decide) _ _ _ rfl (hout.alloc _) ⟨wr.heap.size, 0, none⟩ 1 1 [.int .u8 (((cy + x + 0) % 10 : Nat) : Int)] rfl rfl (one_news (int_eq (by omega))) one_cell (by rw [u8s_length, HO.out.1]; unfold maxLen; omega) (by rw [u8s_length, HO.out.1]; omega) (by rw [HB.out]; simp; omega) ?_)
          intro v' w2 hown' hgrow' _
          have ho2 := own_app8 hown'
          have hb2 := below_app hb hout HB hgrow'
          clear hown' hgrow' hout hb
          go_wp2
          go_roundw
          case rel => exact ⟨k + 1, (cy + x + 0) / 10, _, by omega, HK.out, by go_num, by go_num, by omega, ho2, ⟨by rw [List.length_append, HO.out.1]; rfl, small_snoc HO.out.2.1 (Nat.mod_lt _ (by decide)), dsum_step HX.out HY.out HO.out.1 HO.out.2.2⟩, hb2⟩
          case measure => first | (simp [intOf]; done) | (simp [intOf]; omega)
      · obtain rfl : x = 0 := hx0 ha
        clear hxc
        by_cases hbb : k < m
        · obtain ⟨ad2, rfl, hc2⟩ := hyc hbb
          clear hy0 hyc hgo
          go_wp2_with (at_builtin; refine wpList_append_own _ rfl _ _ 81 rfl B 5 i0 (.int .u8 0) 1 1 Tryz.underlying81 hi hz0 hz1 hz2 rfl (by decide) _ _ _ rfl (hout.alloc _) ⟨wr.heap.size, 0, none⟩ 1 1 [.int .u8 (((cy + 0 + y) % 10 : Nat) : Int)] rfl rfl (one_news (int_eq (by omega))) one_cell (by rw [u8s_length, HO.out.1]; unfold maxLen; omega) (by rw [u8s_length, HO.out.1]; omega) (by rw [HB.out]; simp; omega) ?_)
          intro v' w2 hown' hgrow' _
          have ho2 := own_app8 hown'
          have hb2 := below_app hb hout HB hgrow'
          clear hown' hgrow' hout hb
          go_wp2
          go_roundw
          case rel => exact ⟨k + 1, (cy + 0 + y) / 10, _, by omega, HK.out, by go_num, by go_num, by omega, ho2, ⟨by rw [List.length_append, HO.out.1]; rfl, small_snoc HO.out.2.1 (Nat.mod_lt _ (by decide)), dsum_step HX.out HY.out HO.out.1 HO.out.2.2⟩, hb2⟩
          case measure => first | (simp [intOf]; done) | (simp [intOf]; omega)
        · obtain rfl : y = 0 := hy0 hbb
          have hcp : 0 < cy := by omega
          clear hyc hgo hx0 hy0
          go_wp2_with (at_builtin; refine wpList_append_own _ rfl _ _ 81 rfl B 5 i0 (.int .u8 0) 1 1 Tryz.underlying81 hi hz0 hz1 hz2 rfl (by decide) _ _ _ rfl (hout.alloc _) ⟨wr.heap.size, 0, none⟩ 1 1 [.int .u8 (((cy + 0 + 0) % 10 : Nat) : Int)] rfl rfl (one_news (int_eq (by omega))) one_cell (by rw [u8s_length, HO.out.1]; unfold maxLen; omega) (by rw [u8s_length, HO.out.1]; omega) (by rw [HB.out]; simp; omega) ?_)
          intro v' w2 hown' hgrow' _
          have ho2 := own_app8 hown'
          have hb2 := below_app hb hout HB hgrow'
          clear hown' hgrow' hout hb
          go_wp2
          go_roundw
          case rel => exact ⟨k + 1, (cy + 0 + 0) / 10, _, by omega, HK.out, by go_num, by go_num, by omega, ho2, ⟨by rw [List.length_append, HO.out.1]; rfl, small_snoc HO.out.2.1 (Nat.mod_lt _ (by decide)), dsum_step HX.out HY.out HO.out.1 HO.out.2.2⟩, hb2⟩
          case measure => first | (simp [intOf]; done) | (simp [intOf]; omega)
    · have hcy0 : cy = 0 := by omega
      have hkn2 : n ≤ k := by omega
      have hkm2 : m ≤ k := by omega
      have hw : k ≤ 200001 := by omega
      have HV : Hid (dval out = dval xs + dval ys) := by
        have := HO.out.2.2
        rw [hcy0, Nat.mul_zero, Nat.add_zero, List.take_of_length_le (by rw [← HN.out]; exact hkn2), List.take_of_length_le (by rw [← HM.out]; exact hkm2)] at this
        exact this
      subst hcy0
      obtain ⟨A3, c3, rfl, hr3, hlc, _⟩ := hout.slice8
      have hol : out.length ≤ 1000000 := by rw [HO.out.1]; omega
      have htr := trim_any (c := c3) hr3 hol hlc
      have HTR := Lib.hid htr
      have hsl := Nat.le_trans (strip_length out) hlc
      clear htr hgo hkk
      go_wp2_with fail
      refine HTR.out.mono ?_
      rintro e w' ⟨⟨rfl, hrt⟩, rfl⟩
      go_wp2
      go_ret
      exact ⟨_, _, _, rfl, hrt, hsl, strip_dright HO.out.2.1, by rw [dval_strip]; exact HV.out, hb⟩
end Go.Proofs.YthjgfkmnelefpaaGreatDoor

/- Contract of whetstoneref01.times: the decimal digits of the product, without noughts behind; at most 100000 digits each. -/
import Derived.Test.YtdppkljnbdendaaDoorRefPlus
import Derived.Test.YtdppkljnbdendaaDoorTimes
namespace Go.Proofs.YtdppkljnbdendaaDoor
open Go.RowKit

def i64s (ds : List Nat) : List Value := ds.map fun (d : Nat) => Value.int .i64 (d : Int)
theorem i64s_length (ds : List Nat) : (i64s ds).length = ds.length := by simp [i64s]
theorem info_int : (Tryd.prog.info? 3).map (fun i => (i.zero, i.size, i.bytes)) = some (some (.int .i64 0), 1, 8) := by kernel_rfl
theorem own_zeros64 {w : World} {B n : Nat} {v : Value} (h : w.ownsRow B 3 1 v n (madeCells #[Value.int .i64 0] n).toList) : Own w B 3 v (i64s (List.replicate n 0)) := by
  rw [toList_madeCells_one, show List.replicate n (Value.int .i64 0) = i64s (List.replicate n 0) from by simp [i64s]] at h
  exact Own.mk_ h
theorem own_set64 {w : World} {B g n c : Nat} {ds : List Nat} (h : Own w B 3 (.slice (some ⟨g, 0, none⟩) n c) (i64s ds)) (k d : Nat) :
    Own (w.setCell ⟨g, k, none⟩ (.int .i64 (d : Int))) B 3 (.slice (some ⟨g, 0, none⟩) n c) (i64s (ds.set k d)) := by
  have hn := h.lt.1
  have hh : w.ownsRow B 3 1 (.slice (some ⟨g, 0, none⟩) n c) n (i64s ds) := by rw [hn]; rw [hn] at h; exact h
  have := (hh.stored k (.int .i64 (d : Int))).1
  rw [show (i64s ds).set k (.int .i64 (d : Int)) = i64s (ds.set k d) from by simp [i64s, List.map_set]] at this
  exact Own.mk_ this
theorem own_cell64 {w : World} {B T g n c : Nat} {ds : List Nat} (h : Own w B T (.slice (some ⟨g, 0, none⟩) n c) (i64s ds)) {k : Nat} (hk : k < ds.length) : w.cell? ⟨g, k, none⟩ = some (.int .i64 ((ds.getD k 0 : Nat) : Int)) ∧ w.frozen? ⟨g, k, none⟩ = false := by
  obtain ⟨h1, h2⟩ := own_cell h (k := k) (by rw [i64s_length]; exact hk)
  refine ⟨?_, h2⟩
  rw [h1]
  simp [i64s, List.getD_eq_getElem?_getD, List.getElem?_eq_getElem hk]

theorem dval_set {ps : List Nat} {k : Nat} (hk : k < ps.length) (d : Nat) : dval (ps.set k d) + 10 ^ k * ps.getD k 0 = dval ps + 10 ^ k * d := by
  induction ps generalizing k with
  | nil => simp at hk
  | cons p ps ih =>
    cases k with
    | zero => simp [dval]; omega
    | succ k =>
      have := ih (k := k) (by simpa using hk)
      simp only [List.set_cons_succ, dval, List.getD_cons_succ, Nat.pow_succ]
      rw [Nat.mul_comm (10 ^ k) 10, Nat.mul_assoc, Nat.mul_assoc]
      omega
theorem dval_replicate (n : Nat) : dval (List.replicate n 0) = 0 := by
  induction n with
  | zero => rfl
  | succ k ih => rw [List.replicate_succ, dval, ih]
theorem dmul_step {ps ys : List Nat} {i j p x y V : Nat} (hk : i + j < ps.length) (hp : p = ps.getD (i + j) 0) (hy : ys.getD j 0 = y) (h : dval ps = V + x * 10 ^ i * dval (ys.take j)) :
    dval (ps.set (i + j) (p + x * y)) = V + x * 10 ^ i * dval (ys.take (j + 1)) := by
  have h1 := dval_set hk (p + x * y)
  rw [← hp, Nat.mul_add, h] at h1
  rw [dval_take_succ, hy, Nat.mul_add (x * 10 ^ i), show x * 10 ^ i * (10 ^ j * y) = 10 ^ (i + j) * (x * y) from by rw [Nat.pow_add]; ac_rfl]
  omega
theorem take_set_succ {os : List Nat} {k d : Nat} (h : k < os.length) : (os.set k d).take (k + 1) = os.take k ++ [d] := by
  rw [List.take_add_one, List.getElem?_set_self h, List.take_set_of_le (Nat.le_refl _)]; rfl
theorem dcarry_step {os ps : List Nat} {k cy s : Nat} (hk : k < os.length) (hs : ps.getD k 0 = s) (h : dval (os.take k) + 10 ^ k * cy = dval (ps.take k)) :
    dval ((os.set k ((cy + s) % 10)).take (k + 1)) + 10 ^ (k + 1) * ((cy + s) / 10) = dval (ps.take (k + 1)) := by
  rw [take_set_succ hk, dval_append, dval_take_succ, hs, List.length_take, Nat.min_eq_left (by omega), Nat.pow_succ, Nat.mul_assoc]
  simp only [dval, Nat.mul_zero, Nat.add_zero]
  have h2 := Nat.mod_add_div (cy + s) 10
  have h3 : 10 ^ k * (cy + s) = 10 ^ k * ((cy + s) % 10) + 10 ^ k * (10 * ((cy + s) / 10)) := by rw [← Nat.mul_add, h2]
  rw [Nat.mul_add] at h3
  omega
theorem getD_set_same {ps : List Nat} {k d : Nat} (hk : k < ps.length) : (ps.set k d).getD k 0 = d := by
  rw [List.getD_eq_getElem?_getD, List.getElem?_set_self hk]; rfl
theorem getD_set_le {ps : List Nat} {k d M : Nat} (h : ∀ t, ps.getD t 0 ≤ M) (hd : d ≤ M) (t : Nat) : (ps.set k d).getD t 0 ≤ M := by
  by_cases ht : t = k
  · subst ht
    rcases Nat.lt_or_ge t ps.length with hl | hl
    · rw [getD_set_same hl]; exact hd
    · rw [List.set_eq_of_length_le hl]; exact h t
  · rw [getD_set_ne _ (by omega)]; exact h t
theorem xy_le {x y : Nat} (hx : x < 10) (hy : y < 10) : x * y ≤ 81 := Nat.mul_le_mul (show x ≤ 9 by omega) (show y ≤ 9 by omega)

set_option maxRecDepth 100000 in
set_option maxHeartbeats 16000000 in
theorem refTimes {w : World} {A1 A2 : Option Addr} {c1 c2 : Nat} {xs ys : List Nat} (hr1 : Row w A1 (u8s xs)) (hr2 : Row w A2 (u8s ys)) (hx : small 10 xs) (hy : small 10 ys) (hl1 : xs.length ≤ 100000) (hl2 : ys.length ≤ 100000) :
    Calls Tryd.prog 51 #[.slice A1 xs.length c1, .slice A2 ys.length c2] w (RetDec w (dval xs * dval ys)) := by
  obtain ⟨i0, hi, hz0, hz1, hz2⟩ := info_parts info_int
  obtain ⟨j0, hj, hy0, hy1, hy2⟩ := info_parts info_u8
  obtain ⟨n, hn⟩ : ∃ n : Nat, n = xs.length := ⟨_, rfl⟩
  obtain ⟨m, hm⟩ : ∃ m : Nat, m = ys.length := ⟨_, rfl⟩
  have hn1 : n ≤ 100000 := by omega
  have hm1 : m ≤ 100000 := by omega
  rw [← hn, ← hm]
  have HN := Lib.hid hn
  have HM := Lib.hid hm
  clear hn hm
  rcases Nat.eq_zero_or_pos n with rfl | hn0
  · go_enter Tryd.func51, Tryd.ntmps51
    go_wp2
    all_goals
      go_ret
      exact ⟨none, 0, [], rfl, Row.nil _ _, Nat.le_refl _, ⟨small_nil _, .inl rfl⟩, by rw [List.eq_nil_of_length_eq_zero HN.out.symm]; simp [dval], Below.refl _ _⟩
  rcases Nat.eq_zero_or_pos m with rfl | hm0
  · have hnz : ((n : Int) == 0) = false := by rw [beq_eq_false_iff_ne]; omega
    go_enter Tryd.func51, Tryd.ntmps51
    go_wp2
    all_goals
      go_ret
      exact ⟨none, 0, [], rfl, Row.nil _ _, Nat.le_refl _, ⟨small_nil _, .inl rfl⟩, by rw [List.eq_nil_of_length_eq_zero (l := ys) HM.out.symm]; simp [dval], Below.refl _ _⟩
  have hnz : ((n : Int) == 0) = false := by rw [beq_eq_false_iff_ne]; omega
  have hmz : ((m : Int) == 0) = false := by rw [beq_eq_false_iff_ne]; omega
  go_enter Tryd.func51, Tryd.ntmps51
  go_wp2_with (at_make; refine wpList_make_full _ rfl _ _ 81 rfl w.heap.size 3 i0 (.int .i64 0) 1 Tryd.underlying81 hi hz0 hz1 .i64 .i64 ((n : Int) + (m : Int)) ((n : Int) + (m : Int)) (n + m) rfl rfl (by omega) (by omega) (by rw [hz2]; omega) (by unfold maxLen; omega) (by simp) ?_)
  intro w1 hown hgrow
  have ho1 := own_zeros64 hown
  have hb1 : Below w.heap.size w w1 := (Below.refl _ _).grown hgrow (Nat.le_refl _) (fun k h => by cases h)
  clear hown hgrow
  go_wp2_with fail
  go_loopw [6] (fun iv wr => ∃ (i : Nat) (ps : List Nat), i ≤ n ∧ iv = .int .i64 (i : Int) ∧ Own wr w.heap.size 3 (.slice (some ⟨w.heap.size, 0, none⟩) (n + m) (n + m)) (i64s ps) ∧ Hid (ps.length = n + m ∧ dval ps = dval (xs.take i) * dval ys ∧ ∀ t, ps.getD t 0 ≤ 81 * i) ∧ Below w.heap.size w wr)
    (fun iv _ => n - (intOf iv).toNat)
  case atStart => exact ⟨0, List.replicate (n + m) 0, Nat.zero_le _, rfl, ho1, ⟨by simp, by rw [dval_replicate]; simp [dval], fun t => by
    rw [List.getD_eq_getElem?_getD, List.getElem?_replicate]
    split <;> simp⟩, hb1⟩
  case round =>
    obtain ⟨i, ps, hi1, rfl, hp, HO, hb⟩ := hrel
    have hsz := hb.size
    by_cases hlt : i < n
    · obtain ⟨ad1, x, rfl, hxc, hxx, hxm⟩ := (hr1.below hb).byte (k := i) (by rw [← HN.out]; exact hlt)
      have hx10 := hx x hxm
      clear hxm
      go_wp2_with fail
      obtain ⟨V, hV⟩ : ∃ V, V = dval ps := ⟨_, rfl⟩
      have HV := Lib.hid hV
      obtain ⟨wo, hwo⟩ : ∃ wo : World, wo = wr := ⟨_, rfl⟩
      have hb0 : Below w.heap.size w wo := hwo ▸ hb
      have hp0 : Own wo w.heap.size 3 (.slice (some ⟨w.heap.size, 0, none⟩) (n + m) (n + m)) (i64s ps) := hwo ▸ hp
      rw [← hwo]
      clear hwo hb hp hsz hxc hV
      go_loopw [7] (fun jv wr => ∃ (j : Nat) (qs : List Nat), j ≤ m ∧ jv = .int .i64 (j : Int) ∧ Own wr w.heap.size 3 (.slice (some ⟨w.heap.size, 0, none⟩) (n + m) (n + m)) (i64s qs) ∧ Hid (qs.length = n + m ∧ dval qs = V + x * 10 ^ i * dval (ys.take j) ∧ (∀ t, qs.getD t 0 ≤ 81 * i + 81) ∧ ∀ t, i + j ≤ t → qs.getD t 0 ≤ 81 * i) ∧ Below w.heap.size w wr)
        (fun jv _ => m - (intOf jv).toNat)
      case atStart => exact ⟨0, ps, Nat.zero_le _, rfl, hp0, ⟨HO.out.1, by rw [HV.out]; simp [dval], fun t => Nat.le_trans (HO.out.2.2 t) (by omega), fun t _ => HO.out.2.2 t⟩, hb0⟩
      case round =>
        obtain ⟨j, qs, hj1, rfl, hq, HQ, hbq⟩ := hrel
        have hszq := hbq.size
        by_cases hjm : j < m
        · obtain ⟨ad2, y, rfl, hyc, hyy, hym⟩ := (hr2.below hbq).byte (k := j) (by rw [← HM.out]; exact hjm)
          have hy10 := hy y hym
          obtain ⟨ad1', x', e1, hxc, hxx', _⟩ := (hr1.below hbq).byte (k := i) (by rw [← HN.out]; exact hlt)
          injection e1 with e1
          subst e1
          obtain rfl : x' = x := hxx'.out.symm.trans hxx.out
          obtain ⟨hqc, hqf⟩ := own_cell64 hq (k := i + j) (by rw [HQ.out.1]; omega)
          obtain ⟨p, hpe⟩ : ∃ p, p = qs.getD (i + j) 0 := ⟨_, rfl⟩
          have hpb : p ≤ 81 * i := by rw [hpe]; exact HQ.out.2.2.2 _ (Nat.le_refl _)
          rw [← hpe] at hqc
          have hzb := xy_le hx10 hy10
          have hst := dmul_step (ps := qs) (ys := ys) (i := i) (j := j) (p := p) (x := x') (y := y) (V := V) (by rw [HQ.out.1]; omega) hpe hyy.out HQ.out.2.1
          obtain ⟨z, hz⟩ : ∃ z, z = x' * y := ⟨_, rfl⟩
          have hzi : (x' : Int) * (y : Int) = (z : Int) := by rw [hz]; simp
          rw [← hz] at hzb hst
          have HST := Lib.hid hst
          have hij : (i : Int) + (j : Int) < (n : Int) + (m : Int) := by omega
          have hij0 : 0 ≤ (i : Int) + (j : Int) := by omega
          clear hst hpe hz hym hxx'
          go_wp2
          go_region
          all_goals
            go_wp2
            go_roundw
            case rel => exact ⟨j + 1, qs.set (i + j) (p + z), by omega, by go_num, by
              have := own_set64 hq (i + j) (p + z)
              rw [show ((p + z : Nat) : Int) = (p : Int) + (z : Int) from by omega] at this
              exact this, ⟨by rw [List.length_set]; exact HQ.out.1, HST.out, getD_set_le HQ.out.2.2.1 (by omega), fun t ht => by rw [getD_set_ne _ (by omega)]; exact HQ.out.2.2.2 t (by omega)⟩, Below.drew (hbq.setCell (Nat.le_refl _) _)⟩
            case measure => first | (simp [intOf]; done) | (simp [intOf]; omega)
        · have hjm' : j = m := by omega
          have HJ := Lib.hid hjm'
          clear hjm'
          go_wp2
          go_roundw
          case rel => exact ⟨i + 1, qs, by omega, by go_num, hq, ⟨HQ.out.1, by
            rw [HQ.out.2.1, HJ.out, HM.out, List.take_length, HV.out, HO.out.2.1, dval_take_succ, hxx.out, Nat.add_mul, Nat.mul_comm x], fun t => Nat.le_trans (HQ.out.2.2.1 t) (by omega)⟩, hbq⟩
          case measure => first | (simp [intOf]; done) | (simp [intOf]; omega)
    · have hin : i = n := by omega
      have hPv : dval ps = dval xs * dval ys := by rw [HO.out.2.1, hin, HN.out, List.take_length]
      have hPb : ∀ t, ps.getD t 0 ≤ 81 * n := by rw [← hin]; exact HO.out.2.2
      have hPl := HO.out.1
      have HPV := Lib.hid hPv
      have HPB := Lib.hid hPb
      have HPL := Lib.hid hPl
      clear hin hPv hPb hPl
      go_wp2_with (at_make; refine wpList_make_full _ rfl _ _ 52 rfl wr.heap.size 5 j0 (.int .u8 0) 1 Tryd.underlying52 hj hy0 hy1 .i64 .i64 ((n : Int) + (m : Int)) ((n : Int) + (m : Int)) (n + m) rfl rfl (by omega) (by omega) (by rw [hy2]; omega) (by unfold maxLen; omega) (by simp) ?_)
      intro w4 hown4 hgrow4
      have ho4 := own_zeros8 hown4
      have hb4 : Below wr.heap.size wr w4 := (Below.refl _ _).grown hgrow4 (Nat.le_refl _) (fun k h => by cases h)
      clear hown4 hgrow4
      obtain ⟨W2, hW2⟩ : ∃ W2, W2 = wr := ⟨_, rfl⟩
      rw [← hW2] at hp hb hsz hb4 ho4 ⊢
      clear hW2
      obtain ⟨g2, hg2⟩ : ∃ g2, g2 = W2.heap.size := ⟨_, rfl⟩
      rw [← hg2] at hsz hb4 ho4 ⊢
      have HG := Lib.hid hg2
      clear hg2
      go_wp2_with fail
      go_loopw [9, 10] (fun cv kv wr => ∃ (k cy : Nat) (os : List Nat), k ≤ n + m ∧ kv = .int .i64 (k : Int) ∧ cv = .int .i64 (cy : Int) ∧ cy ≤ 81 * n ∧ Own wr g2 5 (.slice (some ⟨g2, 0, none⟩) (n + m) (n + m)) (u8s os) ∧ Hid (os.length = n + m ∧ small 10 os ∧ dval (os.take k) + 10 ^ k * cy = dval (ps.take k)) ∧ Below g2 W2 wr)
        (fun _ kv _ => n + m - (intOf kv).toNat)
      case atStart => exact ⟨0, 0, List.replicate (n + m) 0, Nat.zero_le _, rfl, rfl, Nat.zero_le _, ho4, ⟨by simp, small_replicate _ _ (by decide), by simp [dval]⟩, hb4⟩
      case round =>
        obtain ⟨k, cy, os, hk, rfl, rfl, hcy, ho, HQ, hbk⟩ := hrel
        by_cases hkm : k < n + m
        · obtain ⟨hqc, hqf⟩ := own_cell64 (hp.below (hbk.mono (Nat.le_of_eq HG.out.symm))) (k := k) (by rw [HPL.out]; omega)
          obtain ⟨s, hse⟩ : ∃ s, s = ps.getD k 0 := ⟨_, rfl⟩
          have hsb : s ≤ 81 * n := by rw [hse]; exact HPB.out _
          rw [← hse] at hqc
          obtain ⟨hoc, hof⟩ := own_cell ho (k := k) (by rw [u8s_length, HQ.out.1]; omega)
          have hst := dcarry_step (os := os) (ps := ps) (k := k) (cy := cy) (s := s) (by rw [HQ.out.1]; omega) hse.symm HQ.out.2.2
          have HST := Lib.hid hst
          have hkm2 : (k : Int) < (n : Int) + (m : Int) := by omega
          clear hst hse
          go_wp2
          go_roundw
          case rel => exact ⟨k + 1, (cy + s) / 10, os.set k ((cy + s) % 10), by omega, by go_num, by go_num, by omega, own_set8 ho k ((cy + s) % 10), ⟨by rw [List.length_set]; exact HQ.out.1, small_set HQ.out.2.1 _ (Nat.mod_lt _ (by decide)), HST.out⟩, hbk.setCell (Nat.le_refl _) _⟩
          case measure => first | (simp [intOf]; done) | (simp [intOf]; omega)
        · have hkn : k = n + m := by omega
          have hV : dval os = dval xs * dval ys := by
            have h := HQ.out.2.2
            rw [hkn, List.take_of_length_le (by rw [HQ.out.1]; exact Nat.le_refl _), List.take_of_length_le (by rw [HPL.out]; exact Nat.le_refl _), HPV.out] at h
            have h2 : dval xs * dval ys < 10 ^ (n + m) := by
              rw [Nat.pow_add, HN.out, HM.out]
              exact Nat.mul_lt_mul'' (dval_lt hx) (dval_lt hy)
            rcases Nat.eq_zero_or_pos cy with h3 | h3
            · rw [h3] at h; simpa using h
            · have h4 : 10 ^ (n + m) * 1 ≤ 10 ^ (n + m) * cy := Nat.mul_le_mul_left _ h3
              omega
          have HV := Lib.hid hV
          have hol : os.length ≤ 1000000 := by rw [HQ.out.1]; omega
          have htr := trim_any (c := n + m) ho.row8 hol (by rw [HQ.out.1]; exact Nat.le_refl _)
          rw [HQ.out.1] at htr
          have HTR := Lib.hid htr
          have hsl : (strip os).length ≤ n + m := by rw [← HQ.out.1]; exact strip_length os
          have hbF : Below w.heap.size w wr := hb.trans (hbk.mono (by rw [HG.out]; exact hb.size))
          clear htr hV hkn
          go_wp2_with fail
          refine HTR.out.mono ?_
          rintro e w' ⟨⟨rfl, hrt⟩, rfl⟩
          go_wp2
          go_ret
          exact ⟨_, _, _, rfl, hrt, hsl, strip_dright HQ.out.2.1, by rw [dval_strip]; exact HV.out, hbF⟩
end Go.Proofs.YtdppkljnbdendaaDoor

/- Contract of nat.digits.giveBack: a part of a row in own memory becomes itself and what a second row stands for, but for a carry out of it. Rows of digits below 10^9; at most 100000 digits. Contract of nat.digits.take: a part of a row in own memory becomes itself less so many times what a second row stands for, and whether it was too small for that. Rows of digits below 10^9; at most 100000 digits. -/
import Derived.Test.YtffcacpffamjfaaDoorMinus
import Derived.Test.YtffcacpffamjfaaDoorOf
namespace Go.Proofs.YtffcacpffamjfaaDoor
open Go.RowKit

theorem set_mid (P out rest T : List Nat) (d e : Nat) : (P ++ (out ++ d :: rest) ++ T).set (P.length + out.length) e = P ++ (out ++ e :: rest) ++ T := by
  rw [List.append_assoc, List.set_append_right _ _ (by omega), Nat.add_sub_cancel_left, List.append_assoc, List.set_append_right _ _ (Nat.le_refl _), Nat.sub_self]
  simp
theorem own_mid {w : World} {B g N c : Nat} {P part T : List Nat} (h : Own w B 23 (.slice (some ⟨g, 0, none⟩) N c) (u32s (P ++ part ++ T))) : Row w (some ⟨g, P.length, none⟩) (u32s part) := by
  intro j v hv
  have hj : j < part.length := by
    have := (List.getElem?_eq_some_iff.1 hv).1
    rwa [u32s_length] at this
  obtain ⟨h1, _⟩ := own_cell h (k := P.length + j) (by rw [u32s_length]; simp; omega)
  refine ⟨_, rfl, ?_⟩
  have e : (⟨g, P.length, none⟩ : Addr).add j = ⟨g, P.length + j, none⟩ := by simp [Addr.add]
  rw [e, h1, ← hv, ← List.getElem?_eq_getElem]
  simp only [u32s, List.map_append, List.getElem?_map]
  rw [List.append_assoc, List.getElem?_append_right (by simp), List.getElem?_append_left (by simpa using hj)]
  simp
theorem own_mid_set {w : World} {B g N c : Nat} {P out rest T : List Nat} {d : Nat} (h : Own w B 23 (.slice (some ⟨g, 0, none⟩) N c) (u32s (P ++ (out ++ d :: rest) ++ T))) (e : Nat) :
    Own (w.setCell ⟨g, P.length + out.length, none⟩ (.int .u32 (e : Int))) B 23 (.slice (some ⟨g, 0, none⟩) N c) (u32s (P ++ (out ++ [e] ++ rest) ++ T)) := by
  have := own_set32 h (P.length + out.length) e
  rw [set_mid] at this
  simpa using this
theorem drop_split {part : List Nat} {k : Nat} (h : k < part.length) : part.drop k = part.getD k 0 :: part.drop (k + 1) := by
  rw [List.drop_eq_getElem_cons h]
  congr 1
  rw [List.getD_eq_getElem?_getD, List.getElem?_eq_getElem h]; rfl

set_option maxRecDepth 100000 in
set_option maxHeartbeats 4000000 in
theorem give_any {w0 w : World} {B g N c cap c2 : Nat} {A2 : Option Addr} {P part T ys : List Nat} (ho : Own w B 23 (.slice (some ⟨g, 0, none⟩) N c) (u32s (P ++ part ++ T))) (hpl : P.length + part.length ≤ 1000000) (hr2 : Row w0 A2 (u32s ys)) (hb0 : Below w0.heap.size w0 w) (hB : w0.heap.size ≤ B) (hBg : B ≤ g)
    (hsp : small 1000000000 part) (hsy : small 1000000000 ys) (hyl : ys.length ≤ part.length) :
    Calls Tryd.prog 60 #[.slice (some ⟨g, P.length, none⟩) part.length cap, .slice A2 ys.length c2] w fun e w' => (∃ v, e = .returned v) ∧ ∃ (part' : List Nat) (cy : Nat), part'.length = part.length ∧ small 1000000000 part' ∧ cy ≤ 1 ∧ val part' + 1000000000 ^ part.length * cy = val part + val ys ∧
      Own w' B 23 (.slice (some ⟨g, 0, none⟩) N c) (u32s (P ++ part' ++ T)) ∧ Below B w w' ∧ Hid (∀ i, i ≠ g → w'.heap[i]? = w.heap[i]?) := by
  obtain ⟨n, hn⟩ : ∃ n : Nat, n = part.length := ⟨_, rfl⟩
  obtain ⟨m, hm⟩ : ∃ m : Nat, m = ys.length := ⟨_, rfl⟩
  obtain ⟨p, hp⟩ : ∃ p : Nat, p = P.length := ⟨_, rfl⟩
  have hpn : p + n ≤ 1000000 := by omega
  have hmn : m ≤ n := by omega
  rw [← hn, ← hm, ← hp]
  have HN := Lib.hid hn
  have HM := Lib.hid hm
  have HP := Lib.hid hp
  clear hn hm hp hpl hyl
  have hsp' := small_mono hsp (show 1000000000 ≤ 4294967296 by decide)
  have hsy' := small_mono hsy (show 1000000000 ≤ 4294967296 by decide)
  go_enter Tryd.func60, Tryd.ntmps60
  go_wp2
  go_loopw [4, 8] (fun cv iv wr => ∃ (k cy : Nat) (out : List Nat), k ≤ n ∧ iv = .int .i64 (k : Int) ∧ cv = .int .u64 (cy : Int) ∧ cy ≤ 1 ∧ Own wr B 23 (.slice (some ⟨g, 0, none⟩) N c) (u32s (P ++ (out ++ part.drop k) ++ T)) ∧ Hid (out.length = k ∧ small 1000000000 out ∧ val out + 1000000000 ^ k * cy = val (part.take k) + val (ys.take k)) ∧ Below B w wr ∧ Hid (∀ i, i ≠ g → wr.heap[i]? = w.heap[i]?))
    (fun _ iv _ => n - (intOf iv).toNat)
  case atStart => exact ⟨0, 0, [], Nat.zero_le _, rfl, rfl, by omega, ho, ⟨rfl, small_nil _, by simp [val]⟩, Below.refl _ _, fun _ _ => rfl⟩
  case round =>
    obtain ⟨k, cy, out, hk, rfl, rfl, hcy, hown, HO, hb, HFR⟩ := hrel
    by_cases hlt : k < n
    · have hkp : k < part.length := by rw [← HN.out]; exact hlt
      rw [drop_split hkp] at hown
      have hmid := own_mid hown
      have hcur : small 4294967296 (out ++ part.getD k 0 :: part.drop (k + 1)) := by
        intro d hd
        rcases List.mem_append.1 hd with h | h
        · have := HO.out.2.1 d h; omega
        · rw [← drop_split hkp] at h
          exact hsp' d (List.mem_of_mem_drop h)
      have hcl : (out ++ part.getD k 0 :: part.drop (k + 1)).length = n := by
        rw [← drop_split hkp, List.length_append, List.length_drop, HO.out.1, ← HN.out]; omega
      have hgd : (out ++ part.getD k 0 :: part.drop (k + 1)).getD k 0 = part.getD k 0 := by
        rw [List.getD_eq_getElem?_getD, List.getElem?_append_right (by rw [HO.out.1]; exact Nat.le_refl _), HO.out.1, Nat.sub_self]; rfl
      obtain ⟨d1, hd1⟩ : ∃ d, d = part.getD k 0 := ⟨_, rfl⟩
      obtain ⟨d2, hd2⟩ : ∃ d, d = ys.getD k 0 := ⟨_, rfl⟩
      have b1 : d1 < 1000000000 := by rw [hd1]; exact small_getD hsp (by decide) k
      have b2 : d2 < 1000000000 := by rw [hd2]; exact small_getD hsy (by decide) k
      have q1 : Calls Tryd.prog 47 #[.slice (some ⟨g, p, none⟩) n cap, .int .i64 k] wr (fun e w' => e = .returned (.int .u64 (d1 : Int)) ∧ wr = w') := by
        have := at_any (c := cap) hmid hcur k (by omega)
        rw [Int.toNat_natCast, hgd, hcl, ← hd1, ← HP.out] at this
        exact this
      have q2 : Calls Tryd.prog 47 #[.slice A2 m c2, .int .i64 k] wr (fun e w' => e = .returned (.int .u64 (d2 : Int)) ∧ wr = w') := by
        have := at_any (c := c2) (hr2.below (hb0.trans (hb.mono hB))) hsy' k (by omega)
        rw [Int.toNat_natCast, ← hd2, ← HM.out] at this
        exact this
      have hst := sum_step (xs := part) (ys := ys) HO.out.1 HO.out.2.2
      rw [← hd1, ← hd2] at hst
      have hcf : ∃ v, wr.cell? ⟨g, p + k, none⟩ = some v ∧ wr.frozen? ⟨g, p + k, none⟩ = false := ⟨_, own_cell hown (k := p + k) (by
        have h2 : P.length + n ≤ (P ++ (out ++ part.getD k 0 :: part.drop (k + 1)) ++ T).length := by rw [List.length_append, List.length_append, hcl]; omega
        rw [u32s_length, HP.out]; omega)⟩
      obtain ⟨vold, hqc, hqf⟩ := hcf
      have eA : (⟨g, p, none⟩ : Addr).add k = ⟨g, p + k, none⟩ := by simp [Addr.add]
      have Q1 := Lib.hid q1
      have Q2 := Lib.hid q2
      have HST := Lib.hid hst
      have hset := own_mid_set hown ((cy + (d1 + d2)) % 1000000000)
      rw [HO.out.1, ← HP.out] at hset
      have HSET := Lib.hid hset
      clear q1 q2 hst hset hd1 hd2 hmid hcur hcl hgd hown
      clear hb0 hr2 ho hsp hsy hsp' hsy' hkp
      go_wp2_with fail
      refine Q1.out.mono ?_
      rintro e w' ⟨rfl, rfl⟩
      go_wp2_with fail
      refine Q2.out.mono ?_
      rintro e w' ⟨rfl, rfl⟩
      clear Q1 Q2
      go_wp2
      go_roundw
      case rel => exact ⟨k + 1, (cy + (d1 + d2)) / 1000000000, out ++ [(cy + (d1 + d2)) % 1000000000], by omega, by go_num, by go_num, by omega, by
        have := HSET.out
        rw [show (((cy + (d1 + d2)) % 1000000000 : Nat) : Int) = ((cy : Int) + ((d1 : Int) + (d2 : Int))) % 1000000000 from by omega] at this
        exact this, ⟨by rw [List.length_append, HO.out.1]; rfl, small_snoc HO.out.2.1 (Nat.mod_lt _ (by decide)), HST.out⟩, hb.setCell hBg _, fun i hi => (Below.heap_setCell _ _ _ _ hi).trans (HFR.out i hi)⟩
      case measure => first | (simp [intOf]; done) | (simp [intOf]; omega)
    · have hkn : k = n := by omega
      have HK := Lib.hid hkn
      clear hkn
      have ho2 : Own wr B 23 (.slice (some ⟨g, 0, none⟩) N c) (u32s (P ++ out ++ T)) := by
        rw [HK.out, HN.out, List.drop_length, List.append_nil] at hown
        exact hown
      have hv := HO.out.2.2
      rw [HK.out, HN.out, List.take_length, List.take_of_length_le (by rw [← HM.out, ← HN.out]; exact hmn), ← HN.out] at hv
      have HV := Lib.hid hv
      clear hv hown
      go_wp2
      go_returns
      exact ⟨⟨_, rfl⟩, out, cy, by rw [HO.out.1, HK.out], HO.out.2.1, hcy, HV.out, ho2, hb, HFR⟩
end Go.Proofs.YtffcacpffamjfaaDoor

namespace Go.Proofs.YtffcacpffamjfaaDoor
open Go.RowKit

theorem take_step {out xs ys : List Nat} {k bo ca x z dg : Nat} (hlen : out.length = k) (hx : x + (ca + z) % 1000000000 + bo = xs.getD k 0 + 1000000000) (hlt : x < 2000000000) (hz : z = ys.getD k 0 * dg) (hval : val out + val (ys.take k) * dg = val (xs.take k) + 1000000000 ^ k * (bo + ca)) (hle : 1000000000 ^ k * ca ≤ val (ys.take k) * dg) :
    val (out ++ [x % 1000000000]) + val (ys.take (k + 1)) * dg = val (xs.take (k + 1)) + 1000000000 ^ (k + 1) * (1 - x / 1000000000 + (ca + z) / 1000000000) ∧ 1000000000 ^ (k + 1) * ((ca + z) / 1000000000) ≤ val (ys.take (k + 1)) * dg := by
  rw [val_snoc, take_succ_any, take_succ_any, hlen, Nat.pow_succ, Nat.mul_assoc, Nat.mul_assoc, Nat.add_mul, Nat.mul_assoc (1000000000 ^ k) (ys.getD k 0) dg, ← hz]
  generalize 1000000000 ^ k = K at *
  have h1 : x % 1000000000 + z + bo + ca = xs.getD k 0 + 1000000000 * (1 - x / 1000000000 + (ca + z) / 1000000000) := by omega
  have h2 : K * (x % 1000000000 + z + bo + ca) = K * (xs.getD k 0 + 1000000000 * (1 - x / 1000000000 + (ca + z) / 1000000000)) := by rw [h1]
  have h3 : K * (1000000000 * ((ca + z) / 1000000000)) ≤ K * (ca + z) := Nat.mul_le_mul_left _ (by omega)
  rw [Nat.mul_add, Nat.mul_add, Nat.mul_add, Nat.mul_add K (xs.getD k 0)] at h2
  rw [Nat.mul_add] at hval h3
  omega

set_option maxRecDepth 100000 in
set_option maxHeartbeats 4000000 in
theorem take_any {w0 w : World} {B g N c cap c2 dg : Nat} {A2 : Option Addr} {P part T ys : List Nat} (ho : Own w B 23 (.slice (some ⟨g, 0, none⟩) N c) (u32s (P ++ part ++ T))) (hpl : P.length + part.length ≤ 1000000) (hr2 : Row w0 A2 (u32s ys)) (hb0 : Below w0.heap.size w0 w) (hB : w0.heap.size ≤ B) (hBg : B ≤ g)
    (hsp : small 1000000000 part) (hsy : small 1000000000 ys) (hyl : ys.length ≤ part.length) (hdg : dg ≤ 1000000000) :
    Calls Tryd.prog 59 #[.slice (some ⟨g, P.length, none⟩) part.length cap, .slice A2 ys.length c2, .int .u64 (dg : Int)] w fun e w' => ∃ (part' : List Nat) (bo ca : Nat), e = .returned (.bool (decide (0 < bo))) ∧ part'.length = part.length ∧ small 1000000000 part' ∧ bo ≤ 1 ∧ (val part' + val ys * dg = val part + 1000000000 ^ part.length * (bo + ca) ∧ 1000000000 ^ part.length * ca ≤ val ys * dg) ∧
      Own w' B 23 (.slice (some ⟨g, 0, none⟩) N c) (u32s (P ++ part' ++ T)) ∧ Below B w w' ∧ Hid (∀ i, i ≠ g → w'.heap[i]? = w.heap[i]?) := by
  obtain ⟨n, hn⟩ : ∃ n : Nat, n = part.length := ⟨_, rfl⟩
  obtain ⟨m, hm⟩ : ∃ m : Nat, m = ys.length := ⟨_, rfl⟩
  obtain ⟨p, hp⟩ : ∃ p : Nat, p = P.length := ⟨_, rfl⟩
  have hpn : p + n ≤ 1000000 := by omega
  have hmn : m ≤ n := by omega
  rw [← hn, ← hm, ← hp]
  have HN := Lib.hid hn
  have HM := Lib.hid hm
  have HP := Lib.hid hp
  clear hn hm hp hpl hyl
  have hsp' := small_mono hsp (show 1000000000 ≤ 4294967296 by decide)
  have hsy' := small_mono hsy (show 1000000000 ≤ 4294967296 by decide)
  go_enter Tryd.func59, Tryd.ntmps59
  go_wp2
  go_loopw [7, 8, 13] (fun cv bv iv wr => ∃ (k bo ca : Nat) (out : List Nat), k ≤ n ∧ iv = .int .i64 (k : Int) ∧ cv = .int .u64 (ca : Int) ∧ bv = .int .u64 (bo : Int) ∧ bo ≤ 1 ∧ ca ≤ 1000000000 ∧ Own wr B 23 (.slice (some ⟨g, 0, none⟩) N c) (u32s (P ++ (out ++ part.drop k) ++ T)) ∧ Hid (out.length = k ∧ small 1000000000 out ∧ val out + val (ys.take k) * dg = val (part.take k) + 1000000000 ^ k * (bo + ca) ∧ 1000000000 ^ k * ca ≤ val (ys.take k) * dg) ∧ Below B w wr ∧ Hid (∀ i, i ≠ g → wr.heap[i]? = w.heap[i]?))
    (fun _ _ iv _ => n - (intOf iv).toNat)
  case atStart => exact ⟨0, 0, 0, [], Nat.zero_le _, rfl, rfl, rfl, by omega, by omega, ho, ⟨rfl, small_nil _, by simp [val], by simp⟩, Below.refl _ _, fun _ _ => rfl⟩
  case round =>
    obtain ⟨k, bo, ca, out, hk, rfl, rfl, rfl, hbo, hca, hown, HO, hb, HFR⟩ := hrel
    by_cases hlt : k < n
    · have hkp : k < part.length := by rw [← HN.out]; exact hlt
      rw [drop_split hkp] at hown
      have hmid := own_mid hown
      have hcur : small 4294967296 (out ++ part.getD k 0 :: part.drop (k + 1)) := by
        intro d hd
        rcases List.mem_append.1 hd with h | h
        · have := HO.out.2.1 d h; omega
        · rw [← drop_split hkp] at h
          exact hsp' d (List.mem_of_mem_drop h)
      have hcl : (out ++ part.getD k 0 :: part.drop (k + 1)).length = n := by
        rw [← drop_split hkp, List.length_append, List.length_drop, HO.out.1, ← HN.out]; omega
      have hgd : (out ++ part.getD k 0 :: part.drop (k + 1)).getD k 0 = part.getD k 0 := by
        rw [List.getD_eq_getElem?_getD, List.getElem?_append_right (by rw [HO.out.1]; exact Nat.le_refl _), HO.out.1, Nat.sub_self]; rfl
      obtain ⟨d1, hd1⟩ : ∃ d, d = part.getD k 0 := ⟨_, rfl⟩
      obtain ⟨d2, hd2⟩ : ∃ d, d = ys.getD k 0 := ⟨_, rfl⟩
      have b1 : d1 < 1000000000 := by rw [hd1]; exact small_getD hsp (by decide) k
      have b2 : d2 < 1000000000 := by rw [hd2]; exact small_getD hsy (by decide) k
      have q1 : Calls Tryd.prog 47 #[.slice (some ⟨g, p, none⟩) n cap, .int .i64 k] wr (fun e w' => e = .returned (.int .u64 (d1 : Int)) ∧ wr = w') := by
        have := at_any (c := cap) hmid hcur k (by omega)
        rw [Int.toNat_natCast, hgd, hcl, ← hd1, ← HP.out] at this
        exact this
      have q2 : Calls Tryd.prog 47 #[.slice A2 m c2, .int .i64 k] wr (fun e w' => e = .returned (.int .u64 (d2 : Int)) ∧ wr = w') := by
        have := at_any (c := c2) (hr2.below (hb0.trans (hb.mono hB))) hsy' k (by omega)
        rw [Int.toNat_natCast, ← hd2, ← HM.out] at this
        exact this
      obtain ⟨z, hz⟩ : ∃ z, z = d2 * dg := ⟨_, rfl⟩
      have hzb : z ≤ 999999999000000000 := by rw [hz]; exact Nat.mul_le_mul (show d2 ≤ 999999999 by omega) hdg
      have hzi : (d2 : Int) * (dg : Int) = (z : Int) := by rw [hz]; simp
      obtain ⟨x, hxe⟩ : ∃ x : Nat, x = d1 + 1000000000 - (ca + z) % 1000000000 - bo := ⟨_, rfl⟩
      have hx1 : x + (ca + z) % 1000000000 + bo = d1 + 1000000000 := by omega
      have hx2 : x < 2000000000 := by omega
      have hst := take_step (xs := part) (ys := ys) HO.out.1 (by rw [← hd1]; exact hx1) hx2 (by rw [← hd2]; exact hz) HO.out.2.2.1 HO.out.2.2.2
      have hxi : (d1 : Int) + 1000000000 - ((ca : Int) + (z : Int)) % 1000000000 - (bo : Int) = (x : Int) := by omega
      have hcf : ∃ v, wr.cell? ⟨g, p + k, none⟩ = some v ∧ wr.frozen? ⟨g, p + k, none⟩ = false := ⟨_, own_cell hown (k := p + k) (by
        have h2 : P.length + n ≤ (P ++ (out ++ part.getD k 0 :: part.drop (k + 1)) ++ T).length := by rw [List.length_append, List.length_append, hcl]; omega
        rw [u32s_length, HP.out]; omega)⟩
      obtain ⟨vold, hqc, hqf⟩ := hcf
      have eA : (⟨g, p, none⟩ : Addr).add k = ⟨g, p + k, none⟩ := by simp [Addr.add]
      have Q1 := Lib.hid q1
      have Q2 := Lib.hid q2
      have HST := Lib.hid hst
      have hset := own_mid_set hown (x % 1000000000)
      rw [HO.out.1, ← HP.out] at hset
      have HSET := Lib.hid hset
      clear hz hxe q1 q2 hst hset hd1 hd2 hmid hcur hcl hgd hown
      clear hb0 hr2 ho hsp hsy hsp' hsy' hkp
      go_wp2_with fail
      refine Q2.out.mono ?_
      rintro e w' ⟨rfl, rfl⟩
      go_wp2_with fail
      refine Q1.out.mono ?_
      rintro e w' ⟨rfl, rfl⟩
      clear Q1 Q2
      go_wp2
      go_roundw
      case rel => exact ⟨k + 1, 1 - x / 1000000000, (ca + z) / 1000000000, out ++ [x % 1000000000], by omega, by go_num, by go_num, int_eq (by omega), by omega, by omega, by
        have := HSET.out
        rw [show ((x % 1000000000 : Nat) : Int) = (x : Int) % 1000000000 from by omega] at this
        exact this, ⟨by rw [List.length_append, HO.out.1]; rfl, small_snoc HO.out.2.1 (Nat.mod_lt _ (by decide)), HST.out.1, HST.out.2⟩, hb.setCell hBg _, fun i hi => (Below.heap_setCell _ _ _ _ hi).trans (HFR.out i hi)⟩
      case measure => first | (simp [intOf]; done) | (simp [intOf]; omega)
    · have hkn : k = n := by omega
      have HK := Lib.hid hkn
      clear hkn
      have ho2 : Own wr B 23 (.slice (some ⟨g, 0, none⟩) N c) (u32s (P ++ out ++ T)) := by
        rw [HK.out, HN.out, List.drop_length, List.append_nil] at hown
        exact hown
      have hv := HO.out.2.2
      rw [HK.out, HN.out, List.take_length, List.take_of_length_le (by rw [← HM.out, ← HN.out]; exact hmn), ← HN.out] at hv
      have HV := Lib.hid hv
      clear hv hown
      go_wp2
      go_returns
      exact ⟨out, bo, ca, ret_bool (by simp), by rw [HO.out.1, HK.out], HO.out.2.1, hbo, HV.out, ho2, hb, HFR⟩
end Go.Proofs.YtffcacpffamjfaaDoor

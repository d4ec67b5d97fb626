/- Contract of nat.number.times: the right row of the product of what two lists of digits below 10^9 stand for; at most 50000 digits each. -/
import Derived.Test.YthjgfkmnelefpaaGreatDoorDivS
namespace Go.Proofs.YthjgfkmnelefpaaGreatDoor
open Go.RowKit

theorem val_set {ps : List Nat} {k : Nat} (hk : k < ps.length) (d : Nat) : val (ps.set k d) + 1000000000 ^ k * ps.getD k 0 = val ps + 1000000000 ^ k * d := by
  induction ps generalizing k with
  | nil => simp at hk
  | cons p ps ih =>
    cases k with
    | zero => simp [val]; omega
    | succ k =>
      have := ih (k := k) (by simpa using hk)
      simp only [List.set_cons_succ, val, List.getD_cons_succ, Nat.pow_succ]
      rw [Nat.mul_comm (1000000000 ^ k) 1000000000, Nat.mul_assoc, Nat.mul_assoc]
      omega

/-- One digit more of the inner sum. -/
theorem mul_step {ps ys : List Nat} {i j c x V : Nat} (hk : i + j < ps.length) (hj : j < ys.length) (h : val ps + 1000000000 ^ (i + j) * c = V + x * 1000000000 ^ i * val (ys.take j)) :
    val (ps.set (i + j) ((c + (ps.getD (i + j) 0 + x * ys.getD j 0)) % 1000000000)) + 1000000000 ^ (i + (j + 1)) * ((c + (ps.getD (i + j) 0 + x * ys.getD j 0)) / 1000000000) = V + x * 1000000000 ^ i * val (ys.take (j + 1)) := by
  have h1 := val_set hk ((c + (ps.getD (i + j) 0 + x * ys.getD j 0)) % 1000000000)
  have h2 := Nat.mod_add_div (c + (ps.getD (i + j) 0 + x * ys.getD j 0)) 1000000000
  rw [val_take_succ ys j hj, Nat.mul_add (x * 1000000000 ^ i), ← Nat.add_assoc V, ← h, show i + (j + 1) = (i + j) + 1 from by omega, Nat.pow_succ, Nat.mul_assoc (1000000000 ^ (i + j))]
  have h3 : x * 1000000000 ^ i * (1000000000 ^ j * ys.getD j 0) = 1000000000 ^ (i + j) * (x * ys.getD j 0) := by
    rw [Nat.pow_add]
    ac_rfl
  rw [h3]
  generalize 1000000000 ^ (i + j) = P at *
  generalize ps.getD (i + j) 0 = p at *
  generalize x * ys.getD j 0 = z at *
  generalize hm : (c + (p + z)) % 1000000000 = m at *
  generalize hq : (c + (p + z)) / 1000000000 = q at *
  have h4 : P * (c + (p + z)) = P * m + P * (1000000000 * q) := by rw [← h2, Nat.mul_add]
  rw [Nat.mul_add, Nat.mul_add] at h4
  omega

theorem carry_lt {c p x y : Nat} (hc : c < 1000000000) (hp : p < 1000000000) (hx : x < 1000000000) (hy : y < 1000000000) : (c + (p + x * y)) / 1000000000 < 1000000000 ∧ x * y ≤ 999999998000000001 := by
  have h1 : x * y ≤ 999999999 * 999999999 := Nat.mul_le_mul (by omega) (by omega)
  omega

theorem getD_zero_of {ps : List Nat} {k : Nat} (h : ∀ j, k ≤ j → ps.getD j 0 = 0) {d : Nat} (hk : k < ps.length) : val (ps.set k d) = val ps + 1000000000 ^ k * d := by
  have := val_set hk d
  rw [h k (Nat.le_refl _)] at this
  simpa using this

set_option maxRecDepth 100000 in
set_option maxHeartbeats 8000000 in
theorem times_any {w : World} {A1 A2 : Option Addr} {c1 c2 : Nat} {xs ys : List Nat} (hr1 : Row w A1 (u32s xs)) (hr2 : Row w A2 (u32s ys)) (hx : small 1000000000 xs) (hy : small 1000000000 ys) (hl1 : xs.length ≤ 100000) (hl2 : ys.length ≤ 100000) :
    Calls Tryz.prog 91 #[.agg #[.slice A1 xs.length c1], .agg #[.slice A2 ys.length c2]] w (RetNum w (val xs * val ys)) := by
  obtain ⟨i0, hi, hz0, hz1, hz2⟩ := info_parts info_u32
  obtain ⟨n, hn⟩ : ∃ n : Nat, n = xs.length := ⟨_, rfl⟩
  obtain ⟨m, hm⟩ : ∃ m : Nat, m = ys.length := ⟨_, rfl⟩
  have hn1 : n ≤ 100000 := by omega
  have hm1 : m ≤ 100000 := by omega
  rw [← hn, ← hm]
  have HN := Lib.hid hn
  have HM := Lib.hid hm
  clear hn hm
  have hx' := small_mono hx (show 1000000000 ≤ 4294967296 by decide)
  go_enter Tryz.func91, Tryz.ntmps91
  go_wp2_with (at_make; refine wpList_make_full _ rfl _ _ 90 rfl (w.heap.size + 3) 55 i0 (.int .u32 0) 1 Tryz.underlying90 hi hz0 hz1 .i64 .i64 ((n : Int) + (m : Int)) ((n : Int) + (m : Int)) (n + m) rfl rfl (by omega) (by omega) (by rw [hz2]; omega) (by unfold maxLen; omega) (by simp) ?_)
  intro w1 hown hgrow
  have ho1 := own_zeros hown
  obtain ⟨hb1, hs1, hA, hB, hC⟩ := three_new hgrow
  have HA := Lib.hid hA
  have HB := Lib.hid hB
  have HC := Lib.hid hC
  clear hown hgrow
  have hcA0 := cell_of_one hA
  have hcB0 := cell_of_one hB
  clear hA hB hC
  go_wp2_with fail
  clear hcA0 hcB0
  go_loopw [22] (fun iv wr => ∃ (i : Nat) (ps : List Nat), i ≤ n ∧ iv = .int .i64 (i : Int) ∧ Own wr (w.heap.size + 3) 55 (.slice (some ⟨w.heap.size + 1 + 1 + 1, 0, none⟩) (n + m) (n + m)) (u32s ps) ∧ Hid (ps.length = n + m ∧ small 1000000000 ps ∧ val ps = val (xs.take i) * val ys ∧ ∀ j, i + m ≤ j → ps.getD j 0 = 0) ∧ Below (w.heap.size + 3) w1 wr)
    (fun iv _ => n - (intOf iv).toNat)
  case atStart => exact ⟨0, List.replicate (n + m) 0, Nat.zero_le _, rfl, ho1, ⟨by simp, small_replicate _ _ (by decide), by
    have : ∀ k, val (List.replicate k 0) = 0 := fun k => by
      induction k with
      | zero => rfl
      | succ k ih => rw [List.replicate_succ, val, ih]
    rw [this]; simp [val], fun j _ => by
    rw [List.getD_eq_getElem?_getD, List.getElem?_replicate]
    split <;> rfl⟩, Below.refl _ _⟩
  case round =>
    obtain ⟨i, ps, hi1, rfl, hp, HO, hb⟩ := hrel
    have hsz := hb.size
    by_cases hlt : i < n
    · have bW := below_trans hb1 hb (by omega)
      have hcA := cell_of_one ((hb.block w.heap.size (by omega)).trans HA.out)
      have hcB := cell_of_one ((hb.block (w.heap.size + 1) (by omega)).trans HB.out)
      obtain ⟨x, hxe⟩ : ∃ x, x = xs.getD i 0 := ⟨_, rfl⟩
      have hxb : x < 1000000000 := by rw [hxe]; exact small_getD hx (by decide) i
      have q1 : ∀ W, Below w.heap.size w W → Calls Tryz.prog 96 #[.slice A1 n c1, .int .i64 i] W (fun e w' => e = .returned (.int .u64 (x : Int)) ∧ W = w') := fun W hW => by
        have := at_any (c := c1) (hr1.below hW) hx' i (by omega)
        rw [Int.toNat_natCast, ← hxe, ← HN.out] at this; exact this
      have HX := Lib.hid hxe
      have Q1 := Lib.hid q1
      clear hxe q1
      go_wp2_with fail
      refine (Q1.out _ bW).mono ?_
      rintro e w' ⟨rfl, rfl⟩
      go_wp2_with fail
      obtain ⟨wo, hwo⟩ : ∃ wo : World, wo = wr := ⟨_, rfl⟩
      have hb0 : Below (w.heap.size + 3) w1 wo := hwo ▸ hb
      have hp0 : Own wo (w.heap.size + 3) 55 (.slice (some ⟨w.heap.size + 1 + 1 + 1, 0, none⟩) (n + m) (n + m)) (u32s ps) := hwo ▸ hp
      rw [← hwo]
      clear hwo hb hp hcA hcB bW hsz Q1
      obtain ⟨V, hV⟩ : ∃ V, V = val ps := ⟨_, rfl⟩
      have HV := Lib.hid hV
      clear hV
      go_loopw [8, 32] (fun cv jv wr => ∃ (j cy : Nat) (qs : List Nat), j ≤ m ∧ jv = .int .i64 (j : Int) ∧ cv = .int .u64 (cy : Int) ∧ cy < 1000000000 ∧ Own wr (w.heap.size + 3) 55 (.slice (some ⟨w.heap.size + 1 + 1 + 1, 0, none⟩) (n + m) (n + m)) (u32s qs) ∧ Hid (qs.length = n + m ∧ small 1000000000 qs ∧ val qs + 1000000000 ^ (i + j) * cy = V + x * 1000000000 ^ i * val (ys.take j) ∧ ∀ t, i + m ≤ t → qs.getD t 0 = 0) ∧ Below (w.heap.size + 3) w1 wr)
        (fun _ jv _ => m - (intOf jv).toNat)
      case atStart => exact ⟨0, 0, ps, Nat.zero_le _, rfl, rfl, by decide, hp0, ⟨HO.out.1, HO.out.2.1, by rw [HV.out]; simp [val], HO.out.2.2.2⟩, hb0⟩
      case round =>
        obtain ⟨j, cy, qs, hj1, rfl, rfl, hcy, hq, HQ, hbq⟩ := hrel
        have hszq := hbq.size
        have bW := below_trans hb1 hbq (by omega)
        have hcA := cell_of_one ((hbq.block w.heap.size (by omega)).trans HA.out)
        have hcB := cell_of_one ((hbq.block (w.heap.size + 1) (by omega)).trans HB.out)
        by_cases hjm : j < m
        · obtain ⟨ad, y, rfl, hcy2, hy2, hym⟩ := (hr2.below bW).dig (k := j) (by rw [← HM.out]; exact hjm)
          have hyb := hy y hym
          obtain ⟨p, hpe⟩ : ∃ p, p = qs.getD (i + j) 0 := ⟨_, rfl⟩
          have hpb : p < 1000000000 := by rw [hpe]; exact small_getD HQ.out.2.1 (by decide) _
          have q2 : Calls Tryz.prog 96 #[.slice (some ⟨w.heap.size + 1 + 1 + 1, 0, none⟩) (n + m) (n + m), .int .i64 ((i : Int) + (j : Int))] wr (fun e w' => e = .returned (.int .u64 (p : Int)) ∧ wr = w') := by
            have := at_any (c := n + m) hq.row32 (small_mono HQ.out.2.1 (by decide)) ((i : Int) + (j : Int)) (by omega)
            rw [HQ.out.1, show ((i : Int) + (j : Int)).toNat = i + j from by omega, ← hpe] at this
            exact this
          obtain ⟨hqc, hqf⟩ := own_cell hq (k := i + j) (by rw [u32s_length, HQ.out.1]; omega)
          obtain ⟨hcl, hzb⟩ := carry_lt hcy hpb hxb hyb
          obtain ⟨z, hz⟩ : ∃ z, z = x * y := ⟨_, rfl⟩
          have hzi : (x : Int) * (y : Int) = (z : Int) := by rw [hz]; simp
          rw [← hz] at hcl hzb
          have hst := mul_step (ps := qs) (ys := ys) (i := i) (j := j) (c := cy) (x := x) (V := V) (by rw [HQ.out.1]; omega) (by rw [← HM.out]; exact hjm) HQ.out.2.2.1
          rw [hy2.out, ← hpe, ← hz] at hst
          have HST := Lib.hid hst
          have Q2 := Lib.hid q2
          have hij : (i : Int) + (j : Int) < (n : Int) + (m : Int) := by omega
          have hij0 : 0 ≤ (i : Int) + (j : Int) := by omega
          clear hst q2 hpe hz hym
          go_wp2_with (go_at_call 96; refine Q2.out.mono ?_; rintro e w' ⟨rfl, rfl⟩)
          go_roundw
          case rel => exact ⟨j + 1, (cy + (p + z)) / 1000000000, qs.set (i + j) ((cy + (p + z)) % 1000000000), by omega, by go_num, by go_num, hcl, by
            have := own_set32 hq (i + j) ((cy + (p + z)) % 1000000000)
            rw [show (((cy + (p + z)) % 1000000000 : Nat) : Int) = ((cy : Int) + ((p : Int) + (z : Int))) % 1000000000 from by omega] at this
            exact this, ⟨by rw [List.length_set]; exact HQ.out.1, small_set HQ.out.2.1 _ (Nat.mod_lt _ (by decide)), HST.out, fun t ht => by rw [getD_set_ne _ (by omega)]; exact HQ.out.2.2.2 t ht⟩, hbq.setCell (show w.heap.size + 3 ≤ w.heap.size + 1 + 1 + 1 by omega) _⟩
          case measure => first | (simp [intOf]; done) | (simp [intOf]; omega)
        · have hjm' : j = m := by omega
          have HJ := Lib.hid hjm'
          obtain ⟨hqc, hqf⟩ := own_cell hq (k := i + m) (by rw [u32s_length, HQ.out.1]; omega)
          have him : (i : Int) + (m : Int) < (n : Int) + (m : Int) := by omega
          have him0 : 0 ≤ (i : Int) + (m : Int) := by omega
          clear hjm'
          go_wp2
          go_roundw
          case rel => exact ⟨i + 1, qs.set (i + m) cy, by omega, by go_num, own_set32 hq (i + m) cy, ⟨by rw [List.length_set]; exact HQ.out.1, small_set HQ.out.2.1 _ hcy, by
            have h := HQ.out.2.2.1
            rw [HJ.out, HM.out, List.take_length, ← HM.out] at h
            rw [getD_zero_of HQ.out.2.2.2 (by rw [HQ.out.1]; omega), h, HV.out, HO.out.2.2.1, val_take_succ xs i (by rw [← HN.out]; exact hlt), ← HX.out, Nat.add_mul]
            congr 1
            rw [Nat.mul_comm x], fun t ht => by rw [getD_set_ne _ (by omega)]; exact HQ.out.2.2.2 t (by omega)⟩, hbq.setCell (show w.heap.size + 3 ≤ w.heap.size + 1 + 1 + 1 by omega) _⟩
          case measure => first | (simp [intOf]; done) | (simp [intOf]; omega)
    · have hin : i = n := by omega
      have HI := Lib.hid hin
      have hl : ps.length ≤ 1000000 := by rw [HO.out.1]; omega
      clear hin
      go_wp2_with fail
      refine (stripped_any hp hl).mono ?_
      rintro e w3 ⟨⟨v, rfl, hv⟩, rfl⟩
      obtain ⟨A3, c3, rfl, _⟩ := hv.slice32
      have hcell := (hb.block (w.heap.size + 1 + 1) (by omega)).trans HC.out
      have hc := cell_of_one hcell
      have hf := free_of_one hcell
      have hcs := cell_of_one (one_setCell (u := .slice A3 (strip ps).length c3) hcell)
      clear hcell
      go_wp2
      refine bodyPost_ret (v := .agg #[.slice A3 (strip ps).length c3]) (by simp [results, Tryz.results91, go_sem, hcs]) rfl ?_
      have h := HO.out
      refine ⟨_, rfl, ⟨_, strip_right h.2.1, ?_, (hv.setBelow (show w.heap.size + 1 + 1 < w.heap.size + 3 by omega) _).mono (by omega)⟩, (below_trans hb1 hb (by omega)).setCell (Nat.le_succ_of_le (Nat.le_succ _)) _⟩
      rw [strip_val, h.2.2.1, HI.out, HN.out, List.take_length]
end Go.Proofs.YthjgfkmnelefpaaGreatDoor

/- Contract of nat.number.divideShort: quotient and rest by one digit above 0. At most 100000 digits. -/
import Derived.Test.YthjgfkmnelefpaaGreatDoorOrd
namespace Go.Proofs.YthjgfkmnelefpaaGreatDoor
open Go.RowKit

theorem getD_set_ne {ds : List Nat} {p k : Nat} (v : Nat) (h : p ≠ k) : (ds.set p v).getD k 0 = ds.getD k 0 := by
  rw [List.getD_eq_getElem?_getD, List.getD_eq_getElem?_getD, List.getElem?_set_ne h]
theorem small_set {b : Nat} {ds : List Nat} (h : small b ds) (k : Nat) {d : Nat} (hd : d < b) : small b (ds.set k d) := by
  intro x hx
  rcases List.mem_or_eq_of_mem_set hx with h1 | h1
  · exact h x h1
  · rw [h1]; exact hd
theorem small_replicate (b n : Nat) (hb : 0 < b) : small b (List.replicate n 0) := fun d hd => by rw [(List.mem_replicate.1 hd).2]; exact hb

/-- One digit more of the quotient. -/
theorem div_step {xs qs : List Nat} {p d left : Nat} (hp : p < xs.length) (hq : qs.length = xs.length) (h : val (qs.drop (p + 1)) * d + left = val (xs.drop (p + 1))) :
    val ((qs.set p ((left * 1000000000 + xs.getD p 0) / d)).drop p) * d + (left * 1000000000 + xs.getD p 0) % d = val (xs.drop p) := by
  have e1 : (qs.set p ((left * 1000000000 + xs.getD p 0) / d)).drop p = ((left * 1000000000 + xs.getD p 0) / d) :: qs.drop (p + 1) := by
    have hl : p < (qs.set p ((left * 1000000000 + xs.getD p 0) / d)).length := by rw [List.length_set]; omega
    rw [List.drop_eq_getElem_cons hl]
    congr 1
    · simp
    · rw [List.drop_set_of_lt (by omega)]
  rw [e1, val_drop xs p hp, ← h, val]
  have h2 := Nat.mod_add_div (left * 1000000000 + xs.getD p 0) d
  rw [Nat.add_mul, Nat.mul_add, Nat.mul_comm _ d, Nat.mul_assoc]
  omega

theorem div_lt {left d x : Nat} (h : left < d) (hx : x < 1000000000) : (left * 1000000000 + x) / d < 1000000000 := by
  rw [Nat.div_lt_iff_lt_mul (by omega)]
  have := Nat.mul_le_mul_right 1000000000 (show left + 1 ≤ d from h)
  rw [Nat.mul_comm 1000000000 d]
  omega

/-- Two numbers, each a right row of its own from block B on. -/
def RetTwo (w : World) (B q r : Nat) (e : Ending) (w' : World) : Prop := ∃ v u, e = .returned (.tuple #[.agg #[v], .agg #[u]]) ∧ IsNat w' B v q ∧ IsNat w' B u r ∧ Below w.heap.size w w'

set_option maxRecDepth 100000 in
set_option maxHeartbeats 2000000 in
theorem divideShort_any {w : World} {A1 : Option Addr} {c1 d : Nat} {xs : List Nat} (hr1 : Row w A1 (u32s xs)) (hx : small 1000000000 xs) (hl1 : xs.length ≤ 100000) (hd0 : 0 < d) (hd : d < 1000000000) :
    Calls Tryz.prog 99 #[.agg #[.slice A1 xs.length c1], .int .u64 d] w (RetTwo w w.heap.size (val xs / d) (val xs % d)) := by
  obtain ⟨i0, hi, hz0, hz1, hz2⟩ := info_parts info_u32
  obtain ⟨n, hn⟩ : ∃ n : Nat, n = xs.length := ⟨_, rfl⟩
  have hn1 : n ≤ 100000 := by omega
  rw [← hn]
  have HN := Lib.hid hn
  clear hn
  go_enter Tryz.func99, Tryz.ntmps99
  go_wp2_with (at_make; refine wpList_make_full _ rfl _ _ 90 rfl (w.heap.size + 3) 55 i0 (.int .u32 0) 1 Tryz.underlying90 hi hz0 hz1 .i64 .i64 (n : Int) (n : Int) n rfl rfl rfl rfl ?b2 ?b3 ?b4 ?_)
  case b2 => rw [hz2]; omega
  case b3 => unfold maxLen; omega
  case b4 => simp
  intro w1 hown hgrow
  have ho1 := own_zeros hown
  obtain ⟨hb1, hs1, hA, hB, hC⟩ := three_new hgrow
  have HA := Lib.hid hA
  have HB := Lib.hid hB
  have HC := Lib.hid hC
  clear hown hgrow hA hB hC
  have hx' := small_mono hx (show 1000000000 ≤ 4294967296 by decide)
  go_wp2_with fail
  go_loopw [7, 8] (fun cv i wr => ∃ (k left : Nat) (qs : List Nat), k ≤ n ∧ i = .int .i64 ((k : Int) - 1) ∧ cv = .int .u64 left ∧ left < d ∧ Own wr (w.heap.size + 3) 55 (.slice (some ⟨w.heap.size + 1 + 1 + 1, 0, none⟩) n n) (u32s qs) ∧ Hid (qs.length = n ∧ small 1000000000 qs ∧ val (qs.drop k) * d + left = val (xs.drop k)) ∧ Below (w.heap.size + 3) w1 wr)
    (fun _ i _ => (intOf i + 1).toNat)
  case atStart =>
    refine ⟨n, 0, List.replicate n 0, Nat.le_refl _, rfl, rfl, hd0, ho1, ⟨by simp, small_replicate _ _ (by decide), ?_⟩, Below.refl _ _⟩
    rw [List.drop_of_length_le (by simp), List.drop_of_length_le (by rw [HN.out]; exact Nat.le_refl _)]; simp [val]
  case round =>
    obtain ⟨k, left, qs, hk, rfl, rfl, hleft, hq, HO, hb⟩ := hrel
    have hsz := hb.size
    rcases Nat.eq_zero_or_pos k with rfl | hpos
    · have hl : qs.length ≤ 1000000 := by rw [HO.out.1]; omega
      go_wp2_with fail
      refine (stripped_any hq hl).mono ?_
      rintro e w3 ⟨⟨v, rfl, hv⟩, rfl⟩
      obtain ⟨A3, c3, rfl, _⟩ := hv.slice32
      go_wp2_with fail
      refine (stripped_any (own_lit32 wr (B := w.heap.size + 3) left (by omega)) (by simp)).mono ?_
      rintro e w4 ⟨⟨v2, rfl, hv2⟩, hw4⟩
      obtain ⟨A4, c4, rfl, _⟩ := hv2.slice32
      have hb4 : Below (w.heap.size + 3) w1 w4 := by rw [← hw4]; exact hb.alloc (by omega) _
      have hv' : Own w4 (w.heap.size + 3) 55 (.slice A3 (strip qs).length c3) (u32s (strip qs)) := by rw [← hw4]; exact hv.below ((Below.refl _ _).alloc (Nat.le_refl _) _)
      have hv2' : Own w4 (w.heap.size + 3) 55 (.slice A4 (strip [left]).length c4) (u32s (strip [left])) := by rw [← hw4]; exact hv2
      clear hv hv2 hw4
      have hB4 := (hb4.block (w.heap.size + 1) (by omega)).trans HB.out
      have hC4 := (hb4.block (w.heap.size + 1 + 1) (by omega)).trans HC.out
      obtain ⟨t1, t2, t3⟩ := two_cells (u1 := .slice A3 (strip qs).length c3) (u2 := .slice A4 (strip [left]).length c4) hB4 hC4 (by omega)
      have k1 := cell_of_one hB4
      have k2 := free_of_one hB4
      have k3 := cell_of_one t1
      have k4 := free_of_one t1
      have k5 := cell_of_one t2
      have k6 := cell_of_one t3
      clear hB4 hC4 t1 t2 t3
      go_wp2
      refine bodyPost_ret (v := .tuple #[.agg #[.slice A3 (strip qs).length c3], .agg #[.slice A4 (strip [left]).length c4]]) (by simp [results, Tryz.results99, go_sem, k5, k6]) rfl ?_
      have h := HO.out
      have hv3 : val qs * d + left = val xs := by simpa using h.2.2
      refine ⟨_, _, rfl, ⟨_, strip_right h.2.1, ?_, ((hv'.setBelow (show w.heap.size + 1 < w.heap.size + 3 by omega) _).setBelow (show w.heap.size + 1 + 1 < w.heap.size + 3 by omega) _).mono (by omega)⟩, ⟨_, strip_right (ds := [left]) (fun y hy => by rw [List.mem_singleton.1 hy]; omega), ?_, ((hv2'.setBelow (show w.heap.size + 1 < w.heap.size + 3 by omega) _).setBelow (show w.heap.size + 1 + 1 < w.heap.size + 3 by omega) _).mono (by omega)⟩, ((below_trans hb1 hb4 (by omega)).setCell (Nat.le_succ _) _).setCell (Nat.le_succ_of_le (Nat.le_succ _)) _⟩
      · rw [strip_val, ← hv3, Nat.mul_comm, Nat.mul_add_div hd0, Nat.div_eq_of_lt hleft, Nat.add_zero]
      · rw [strip_val, ← hv3, Nat.mul_comm, Nat.mul_add_mod, Nat.mod_eq_of_lt hleft]; simp [val]
    · obtain ⟨p, rfl⟩ : ∃ p, k = p + 1 := ⟨k - 1, by omega⟩
      rw [show ((p + 1 : Nat) : Int) - 1 = (p : Int) from by omega]
      have bW := below_trans hb1 hb (by omega)
      have hcA := cell_of_one ((hb.block w.heap.size (by omega)).trans HA.out)
      obtain ⟨x, hxe⟩ : ∃ x, x = xs.getD p 0 := ⟨_, rfl⟩
      have hxb : x < 1000000000 := by rw [hxe]; exact small_getD hx (by decide) p
      have q1 : ∀ W, Below w.heap.size w W → Calls Tryz.prog 96 #[.slice A1 n c1, .int .i64 p] W (fun e w' => e = .returned (.int .u64 (x : Int)) ∧ W = w') := fun W hW => by
        have := at_any (c := c1) (hr1.below hW) hx' p (by omega)
        rw [Int.toNat_natCast, ← hxe, ← HN.out] at this; exact this
      have HX := Lib.hid hxe
      have Q1 := Lib.hid q1
      clear hxe q1
      obtain ⟨hqc, hqf⟩ := own_cell hq (k := p) (by rw [u32s_length, HO.out.1]; omega)
      obtain ⟨q, hqe⟩ : ∃ q, q = (left * 1000000000 + x) / d := ⟨_, rfl⟩
      obtain ⟨r, hre⟩ : ∃ r, r = (left * 1000000000 + x) % d := ⟨_, rfl⟩
      have hql : q < 1000000000 := by rw [hqe]; exact div_lt hleft hxb
      have hrl : r < d := by rw [hre]; exact Nat.mod_lt _ hd0
      have hdq : ((left : Int) * 1000000000 + (x : Int)) / (d : Int) = (q : Int) := by rw [hqe]; simp
      have hdr : ((left : Int) * 1000000000 + (x : Int)) % (d : Int) = (r : Int) := by rw [hre]; simp
      have HQ := Lib.hid hqe
      have HR := Lib.hid hre
      clear hqe hre
      have hi1 : (p : Int) < n := by omega
      go_wp2_with (go_at_call 96; refine (Q1.out _ bW).mono ?_; rintro e w' ⟨rfl, rfl⟩)
      have HDR := Lib.hid hdr
      clear hdq hdr
      go_roundw
      case rel =>
        refine ⟨p, r, qs.set p q, by omega, by go_num, int_eq HDR.out, hrl, own_set32 hq p q, ?_, hb.setCell (show w.heap.size + 3 ≤ w.heap.size + 1 + 1 + 1 by omega) _⟩
        have h := HO.out
        refine ⟨by rw [List.length_set]; exact h.1, small_set h.2.1 p hql, ?_⟩
        rw [HQ.out, HR.out, HX.out]
        exact div_step (by rw [← HN.out]; omega) (by rw [h.1, HN.out]) h.2.2
      case measure => first | (simp [intOf]; done) | (simp [intOf]; omega)
end Go.Proofs.YthjgfkmnelefpaaGreatDoor

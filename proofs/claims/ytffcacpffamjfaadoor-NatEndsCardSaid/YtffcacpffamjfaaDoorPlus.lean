/- Contract of nat.number.plus: the right row of the sum of what two lists of digits below 10^9 stand for; at most 100000 digits each. -/
import Derived.Test.YtffcacpffamjfaaDoorNat1
import Derived.Lib.MinMax
namespace Go.Proofs.YtffcacpffamjfaaDoor
open Go.RowKit

theorem sum_step {out xs ys : List Nat} {k cy : Nat} (hlen : out.length = k) (hval : val out + 1000000000 ^ k * cy = val (xs.take k) + val (ys.take k)) :
    val (out ++ [(cy + (xs.getD k 0 + ys.getD k 0)) % 1000000000]) + 1000000000 ^ (k + 1) * ((cy + (xs.getD k 0 + ys.getD k 0)) / 1000000000) = val (xs.take (k + 1)) + val (ys.take (k + 1)) := by
  have h (ds : List Nat) : val (ds.take (k + 1)) = val (ds.take k) + 1000000000 ^ k * ds.getD k 0 := by
    rcases Nat.lt_or_ge k ds.length with h | h
    · exact val_take_succ ds k h
    · rw [List.take_of_length_le h, List.take_of_length_le (by omega), List.getD_eq_getElem?_getD, List.getElem?_eq_none h]; simp
  rw [val_snoc, h, h, hlen, Nat.pow_succ, Nat.add_assoc, Nat.mul_assoc, ← Nat.mul_add, Nat.mod_add_div, Nat.mul_add, Nat.mul_add]
  omega

set_option maxRecDepth 100000 in
set_option maxHeartbeats 2000000 in
theorem plus_any {w : World} {A1 A2 : Option Addr} {c1 c2 : Nat} {xs ys : List Nat} (hr1 : Row w A1 (u32s xs)) (hr2 : Row w A2 (u32s ys)) (hx : small 1000000000 xs) (hy : small 1000000000 ys) (hl1 : xs.length ≤ 100000) (hl2 : ys.length ≤ 100000) :
    Calls Tryd.prog 32 #[.agg #[.slice A1 xs.length c1], .agg #[.slice A2 ys.length c2]] w (RetNum w (val xs + val ys)) := by
  obtain ⟨i0, hi, hz0, hz1, hz2⟩ := info_parts info_u32
  obtain ⟨n, hn⟩ : ∃ n : Nat, n = max xs.length ys.length := ⟨_, rfl⟩
  have hn1 : n ≤ 100000 := by omega
  have hnc : max (xs.length : Int) (ys.length : Int) = (n : Int) := by omega
  have HN := Lib.hid hn
  clear hn
  go_enter Tryd.func32, Tryd.ntmps32
  go_wp2_with (at_make; refine wpList_make_own _ rfl _ _ 40 rfl (w.heap.size + 3) 23 i0 (.int .u32 0) 1 Tryd.underlying40 hi hz0 hz1 .i64 .i64 ((n : Int) + 1) (n + 1) rfl rfl (by omega) ?b2 ?b3 ?b4 ?_)
  case b2 => rw [hz2]; omega
  case b3 => unfold maxLen; omega
  case b4 => simp
  intro w1 hown hgrow
  have ho1 : Own w1 (w.heap.size + 3) 23 _ (u32s []) := Own.mk_ hown
  obtain ⟨hb1, hs1, hA, hB, hC⟩ := three_new hgrow
  have HA := Lib.hid hA
  have HB := Lib.hid hB
  have HC := Lib.hid hC
  clear hown hgrow hnc hA hB hC
  have hx' := small_mono hx (show 1000000000 ≤ 4294967296 by decide)
  have hy' := small_mono hy (show 1000000000 ≤ 4294967296 by decide)
  go_wp2_with fail
  go_loopw [6, 7, 20] (fun v cv i wr => ∃ (k cy : Nat) (out : List Nat), k ≤ n ∧ i = .int .i64 k ∧ cv = .int .u64 cy ∧ cy ≤ 1 ∧ Own wr (w.heap.size + 3) 23 v (u32s out) ∧ Hid (out.length = k ∧ small 1000000000 out ∧ val out + 1000000000 ^ k * cy = val (xs.take k) + val (ys.take k)) ∧ Below (w.heap.size + 3) w1 wr)
    (fun _ _ i _ => n - (intOf i).toNat)
  case atStart => exact ⟨0, 0, [], Nat.zero_le _, rfl, rfl, by omega, ho1, ⟨rfl, small_nil _, by simp [val]⟩, Below.refl _ _⟩
  case round =>
    obtain ⟨k, cy, out, hk, rfl, rfl, hcy, hout, HO, hb⟩ := hrel
    have hsz := hb.size
    by_cases hlt : k < n
    · have bW := below_trans hb1 hb (by omega)
      have hcA := cell_of_one ((hb.block w.heap.size (by omega)).trans HA.out)
      have hcB := cell_of_one ((hb.block (w.heap.size + 1) (by omega)).trans HB.out)
      obtain ⟨d1, hd1⟩ : ∃ d, d = xs.getD k 0 := ⟨_, rfl⟩
      obtain ⟨d2, hd2⟩ : ∃ d, d = ys.getD k 0 := ⟨_, rfl⟩
      have l1 : d1 < 1000000000 := by rw [hd1]; exact small_getD hx (by decide) k
      have l2 : d2 < 1000000000 := by rw [hd2]; exact small_getD hy (by decide) k
      have q1 : ∀ m, Calls Tryd.prog 47 #[.slice A1 xs.length c1, .int .i64 k] (wr.drewN m) (fun e w' => e = .returned (.int .u64 (d1 : Int)) ∧ w' = wr.drewN m) := fun m => by
        have := at_q (c := c1) ((hr1.below bW).drewN m) hx' k (by omega)
        rw [Int.toNat_natCast, ← hd1] at this; exact this
      have q2 : ∀ m, Calls Tryd.prog 47 #[.slice A2 ys.length c2, .int .i64 k] (wr.drewN m) (fun e w' => e = .returned (.int .u64 (d2 : Int)) ∧ w' = wr.drewN m) := fun m => by
        have := at_q (c := c2) ((hr2.below bW).drewN m) hy' k (by omega)
        rw [Int.toNat_natCast, ← hd2] at this; exact this
      have Q1 := Lib.hid q1
      have Q2 := Lib.hid q2
      have D1 := Lib.hid hd1
      have D2 := Lib.hid hd2
      clear q1 q2 hd1 hd2 bW
      have s1 : IntKind.u64.wrap ((d1 : Int) + (d2 : Int)) = (d1 : Int) + (d2 : Int) := IntWalk.u64_in _ (by omega)
      have s2 : IntKind.u64.wrap ((cy : Int) + ((d1 : Int) + (d2 : Int))) = (cy : Int) + ((d1 : Int) + (d2 : Int)) := IntWalk.u64_in _ (by omega)
      go_wp2
      go_quiet ((go_at_call 47; first | (with_reducible exact Calls.quiet_of_same (Q1.out _)) | (with_reducible exact Calls.quiet_of_same (Q2.out _))))
      clear s1 s2
      have hout' : Own (wr.drewN nq) (w.heap.size + 3) 23 u6 (u32s out) := hout
      have hb' := below_drewN hb nq
      have hsz' : w1.heap.size ≤ (wr.drewN nq).heap.size := hsz
      clear hout hb hsz hcA hcB Q1 Q2
      generalize wr.drewN nq = wd at *
      go_wp2_with (at_builtin; refine wpList_append_own _ rfl _ _ 40 rfl (w.heap.size + 3) 23 i0 (.int .u32 0) 1 4 Tryd.underlying40 hi hz0 hz1 hz2 rfl (by decide) _ _ _ rfl (hout'.alloc _) ⟨wd.heap.size, 0, none⟩ 1 1 [.int .u32 ((((cy + (d1 + d2)) % 1000000000 : Nat)) : Int)] rfl rfl ?c1 ?c2 ?c3 ?c4 ?c5 ?_)
      case c1 => exact one_news (int_eq (by omega))
      case c2 => exact one_cell
      case c3 => rw [u32s_length, HO.out.1]; unfold maxLen; omega
      case c4 => rw [u32s_length, HO.out.1]; omega
      case c5 => simp; omega
      intro v' w2 hown' hgrow' _
      have ho2 := own_app32 hown'
      have hb2 := below_app' hb' hout' hs1 hgrow'
      clear hown' hgrow' hout' hb'
      go_wp2
      go_roundw
      case rel => exact ⟨k + 1, (cy + (d1 + d2)) / 1000000000, _, by omega, by go_num, by go_num, by omega, ho2, by
        have h := HO.out
        rw [D1.out, D2.out]
        exact ⟨by rw [List.length_append, h.1]; rfl, small_snoc h.2.1 (Nat.mod_lt _ (by decide)), sum_step h.1 h.2.2⟩, hb2⟩
      case measure => simp [intOf]; omega
    · have hk' : k = n := by omega
      have HK := Lib.hid hk'
      clear hk'
      go_wp2_with (at_builtin; refine wpList_append_own _ rfl _ _ 40 rfl (w.heap.size + 3) 23 i0 (.int .u32 0) 1 4 Tryd.underlying40 hi hz0 hz1 hz2 rfl (by decide) _ _ _ rfl (hout.alloc _) ⟨wr.heap.size, 0, none⟩ 1 1 [.int .u32 (cy : Int)] rfl rfl ?d1 ?d2 ?d3 ?d4 ?d5 ?_)
      case d1 => exact one_news rfl
      case d2 => exact one_cell
      case d3 => rw [u32s_length, HO.out.1]; unfold maxLen; omega
      case d4 => rw [u32s_length, HO.out.1]; omega
      case d5 => simp; omega
      intro v' w2 hown' hgrow' _
      have ho2 := own_app32 hown'
      have hb2 := below_app' hb hout hs1 hgrow'
      clear hown' hgrow' hout hb
      obtain ⟨A2', c2', rfl, _⟩ := ho2.slice
      have hl : (out ++ [cy]).length ≤ 1000000 := by rw [List.length_append, HO.out.1]; simp; omega
      go_wp2_with fail
      refine (stripped_any ho2 hl).mono ?_
      rintro e w3 ⟨⟨v, rfl, hv⟩, rfl⟩
      have hcell := (hb2.block (w.heap.size + 1 + 1) (by omega)).trans HC.out
      have hc := cell_of_one hcell
      have hf := free_of_one hcell
      obtain ⟨A3, c3, rfl, _⟩ := hv.slice
      have hcs := cell_of_one (one_setCell (u := .slice A3 (u32s (strip (out ++ [cy]))).length c3) hcell)
      clear hcell
      go_wp2
      refine bodyPost_ret (v := .agg #[.slice A3 (u32s (strip (out ++ [cy]))).length c3]) (by simp [results, Tryd.results32, go_sem, hcs]) rfl ?_
      have h := HO.out
      refine ⟨_, rfl, ⟨_, strip_right (small_snoc h.2.1 (by omega)), ?_, (hv.setBelow (show w.heap.size + 1 + 1 < w.heap.size + 3 by omega) _).mono (by omega)⟩, (below_trans hb1 hb2 (by omega)).setCell (Nat.le_succ_of_le (Nat.le_succ _)) _⟩
      rw [strip_val, val_snoc, h.1, h.2.2, HK.out, HN.out, List.take_of_length_le (by omega), List.take_of_length_le (by omega)]
end Go.Proofs.YtffcacpffamjfaaDoor

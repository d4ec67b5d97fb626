/- Contract of nat.number.minus: the right row of the difference of what two lists of digits below 10^9 stand for, the second one at most as long and at most as great; at most 100000 digits each. Contracts of nat.Cmp and nat.Trim: the order of what two rows stand for; the right row of what a row stands for. Rows of at most 10000 digits. Contract of nat.Sub: the difference of what two rows stand for, and whether there is one. Rows of at most 10000 digits. -/
import Derived.Test.YtffcacpffamjfaaDoorPlus
import Derived.Test.YtffcacpffamjfaaDoorNat1
namespace Go.Proofs.YtffcacpffamjfaaDoor
open Go.RowKit

theorem take_succ_any (ds : List Nat) (k : Nat) : val (ds.take (k + 1)) = val (ds.take k) + 1000000000 ^ k * ds.getD k 0 := by
  rcases Nat.lt_or_ge k ds.length with h | h
  · exact val_take_succ ds k h
  · rw [List.take_of_length_le h, List.take_of_length_le (by omega), List.getD_eq_getElem?_getD, List.getElem?_eq_none h]; simp

theorem diff_step {out xs ys : List Nat} {k bo x : Nat} (hlen : out.length = k) (hx : x + ys.getD k 0 + bo = xs.getD k 0 + 1000000000) (hlt : x < 2000000000) (hval : val out + val (ys.take k) = val (xs.take k) + 1000000000 ^ k * bo) :
    val (out ++ [x % 1000000000]) + val (ys.take (k + 1)) = val (xs.take (k + 1)) + 1000000000 ^ (k + 1) * (1 - x / 1000000000) := by
  rw [val_snoc, take_succ_any, take_succ_any, hlen, Nat.pow_succ, Nat.mul_assoc]
  have h1 : x % 1000000000 + ys.getD k 0 + bo = xs.getD k 0 + 1000000000 * (1 - x / 1000000000) := by omega
  have h2 : 1000000000 ^ k * (x % 1000000000 + ys.getD k 0 + bo) = 1000000000 ^ k * (xs.getD k 0 + 1000000000 * (1 - x / 1000000000)) := by rw [h1]
  rw [Nat.mul_add, Nat.mul_add, Nat.mul_add] at h2
  omega

set_option maxRecDepth 100000 in
set_option maxHeartbeats 4000000 in
theorem minus_any {w : World} {A1 A2 : Option Addr} {c1 c2 : Nat} {xs ys : List Nat} (hr1 : Row w A1 (u32s xs)) (hr2 : Row w A2 (u32s ys)) (hx : small 1000000000 xs) (hy : small 1000000000 ys) (hl1 : xs.length ≤ 100000) (hl2 : ys.length ≤ xs.length) (hle : val ys ≤ val xs) :
    Calls Tryd.prog 36 #[.agg #[.slice A1 xs.length c1], .agg #[.slice A2 ys.length c2]] w (RetNum w (val xs - val ys)) := by
  obtain ⟨i0, hi, hz0, hz1, hz2⟩ := info_parts info_u32
  obtain ⟨n, hn⟩ : ∃ n : Nat, n = xs.length := ⟨_, rfl⟩
  obtain ⟨m, hm⟩ : ∃ m : Nat, m = ys.length := ⟨_, rfl⟩
  have hn1 : n ≤ 100000 := by omega
  have hmn : m ≤ n := by omega
  have HLE := Lib.hid hle
  rw [← hn, ← hm]
  have HN := Lib.hid hn
  have HM := Lib.hid hm
  clear hn hm hle hl1 hl2
  go_enter Tryd.func36, Tryd.ntmps36
  go_wp2_with (at_make; refine wpList_make_own _ rfl _ _ 40 rfl (w.heap.size + 3) 23 i0 (.int .u32 0) 1 Tryd.underlying40 hi hz0 hz1 .i64 .i64 (n : Int) n rfl rfl (by omega) ?b2 ?b3 ?b4 ?_)
  case b2 => rw [hz2]; omega
  case b3 => unfold maxLen; omega
  case b4 => simp
  intro w1 hown hgrow
  have ho1 : Own w1 (w.heap.size + 3) 23 _ (u32s []) := Own.mk_ hown
  obtain ⟨hb1, hs1, hA, hB, hC⟩ := three_new hgrow
  have HA := Lib.hid hA
  have HB := Lib.hid hB
  have HC := Lib.hid hC
  clear hown hgrow
  have hcA0 := cell_of_one hA
  clear hA hB hC
  have hx' := small_mono hx (show 1000000000 ≤ 4294967296 by decide)
  have hy' := small_mono hy (show 1000000000 ≤ 4294967296 by decide)
  go_wp2_with fail
  clear hcA0
  go_loopw [5, 6, 16] (fun v cv i wr => ∃ (k bo : Nat) (out : List Nat), k ≤ n ∧ i = .int .i64 k ∧ cv = .int .u64 bo ∧ bo ≤ 1 ∧ Own wr (w.heap.size + 3) 23 v (u32s out) ∧ Hid (out.length = k ∧ small 1000000000 out ∧ val out + val (ys.take k) = val (xs.take k) + 1000000000 ^ k * bo) ∧ Below (w.heap.size + 3) w1 wr)
    (fun _ _ i _ => n - (intOf i).toNat)
  case atStart => exact ⟨0, 0, [], Nat.zero_le _, rfl, rfl, by omega, ho1, ⟨rfl, small_nil _, by simp [val]⟩, Below.refl _ _⟩
  case round =>
    obtain ⟨k, bo, out, hk, rfl, rfl, hbo, hout, HO, hb⟩ := hrel
    have hsz := hb.size
    by_cases hlt : k < n
    · have bW := below_trans hb1 hb (by omega)
      have hcA := cell_of_one ((hb.block w.heap.size (by omega)).trans HA.out)
      have hcB := cell_of_one ((hb.block (w.heap.size + 1) (by omega)).trans HB.out)
      obtain ⟨d1, hd1⟩ : ∃ d, d = xs.getD k 0 := ⟨_, rfl⟩
      obtain ⟨d2, hd2⟩ : ∃ d, d = ys.getD k 0 := ⟨_, rfl⟩
      have l1 : d1 < 1000000000 := by rw [hd1]; exact small_getD hx (by decide) k
      have l2 : d2 < 1000000000 := by rw [hd2]; exact small_getD hy (by decide) k
      have q1 : ∀ j, Calls Tryd.prog 47 #[.slice A1 n c1, .int .i64 k] (wr.drewN j) (fun e w' => e = .returned (.int .u64 (d1 : Int)) ∧ w' = wr.drewN j) := fun j => by
        have := at_q (c := c1) ((hr1.below bW).drewN j) hx' k (by omega)
        rw [Int.toNat_natCast, ← hd1, ← HN.out] at this; exact this
      have q2 : ∀ j, Calls Tryd.prog 47 #[.slice A2 m c2, .int .i64 k] (wr.drewN j) (fun e w' => e = .returned (.int .u64 (d2 : Int)) ∧ w' = wr.drewN j) := fun j => by
        have := at_q (c := c2) ((hr2.below bW).drewN j) hy' k (by omega)
        rw [Int.toNat_natCast, ← hd2, ← HM.out] at this; exact this
      have Q1 := Lib.hid q1
      have Q2 := Lib.hid q2
      have D1 := Lib.hid hd1
      have D2 := Lib.hid hd2
      clear q1 q2 hd1 hd2 bW
      obtain ⟨x, hxe⟩ : ∃ x : Nat, x = d1 + 1000000000 - d2 - bo := ⟨_, rfl⟩
      have hx1 : x + d2 + bo = d1 + 1000000000 := by omega
      have hx2 : x < 2000000000 := by omega
      have s1 : IntKind.u64.wrap ((d1 : Int) + 1000000000) = (d1 : Int) + 1000000000 := IntWalk.u64_in _ (by omega)
      have s2 : IntKind.u64.wrap ((d1 : Int) + 1000000000 - (d2 : Int)) = (d1 : Int) + 1000000000 - (d2 : Int) := IntWalk.u64_in _ (by omega)
      have s3 : IntKind.u64.wrap ((d1 : Int) + 1000000000 - (d2 : Int) - (bo : Int)) = (x : Int) := (IntWalk.u64_in _ (by omega)).trans (by omega)
      clear hxe
      go_wp2
      go_quiet ((go_at_call 47; first | (with_reducible exact Calls.quiet_of_same (Q1.out _)) | (with_reducible exact Calls.quiet_of_same (Q2.out _))))
      clear s1 s2 s3
      have hout' : Own (wr.drewN nq) (w.heap.size + 3) 23 u5 (u32s out) := hout
      have hb' := below_drewN hb nq
      have hsz' : w1.heap.size ≤ (wr.drewN nq).heap.size := hsz
      clear hout hb hsz hcA hcB Q1 Q2
      generalize wr.drewN nq = wd at *
      go_wp2_with (at_builtin; refine wpList_append_own _ rfl _ _ 40 rfl (w.heap.size + 3) 23 i0 (.int .u32 0) 1 4 Tryd.underlying40 hi hz0 hz1 hz2 rfl (by decide) _ _ _ rfl (hout'.alloc _) ⟨wd.heap.size, 0, none⟩ 1 1 [.int .u32 (((x % 1000000000 : Nat)) : Int)] rfl rfl ?c1 ?c2 ?c3 ?c4 ?c5 ?_)
      case c1 => exact one_news (int_eq (by omega))
      case c2 => exact one_cell
      case c3 => rw [u32s_length, HO.out.1]; unfold maxLen; omega
      case c4 => rw [u32s_length, HO.out.1]; omega
      case c5 => simp; omega
      intro v' w2 hown' hgrow' _
      have ho2 := own_app32 hown'
      have hb2 := below_app' hb' hout' hs1 hgrow'
      clear hown' hgrow' hout' hb'
      go_wp2
      go_roundw
      case rel => exact ⟨k + 1, 1 - x / 1000000000, _, by omega, by go_num, int_eq (by omega), by omega, ho2, by
        have h := HO.out
        exact ⟨by rw [List.length_append, h.1]; rfl, small_snoc h.2.1 (Nat.mod_lt _ (by decide)), diff_step h.1 (by rw [← D1.out, ← D2.out]; exact hx1) hx2 h.2.2⟩, hb2⟩
      case measure => simp [intOf]; omega
    · have hk' : k = n := by omega
      have HK := Lib.hid hk'
      clear hk'
      obtain ⟨A2', c2', rfl, _⟩ := hout.slice32
      have hl : out.length ≤ 1000000 := by rw [HO.out.1]; omega
      go_wp2_with fail
      refine (stripped_any hout hl).mono ?_
      rintro e w3 ⟨⟨v, rfl, hv⟩, rfl⟩
      have hcell := (hb.block (w.heap.size + 1 + 1) (by omega)).trans HC.out
      have hc := cell_of_one hcell
      have hf := free_of_one hcell
      obtain ⟨A3, c3, rfl, _⟩ := hv.slice32
      have hcs := cell_of_one (one_setCell (u := .slice A3 (strip out).length c3) hcell)
      clear hcell
      go_wp2
      refine bodyPost_ret (v := .agg #[.slice A3 (strip out).length c3]) (by simp [results, Tryd.results36, go_sem, hcs]) rfl ?_
      have h := HO.out
      refine ⟨_, rfl, ⟨_, strip_right h.2.1, ?_, (hv.setBelow (show w.heap.size + 1 + 1 < w.heap.size + 3 by omega) _).mono (by omega)⟩, (below_trans hb1 hb (by omega)).setCell (Nat.le_succ_of_le (Nat.le_succ _)) _⟩
      have hv2 := h.2.2
      rw [HK.out, HN.out, List.take_length, List.take_of_length_le (by rw [← HM.out, ← HN.out]; exact hmn)] at hv2
      have hlt2 : val out < 1000000000 ^ xs.length := by
        have := val_lt h.2.1
        rw [h.1, HK.out, HN.out] at this; exact this
      have hle := HLE.out
      rw [strip_val]
      have h01 : bo = 0 ∨ bo = 1 := by omega
      rcases h01 with h0 | h0
      · rw [h0, Nat.mul_zero, Nat.add_zero] at hv2; omega
      · rw [h0, Nat.mul_one] at hv2; omega
end Go.Proofs.YtffcacpffamjfaaDoor

namespace Go.Proofs.YtffcacpffamjfaaDoor
open Go.RowKit

set_option maxRecDepth 100000 in
theorem trimRow_any {w : World} {A : Option Addr} {c : Nat} {ds : List Nat} (hr : Row w A (u32s ds)) (hd : small 4294967296 ds) (hlen : ds.length ≤ 10000) :
    Calls Tryd.prog 20 #[.slice A ds.length c] w (RetNat w (val ds)) := by
  have hf := of_any (c := c) hr hd (by omega)
  have HF := Lib.hid hf
  have hfield := run_field
  clear hf
  go_enter Tryd.func20, Tryd.ntmps20
  go_wp2_with fail
  refine HF.out.mono ?_
  rintro e w2 ⟨v, rfl, hv, hb⟩
  obtain ⟨rs, h1, h2, h3⟩ := hv
  obtain ⟨A2, c2, rfl, _⟩ := h3.slice32
  go_wp2
  go_ret
  exact ⟨_, rfl, ⟨rs, h1, h2, h3⟩, hb⟩

set_option maxRecDepth 100000 in
theorem cmp_any {w : World} {A1 A2 : Option Addr} {c1 c2 : Nat} {xs ys : List Nat} (hr1 : Row w A1 (u32s xs)) (hr2 : Row w A2 (u32s ys)) (hx : small 4294967296 xs) (hy : small 4294967296 ys) (hl1 : xs.length ≤ 10000) (hl2 : ys.length ≤ 10000) :
    Calls Tryd.prog 16 #[.slice A1 xs.length c1, .slice A2 ys.length c2] w fun e w' => e = .returned (.int .i64 (ordI (val xs : Int) (val ys : Int))) ∧ Below w.heap.size w w' := by
  have hf := of_any (c := c1) hr1 hx (by omega)
  have hg := fun (W : World) (hW : Below w.heap.size w W) => of_any (c := c2) (hr2.below hW) hy (by omega)
  have HF := Lib.hid hf
  have HG := Lib.hid hg
  have HX := Lib.hid hx
  have hfield := run_field
  clear hf hg
  go_enter Tryd.func16, Tryd.ntmps16
  go_wp2_with fail
  refine HF.out.mono ?_
  rintro e w2 ⟨v, rfl, ⟨rs, h1, h2, h3⟩, hb⟩
  obtain ⟨A3, c3, rfl, hr3, _⟩ := h3.slice32
  go_wp2_with fail
  refine (HG.out _ hb).mono ?_
  rintro e w3 ⟨v, rfl, ⟨ts, k1, k2, k3⟩, hb2⟩
  obtain ⟨A4, c4, rfl, hr4, _⟩ := k3.slice32
  have s1 := hb.size
  have b3 := hb.trans (hb2.mono s1)
  have hl : rs.length ≤ 1000000 := Nat.le_trans (right_length_le h1 (by rw [h2]; exact val_lt32 HX.out)) (by omega)
  have hcp := compare_any (c1 := c3) (c2 := c4) (hr3.below hb2) hr4 h1 k1 hl
  rw [h2, k2] at hcp
  have HC := Lib.hid hcp
  clear hcp hb hb2 h3 k3 hr3 hr4
  go_wp2_with fail
  refine HC.out.mono ?_
  rintro e w4 ⟨rfl, hd4⟩
  have b4 : Below w.heap.size w w4 := b3.trans (hd4.below.mono b3.size)
  clear hd4 b3
  go_wp2
  go_ret
  exact ⟨rfl, b4⟩
end Go.Proofs.YtffcacpffamjfaaDoor

namespace Go.Proofs.YtffcacpffamjfaaDoor
open Go.RowKit

set_option maxRecDepth 100000 in
set_option maxHeartbeats 4000000 in
theorem sub_yes {w : World} {A1 A2 : Option Addr} {c1 c2 : Nat} {xs ys : List Nat} (hr1 : Row w A1 (u32s xs)) (hr2 : Row w A2 (u32s ys)) (hx : small 4294967296 xs) (hy : small 4294967296 ys) (hl1 : xs.length ≤ 10000) (hl2 : ys.length ≤ 10000) (hle : val ys ≤ val xs) :
    Calls Tryd.prog 13 #[.slice A1 xs.length c1, .slice A2 ys.length c2] w fun e w' => ∃ v, e = .returned (.tuple #[v, .bool true]) ∧ IsNat w' w.heap.size v (val xs - val ys) ∧ Below w.heap.size w w' := by
  have hf := of_any (c := c1) hr1 hx (by omega)
  have hg := fun (W : World) (hW : Below w.heap.size w W) => of_any (c := c2) (hr2.below hW) hy (by omega)
  have HF := Lib.hid hf
  have HG := Lib.hid hg
  have HX := Lib.hid hx
  have HLE := Lib.hid hle
  have hfield := run_field
  clear hf hg hle
  go_enter Tryd.func13, Tryd.ntmps13
  go_wp2_with fail
  refine HF.out.mono ?_
  rintro e w2 ⟨v, rfl, ⟨rs, h1, h2, h3⟩, hb⟩
  obtain ⟨A3, c3, rfl, hr3, _⟩ := h3.slice32
  go_wp2_with fail
  refine (HG.out _ hb).mono ?_
  rintro e w3 ⟨v, rfl, ⟨ts, k1, k2, k3⟩, hb2⟩
  obtain ⟨A4, c4, rfl, hr4, _⟩ := k3.slice32
  have s1 := hb.size
  have b3 := hb.trans (hb2.mono s1)
  obtain ⟨M, hM1, hM2⟩ : ∃ M, M ≤ 10001 ∧ 10001 ≤ M := ⟨10001, Nat.le_refl _, Nat.le_refl _⟩
  have hl : rs.length ≤ M := right_length_le h1 (by rw [h2]; exact Nat.lt_of_lt_of_le (val_lt32 HX.out) (Nat.pow_le_pow_right (by decide) (by omega)))
  have hlt : ts.length ≤ rs.length := by
    rcases Nat.lt_or_ge rs.length ts.length with h | h
    · exfalso
      have q1 := val_lt h1.1
      have q2 := right_length_le k1 (k := rs.length) (by rw [k2]; have := HLE.out; rw [h2] at q1; omega)
      omega
    · exact h
  have hr3' := hr3.below hb2
  clear hb hb2 h3 k3 hr3
  go_wp2_with fail
  obtain ⟨W, hW⟩ : ∃ W, W = (w3.alloc (Obj.cells #[Value.slice A3 rs.length c3] 42)).alloc (Obj.cells #[Value.slice A4 ts.length c4] 42) := ⟨_, rfl⟩
  have hbW : Below w3.heap.size w3 W := by rw [hW]; exact below_first ((Below.refl _ _).alloc (Nat.le_refl _) _)
  have hbox : W.heap[w3.heap.size]? = some (.cells #[Value.slice A3 rs.length c3] 42 (0, 0)) := by
    rw [hW]; exact first_block ((Below.refl _ _).alloc (Nat.le_refl _) _)
  have hbox2 : W.heap[w3.heap.size + 1]? = some (.cells #[Value.slice A4 ts.length c4] 42 (0, 0)) := by
    rw [hW]; exact new_at (by simp)
  rw [← hW]
  clear hW
  obtain ⟨o, ho⟩ : ∃ o, o = ordI (val rs : Int) (val ts : Int) := ⟨_, rfl⟩
  have ho0 : 0 ≤ o := by
    rw [ho, h2, k2]
    have := HLE.out
    unfold ordI
    rw [if_neg (by omega)]
    split <;> omega
  have hcp := compare_any (c1 := c3) (c2 := c4) (hr3'.below hbW) (hr4.below hbW) h1 k1 (by omega)
  rw [← ho] at hcp
  have HC := Lib.hid hcp
  clear hcp ho
  refine HC.out.mono ?_
  rintro e w4 ⟨rfl, hd⟩
  have hb4 : Below W.heap.size W w4 := hd.below
  have sW := hbW.size
  have hW2 : w3.heap.size + 1 < W.heap.size := lt_block hbox2
  have hc1 := cell_of_one ((hb4.block w3.heap.size (by omega)).trans hbox)
  have hc2 := cell_of_one ((hb4.block (w3.heap.size + 1) (by omega)).trans hbox2)
  have b4 := (b3.trans (hbW.mono b3.size)).trans (hb4.mono (Nat.le_trans b3.size sW))
  have hmi := minus_any (w := w4) (c1 := c3) (c2 := c4) ((hr3'.below hbW).below hb4) ((hr4.below hbW).below hb4) h1.1 k1.1 (by omega) hlt (by rw [h2, k2]; exact HLE.out)
  rw [h2, k2] at hmi
  have HMI := Lib.hid hmi
  clear hmi hbW hb4 hd HC hbox hbox2 hr3' hr4 b3
  go_wp2_with fail
  refine HMI.out.mono ?_
  rintro e w5 ⟨v, rfl, hv, hb5⟩
  have b5 := b4.trans (hb5.mono b4.size)
  obtain ⟨us, g1, g2, g3⟩ := hv
  obtain ⟨A5, c5, rfl, _⟩ := g3.slice32
  clear hb5
  go_wp2
  go_returns
  exact ⟨_, rfl, ⟨us, g1, g2, g3.mono b4.size⟩, b5⟩
set_option maxRecDepth 100000 in
set_option maxHeartbeats 4000000 in
theorem sub_no {w : World} {A1 A2 : Option Addr} {c1 c2 : Nat} {xs ys : List Nat} (hr1 : Row w A1 (u32s xs)) (hr2 : Row w A2 (u32s ys)) (hx : small 4294967296 xs) (hy : small 4294967296 ys) (hl1 : xs.length ≤ 10000) (hl2 : ys.length ≤ 10000) (hle : val xs < val ys) :
    Calls Tryd.prog 13 #[.slice A1 xs.length c1, .slice A2 ys.length c2] w fun e w' => e = .returned (.tuple #[.slice none 0 0, .bool false]) ∧ Below w.heap.size w w' := by
  have hf := of_any (c := c1) hr1 hx (by omega)
  have hg := fun (W : World) (hW : Below w.heap.size w W) => of_any (c := c2) (hr2.below hW) hy (by omega)
  have HF := Lib.hid hf
  have HG := Lib.hid hg
  have HX := Lib.hid hx
  have HLE := Lib.hid hle
  have hfield := run_field
  clear hf hg hle
  go_enter Tryd.func13, Tryd.ntmps13
  go_wp2_with fail
  refine HF.out.mono ?_
  rintro e w2 ⟨v, rfl, ⟨rs, h1, h2, h3⟩, hb⟩
  obtain ⟨A3, c3, rfl, hr3, _⟩ := h3.slice32
  go_wp2_with fail
  refine (HG.out _ hb).mono ?_
  rintro e w3 ⟨v, rfl, ⟨ts, k1, k2, k3⟩, hb2⟩
  obtain ⟨A4, c4, rfl, hr4, _⟩ := k3.slice32
  have s1 := hb.size
  have b3 := hb.trans (hb2.mono s1)
  obtain ⟨M, hM1, hM2⟩ : ∃ M, M ≤ 10001 ∧ 10001 ≤ M := ⟨10001, Nat.le_refl _, Nat.le_refl _⟩
  have hl : rs.length ≤ M := right_length_le h1 (by rw [h2]; exact Nat.lt_of_lt_of_le (val_lt32 HX.out) (Nat.pow_le_pow_right (by decide) (by omega)))
  have hr3' := hr3.below hb2
  clear hb hb2 h3 k3 hr3
  go_wp2_with fail
  obtain ⟨W, hW⟩ : ∃ W, W = (w3.alloc (Obj.cells #[Value.slice A3 rs.length c3] 42)).alloc (Obj.cells #[Value.slice A4 ts.length c4] 42) := ⟨_, rfl⟩
  have hbW : Below w3.heap.size w3 W := by rw [hW]; exact below_first ((Below.refl _ _).alloc (Nat.le_refl _) _)
  have hbox : W.heap[w3.heap.size]? = some (.cells #[Value.slice A3 rs.length c3] 42 (0, 0)) := by
    rw [hW]; exact first_block ((Below.refl _ _).alloc (Nat.le_refl _) _)
  have hbox2 : W.heap[w3.heap.size + 1]? = some (.cells #[Value.slice A4 ts.length c4] 42 (0, 0)) := by
    rw [hW]; exact new_at (by simp)
  rw [← hW]
  clear hW
  obtain ⟨o, ho⟩ : ∃ o, o = ordI (val rs : Int) (val ts : Int) := ⟨_, rfl⟩
  have ho0 : o < 0 := by
    rw [ho, h2, k2]
    have := HLE.out
    unfold ordI
    rw [if_pos (by omega)]
    omega
  have hcp := compare_any (c1 := c3) (c2 := c4) (hr3'.below hbW) (hr4.below hbW) h1 k1 (by omega)
  rw [← ho] at hcp
  have HC := Lib.hid hcp
  clear hcp ho
  refine HC.out.mono ?_
  rintro e w4 ⟨rfl, hd⟩
  have hb4 : Below W.heap.size W w4 := hd.below
  have sW := hbW.size
  have b4 := (b3.trans (hbW.mono b3.size)).trans (hb4.mono (Nat.le_trans b3.size sW))
  clear hbW hb4 hd HC hbox hbox2 hr3' hr4 b3
  go_wp2
  go_returns
  exact ⟨rfl, b4⟩
end Go.Proofs.YtffcacpffamjfaaDoor

/- Contracts of whetstonekit.mark, LentLimbs, KeptLimbs, OverLimbs: a copy of a row with marks behind its end; whether both are still as they were; a row of the call's own written over, its spare room too. Rows of at most 4000 digits. Contracts of whetstonekit.KeptLimbs and OverLimbs: a row and the marks behind it are as they were; a row of the call's own is written over. Rows of at most 4000 digits. -/
import Derived.Test.YtffcacpffamjfaaDoorNat1
import Derived.Test.YtffcacpffamjfaaDoorTake
import Derived.Test.YtffcacpffamjfaaDoorLong
import Derived.Test.YtffcacpffamjfaaDoorAppRow
import Derived.Lib.MinMax
import Derived.Deep.QuietTactic
import Derived.BigQuiet
namespace Go.Proofs.YtffcacpffamjfaaDoor
open Go.RowKit

theorem mark_any (k i : Int) (hk : 0 ≤ k ∧ k ≤ 100) (hi : 0 ≤ i ∧ i ≤ 1000000) (w : World) :
    Calls Tryd.prog 34 #[.int .i64 k, .int .i64 i] w fun e w' => e = .returned (.int .i64 (1000003 * (k + 7) + i)) ∧ w = w' := by
  obtain ⟨h1, h2⟩ := hk
  obtain ⟨h3, h4⟩ := hi
  go_enter Tryd.func34, Tryd.ntmps34
  go_wp2
  go_ret
  exact ⟨rfl, rfl⟩

def markL (k : Nat) : List Nat := (List.range k).map (8000024 + ·)
theorem markL_succ (k : Nat) : markL (k + 1) = markL k ++ [8000024 + k] := by simp [markL, List.range_succ]
theorem markL_length (k : Nat) : (markL k).length = k := by simp [markL]
theorem markL_at {n k : Nat} (h : k < n) : (markL n).getD k 0 = 8000024 + k := by
  rw [List.getD_eq_getElem?_getD]; simp [markL, h]
theorem row_none {w : World} {xs : List Nat} (h : Row w none (u32s xs)) : xs = [] := by
  cases xs with
  | nil => rfl
  | cons x xs =>
    obtain ⟨ad, h1, _⟩ := h 0 (.int .u32 (x : Int)) rfl
    cases h1

/-- A row lent: where its copy lies, with the marks behind it. -/
def LentRet (w : World) (xs : List Nat) (e : Ending) (w' : World) : Prop := ∃ g cap, e = .returned (.slice (some ⟨g, 0, none⟩) xs.length cap) ∧ w.heap.size ≤ g ∧ Own w' w.heap.size 23 (.slice (some ⟨g, 0, none⟩) (xs.length + 12) cap) (u32s (xs ++ markL 12)) ∧ Below w.heap.size w w'

set_option maxRecDepth 100000 in
set_option maxHeartbeats 1600000 in
theorem lent_any {w : World} {A : Option Addr} {c : Nat} {xs : List Nat} (hr : Row w A (u32s xs)) (hlen : xs.length ≤ 4000) :
    Calls Tryd.prog 12 #[.slice A xs.length c] w (LentRet w xs) := by
  obtain ⟨i0, hi, hz0, hz1, hz2⟩ := info_parts info_u32
  obtain ⟨B, hB⟩ : ∃ B, B = w.heap.size := ⟨_, rfl⟩
  have HB := Lib.hid hB
  obtain ⟨n, hn⟩ : ∃ n, n = xs.length := ⟨_, rfl⟩
  have hn1 : n ≤ 4000 := by omega
  rw [← hn]
  have HN := Lib.hid hn
  clear hB hn hlen
  go_enter Tryd.func12, Tryd.ntmps12
  go_wp2_with (at_make; refine wpList_make_own _ rfl _ _ 24 rfl B 23 i0 (.int .u32 0) 1 Tryd.underlying24 hi hz0 hz1 .i64 .i64 ((n : Int) + 12) (n + 12) rfl rfl (by omega) ?b2 ?b3 ?b4 ?_)
  case b2 => first | omega | (rw [hz2]; omega)
  case b3 => unfold maxLen; omega
  case b4 => rw [HB.out]; exact Nat.le_refl _
  intro w1 hown hgrow
  have hb1 : Below w.heap.size w w1 := (Below.refl _ _).grown hgrow (Nat.le_refl _) (fun k h => by cases h)
  have ho1 : Own w1 B 23 (.slice (some ⟨w.heap.size, 0, none⟩) 0 (n + 12)) (u32s []) := Own.mk_ hown
  have hr1 := hr.below hb1
  have hs1 := hb1.size
  clear hown hgrow hr
  go_wp2_with (at_builtin; refine wpList_append_row rfl _ _ 24 rfl B 23 i0 (.int .u32 0) 4 Tryd.underlying24 hi hz0 hz1 hz2 rfl _ _ _ rfl ho1 A n c (u32s xs) rfl (by rw [u32s_length, ← HN.out]) hr1 (u32s_one xs) (by rw [u32s_length]; unfold maxLen; simp; omega) (by rw [u32s_length]; simp; omega) (by rw [HB.out]; exact hs1) ?_)
  intro v2 w2 hown2 hgrow2
  have ho2 : Own w2 B 23 v2 (u32s xs) := by
    have := Own.mk_ hown2
    simpa [u32s] using this
  have hb2 : Below w.heap.size w w2 := by
    have := below_app' (o := .cells #[] 0) (w1 := w1) (wr := w1) (w2 := w2) (B := B) (Below.refl _ _) ho1 (by rw [HB.out]; exact hs1)
    refine hb1.trans ?_
    refine (Below.refl _ _).grown hgrow2 hs1 (fun k hk => ?_)
    have hh : w1.ownsRow B 23 1 _ _ _ := ho1
    have := (hh.lt k hk).1
    rw [HB.out] at this; exact this
  clear hown2 hgrow2 ho1 hb1 hr1 hs1
  go_wp2_with fail
  go_loopw [3, 4] (fun ov iv wr => ∃ k : Nat, k ≤ 12 ∧ iv = .int .i64 (k : Int) ∧ Own wr B 23 ov (u32s (xs ++ markL k)) ∧ Below w.heap.size w wr) (fun _ iv _ => 12 - (intOf iv).toNat)
  case atStart => exact ⟨0, Nat.zero_le _, rfl, by simpa [markL] using ho2, hb2⟩
  case round =>
    obtain ⟨k, hk, rfl, hout, hb⟩ := hrel
    have hsz := hb.size
    have hlk : (xs ++ markL k).length = n + k := by rw [List.length_append, markL_length, ← HN.out]
    have HLK := Lib.hid hlk
    clear hlk
    by_cases hlt : k < 12
    · have hmk := mark_any 1 (k : Int) (by omega) (by omega) wr
      have HMK := Lib.hid hmk
      have hlt' : (k : Int) < 12 := by omega
      clear hmk
      go_wp2_with (first
        | (go_at_call 34; refine HMK.out.mono ?_; rintro e w' ⟨rfl, rfl⟩)
        | (at_builtin; refine wpList_append_own _ rfl _ _ 24 rfl B 23 i0 (.int .u32 0) 1 4 Tryd.underlying24 hi hz0 hz1 hz2 rfl (by decide) _ _ _ rfl (hout.alloc _) ⟨wr.heap.size, 0, none⟩ 1 1 [.int .u32 ((8000024 + k : Nat) : Int)] rfl rfl ?c1 ?c2 ?c3 ?c4 ?c5 ?_))
      case c1 => exact one_news (int_eq (by omega))
      case c2 => exact one_cell
      case c3 => rw [u32s_length, HLK.out]; unfold maxLen; omega
      case c4 => rw [u32s_length, HLK.out]; omega
      case c5 => rw [HB.out]; simp; omega
      intro v' w3 hown' hgrow' _
      have ho3 := own_app32 hown'
      have hb3 := below_app hb hout HB hgrow'
      rw [List.append_assoc, ← markL_succ] at ho3
      clear hown' hgrow' hout hb HMK
      go_wp2
      go_roundw
      case rel => exact ⟨k + 1, by omega, by go_num, ho3, hb3⟩
      case measure => simp [intOf]; omega
    · obtain rfl : k = 12 := by omega
      obtain ⟨A3, c3, rfl, hr3, hc3, hx3⟩ := hout.slice32
      rw [HLK.out] at hout hc3
      obtain ⟨ad, rfl, hx4⟩ := hr3.at_ (k := 0) (by rw [u32s_length, HLK.out]; omega)
      obtain ⟨g, rfl, hg, hgs⟩ := hout.lt.2 ad rfl
      have hlk := HLK.out
      clear hx3 hx4 hr3
      go_wp2
      go_ret
      obtain rfl : n = xs.length := HN.out
      exact ⟨g, c3, by simp, HB.out ▸ hg, HB.out ▸ hout, hb⟩
end Go.Proofs.YtffcacpffamjfaaDoor

namespace Go.Proofs.YtffcacpffamjfaaDoor
open Go.RowKit

theorem add_at (g k : Nat) : (⟨g, 0, none⟩ : Addr).add k = ⟨g, k, none⟩ := by
  unfold Addr.add; split
  · rename_i h; subst h; rfl
  · simp

set_option maxRecDepth 100000 in
set_option maxHeartbeats 1600000 in
theorem kept_any {w : World} {g cap c : Nat} {A : Option Addr} {xs : List Nat} (hO : Row w (some ⟨g, 0, none⟩) (u32s (xs ++ markL 12))) (hcap : xs.length + 12 ≤ cap) (hr : Row w A (u32s xs)) (hlen : xs.length ≤ 4000) :
    Calls Tryd.prog 24 #[.slice (some ⟨g, 0, none⟩) xs.length cap, .slice A xs.length c] w fun e w' => e = .returned (.bool true) ∧ Drawn w w' := by
  obtain ⟨n, hn⟩ : ∃ n, n = xs.length := ⟨_, rfl⟩
  have hn1 : n ≤ 4000 := by omega
  rw [← hn] at hcap ⊢
  have HN := Lib.hid hn
  clear hn hlen
  go_enter Tryd.func24, Tryd.ntmps24
  go_wp2_with fail
  go_loopw [6] (fun iv wr => ∃ k : Nat, k ≤ n + 12 ∧ iv = .int .i64 (k : Int) ∧ Hid (Drawn w wr)) (fun iv _ => n + 12 - (intOf iv).toNat)
  case atStart => exact ⟨0, Nat.zero_le _, rfl, Drawn.refl _⟩
  case round =>
    obtain ⟨k, hk, rfl, HW⟩ := hrel
    by_cases hlt : k < n + 12
    · have hlt' : (k : Int) < (n : Int) + 12 := by omega
      by_cases hkn : k < n
      · obtain ⟨ad, x, rfl, hc, hx, hm⟩ := (hr.drawn HW.out).dig (k := k) (by rw [← HN.out]; exact hkn)
        obtain ⟨ad2, y, e2, hc2, hy, hm2⟩ := (hO.drawn HW.out).dig (k := k) (by rw [List.length_append, ← HN.out]; omega)
        injection e2 with e2
        subst e2
        have hxy : y = x := by
          rw [← hx.out, ← hy.out, List.getD_eq_getElem?_getD, List.getD_eq_getElem?_getD, List.getElem?_append_left (by rw [← HN.out]; exact hkn)]
        subst hxy
        have hc2' : wr.cell? ⟨g, k, none⟩ = some (.int .u32 (y : Int)) := by
          have := add_at g k
          rw [← this]; exact hc2
        have hg1 : decide (k < n) = true := decide_eq_true hkn
        have hg2 : decide (n ≤ k) = false := decide_eq_false (by omega)
        clear hm hm2 hc2 hx hy
        go_wp2
        go_quiet (fail)
        go_wp2
        go_roundw
        case rel => exact ⟨k + 1, by omega, by go_num, HW.out.trans ⟨_, rfl⟩⟩
        case measure => simp [intOf]; omega
      · obtain ⟨d, hd⟩ : ∃ d, k = n + d := ⟨k - n, by omega⟩
        obtain ⟨ad2, y, e2, hc2, hy, hm2⟩ := (hO.drawn HW.out).dig (k := k) (by rw [List.length_append, ← HN.out, markL_length]; omega)
        injection e2 with e2
        subst e2
        have hyv : y = 8000024 + d := by
          rw [← hy.out, List.getD_eq_getElem?_getD, List.getElem?_append_right (by rw [← HN.out]; omega), ← HN.out, hd, Nat.add_sub_cancel_left, ← List.getD_eq_getElem?_getD]
          exact markL_at (by omega)
        have hc2' : wr.cell? ⟨g, k, none⟩ = some (.int .u32 (8000024 + (d : Int))) := by
          have h1 := add_at g k
          rw [← h1, hc2, hyv]; rfl
        have hg1 : decide (k < n) = false := decide_eq_false (by omega)
        have hg2 : decide (n ≤ k) = true := decide_eq_true (by omega)
        have hmk : ∀ m, Calls Tryd.prog 34 #[.int .i64 1, .int .i64 (d : Int)] (wr.drewN m) (fun e w' => e = .returned (.int .i64 (8000024 + (d : Int))) ∧ w' = wr.drewN m) := fun m => (mark_any 1 (d : Int) (by omega) (by omega) (wr.drewN m)).mono fun _ _ h => ⟨by rw [h.1]; congr 2, h.2.symm⟩
        have HMK := Lib.hid hmk
        have hsub : (k : Int) - (n : Int) = (d : Int) := by omega
        have hd12 : d < 12 := by omega
        clear hm2 hc2 hy hmk hyv hd hkn
        go_wp2
        go_quiet ((go_at_call 34; exact Calls.quiet_of_same (HMK.out _)))
        go_wp2
        go_roundw
        case rel => exact ⟨k + 1, by omega, by go_num, HW.out.trans ⟨_, rfl⟩⟩
        case measure => simp [intOf]; omega
    · have hlt' : ¬ (k : Int) < (n : Int) + 12 := by omega
      go_wp2
      go_returns
      exact ⟨rfl, HW.out⟩

/-- A row of the call's own, made longer within its room. -/
theorem Own.wide {w : World} {B T g n c m : Nat} {xs : List Value} (h : Own w B T (.slice (some ⟨g, 0, none⟩) n c) xs) (hm : m ≤ c) : ∃ ys, ys.length = m ∧ Own w B T (.slice (some ⟨g, 0, none⟩) m c) ys := by
  have hh : w.ownsRow B T 1 (.slice (some ⟨g, 0, none⟩) n c) xs.length xs := h
  rcases hh.2 with ⟨e, _⟩ | ⟨g', cap, cur, e, hB, hg, hle, hmx, hsz, ht⟩
  · cases e
  · injection e with e1 e2 e3
    injection e1 with e1
    injection e1 with e1
    subst e1; subst e3
    have hl : (cur.toList.take m).length = m := by rw [List.length_take, Array.length_toList]; omega
    refine ⟨cur.toList.take m, hl, ?_⟩
    refine ⟨by simp, .inr ⟨g, c, cur, by rw [hl], hB, hg, by omega, hmx, hsz, ?_⟩⟩
    rw [hl, Nat.mul_one]
theorem Own.setAt {w : World} {B T g n c : Nat} {xs : List Value} (h : Own w B T (.slice (some ⟨g, 0, none⟩) n c) xs) (k : Nat) (u : Value) : Own (w.setCell ⟨g, k, none⟩ u) B T (.slice (some ⟨g, 0, none⟩) n c) (xs.set k u) := by
  have hn := h.lt.1
  have hh : w.ownsRow B T 1 (.slice (some ⟨g, 0, none⟩) n c) n xs := by rw [hn]; rw [hn] at h; exact h
  exact Own.mk_ (hh.stored k u).1

set_option maxRecDepth 100000 in
set_option maxHeartbeats 1600000 in
theorem over_any {w : World} {B n c : Nat} {A : Option Addr} {xs : List Nat} (ho : Own w B 23 (.slice A n c) (u32s xs)) (hlen : xs.length ≤ 4000) :
    Calls Tryd.prog 23 #[.slice A n c] w fun e w' => (∃ v, e = .returned v) ∧ Below B w w' := by
  have hnl := ho.lt.1
  rw [u32s_length] at hnl
  have hn1 : n ≤ 4000 := by omega
  obtain ⟨A', c', e, hr, hcl, h0⟩ := ho.slice32
  injection e with e1 e2 e3
  subst e1; subst e3
  have hcl' : n ≤ c := by omega
  rcases A with _ | ad
  · obtain rfl := h0 rfl
    obtain rfl : n = 0 := by omega
    clear hr hcl h0 hnl e2 hcl'
    go_enter Tryd.func23, Tryd.ntmps23
    go_wp2_with fail
    go_loopw [3] (fun iv wr => iv = .int .i64 0 ∧ wr = w) (fun _ _ => 0)
    case atStart => exact ⟨rfl, rfl⟩
    case round =>
      obtain ⟨rfl, rfl⟩ := hrel
      go_wp2
      go_returns
      exact ⟨⟨_, rfl⟩, Below.refl _ _⟩
  · obtain ⟨g, rfl, hg, hgs⟩ := ho.lt.2 ad rfl
    obtain ⟨m, hm⟩ : ∃ m : Nat, m = min c (n + 12) := ⟨_, rfl⟩
    have hmin : min (c : Int) ((n : Int) + 12) = (m : Int) := by omega
    have hmc : m ≤ c := by omega
    have hm2 : m ≤ 4012 := by omega
    obtain ⟨ys, hyl, hoy⟩ := ho.wide hmc
    clear hm hr hcl h0 hnl e2 ho
    go_enter Tryd.func23, Tryd.ntmps23
    go_wp2_with fail
    go_loopw [3] (fun iv wr => ∃ (k : Nat) (zs : List Value), k ≤ m ∧ iv = .int .i64 (k : Int) ∧ Hid (zs.length = m) ∧ Own wr B 23 (.slice (some ⟨g, 0, none⟩) m c) zs ∧ Below B w wr) (fun iv _ => m - (intOf iv).toNat)
    case atStart => exact ⟨0, ys, Nat.zero_le _, rfl, hyl, hoy, Below.refl _ _⟩
    case round =>
      obtain ⟨k, zs, hk, rfl, HZ, hz, hb⟩ := hrel
      by_cases hlt : k < m
      · have hmk := mark_any 2 (k : Int) (by omega) (by omega) wr
        have HMK := Lib.hid hmk
        obtain ⟨hqc, hqf⟩ := own_cell hz (k := k) (by rw [HZ.out]; exact hlt)
        have hst := hz.setAt k
        have HST := Lib.hid hst
        clear hmk hst
        go_wp2_with (go_at_call 34; refine HMK.out.mono ?_; rintro e w' ⟨rfl, rfl⟩)
        go_roundw
        case rel => exact ⟨k + 1, zs.set k _, by omega, by go_num, by show _ = _; rw [List.length_set]; exact HZ.out, HST.out _, hb.setCell hg _⟩
        case measure => simp [intOf]; omega
      · go_wp2
        go_returns
        exact ⟨⟨_, rfl⟩, hb⟩
end Go.Proofs.YtffcacpffamjfaaDoor

/- Plain numbers: lists of decimal digits, the lowest first; cut into digits to the base 10^9. No program, no condition. Contracts of whetstoneref01.trim and write: a list of decimal digits without noughts behind, and cut into digits to the base 10^9. At most 1000000 digits. -/
import Derived.Test.YtffcacpffamjfaaDoorMath
import Derived.Test.YtffcacpffamjfaaDoorNat1
import Derived.Lib.MinMax
namespace Go.Proofs.YtffcacpffamjfaaDoor

/-- What a list of decimal digits stands for. -/
def dval : List Nat → Nat
  | [] => 0
  | d :: ds => d + 10 * dval ds

theorem dval_append (xs ys : List Nat) : dval (xs ++ ys) = dval xs + 10 ^ xs.length * dval ys := by
  induction xs with
  | nil => simp [dval]
  | cons x xs ih => simp only [List.cons_append, dval, ih, List.length_cons, Nat.pow_succ]; rw [Nat.mul_add, Nat.mul_comm (10 ^ xs.length) 10, Nat.mul_assoc]; omega
theorem dval_lt {ds : List Nat} (h : small 10 ds) : dval ds < 10 ^ ds.length := by
  induction ds with
  | nil => simp [dval]
  | cons d ds ih =>
    have h1 := h d (List.mem_cons_self ..)
    have h2 := ih (fun x hx => h x (List.mem_cons_of_mem _ hx))
    simp only [dval, List.length_cons, Nat.pow_succ]
    omega
theorem dval_strip (ds : List Nat) : dval (strip ds) = dval ds := by
  induction ds with
  | nil => rfl
  | cons d ds ih =>
    rw [strip]
    split
    · rename_i h
      rw [h] at ih
      simp only [dval] at ih ⊢
      split
      · rename_i h0; simp only [dval]; omega
      · simp only [dval]; omega
    · simp only [dval, ih]
/-- A right list of decimal digits: each below 10, the last one not 0. -/
def dright (ds : List Nat) : Prop := small 10 ds ∧ (ds = [] ∨ ds.getLast? ≠ some 0)
theorem strip_dright {ds : List Nat} (h : small 10 ds) : dright (strip ds) := ⟨fun x hx => h x (strip_mem ds x hx), strip_last ds⟩
theorem dval_pos {ds : List Nat} (hne : ds ≠ []) (hl : ds.getLast? ≠ some 0) : 0 < dval ds := by
  induction ds with
  | nil => exact absurd rfl hne
  | cons d ds ih =>
    cases ds with
    | nil =>
      have : d ≠ 0 := by simpa using hl
      simp [dval]; omega
    | cons x xs =>
      rw [List.getLast?_cons_cons] at hl
      have := ih (by simp) hl
      simp only [dval] at this ⊢
      omega
theorem dval_getD (ds : List Nat) (k : Nat) (hk : k < ds.length) : dval (ds.drop k) = ds.getD k 0 + 10 * dval (ds.drop (k + 1)) := by
  rw [List.drop_eq_getElem_cons hk, dval, List.getD_eq_getElem?_getD, List.getElem?_eq_getElem hk]; rfl

/-- The t-th digit to the base 10^9. -/
def chunk (ds : List Nat) (t : Nat) : Nat := dval ((ds.drop (9 * t)).take 9)
def chunks (ds : List Nat) (n : Nat) : List Nat := (List.range n).map (chunk ds)
theorem chunks_succ (ds : List Nat) (n : Nat) : chunks ds (n + 1) = chunks ds n ++ [chunk ds n] := by simp [chunks, List.range_succ]
theorem chunks_length (ds : List Nat) (n : Nat) : (chunks ds n).length = n := by simp [chunks]
theorem chunk_lt {ds : List Nat} (h : small 10 ds) (t : Nat) : chunk ds t < 1000000000 := by
  have h1 := dval_lt (small_take (small_drop h (9 * t)) 9)
  have h2 : 10 ^ ((ds.drop (9 * t)).take 9).length ≤ 10 ^ 9 := Nat.pow_le_pow_right (by omega) (by rw [List.length_take]; omega)
  have h3 : (10 : Nat) ^ 9 = 1000000000 := by decide
  unfold chunk
  omega
theorem chunks_small {ds : List Nat} (h : small 10 ds) (n : Nat) : small 1000000000 (chunks ds n) := by
  intro d hd
  obtain ⟨t, _, rfl⟩ := List.mem_map.1 hd
  exact chunk_lt h t
theorem chunks_val (ds : List Nat) (n : Nat) : val (chunks ds n) + 1000000000 ^ n * dval (ds.drop (9 * n)) = dval ds := by
  induction n with
  | zero => simp [chunks, val]
  | succ n ih =>
    rw [chunks_succ, val_snoc, chunks_length, ← ih]
    have h1 : ds.drop (9 * n) = (ds.drop (9 * n)).take 9 ++ ds.drop (9 * (n + 1)) := by
      rw [show 9 * (n + 1) = 9 * n + 9 from by omega, ← List.drop_drop, List.take_append_drop]
    have h2 : dval (ds.drop (9 * n)) = chunk ds n + 1000000000 * dval (ds.drop (9 * (n + 1))) := by
      rcases Nat.lt_or_ge (ds.drop (9 * n)).length 9 with h | h
      · have e : ds.drop (9 * (n + 1)) = [] := List.drop_of_length_le (by rw [List.length_drop] at h; omega)
        rw [e, chunk, List.take_of_length_le (by omega)]; simp [dval]
      · rw [h1, dval_append, List.length_take, Nat.min_eq_left h]; rfl
    rw [h2, Nat.pow_succ]
    generalize dval (ds.drop (9 * (n + 1))) = x
    rw [Nat.mul_add, Nat.mul_assoc, Nat.add_assoc]
/-- All of it, cut so: the right list of the number, if the last decimal digit is not 0. -/
theorem chunks_all {ds : List Nat} {n : Nat} (h : ds.length ≤ 9 * n) : val (chunks ds n) = dval ds := by
  have := chunks_val ds n
  rw [List.drop_of_length_le h] at this
  simpa [dval] using this
theorem chunks_right {ds : List Nat} {n : Nat} (hd : dright ds) (h : ds.length ≤ 9 * n) (h2 : n = 0 ∨ 9 * (n - 1) < ds.length) : right (chunks ds n) := by
  refine ⟨chunks_small hd.1 n, ?_⟩
  rcases Nat.eq_zero_or_pos n with rfl | hp
  · exact .inl rfl
  · right
    obtain ⟨m, rfl⟩ : ∃ m, n = m + 1 := ⟨n - 1, by omega⟩
    have h3 : 9 * m < ds.length := by
      rcases h2 with h2 | h2
      · omega
      · simpa using h2
    rw [chunks_succ]
    simp only [List.getLast?_append, List.getLast?_singleton, Option.some_or, ne_eq, Option.some.injEq]
    have e : chunk ds m = dval (ds.drop (9 * m)) := by rw [chunk, List.take_of_length_le (by rw [List.length_drop]; omega)]
    rw [e]
    have := dval_pos (ds := ds.drop (9 * m)) (by intro e; have := congrArg List.length e; rw [List.length_drop] at this; simp at this; omega) (by
      rw [List.getLast?_drop, if_neg (by omega)]
      rcases hd.2 with h | h
      · subst h; simp at h3
      · exact h)
    omega
end Go.Proofs.YtffcacpffamjfaaDoor

namespace Go.Proofs.YtffcacpffamjfaaDoor
open Go.RowKit

set_option maxHeartbeats 1000000 in
theorem trim_any {w : World} {A : Option Addr} {c : Nat} {ds : List Nat} (hr : Row w A (u8s ds)) (hlen : ds.length ≤ 1000000) (hc : ds.length ≤ c) :
    Calls Tryd.prog 44 #[.slice A ds.length c] w fun e w' => (e = .returned (.slice A (strip ds).length c) ∧ Row w A (u8s (strip ds))) ∧ w = w' := by
  go_enter Tryd.func44, Tryd.ntmps44
  go_wp2
  go_loop [0] (fun v => ∃ k : Nat, k ≤ ds.length ∧ v = .slice A k c ∧ Hid (∀ j, k ≤ j → ds.getD j 0 = 0)) (fun v => match v with | .slice _ n _ => n | _ => 0)
  case atStart => exact ⟨ds.length, Nat.le_refl _, rfl, fun j hj => by rw [List.getD_eq_getElem?_getD, List.getElem?_eq_none hj]; rfl⟩
  case round =>
    obtain ⟨k, hk, rfl, HZ⟩ := hrel
    rcases Nat.eq_zero_or_pos k with rfl | hpos
    · go_wp2
      go_ret
      have e : strip ds = [] := by rw [strip_take_of_zeros ds 0 HZ.out (Nat.zero_le _) (.inl rfl)]; rfl
      exact ⟨⟨by rw [e]; rfl, by rw [e]; exact Row.nil _ _⟩, rfl⟩
    · obtain ⟨p, rfl⟩ : ∃ p, k = p + 1 := ⟨k - 1, by omega⟩
      obtain ⟨ad, x, rfl, hcx, hx, _⟩ := hr.byte (k := p) (by omega)
      have hpc : p ≤ c := by omega
      by_cases hd : x = 0
      · subst hd
        go_wp2
        go_round
        case rel => exact ⟨p, by omega, by first | rfl | simp, fun j hj => by
          rcases Nat.lt_or_ge j (p + 1) with h | h
          · have : j = p := by omega
            rw [this]; exact hx.out
          · exact HZ.out j h⟩
        case measure => first | (simp; done) | (simp; omega)
      · have ht : ((x : Int) == 0) = false := by rw [beq_eq_false_iff_ne]; omega
        have HD := Lib.hid hd
        clear hd
        go_wp2
        go_ret
        have e : strip ds = ds.take (p + 1) := strip_take_of_zeros ds (p + 1) HZ.out hk (.inr (by rw [Nat.add_sub_cancel, hx.out]; exact HD.out))
        rw [e, ← u8s_take]
        refine ⟨⟨?_, hr.take _⟩, rfl⟩
        rw [List.length_take, Nat.min_eq_left hk]; rfl

theorem piece_step {ds : List Nat} {p e : Nat} (hp : p < e) (he : e ≤ ds.length) : dval ((ds.drop p).take (e - p)) = 10 * dval ((ds.drop (p + 1)).take (e - (p + 1))) + ds.getD p 0 := by
  rw [List.drop_eq_getElem_cons (show p < ds.length by omega), show e - p = (e - (p + 1)) + 1 from by omega, List.take_succ_cons, dval, List.getD_eq_getElem?_getD, List.getElem?_eq_getElem (show p < ds.length by omega)]
  simp only [Option.getD_some]
  omega
theorem piece_lt {ds : List Nat} (h : small 10 ds) {p e : Nat} (he : e - p ≤ 9) : dval ((ds.drop p).take (e - p)) < 1000000000 := by
  have h1 := dval_lt (small_take (small_drop h p) (e - p))
  have h2 : 10 ^ ((ds.drop p).take (e - p)).length ≤ 10 ^ 9 := Nat.pow_le_pow_right (by omega) (by rw [List.length_take]; omega)
  have h3 : (10 : Nat) ^ 9 = 1000000000 := by decide
  omega

set_option maxRecDepth 100000 in
set_option maxHeartbeats 4000000 in
theorem write_any {w : World} {A : Option Addr} {c : Nat} {ds : List Nat} (hr : Row w A (u8s ds)) (hd : small 10 ds) (hlen : ds.length ≤ 1000000) :
    Calls Tryd.prog 39 #[.slice A ds.length c] w fun e w' => ∃ v n, e = .returned v ∧ Own w' w.heap.size 23 v (u32s (chunks ds n)) ∧ Below w.heap.size w w' ∧ ds.length ≤ 9 * n ∧ (n = 0 ∨ 9 * (n - 1) < ds.length) := by
  obtain ⟨i0, hi, hz0, hz1, hz2⟩ := info_parts info_u32
  obtain ⟨B, hB⟩ : ∃ B, B = w.heap.size := ⟨_, rfl⟩
  have HB := Lib.hid hB
  rw [← hB]
  clear hB
  obtain ⟨len, hl⟩ : ∃ len, len = ds.length := ⟨_, rfl⟩
  have HL := Lib.hid hl
  have hlen' : len ≤ 1000000 := by omega
  rw [← hl]
  clear hl hlen
  go_enter Tryd.func39, Tryd.ntmps39
  go_wp2
  go_loopw [3, 4] (fun v i wr => ∃ j : Nat, (j = 0 ∨ 9 * (j - 1) < len) ∧ i = .int .i64 ((9 * j : Nat) : Int) ∧ Own wr B 23 v (u32s (chunks ds j)) ∧ Below w.heap.size w wr) (fun _ i _ => len + 9 - (intOf i).toNat)
  case atStart => exact ⟨0, .inl rfl, rfl, Own.nil _ _ _, Below.refl _ _⟩
  case round =>
    obtain ⟨j, hj, rfl, hown, hb⟩ := hrel
    obtain ⟨s, hs⟩ : ∃ s, s = 9 * j := ⟨_, rfl⟩
    rw [← hs]
    have hs1 : s ≤ len + 8 := by omega
    have HS := Lib.hid hs
    by_cases hlt : s < len
    · obtain ⟨e, he⟩ : ∃ e, e = min (s + 9) len := ⟨_, rfl⟩
      have he1 : s < e := by omega
      have he2 : e ≤ len := by omega
      have he3 : e ≤ s + 9 := by omega
      have hmin : min ((s : Int) + 9) (len : Int) = (e : Int) := by omega
      have HE := Lib.hid he
      clear hs he
      go_wp2_with fail
      obtain ⟨wo, hwo⟩ : ∃ wo : World, wo = wr := ⟨_, rfl⟩
      go_loop [5, 6] (fun nv kv => ∃ m : Nat, s ≤ m ∧ m ≤ e ∧ kv = .int .i64 ((m : Int) - 1) ∧ nv = .int .u32 ((dval ((ds.drop m).take (e - m)) : Nat) : Int)) (fun _ kv => (intOf kv + 1).toNat)
      case atStart => exact ⟨e, by omega, Nat.le_refl _, rfl, by rw [Nat.sub_self]; rfl⟩
      case round =>
        obtain ⟨m, hm1, hm2, rfl, rfl⟩ := hrel
        obtain ⟨nn, hnn⟩ : ∃ nn, nn = dval ((ds.drop m).take (e - m)) := ⟨_, rfl⟩
        rw [← hnn]
        have hnl : nn < 1000000000 := by rw [hnn]; exact piece_lt hd (by omega)
        have HNN := Lib.hid hnn
        clear hnn
        by_cases hms : m = s
        · subst hms
          have hsz := hb.size
          go_wp2_with (at_builtin; refine wpList_append_own _ rfl _ _ 24 rfl B 23 i0 (.int .u32 0) 1 4 Tryd.underlying24 hi hz0 hz1 hz2 rfl (by decide) _ _ _ rfl (hown.alloc _) ⟨wr.heap.size, 0, none⟩ 1 1 [.int .u32 (nn : Int)] rfl rfl (one_news rfl) one_cell (by rw [u32s_length, chunks_length]; unfold maxLen; omega) (by rw [u32s_length, chunks_length]; omega) (by rw [HB.out]; simp; omega) ?_)
          intro v' w2 hown' hgrow' _
          have ho2 := own_app32 hown'
          have hb2 := below_app hb hown HB hgrow'
          clear hown' hgrow' hown hb hwo
          go_wp2
          go_roundw
          case rel => exact ⟨j + 1, .inr (by have := HS.out; omega), int_eq (by have := HS.out; omega), by
            rw [chunks_succ]
            have e1 : chunk ds j = nn := by
              rw [HNN.out, chunk, ← HS.out]
              rcases Nat.lt_or_ge (m + 9) len with h | h
              · rw [show e - m = 9 from by have := HE.out; omega]
              · rw [List.take_of_length_le (by rw [List.length_drop, ← HL.out]; omega), List.take_of_length_le (by rw [List.length_drop, ← HL.out]; have := HE.out; omega)]
            rw [e1]; exact ho2, hb2⟩
          case measure => first | (simp [intOf]; done) | (simp [intOf]; omega)
        · obtain ⟨p, rfl⟩ : ∃ p, m = p + 1 := ⟨m - 1, by omega⟩
          rw [show ((p + 1 : Nat) : Int) - 1 = (p : Int) from by omega]
          obtain ⟨ad, x, rfl, hcx, hx, hxm⟩ := (hr.below hb).byte (k := p) (by rw [← HL.out]; omega)
          have hx10 := hd x hxm
          have hsp : s ≤ p := by omega
          have hpc : (p : Int) < len := by omega
          have hst := piece_step (ds := ds) (p := p) (e := e) (by omega) (by rw [← HL.out]; omega)
          have hpl := piece_lt hd (p := p) (e := e) (by omega)
          rw [hst, hx.out, ← HNN.out] at hpl
          rw [hx.out, ← HNN.out] at hst
          have HST := Lib.hid hst
          clear hst hms hxm
          go_wp2
          go_round
          case rel => exact ⟨p, by omega, by omega, by go_num, int_eq (by rw [HST.out]; omega)⟩
          case measure => first | (simp [intOf]; done) | (simp [intOf]; omega)
    · go_wp2
      go_ret
      refine ⟨_, j, rfl, hown, HB.out ▸ hb, ?_, hj⟩
      have := HS.out
      omega
end Go.Proofs.YtffcacpffamjfaaDoor

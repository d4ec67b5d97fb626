/- Contracts of whetstoneref01.trim and write: a list of decimal digits without noughts behind, and cut into digits to the base 10^9. At most 1000000 digits. -/
import Derived.Test.YthjgfkmnelefpaaGreatDoorNat2
import Derived.Test.YthjgfkmnelefpaaGreatDoorDig
import Derived.Lib.MinMax
namespace Go.Proofs.YthjgfkmnelefpaaGreatDoor
open Go.RowKit

set_option maxHeartbeats 1000000 in
theorem trim_any {w : World} {A : Option Addr} {c : Nat} {ds : List Nat} (hr : Row w A (u8s ds)) (hlen : ds.length ≤ 1000000) (hc : ds.length ≤ c) :
    Calls Tryz.prog 80 #[.slice A ds.length c] w fun e w' => (e = .returned (.slice A (strip ds).length c) ∧ Row w A (u8s (strip ds))) ∧ w = w' := by
  go_enter Tryz.func80, Tryz.ntmps80
  go_wp2
  go_loop [0] (fun v => ∃ k : Nat, k ≤ ds.length ∧ v = .slice A k c ∧ Hid (∀ j, k ≤ j → ds.getD j 0 = 0)) (fun v => match v with | .slice _ n _ => n | _ => 0)
  case atStart => exact ⟨ds.length, Nat.le_refl _, rfl, fun j hj => by rw [List.getD_eq_getElem?_getD, List.getElem?_eq_none hj]; rfl⟩
  case round =>
    obtain ⟨k, hk, rfl, HZ⟩ := hrel
    rcases Nat.eq_zero_or_pos k with rfl | hpos
    · go_wp2
      go_ret
      have e : strip ds = [] := by rw [strip_take_of_zeros ds 0 HZ.out (Nat.zero_le _) (.inl rfl)]; rfl
      exact ⟨⟨by rw [e]; rfl, by rw [e]; exact Row.nil _ _⟩, rfl⟩
    · obtain ⟨p, rfl⟩ : ∃ p, k = p + 1 := ⟨k - 1, by omega⟩
      obtain ⟨ad, x, rfl, hcx, hx, _⟩ := hr.byte (k := p) (by omega)
      have hpc : p ≤ c := by omega
      by_cases hd : x = 0
      · subst hd
        go_wp2
        go_round
        case rel => exact ⟨p, by omega, by first | rfl | simp, fun j hj => by
          rcases Nat.lt_or_ge j (p + 1) with h | h
          · have : j = p := by omega
            rw [this]; exact hx.out
          · exact HZ.out j h⟩
        case measure => first | (simp; done) | (simp; omega)
      · have ht : ((x : Int) == 0) = false := by rw [beq_eq_false_iff_ne]; omega
        have HD := Lib.hid hd
        clear hd
        go_wp2
        go_ret
        have e : strip ds = ds.take (p + 1) := strip_take_of_zeros ds (p + 1) HZ.out hk (.inr (by rw [Nat.add_sub_cancel, hx.out]; exact HD.out))
        rw [e, ← u8s_take]
        refine ⟨⟨?_, hr.take _⟩, rfl⟩
        rw [List.length_take, Nat.min_eq_left hk]; rfl

theorem piece_step {ds : List Nat} {p e : Nat} (hp : p < e) (he : e ≤ ds.length) : dval ((ds.drop p).take (e - p)) = 10 * dval ((ds.drop (p + 1)).take (e - (p + 1))) + ds.getD p 0 := by
  rw [List.drop_eq_getElem_cons (show p < ds.length by omega), show e - p = (e - (p + 1)) + 1 from by omega, List.take_succ_cons, dval, List.getD_eq_getElem?_getD, List.getElem?_eq_getElem (show p < ds.length by omega)]
  simp only [Option.getD_some]
  omega
theorem piece_lt {ds : List Nat} (h : small 10 ds) {p e : Nat} (he : e - p ≤ 9) : dval ((ds.drop p).take (e - p)) < 1000000000 := by
  have h1 := dval_lt (small_take (small_drop h p) (e - p))
  have h2 : 10 ^ ((ds.drop p).take (e - p)).length ≤ 10 ^ 9 := Nat.pow_le_pow_right (by omega) (by rw [List.length_take]; omega)
  have h3 : (10 : Nat) ^ 9 = 1000000000 := by decide
  omega

set_option maxRecDepth 100000 in
set_option maxHeartbeats 4000000 in
theorem write_any {w : World} {A : Option Addr} {c : Nat} {ds : List Nat} (hr : Row w A (u8s ds)) (hd : small 10 ds) (hlen : ds.length ≤ 1000000) :
    Calls Tryz.prog 64 #[.slice A ds.length c] w fun e w' => ∃ v n, e = .returned v ∧ Own w' w.heap.size 55 v (u32s (chunks ds n)) ∧ Below w.heap.size w w' ∧ ds.length ≤ 9 * n ∧ (n = 0 ∨ 9 * (n - 1) < ds.length) := by
  obtain ⟨i0, hi, hz0, hz1, hz2⟩ := info_parts info_u32
  obtain ⟨B, hB⟩ : ∃ B, B = w.heap.size := ⟨_, rfl⟩
  have HB := Lib.hid hB
  rw [← hB]
  clear hB
  obtain ⟨len, hl⟩ : ∃ len, len = ds.length := ⟨_, rfl⟩
  have HL := Lib.hid hl
  have hlen' : len ≤ 1000000 := by omega
  rw [← hl]
  clear hl hlen
  go_enter Tryz.func64, Tryz.ntmps64
  go_wp2
  go_loopw [3, 4] (fun v i wr => ∃ j : Nat, (j = 0 ∨ 9 * (j - 1) < len) ∧ i = .int .i64 ((9 * j : Nat) : Int) ∧ Own wr B 55 v (u32s (chunks ds j)) ∧ Below w.heap.size w wr) (fun _ i _ => len + 9 - (intOf i).toNat)
  case atStart => exact ⟨0, .inl rfl, rfl, Own.nil _ _ _, Below.refl _ _⟩
  case round =>
    obtain ⟨j, hj, rfl, hown, hb⟩ := hrel
    obtain ⟨s, hs⟩ : ∃ s, s = 9 * j := ⟨_, rfl⟩
    rw [← hs]
    have hs1 : s ≤ len + 8 := by omega
    have HS := Lib.hid hs
    by_cases hlt : s < len
    · obtain ⟨e, he⟩ : ∃ e, e = min (s + 9) len := ⟨_, rfl⟩
      have he1 : s < e := by omega
      have he2 : e ≤ len := by omega
      have he3 : e ≤ s + 9 := by omega
      have hmin : min ((s : Int) + 9) (len : Int) = (e : Int) := by omega
      have HE := Lib.hid he
      clear hs he
      go_wp2_with fail
      obtain ⟨wo, hwo⟩ : ∃ wo : World, wo = wr := ⟨_, rfl⟩
      go_loop [5, 6] (fun nv kv => ∃ m : Nat, s ≤ m ∧ m ≤ e ∧ kv = .int .i64 ((m : Int) - 1) ∧ nv = .int .u32 ((dval ((ds.drop m).take (e - m)) : Nat) : Int)) (fun _ kv => (intOf kv + 1).toNat)
      case atStart => exact ⟨e, by omega, Nat.le_refl _, rfl, by rw [Nat.sub_self]; rfl⟩
      case round =>
        obtain ⟨m, hm1, hm2, rfl, rfl⟩ := hrel
        obtain ⟨nn, hnn⟩ : ∃ nn, nn = dval ((ds.drop m).take (e - m)) := ⟨_, rfl⟩
        rw [← hnn]
        have hnl : nn < 1000000000 := by rw [hnn]; exact piece_lt hd (by omega)
        have HNN := Lib.hid hnn
        clear hnn
        by_cases hms : m = s
        · subst hms
          have hsz := hb.size
          go_wp2_with (at_builtin; refine wpList_append_own _ rfl _ _ 27 rfl B 55 i0 (.int .u32 0) 1 4 Tryz.underlying27 hi hz0 hz1 hz2 rfl (by decide) _ _ _ rfl (hown.alloc _) ⟨wr.heap.size, 0, none⟩ 1 1 [.int .u32 (nn : Int)] rfl rfl (one_news rfl) one_cell (by rw [u32s_length, chunks_length]; unfold maxLen; omega) (by rw [u32s_length, chunks_length]; omega) (by rw [HB.out]; simp; omega) ?_)
          intro v' w2 hown' hgrow' _
          have ho2 := own_app32 hown'
          have hb2 := below_app hb hown HB hgrow'
          clear hown' hgrow' hown hb hwo
          go_wp2
          go_roundw
          case rel => exact ⟨j + 1, .inr (by have := HS.out; omega), int_eq (by have := HS.out; omega), by
            rw [chunks_succ]
            have e1 : chunk ds j = nn := by
              rw [HNN.out, chunk, ← HS.out]
              rcases Nat.lt_or_ge (m + 9) len with h | h
              · rw [show e - m = 9 from by have := HE.out; omega]
              · rw [List.take_of_length_le (by rw [List.length_drop, ← HL.out]; omega), List.take_of_length_le (by rw [List.length_drop, ← HL.out]; have := HE.out; omega)]
            rw [e1]; exact ho2, hb2⟩
          case measure => first | (simp [intOf]; done) | (simp [intOf]; omega)
        · obtain ⟨p, rfl⟩ : ∃ p, m = p + 1 := ⟨m - 1, by omega⟩
          rw [show ((p + 1 : Nat) : Int) - 1 = (p : Int) from by omega]
          obtain ⟨ad, x, rfl, hcx, hx, hxm⟩ := (hr.below hb).byte (k := p) (by rw [← HL.out]; omega)
          have hx10 := hd x hxm
          have hsp : s ≤ p := by omega
          have hpc : (p : Int) < len := by omega
          have hst := piece_step (ds := ds) (p := p) (e := e) (by omega) (by rw [← HL.out]; omega)
          have hpl := piece_lt hd (p := p) (e := e) (by omega)
          rw [hst, hx.out, ← HNN.out] at hpl
          rw [hx.out, ← HNN.out] at hst
          have HST := Lib.hid hst
          clear hst hms hxm
          go_wp2
          go_round
          case rel => exact ⟨p, by omega, by omega, by go_num, int_eq (by rw [HST.out]; omega)⟩
          case measure => first | (simp [intOf]; done) | (simp [intOf]; omega)
    · go_wp2
      go_ret
      refine ⟨_, j, rfl, hown, HB.out ▸ hb, ?_, hj⟩
      have := HS.out
      omega
end Go.Proofs.YthjgfkmnelefpaaGreatDoor

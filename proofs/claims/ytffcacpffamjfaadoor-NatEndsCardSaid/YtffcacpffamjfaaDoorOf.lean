/- Contracts of nat.isDecimal, nat.read, nat.Of, and of whetstoneref01.Of: the row of a decimal text. Texts of at most 100000 bytes. Decimal texts: a number's digits are a decimal text of it; longer ones are of greater numbers; of two that are as long the greater number's is the greater. -/
import Derived.Test.YtffcacpffamjfaaDoorRef1
import Derived.Lib.ItoaMem
import Derived.Test.YtffcacpffamjfaaDoorDecimal
namespace Go.Proofs.YtffcacpffamjfaaDoor
open Go.RowKit

/-- The bytes of a text, as numbers. -/
def bt (s : ByteArray) : List Nat := s.data.toList.map (·.toNat)
theorem bt_length (s : ByteArray) : (bt s).length = s.size := by rw [bt, List.length_map, Array.length_toList]; rfl
theorem ret_bool {a b : Bool} (h : a = b) : Ending.returned (.bool a) = .returned (.bool b) := by rw [h]
theorem bt_at (s : ByteArray) (k : Nat) (h : k < s.size) : s[k].toNat = (bt s).getD k 0 := by
  have h2 : k < s.data.toList.length := by simpa using h
  rw [bt, List.getD_eq_getElem?_getD, List.getElem?_map, List.getElem?_eq_getElem h2]
  rfl
theorem bt_list (s : ByteArray) (l : List UInt8) (h : s.toList = l) : bt s = l.map (·.toNat) := by rw [bt, ← ByteArray.toList_eq, h]
theorem bt_list' (s : ByteArray) (c : UInt8) (h : bt s = [c.toNat]) : s.toList = [c] := by
  rw [bt, ← ByteArray.toList_eq] at h
  obtain ⟨d, h1, h2⟩ := List.map_eq_singleton_iff.1 h
  rw [h1, UInt8.toNat_inj.1 h2]
theorem bt_nil (s : ByteArray) : s.toList = [] ↔ bt s = [] := by rw [bt, ← ByteArray.toList_eq]; simp
/-- Each byte is a digit. -/
def digs (bs : List Nat) : Prop := ∀ k, k < bs.length → 48 ≤ bs.getD k 0 ∧ bs.getD k 0 ≤ 57

set_option maxHeartbeats 1000000 in
theorem isDecimal_bad {s : ByteArray} (w : World) (hs : s.size ≤ 100000) (hbad : ¬ digs (bt s)) :
    Calls Tryd.prog 42 #[.string s] w fun e w' => e = .returned (.bool false) ∧ w = w' := by
  have HB := Lib.hid hbad
  clear hbad
  go_enter Tryd.func42, Tryd.ntmps42
  go_wp2
  go_loop [6] (fun i => ∃ k : Nat, k ≤ s.size ∧ i = .int .i64 k ∧ Hid (∀ j, j < k → 48 ≤ (bt s).getD j 0 ∧ (bt s).getD j 0 ≤ 57)) (fun i => s.size - (intOf i).toNat)
  case atStart => exact ⟨0, Nat.zero_le _, rfl, fun j hj => absurd hj (by omega)⟩
  case round =>
    obtain ⟨k, hk, rfl, HD⟩ := hrel
    by_cases hlt : k < s.size
    · have hx := bt_at s k hlt
      obtain ⟨x, hxe⟩ : ∃ x, x = (bt s).getD k 0 := ⟨_, rfl⟩
      rw [← hxe] at hx
      have HX := Lib.hid hxe
      clear hxe
      by_cases h1 : 48 ≤ x ∧ x ≤ 57
      · obtain ⟨h2, h3⟩ := h1
        go_wp2
        go_round
        case rel => exact ⟨k + 1, by omega, by go_num, fun j hj => by
          rcases Nat.lt_or_ge j k with h | h
          · exact HD.out j h
          · have : j = k := by omega
            rw [this, ← HX.out]; exact ⟨h2, h3⟩⟩
        case measure => first | (simp [intOf]; done) | (simp [intOf]; omega)
      · rcases Nat.lt_or_ge x 48 with h2 | h2
        · go_wp2
          go_ret
          exact ⟨rfl, rfl⟩
        · have h3 : 57 < x := by omega
          clear h1
          go_wp2
          go_ret
          exact ⟨rfl, rfl⟩
    · exact absurd (fun j hj => HD.out j (by rw [bt_length] at hj; omega)) HB.out

set_option maxHeartbeats 1000000 in
theorem isDecimal_good {s : ByteArray} (w : World) (hs : s.size ≤ 100000) (hg : digs (bt s)) (b : Bool) (hb : (b = true ∧ (bt s = [48] ∨ bt s ≠ [] ∧ (bt s).getD 0 0 ≠ 48)) ∨ (b = false ∧ (bt s = [] ∨ 1 < s.size ∧ (bt s).getD 0 0 = 48))) :
    Calls Tryd.prog 42 #[.string s] w fun e w' => e = .returned (.bool b) ∧ w = w' := by
  have HG := Lib.hid hg
  clear hg
  go_enter Tryd.func42, Tryd.ntmps42
  go_wp2
  go_loop [6] (fun i => ∃ k : Nat, k ≤ s.size ∧ i = .int .i64 k) (fun i => s.size - (intOf i).toNat)
  case atStart => exact ⟨0, Nat.zero_le _, rfl⟩
  case round =>
    obtain ⟨k, hk, rfl⟩ := hrel
    by_cases hlt : k < s.size
    · have hx := bt_at s k hlt
      have hxd := HG.out k (by rw [bt_length]; exact hlt)
      obtain ⟨x, hxe⟩ : ∃ x, x = (bt s).getD k 0 := ⟨_, rfl⟩
      rw [← hxe] at hx hxd
      obtain ⟨h2, h3⟩ := hxd
      clear hxe
      have HBB := Lib.hid hb
      clear hb
      go_wp2
      go_round
      case rel => exact ⟨k + 1, by omega, by go_num⟩
      case measure => first | (simp [intOf]; done) | (simp [intOf]; omega)
    · have HBB := Lib.hid hb
      clear hb
      by_cases hz : 0 < s.size
      · have h0 := bt_at s 0 hz
        have hne : ¬ bt s = [] := fun e => by have := bt_length s; rw [e] at this; simp at this; omega
        have HZ := Lib.hid h0
        have HNE := Lib.hid hne
        clear h0 hne
        go_wp2
        all_goals go_ret
        all_goals refine ⟨ret_bool ?_, rfl⟩
        · have e1 := bt_list s _ (by assumption : s.toList = [48])
          rcases HBB.out with ⟨e2, _⟩ | ⟨_, e2 | e2⟩
          · exact e2.symm
          · exact absurd e2 HNE.out
          · have := bt_length s
            rw [e1] at this
            simp at this
            omega
        · exact absurd ((bt_nil s).1 (by assumption)) HNE.out
        · have e1 : ¬ s.toList = [48] := by assumption
          have e2 : ¬ s.toList = [] := by assumption
          have e3 : (s.toList == [48]) = false := by simpa using e1
          have e4 : s.toList.isEmpty = false := by simpa using e2
          rw [e3, e4]
          simp only [Bool.not_false, Bool.true_and, Bool.false_or]
          have hz0 := HZ.out
          rcases HBB.out with ⟨e5, e6 | e6⟩ | ⟨e5, e6 | e6⟩
          · exact absurd (bt_list' s 48 e6) e1
          · rw [e5, bne_iff_ne]; omega
          · exact absurd e6 HNE.out
          · rw [e5]; simp; omega
      · have hne : bt s = [] := List.eq_nil_of_length_eq_zero (by rw [bt_length]; omega)
        have hl : s.toList = [] := (bt_nil s).2 hne
        have HNE := Lib.hid hne
        have hl1 : (s.toList == [48]) = false := by rw [hl]; rfl
        have hl2 : s.toList.isEmpty = true := by rw [hl]; rfl
        clear hne
        go_wp2
        all_goals go_ret
        all_goals refine ⟨ret_bool ?_, rfl⟩
        all_goals
          rcases HBB.out with ⟨e5, e6 | e6⟩ | ⟨e5, _⟩
          · rw [HNE.out] at e6; cases e6
          · exact absurd HNE.out e6.1
          · rw [e5]

/-- The decimal digits of a text, the lowest first. -/
def dg (s : ByteArray) : List Nat := ((bt s).map (· - 48)).reverse
theorem dg_length (s : ByteArray) : (dg s).length = s.size := by simp [dg, bt_length]
theorem dg_at (s : ByteArray) (k : Nat) (h : k < s.size) : (dg s).getD k 0 = (bt s).getD (s.size - 1 - k) 0 - 48 := by
  have h1 : k < ((bt s).map (· - 48)).reverse.length := by simp [bt_length]; exact h
  rw [dg, List.getD_eq_getElem?_getD, List.getElem?_eq_getElem h1, List.getD_eq_getElem?_getD, List.getElem?_eq_getElem (by rw [bt_length]; omega)]
  simp [List.getElem_reverse, bt_length]
theorem dg_small {s : ByteArray} (h : digs (bt s)) : small 10 (dg s) := by
  intro d hd
  rw [dg, List.mem_reverse] at hd
  obtain ⟨x, hx, rfl⟩ := List.mem_map.1 hd
  obtain ⟨k, hk, rfl⟩ := List.getElem_of_mem hx
  have := h k hk
  rw [List.getD_eq_getElem?_getD, List.getElem?_eq_getElem hk] at this
  simp only [Option.getD_some] at this
  omega

theorem bt_extract (s : ByteArray) (a b : Nat) : bt (s.extract a b) = ((bt s).drop a).take (b - a) := by
  simp [bt, List.map_take, List.map_drop, List.take_drop, Array.toList_extract]
theorem row_bytes (w : World) (s : ByteArray) (cap : Nat) : Row (w.drew.alloc (.cells (bytesRow s cap) 5 ((bytesRow s cap).size, (bytesRow s cap).size + 1))) (some ⟨w.heap.size, 0, none⟩) (u8s (bt s)) := by
  intro j v hv
  refine ⟨_, rfl, ?_⟩
  have hj : j < s.data.size := by
    rcases Nat.lt_or_ge j s.data.size with h | h
    · exact h
    · rw [List.getElem?_eq_none (by rw [u8s_length, bt_length]; exact h)] at hv; cases hv
  have h1 : (w.drew.alloc (.cells (bytesRow s cap) 5 ((bytesRow s cap).size, (bytesRow s cap).size + 1))).cell? ⟨w.heap.size, j, none⟩ = (bytesRow s cap)[j]? := by
    have : (w.drew.alloc (.cells (bytesRow s cap) 5 ((bytesRow s cap).size, (bytesRow s cap).size + 1))).heap[w.heap.size]? = some (.cells (bytesRow s cap) 5 ((bytesRow s cap).size, (bytesRow s cap).size + 1)) := heap_alloc_new w.drew _
    unfold World.cell?
    rw [this]
    rfl
  rw [Lib.add_plain, Nat.zero_add, h1, bytesRow_at s cap j hj, ← hv]
  have h2 : j < (u8s (bt s)).length := by rw [u8s_length, bt_length]; exact hj
  rw [List.getElem?_eq_getElem h2]
  simp [u8s, bt]

set_option maxRecDepth 100000 in
set_option maxHeartbeats 4000000 in
theorem read_any {s : ByteArray} (w : World) (hs : s.size ≤ 100000) (hg : digs (bt s)) :
    Calls Tryd.prog 43 #[.string s] w (RetNat w (dval (dg s))) := by
  obtain ⟨i0, hi, hz0, hz1, hz2⟩ := info_parts info_u32
  obtain ⟨B, hB⟩ : ∃ B, B = w.heap.size := ⟨_, rfl⟩
  have HB := Lib.hid hB
  clear hB
  have hd := dg_small hg
  have hdl := dg_length s
  have HDL := Lib.hid hdl
  have HG := Lib.hid hg
  clear hg hdl
  go_enter Tryd.func43, Tryd.ntmps43
  go_wp2
  go_loopw [3, 4] (fun v i wr => ∃ j : Nat, (j = 0 ∨ 9 * (j - 1) < s.size) ∧ i = .int .i64 ((s.size : Int) - 9 * j) ∧ Own wr B 23 v (u32s (chunks (dg s) j)) ∧ Below w.heap.size w wr) (fun _ i _ => (intOf i + 9).toNat)
  case atStart => exact ⟨0, .inl rfl, int_eq (by omega), Own.nil _ _ _, Below.refl _ _⟩
  case round =>
    obtain ⟨j, hj, rfl, hown, hb⟩ := hrel
    by_cases hlt : 9 * j < s.size
    · obtain ⟨e, he⟩ : ∃ e : Nat, e = s.size - 9 * j := ⟨_, rfl⟩
      have hei : (s.size : Int) - 9 * (j : Int) = (e : Int) := by omega
      rw [hei]
      obtain ⟨lo, hlo⟩ : ∃ lo : Nat, lo = e - 9 := ⟨_, rfl⟩
      have hmax : max (0 : Int) ((e : Int) - 9) = (lo : Int) := by omega
      have he1 : 0 < e := by omega
      have he2 : e ≤ s.size := by omega
      have hlo1 : lo < e := by omega
      have hlo2 : e ≤ lo + 9 := by omega
      have hI1 : (e : Int) ≤ (s.size : Int) := by omega
      have hI2 : (lo : Int) ≤ (e : Int) := by omega
      have hI0 : (0 : Int) ≤ (lo : Int) := by omega
      obtain ⟨m, hm⟩ : ∃ m : Nat, m = e - lo := ⟨_, rfl⟩
      have hm9 : m ≤ 9 := by omega
      have hme1 : lo + m ≤ e := by omega
      have hme2 : e ≤ lo + m := by omega
      obtain ⟨pc, hpc⟩ : ∃ pc, s.extract lo e = pc := ⟨_, rfl⟩
      have hpm : pc.size = m := by rw [← hpc, ByteArray.size_extract]; omega
      have hrowc := row_bytes wr pc (grownCap wr pc.size 0 5)
      have hbt : bt pc = ((bt s).drop lo).take m := by rw [← hpc, bt_extract, hm]
      rw [hbt] at hrowc
      have hcv := fun (W : World) => run_bytes_of_string (P := Tryd.prog) W 9 52 5 pc Tryd.underlying9 Tryd.underlying52 Tryd.underlying5
      rw [hpm] at hrowc
      rw [hpm] at hcv
      have HE := Lib.hid he
      have HLO := Lib.hid hlo
      have HM := Lib.hid hm
      have HRC := Lib.hid hrowc
      clear he hlo hei hm hbt hpm hrowc
      go_wp2_with fail
      obtain ⟨cap, hcap⟩ : ∃ cap, cap = grownCap wr m 0 5 := ⟨_, rfl⟩
      rw [← hcap] at HRC ⊢
      obtain ⟨W2, hW2⟩ : ∃ W2, W2 = (wr.alloc (Obj.cells (bytesRow pc cap) 5 ((bytesRow pc cap).size, (bytesRow pc cap).size + 1))).drew := ⟨_, rfl⟩
      have hR2 : Row W2 (some ⟨wr.heap.size, 0, none⟩) (u8s (((bt s).drop lo).take m)) := by rw [hW2]; exact HRC.out
      have hb2 : Below w.heap.size w W2 := by rw [hW2]; exact (hb.alloc hb.size _).drew
      have hown2 : Own W2 B 23 u3 (u32s (chunks (dg s) j)) := by rw [hW2]; exact hown.below (((Below.refl _ _).alloc (Nat.le_refl _) _).drew)
      rw [← hW2]
      have hml : (((bt s).drop lo).take m).length = m := by rw [List.length_take, List.length_drop, bt_length]; have := HM.out; omega
      have HML := Lib.hid hml
      clear hcap hW2 hb hown HRC hcv hpc hml
      go_loop [5, 22] (fun nv kv => ∃ k : Nat, k ≤ m ∧ kv = .int .i64 (k : Int) ∧ nv = .int .u32 ((dval (((dg s).drop (s.size - lo - k)).take k) : Nat) : Int)) (fun _ kv => m - (intOf kv).toNat)
      case atStart => exact ⟨0, Nat.zero_le _, rfl, by rw [List.take_zero]; rfl⟩
      case round =>
        obtain ⟨k, hk, rfl, rfl⟩ := hrel
        obtain ⟨nn, hnn⟩ : ∃ nn, nn = dval (((dg s).drop (s.size - lo - k)).take k) := ⟨_, rfl⟩
        rw [← hnn]
        have hnl : nn < 1000000000 := by
          have := piece_lt hd (p := s.size - lo - k) (e := s.size - lo) (by omega)
          rw [show s.size - lo - (s.size - lo - k) = k from by omega] at this
          rw [hnn]; exact this
        have HNN := Lib.hid hnn
        clear hnn
        by_cases hkm : k < m
        · obtain ⟨ad, x, hA, hcx, hx, hxm⟩ := hR2.byte (k := k) (by rw [HML.out]; exact hkm)
          obtain rfl : ad = ⟨wr.heap.size, 0, none⟩ := by injection hA with hA; exact hA.symm
          have hxe : (bt s).getD (lo + k) 0 = x := by
            rw [← hx.out, List.getD_eq_getElem?_getD, List.getD_eq_getElem?_getD, List.getElem?_take_of_lt hkm, List.getElem?_drop]
          have hxd := HG.out (lo + k) (by rw [bt_length]; omega)
          rw [hxe] at hxd
          obtain ⟨hx1, hx2⟩ := hxd
          have hkc : (k : Int) < m := by omega
          have hst := piece_step (ds := dg s) (p := s.size - lo - (k + 1)) (e := s.size - lo) (by omega) (by rw [HDL.out]; omega)
          rw [show s.size - lo - (s.size - lo - (k + 1)) = k + 1 from by omega, show s.size - lo - (k + 1) + 1 = s.size - lo - k from by omega, show s.size - lo - (s.size - lo - k) = k from by omega, ← HNN.out, dg_at s _ (by omega), show s.size - 1 - (s.size - lo - (k + 1)) = lo + k from by omega, hxe] at hst
          have hpl := piece_lt hd (p := s.size - lo - (k + 1)) (e := s.size - lo) (by omega)
          rw [show s.size - lo - (s.size - lo - (k + 1)) = k + 1 from by omega, hst] at hpl
          have HST := Lib.hid hst
          have hcx' : W2.cell? ⟨wr.heap.size, k, none⟩ = some (.int .u8 (x : Int)) := by rw [Lib.add_plain, Nat.zero_add] at hcx; exact hcx
          clear hst hxm hxe hcx hA
          go_wp2
          go_round
          case rel => exact ⟨k + 1, by omega, by go_num, int_eq (by rw [HST.out]; omega)⟩
          case measure => first | (simp [intOf]; done) | (simp [intOf]; omega)
        · have hkm' : k = m := by omega
          have HKM := Lib.hid hkm'
          clear hkm'
          have hsz := hb2.size
          go_wp2_with (at_builtin; refine wpList_append_own _ rfl _ _ 40 rfl B 23 i0 (.int .u32 0) 1 4 Tryd.underlying40 hi hz0 hz1 hz2 rfl (by decide) _ _ _ rfl (hown2.alloc _) ⟨W2.heap.size, 0, none⟩ 1 1 [.int .u32 (nn : Int)] rfl rfl (one_news rfl) one_cell (by rw [u32s_length, chunks_length]; unfold maxLen; omega) (by rw [u32s_length, chunks_length]; omega) (by rw [HB.out]; simp; omega) ?_)
          intro v' w2 hown' hgrow' _
          have ho3 := own_app32 hown'
          have hb3 := below_app hb2 hown2 HB hgrow'
          clear hown' hgrow' hown2 hb2 hR2
          go_wp2
          go_roundw
          case rel => exact ⟨j + 1, .inr (by omega), int_eq (by have := HE.out; omega), by
            rw [chunks_succ]
            have e1 : chunk (dg s) j = nn := by
              have he := HE.out
              have hlo := HLO.out
              have hmm := HM.out
              rw [HNN.out, HKM.out, chunk, show s.size - lo - m = 9 * j from by omega]
              rcases Nat.lt_or_ge 9 e with h | h
              · rw [show m = 9 from by omega]
              · rw [List.take_of_length_le (by rw [List.length_drop, HDL.out]; omega), List.take_of_length_le (by rw [List.length_drop, HDL.out]; omega)]
            rw [e1]; exact ho3, hb3⟩
          case measure => first | (simp [intOf]; done) | (simp [intOf]; omega)
    · obtain ⟨A3, c3, rfl, _⟩ := hown.slice32
      have hcl : (chunks (dg s) j).length ≤ 1000000 := by rw [chunks_length]; omega
      go_wp2_with fail
      refine (stripped_any hown hcl).mono ?_
      rintro e w3 ⟨⟨v, rfl, hv⟩, rfl⟩
      go_wp2
      go_ret
      exact ⟨v, rfl, ⟨_, strip_right (chunks_small hd j), by rw [strip_val, chunks_all (by rw [HDL.out]; omega)], HB.out ▸ hv⟩, hb⟩

/-- A decimal text: digits alone, no 0 ahead of others, not empty. -/
def isDec (bs : List Nat) : Prop := digs bs ∧ (bs = [48] ∨ bs ≠ [] ∧ bs.getD 0 0 ≠ 48)

theorem of_no {s : ByteArray} (w : World) (hs : s.size ≤ 100000) (hn : ¬ isDec (bt s)) :
    Calls Tryd.prog 25 #[.string s] w fun e w' => e = .returned (.tuple #[.slice none 0 0, .bool false]) ∧ w = w' := by
  have hdec : Calls Tryd.prog 42 #[.string s] w fun e w' => e = .returned (.bool false) ∧ w = w' := by
    by_cases hg : digs (bt s)
    · refine isDecimal_good w hs hg false (.inr ⟨rfl, ?_⟩)
      by_cases h1 : bt s = []
      · exact .inl h1
      · right
        have h2 : (bt s).getD 0 0 = 48 := by
          by_cases h3 : (bt s).getD 0 0 = 48
          · exact h3
          · exact absurd ⟨hg, .inr ⟨h1, h3⟩⟩ hn
        refine ⟨?_, h2⟩
        rw [← bt_length]
        rcases Nat.lt_or_ge 1 (bt s).length with h | h
        · exact h
        · exfalso
          match hb : bt s, h1, h, h2 with
          | [d], _, _, h2 => simp at h2; subst h2; exact hn ⟨hg, .inl hb⟩
    · exact isDecimal_bad w hs hg
  have HD := Lib.hid hdec
  clear hdec hn
  go_enter Tryd.func25, Tryd.ntmps25
  go_wp2_with (go_at_call 42; refine HD.out.mono ?_; rintro e w' ⟨rfl, rfl⟩)
  go_returns
  exact ⟨rfl, rfl⟩

theorem of_yes {s : ByteArray} (w : World) (hs : s.size ≤ 100000) (hn : isDec (bt s)) :
    Calls Tryd.prog 25 #[.string s] w fun e w' => ∃ v, e = .returned (.tuple #[v, .bool true]) ∧ IsNat w' w.heap.size v (dval (dg s)) ∧ Below w.heap.size w w' := by
  have hdec := isDecimal_good w hs hn.1 true (.inl ⟨rfl, hn.2⟩)
  have hread := read_any w hs hn.1
  have HD := Lib.hid hdec
  have HR := Lib.hid hread
  clear hdec hn hread
  go_enter Tryd.func25, Tryd.ntmps25
  go_wp2_with (first
    | (go_at_call 42; refine HD.out.mono ?_; rintro e w' ⟨rfl, rfl⟩)
    | (go_at_call 43; refine HR.out.mono ?_; rintro e w2 ⟨v, rfl, hv, hb⟩))
  go_returns
  exact ⟨_, rfl, hv, hb⟩
end Go.Proofs.YtffcacpffamjfaaDoor

namespace Go.Proofs.YtffcacpffamjfaaDoor
open Go.RowKit Go.Lib

theorem dig_toNat {r : Nat} (h : r < 10) : (UInt8.ofNat (48 + r)).toNat = 48 + r := by
  rw [UInt8.toNat_ofNat']; omega
theorem decDigits_ne (n : Nat) : 0 < (decDigits n).length := by
  by_cases h : n < 10
  · rw [decDigits_small h]; simp
  · rw [decDigits_big h]; simp
theorem decDigits_mono : ∀ (n m : Nat), m ≤ n → (decDigits m).length ≤ (decDigits n).length := by
  intro n
  induction n using Nat.strongRecOn with
  | _ n ih =>
    intro m hm
    by_cases h1 : m < 10
    · rw [decDigits_small h1]; exact decDigits_ne n
    · rw [decDigits_big h1, decDigits_big (show ¬ n < 10 by omega), List.length_append, List.length_append]
      exact Nat.add_le_add_right (ih (n / 10) (by omega) (m / 10) (by omega)) _
theorem decDigits_len_lt {n m : Nat} (h : (decDigits n).length < (decDigits m).length) : n < m := by
  rcases Nat.lt_or_ge n m with h1 | h1
  · exact h1
  · have := decDigits_mono n m h1; omega

def dgl (l : List UInt8) : List Nat := ((l.map (·.toNat)).map (· - 48)).reverse
theorem dgl_snoc (l : List UInt8) (b : UInt8) : dgl (l ++ [b]) = (b.toNat - 48) :: dgl l := by simp [dgl]
theorem dval_dgl : ∀ n : Nat, dval (dgl (decDigits n)) = n := by
  intro n
  induction n using Nat.strongRecOn with
  | _ n ih =>
    by_cases h : n < 10
    · rw [decDigits_small h]
      have := dgl_snoc [] (UInt8.ofNat (48 + n))
      rw [List.nil_append] at this
      rw [this, dig_toNat h]
      simp [dval, dgl]
    · rw [decDigits_big h, dgl_snoc, dval, ih (n / 10) (by omega), dig_toNat (Nat.mod_lt _ (by decide))]
      have := Nat.mod_add_div n 10
      omega
theorem decDigits_inj {n m : Nat} (h : decDigits n = decDigits m) : n = m := by
  rw [← dval_dgl n, h, dval_dgl m]

theorem less_snoc : ∀ (x y : List UInt8) (a b : UInt8), x.length = y.length → Op.bytesLess (x ++ [a]) (y ++ [b]) = (Op.bytesLess x y || (x == y && decide (a < b))) := by
  intro x
  induction x with
  | nil =>
    intro y a b h
    obtain rfl : y = [] := List.eq_nil_of_length_eq_zero h.symm
    simp [Op.bytesLess]
  | cons c x ih =>
    intro y a b h
    cases y with
    | nil => simp at h
    | cons d y =>
      have := ih y a b (by simpa using h)
      have e : ((c :: x) == (d :: y)) = (c == d && x == y) := rfl
      simp only [List.cons_append, Op.bytesLess, this]
      rw [e]
      generalize (c == d) = q
      cases q <;> simp [Bool.or_assoc]
theorem dig_lt {r s : Nat} (hr : r < 10) (hs : s < 10) : decide (UInt8.ofNat (48 + r) < UInt8.ofNat (48 + s)) = decide (r < s) := by
  have h1 := dig_toNat hr
  have h2 := dig_toNat hs
  rw [decide_eq_decide, UInt8.lt_iff_toNat_lt, h1, h2]
  omega
theorem decDigits_less : ∀ (n m : Nat), (decDigits n).length = (decDigits m).length → Op.bytesLess (decDigits n) (decDigits m) = decide (n < m) := by
  intro n
  induction n using Nat.strongRecOn with
  | _ n ih =>
    intro m h
    by_cases h1 : n < 10
    · by_cases h2 : m < 10
      · rw [decDigits_small h1, decDigits_small h2, ← dig_lt h1 h2]
        simp [Op.bytesLess]
      · rw [decDigits_small h1, decDigits_big h2] at h
        have := decDigits_ne (m / 10)
        simp at h
        rw [h] at this
        simp at this
    · by_cases h2 : m < 10
      · rw [decDigits_big h1, decDigits_small h2] at h
        have := decDigits_ne (n / 10)
        simp at h
        rw [h] at this
        simp at this
      · have hl : (decDigits (n / 10)).length = (decDigits (m / 10)).length := by
          rw [decDigits_big h1, decDigits_big h2] at h
          simpa using h
        rw [decDigits_big h1, decDigits_big h2, less_snoc _ _ _ _ hl, ih (n / 10) (by omega) (m / 10) hl, dig_lt (Nat.mod_lt _ (by decide)) (Nat.mod_lt _ (by decide))]
        by_cases h3 : n / 10 = m / 10
        · rw [h3]
          by_cases h4 : n % 10 < m % 10
          · have : n < m := by omega
            simp [h4, this]
          · have : ¬ n < m := by omega
            simp [h4, this]
        · have h5 : decDigits (n / 10) ≠ decDigits (m / 10) := fun e => h3 (decDigits_inj e)
          by_cases h4 : n / 10 < m / 10
          · have : n < m := by omega
            simp [h4, this]
          · have : ¬ n < m := by omega
            simp [h4, this, h5]

theorem decDigits_digs (n : Nat) : ∀ b ∈ decDigits n, 48 ≤ b.toNat ∧ b.toNat ≤ 57 := by
  induction n using Nat.strongRecOn with
  | _ n ih =>
    intro b hb
    by_cases h : n < 10
    · rw [decDigits_small h] at hb
      rw [List.mem_singleton.1 hb, dig_toNat h]; omega
    · rw [decDigits_big h] at hb
      rcases List.mem_append.1 hb with h1 | h1
      · exact ih (n / 10) (by omega) b h1
      · rw [List.mem_singleton.1 h1, dig_toNat (Nat.mod_lt _ (by decide))]
        have := Nat.mod_lt n (show 0 < 10 by decide)
        omega
theorem decDigits_head (n : Nat) (hn : 0 < n) : ((decDigits n).map (·.toNat)).getD 0 0 ≠ 48 := by
  induction n using Nat.strongRecOn with
  | _ n ih =>
    by_cases h : n < 10
    · rw [decDigits_small h]
      have := dig_toNat h
      simp only [List.map_cons, List.getD_cons_zero]
      omega
    · have h1 := ih (n / 10) (by omega) (by omega)
      have h2 := decDigits_ne (n / 10)
      rw [decDigits_big h, List.map_append]
      rw [List.getD_eq_getElem?_getD, List.getElem?_append_left (by simpa using h2), ← List.getD_eq_getElem?_getD]
      exact h1

def dtext (n : Nat) : ByteArray := ⟨(decDigits n).toArray⟩
theorem dtext_bt (n : Nat) : bt (dtext n) = (decDigits n).map (·.toNat) := by simp [bt, dtext]
theorem dtext_size (n : Nat) : (dtext n).size = (decDigits n).length := by rw [← bt_length, dtext_bt, List.length_map]
theorem dtext_isDec (n : Nat) : isDec (bt (dtext n)) := by
  rw [dtext_bt]
  refine ⟨fun k hk => ?_, ?_⟩
  · rw [List.length_map] at hk
    have := decDigits_digs n _ (List.getElem_mem hk)
    rw [List.getD_eq_getElem?_getD, List.getElem?_map, List.getElem?_eq_getElem hk]
    exact this
  · rcases Nat.eq_zero_or_pos n with rfl | hn
    · left; rw [decDigits_small (by decide)]; decide
    · right
      exact ⟨fun e => by have := decDigits_ne n; rw [List.map_eq_nil_iff] at e; rw [e] at this; simp at this, decDigits_head n hn⟩
theorem dtext_val (n : Nat) : dval (dg (dtext n)) = n := by
  rw [dg, dtext_bt]
  exact dval_dgl n
theorem dtext_toList (n : Nat) : (dtext n).toList = decDigits n := by
  rw [ByteArray.toList_eq]; simp [dtext]
end Go.Proofs.YtffcacpffamjfaaDoor

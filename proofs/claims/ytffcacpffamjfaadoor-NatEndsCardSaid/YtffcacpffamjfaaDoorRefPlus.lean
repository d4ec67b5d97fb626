/- Contract of whetstoneref01.Of: the row of a decimal text, by the document. Texts of at most 100000 bytes. Contract of whetstoneref01.plus: the decimal digits of the sum, without noughts behind; at most 100000 digits each. -/
import Derived.Test.YtffcacpffamjfaaDoorOf
namespace Go.Proofs.YtffcacpffamjfaaDoor
open Go.RowKit

theorem info_u8 : (Tryd.prog.info? 5).map (fun i => (i.zero, i.size, i.bytes)) = some (some (.int .u8 0), 1, 1) := by kernel_rfl

/-- The empty text, and one with a 0 ahead of others. -/
theorem refOf_head {s : ByteArray} (w : World) (h : s.size = 0 ∨ 1 < s.size ∧ (bt s).getD 0 0 = 48) :
    Calls Tryd.prog 26 #[.string s] w fun e w' => e = .returned (.tuple #[.slice none 0 0, .bool false]) ∧ w = w' := by
  rcases h with h | ⟨h1, h2⟩
  · have ht : ((s.size : Int) == 0) = true := by rw [h]; rfl
    have H := Lib.hid h
    clear h
    go_enter Tryd.func26, Tryd.ntmps26
    go_wp2
    go_returns
    exact ⟨rfl, rfl⟩
  · have h0 := bt_at s 0 (by omega)
    rw [h2] at h0
    have hp : 0 < s.size := by omega
    have hz : ((s.size : Int) == 0) = false := by rw [beq_eq_false_iff_ne]; omega
    clear h2
    go_enter Tryd.func26, Tryd.ntmps26
    go_wp2
    go_returns
    exact ⟨rfl, rfl⟩

theorem own_zeros8 {w : World} {B n : Nat} {v : Value} (h : w.ownsRow B 5 1 v n (madeCells #[Value.int .u8 0] n).toList) : Own w B 5 v (u8s (List.replicate n 0)) := by
  rw [toList_madeCells_one, show List.replicate n (Value.int .u8 0) = u8s (List.replicate n 0) from by simp [u8s]] at h
  exact Own.mk_ h
theorem own_set8 {w : World} {B g n c : Nat} {ds : List Nat} (h : Own w B 5 (.slice (some ⟨g, 0, none⟩) n c) (u8s ds)) (k d : Nat) :
    Own (w.setCell ⟨g, k, none⟩ (.int .u8 (d : Int))) B 5 (.slice (some ⟨g, 0, none⟩) n c) (u8s (ds.set k d)) := by
  have hn := h.lt.1
  have hh : w.ownsRow B 5 1 (.slice (some ⟨g, 0, none⟩) n c) n (u8s ds) := by rw [hn]; rw [hn] at h; exact h
  have := (hh.stored k (.int .u8 (d : Int))).1
  rw [show (u8s ds).set k (.int .u8 (d : Int)) = u8s (ds.set k d) from by simp [u8s, List.map_set]] at this
  exact Own.mk_ this

theorem set_drop {ds es : List Nat} {n q : Nat} (hd : ds.length = n) (he : es.length = n) (hq : q < n) (h : ds.drop (q + 1) = es.drop (q + 1)) : (ds.set q (es.getD q 0)).drop q = es.drop q := by
  have hl : q < (ds.set q (es.getD q 0)).length := by rw [List.length_set]; omega
  rw [List.drop_eq_getElem_cons hl, List.drop_eq_getElem_cons (show q < es.length by omega)]
  congr 1
  · simp [List.getD_eq_getElem?_getD, List.getElem?_eq_getElem (show q < es.length by omega)]
  · rw [List.drop_set_of_lt (by omega), h]

def RefOfRet (s : ByteArray) (w : World) (e : Ending) (w' : World) : Prop := (¬ digs (bt s) → e = .returned (.tuple #[.slice none 0 0, .bool false])) ∧ (digs (bt s) → ∃ v, e = .returned (.tuple #[v, .bool true]) ∧ IsNat w' w.heap.size v (dval (dg s))) ∧ Below w.heap.size w w'

set_option maxRecDepth 100000 in
set_option maxHeartbeats 8000000 in
theorem refOf_body {s : ByteArray} (w : World) (hs : s.size ≤ 100000) (h0 : 0 < s.size) (h : s.size = 1 ∨ (bt s).getD 0 0 ≠ 48) :
    Calls Tryd.prog 26 #[.string s] w (RefOfRet s w) := by
  obtain ⟨i0, hi, hz0, hz1, hz2⟩ := info_parts info_u8
  have hz : ((s.size : Int) == 0) = false := by rw [beq_eq_false_iff_ne]; omega
  have hb0 := bt_at s 0 h0
  obtain ⟨x0, hx0⟩ : ∃ x, x = (bt s).getD 0 0 := ⟨_, rfl⟩
  rw [← hx0] at hb0 h
  have hgd : s.size ≤ 1 ∨ 1 < s.size ∧ ((x0 : Int) == 48) = false := by
    rcases Nat.lt_or_ge 1 s.size with h1 | h1
    · right; refine ⟨h1, ?_⟩; rw [beq_eq_false_iff_ne]; omega
    · exact .inl h1
  clear h hx0
  rcases hgd with hg | ⟨hg, hg2⟩
  all_goals
    go_enter Tryd.func26, Tryd.ntmps26
    go_wp2_with (at_make; refine wpList_make_full _ rfl _ _ 53 rfl w.heap.size 5 i0 (.int .u8 0) 1 Tryd.underlying53 hi hz0 hz1 .i64 .i64 (s.size : Int) (s.size : Int) s.size rfl rfl rfl rfl (by rw [hz2]; omega) (by unfold maxLen; omega) (Nat.le_refl _) ?_)
    intro w1 hown hgrow
    have ho1 := own_zeros8 hown
    have hb1 : Below w.heap.size w w1 := (Below.refl _ _).grown hgrow (Nat.le_refl _) (fun k h => by cases h)
    clear hown hgrow hb0
    go_wp2_with fail
    go_loopw [5] (fun i wr => ∃ (k : Nat) (ds : List Nat), k ≤ s.size ∧ i = .int .i64 (k : Int) ∧ Own wr w.heap.size 5 (.slice (some ⟨w.heap.size, 0, none⟩) s.size s.size) (u8s ds) ∧ Hid (ds.length = s.size ∧ ds.drop (s.size - k) = (dg s).drop (s.size - k) ∧ ∀ j, j < k → 48 ≤ (bt s).getD j 0 ∧ (bt s).getD j 0 ≤ 57) ∧ Below w.heap.size w wr)
      (fun i _ => s.size - (intOf i).toNat)
    case atStart => exact ⟨0, List.replicate s.size 0, Nat.zero_le _, rfl, ho1, ⟨by simp, by rw [List.drop_of_length_le (by simp), List.drop_of_length_le (by rw [dg_length]; omega)], fun j hj => absurd hj (by omega)⟩, hb1⟩
    case round =>
      obtain ⟨k, ds, hk, rfl, hown, HO, hb⟩ := hrel
      by_cases hlt : k < s.size
      · have hx := bt_at s k hlt
        obtain ⟨x, hxe⟩ : ∃ x, x = (bt s).getD k 0 := ⟨_, rfl⟩
        rw [← hxe] at hx
        have HX := Lib.hid hxe
        clear hxe
        by_cases hdg : 48 ≤ x ∧ x ≤ 57
        · obtain ⟨h2, h3⟩ := hdg
          obtain ⟨q, hq⟩ : ∃ q : Nat, (s.size : Int) - 1 - (k : Int) = (q : Int) := ⟨s.size - 1 - k, by omega⟩
          have hq1 : q < s.size := by omega
          have hqk : s.size - k = q + 1 := by omega
          have hqk2 : s.size - (k + 1) = q := by omega
          have hqk3 : s.size - 1 - q = k := by omega
          have HQ1 := Lib.hid hqk
          have HQ2 := Lib.hid hqk2
          have HQ3 := Lib.hid hqk3
          clear hqk hqk2 hqk3
          obtain ⟨hqc, hqf⟩ := own_cell hown (k := q) (by rw [u8s_length, HO.out.1]; omega)
          go_wp2
          go_roundw
          case rel =>
            refine ⟨k + 1, ds.set q (x - 48), by omega, by go_num, ?_, ⟨by rw [List.length_set]; exact HO.out.1, ?_, ?_⟩, hb.setCell (Nat.le_refl _) _⟩
            · have := own_set8 hown q (x - 48)
              rw [show ((x - 48 : Nat) : Int) = (x : Int) - 48 from by omega] at this
              exact this
            · have h4 := HO.out.2.1
              rw [HQ1.out] at h4
              rw [HQ2.out]
              have h5 : x - 48 = (dg s).getD q 0 := by rw [dg_at s q hq1, HQ3.out, ← HX.out]
              rw [h5]
              exact set_drop HO.out.1 (dg_length s) hq1 h4
            · intro j hj
              rcases Nat.lt_or_ge j k with h | h
              · exact HO.out.2.2 j h
              · have : j = k := by omega
                rw [this, ← HX.out]; exact ⟨h2, h3⟩
          case measure => first | (simp [intOf]; done) | (simp [intOf]; omega)
        · have hbad : ¬ digs (bt s) := fun hd => hdg (by have := hd k (by rw [bt_length]; exact hlt); rw [HX.out]; exact this)
          have HB := Lib.hid hbad
          clear hbad
          rcases Nat.lt_or_ge x 48 with h2 | h2
          · clear hdg
            go_wp2
            go_returns
            exact ⟨fun _ => rfl, fun h => absurd h HB.out, hb⟩
          · have h3 : 57 < x := by omega
            clear hdg
            go_wp2
            go_returns
            exact ⟨fun _ => rfl, fun h => absurd h HB.out, hb⟩
      · have hks : k = s.size := by omega
        have hds : ds = dg s := by
          have := HO.out.2.1
          rw [hks, Nat.sub_self] at this
          simpa using this
        have hdg : digs (bt s) := fun j hj => HO.out.2.2 j (by rw [bt_length] at hj; omega)
        have HDG := Lib.hid hdg
        have hln := HO.out.1
        have hd10 : small 10 ds := by rw [hds]; exact dg_small hdg
        have hr := hown.row8
        have htr := trim_any (c := s.size) hr (by omega) (by omega)
        rw [hln] at htr
        have HTR := Lib.hid htr
        have HDS := Lib.hid hds
        have hsl := Nat.le_trans (strip_length ds) (Nat.le_of_eq hln)
        have hs2 := hb.size
        clear hks hds hdg hln htr
        go_wp2_with fail
        refine HTR.out.mono ?_
        rintro e w' ⟨⟨rfl, hrt⟩, rfl⟩
        go_wp2_with fail
        refine (write_any hrt (strip_dright hd10).1 (by omega)).mono ?_
        rintro e w3 ⟨v, n, rfl, hov, hb3, hn1, hn2⟩
        go_wp2
        go_returns
        refine ⟨fun h => absurd HDG.out h, fun _ => ⟨_, rfl, ⟨_, chunks_right (strip_dright hd10) hn1 hn2, ?_, hov.mono hs2⟩⟩, hb.trans (hb3.mono hs2)⟩
        rw [chunks_all hn1, dval_strip, HDS.out]
end Go.Proofs.YtffcacpffamjfaaDoor

namespace Go.Proofs.YtffcacpffamjfaaDoor
open Go.RowKit

/-- A call that tells the decimal digits of n, without noughts behind, and changes nothing that was there. -/
def RetDec (w : World) (n : Nat) (e : Ending) (w' : World) : Prop := ∃ A c ds, e = .returned (.slice A ds.length c) ∧ Row w' A (u8s ds) ∧ ds.length ≤ c ∧ dright ds ∧ dval ds = n ∧ Below w.heap.size w w'

theorem dval_take_succ (ds : List Nat) (k : Nat) : dval (ds.take (k + 1)) = dval (ds.take k) + 10 ^ k * ds.getD k 0 := by
  rcases Nat.lt_or_ge k ds.length with h | h
  · rw [List.take_add_one, List.getElem?_eq_getElem h, Option.toList_some, dval_append, List.length_take, Nat.min_eq_left (by omega), List.getD_eq_getElem?_getD, List.getElem?_eq_getElem h]
    simp [dval]
  · rw [List.take_of_length_le h, List.take_of_length_le (by omega), List.getD_eq_getElem?_getD, List.getElem?_eq_none h]; simp
theorem dsum_step {out xs ys : List Nat} {k cy x y : Nat} (hx : xs.getD k 0 = x) (hy : ys.getD k 0 = y) (hlen : out.length = k) (hval : dval out + 10 ^ k * cy = dval (xs.take k) + dval (ys.take k)) :
    dval (out ++ [(cy + x + y) % 10]) + 10 ^ (k + 1) * ((cy + x + y) / 10) = dval (xs.take (k + 1)) + dval (ys.take (k + 1)) := by
  rw [dval_append, dval_take_succ, dval_take_succ, hlen, hx, hy, Nat.pow_succ, Nat.mul_assoc]
  simp only [dval, Nat.mul_zero, Nat.add_zero]
  have h2 := Nat.mod_add_div (cy + x + y) 10
  have h3 : 10 ^ k * (cy + x + y) = 10 ^ k * ((cy + x + y) % 10) + 10 ^ k * (10 * ((cy + x + y) / 10)) := by rw [← Nat.mul_add, h2]
  rw [Nat.mul_add, Nat.mul_add] at h3
  omega
theorem own_app8 {w : World} {B n : Nat} {v : Value} {ds : List Nat} {d : Nat} (h : w.ownsRow B 5 1 v n (u8s ds ++ [.int .u8 (d : Int)])) : Own w B 5 v (u8s (ds ++ [d])) := by
  rw [← u8s_snoc]; exact Own.mk_ h
theorem getD_out {ds : List Nat} {k : Nat} (h : ¬ k < ds.length) : ds.getD k 0 = 0 := by
  rw [List.getD_eq_getElem?_getD, List.getElem?_eq_none (by omega)]; rfl

set_option maxRecDepth 100000 in
set_option maxHeartbeats 16000000 in
theorem refPlus {w : World} {A1 A2 : Option Addr} {c1 c2 : Nat} {xs ys : List Nat} (hr1 : Row w A1 (u8s xs)) (hr2 : Row w A2 (u8s ys)) (hx : small 10 xs) (hy : small 10 ys) (hl1 : xs.length ≤ 100000) (hl2 : ys.length ≤ 100000) :
    Calls Tryd.prog 56 #[.slice A1 xs.length c1, .slice A2 ys.length c2] w (RetDec w (dval xs + dval ys)) := by
  obtain ⟨i0, hi, hz0, hz1, hz2⟩ := info_parts info_u8
  obtain ⟨B, hB⟩ : ∃ B, B = w.heap.size := ⟨_, rfl⟩
  have HB := Lib.hid hB
  clear hB
  obtain ⟨n, hn⟩ : ∃ n : Nat, n = xs.length := ⟨_, rfl⟩
  obtain ⟨m, hm⟩ : ∃ m : Nat, m = ys.length := ⟨_, rfl⟩
  have hn1 : n ≤ 100000 := by omega
  have hm1 : m ≤ 100000 := by omega
  rw [← hn, ← hm]
  have HN := Lib.hid hn
  have HM := Lib.hid hm
  clear hn hm
  go_enter Tryd.func56, Tryd.ntmps56
  go_wp2
  go_loopw [5, 6, 7] (fun v cv iv wr => ∃ (k cy : Nat) (out : List Nat), k ≤ n + m + 1 ∧ (k ≤ n ∨ k ≤ m ∨ cy = 0) ∧ iv = .int .i64 (k : Int) ∧ cv = .int .u8 (cy : Int) ∧ cy ≤ 1 ∧ Own wr B 5 v (u8s out) ∧ Hid (out.length = k ∧ small 10 out ∧ dval out + 10 ^ k * cy = dval (xs.take k) + dval (ys.take k)) ∧ Below w.heap.size w wr)
    (fun _ _ iv _ => n + m + 2 - (intOf iv).toNat)
  case atStart => exact ⟨0, 0, [], Nat.zero_le _, .inl (Nat.zero_le _), rfl, rfl, by omega, Own.nil _ _ _, ⟨rfl, small_nil _, by simp [dval]⟩, Below.refl _ _⟩
  case round =>
    obtain ⟨k, cy, out, hk, hkk, rfl, rfl, hcy, hout, HO, hb⟩ := hrel
    have hsz := hb.size
    have hkn : k ≤ 300000 := by omega
    by_cases hgo : k < n ∨ k < m ∨ 0 < cy
    · have hx1 : ∃ x : Nat, x < 10 ∧ Hid (xs.getD k 0 = x) ∧ (k < n → ∃ ad, A1 = some ad ∧ wr.cell? (ad.add k) = some (.int .u8 (x : Int))) ∧ (¬ k < n → x = 0) := by
        by_cases h : k < n
        · obtain ⟨ad, x, e, hc, hxx, hm⟩ := (hr1.below hb).byte (k := k) (by rw [← HN.out]; exact h)
          exact ⟨x, hx x hm, hxx, fun _ => ⟨ad, e, hc⟩, fun h' => absurd h h'⟩
        · exact ⟨0, by omega, getD_out (by rw [← HN.out]; exact h), fun h' => absurd h' h, fun _ => rfl⟩
      have hy1 : ∃ y : Nat, y < 10 ∧ Hid (ys.getD k 0 = y) ∧ (k < m → ∃ ad, A2 = some ad ∧ wr.cell? (ad.add k) = some (.int .u8 (y : Int))) ∧ (¬ k < m → y = 0) := by
        by_cases h : k < m
        · obtain ⟨ad, y, e, hc, hyy, hm⟩ := (hr2.below hb).byte (k := k) (by rw [← HM.out]; exact h)
          exact ⟨y, hy y hm, hyy, fun _ => ⟨ad, e, hc⟩, fun h' => absurd h h'⟩
        · exact ⟨0, by omega, getD_out (by rw [← HM.out]; exact h), fun h' => absurd h' h, fun _ => rfl⟩
      obtain ⟨x, hx10, HX, hxc, hx0⟩ := hx1
      obtain ⟨y, hy10, HY, hyc, hy0⟩ := hy1
      have hkle : k + 1 ≤ n + m + 1 := by omega
      have hkor : k + 1 ≤ n ∨ k + 1 ≤ m ∨ (cy + x + y) / 10 = 0 := by
        by_cases h : k < n
        · exact .inl h
        · by_cases h' : k < m
          · exact .inr (.inl h')
          · right; right; rw [hx0 h, hy0 h']; omega
      have HK := Lib.hid hkor
      clear hkor hkk
      by_cases ha : k < n
      · obtain ⟨ad1, rfl, hc1⟩ := hxc ha
        clear hx0 hgo
        by_cases hbb : k < m
        · obtain ⟨ad2, rfl, hc2⟩ := hyc hbb
          clear hy0 hxc hyc
          go_wp2_with (at_builtin; refine wpList_append_own _ rfl _ _ 53 rfl B 5 i0 (.int .u8 0) 1 1 Tryd.underlying53 hi hz0 hz1 hz2 rfl (by decide) _ _ _ rfl (hout.alloc _) ⟨wr.heap.size, 0, none⟩ 1 1 [.int .u8 (((cy + x + y) % 10 : Nat) : Int)] rfl rfl (one_news (int_eq (by omega))) one_cell (by rw [u8s_length, HO.out.1]; unfold maxLen; omega) (by rw [u8s_length, HO.out.1]; omega) (by rw [HB.out]; simp; omega) ?_)
          intro v' w2 hown' hgrow' _
          have ho2 := own_app8 hown'
          have hb2 := below_app hb hout HB hgrow'
          clear hown' hgrow' hout hb hc1 hc2
          go_wp2
          go_roundw
          case rel => exact ⟨k + 1, (cy + x + y) / 10, _, by omega, HK.out, by go_num, by go_num, by omega, ho2, ⟨by rw [List.length_append, HO.out.1]; rfl, small_snoc HO.out.2.1 (Nat.mod_lt _ (by decide)), dsum_step HX.out HY.out HO.out.1 HO.out.2.2⟩, hb2⟩
          case measure => first | (simp [intOf]; done) | (simp [intOf]; omega)
        · obtain rfl : y = 0 := hy0 hbb
          clear hxc hyc
          go_wp2_with (at_builtin; refine wpList_append_own _ rfl _ _ 53 rfl B 5 i0 (.int .u8 0) 1 1 Tryd.underlying53 hi hz0 hz1 hz2 rfl (by decide) _ _ _ rfl (hout.alloc _) ⟨wr.heap.size, 0, none⟩ 1 1 [.int .u8 (((cy + x + 0) % 10 : Nat) : Int)] rfl rfl (one_news (int_eq (by omega))) one_cell (by rw [u8s_length, HO.out.1]; unfold maxLen; omega) (by rw [u8s_length, HO.out.1]; omega) (by rw [HB.out]; simp; omega) ?_)
          intro v' w2 hown' hgrow' _
          have ho2 := own_app8 hown'
          have hb2 := below_app hb hout HB hgrow'
          clear hown' hgrow' hout hb
          go_wp2
          go_roundw
          case rel => exact ⟨k + 1, (cy + x + 0) / 10, _, by omega, HK.out, by go_num, by go_num, by omega, ho2, ⟨by rw [List.length_append, HO.out.1]; rfl, small_snoc HO.out.2.1 (Nat.mod_lt _ (by decide)), dsum_step HX.out HY.out HO.out.1 HO.out.2.2⟩, hb2⟩
          case measure => first | (simp [intOf]; done) | (simp [intOf]; omega)
      · obtain rfl : x = 0 := hx0 ha
        clear hxc
        by_cases hbb : k < m
        · obtain ⟨ad2, rfl, hc2⟩ := hyc hbb
          clear hy0 hyc hgo
          go_wp2_with (at_builtin; refine wpList_append_own _ rfl _ _ 53 rfl B 5 i0 (.int .u8 0) 1 1 Tryd.underlying53 hi hz0 hz1 hz2 rfl (by decide) _ _ _ rfl (hout.alloc _) ⟨wr.heap.size, 0, none⟩ 1 1 [.int .u8 (((cy + 0 + y) % 10 : Nat) : Int)] rfl rfl (one_news (int_eq (by omega))) one_cell (by rw [u8s_length, HO.out.1]; unfold maxLen; omega) (by rw [u8s_length, HO.out.1]; omega) (by rw [HB.out]; simp; omega) ?_)
          intro v' w2 hown' hgrow' _
          have ho2 := own_app8 hown'
          have hb2 := below_app hb hout HB hgrow'
          clear hown' hgrow' hout hb
          go_wp2
          go_roundw
          case rel => exact ⟨k + 1, (cy + 0 + y) / 10, _, by omega, HK.out, by go_num, by go_num, by omega, ho2, ⟨by rw [List.length_append, HO.out.1]; rfl, small_snoc HO.out.2.1 (Nat.mod_lt _ (by decide)), dsum_step HX.out HY.out HO.out.1 HO.out.2.2⟩, hb2⟩
          case measure => first | (simp [intOf]; done) | (simp [intOf]; omega)
        · obtain rfl : y = 0 := hy0 hbb
          have hcp : 0 < cy := by omega
          clear hyc hgo hx0 hy0
          go_wp2_with (at_builtin; refine wpList_append_own _ rfl _ _ 53 rfl B 5 i0 (.int .u8 0) 1 1 Tryd.underlying53 hi hz0 hz1 hz2 rfl (by decide) _ _ _ rfl (hout.alloc _) ⟨wr.heap.size, 0, none⟩ 1 1 [.int .u8 (((cy + 0 + 0) % 10 : Nat) : Int)] rfl rfl (one_news (int_eq (by omega))) one_cell (by rw [u8s_length, HO.out.1]; unfold maxLen; omega) (by rw [u8s_length, HO.out.1]; omega) (by rw [HB.out]; simp; omega) ?_)
          intro v' w2 hown' hgrow' _
          have ho2 := own_app8 hown'
          have hb2 := below_app hb hout HB hgrow'
          clear hown' hgrow' hout hb
          go_wp2
          go_roundw
          case rel => exact ⟨k + 1, (cy + 0 + 0) / 10, _, by omega, HK.out, by go_num, by go_num, by omega, ho2, ⟨by rw [List.length_append, HO.out.1]; rfl, small_snoc HO.out.2.1 (Nat.mod_lt _ (by decide)), dsum_step HX.out HY.out HO.out.1 HO.out.2.2⟩, hb2⟩
          case measure => first | (simp [intOf]; done) | (simp [intOf]; omega)
    · have hcy0 : cy = 0 := by omega
      have hkn2 : n ≤ k := by omega
      have hkm2 : m ≤ k := by omega
      have hw : k ≤ 200001 := by omega
      have HV : Hid (dval out = dval xs + dval ys) := by
        have := HO.out.2.2
        rw [hcy0, Nat.mul_zero, Nat.add_zero, List.take_of_length_le (by rw [← HN.out]; exact hkn2), List.take_of_length_le (by rw [← HM.out]; exact hkm2)] at this
        exact this
      subst hcy0
      obtain ⟨A3, c3, rfl, hr3, hlc, _⟩ := hout.slice8
      have hol : out.length ≤ 1000000 := by rw [HO.out.1]; omega
      have htr := trim_any (c := c3) hr3 hol hlc
      have HTR := Lib.hid htr
      have hsl := Nat.le_trans (strip_length out) hlc
      clear htr hgo hkk
      go_wp2_with fail
      refine HTR.out.mono ?_
      rintro e w' ⟨⟨rfl, hrt⟩, rfl⟩
      go_wp2
      go_ret
      exact ⟨_, _, _, rfl, hrt, hsl, strip_dright HO.out.2.1, by rw [dval_strip]; exact HV.out, hb⟩
end Go.Proofs.YtffcacpffamjfaaDoor

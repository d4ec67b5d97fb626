/- Contract of whetstoneref01.Of: the row of a decimal text, by the document. Texts of at most 100000 bytes. -/
import Derived.Test.YtbjcddfoajgebaaDoorOf
namespace Go.Proofs.YtbjcddfoajgebaaDoor
open Go.RowKit

theorem info_u8 : (Tryd.prog.info? 5).map (fun i => (i.zero, i.size, i.bytes)) = some (some (.int .u8 0), 1, 1) := by kernel_rfl

/-- The empty text, and one with a 0 ahead of others. -/
theorem refOf_head {s : ByteArray} (w : World) (h : s.size = 0 ∨ 1 < s.size ∧ (bt s).getD 0 0 = 48) :
    Calls Tryd.prog 33 #[.string s] w fun e w' => e = .returned (.tuple #[.slice none 0 0, .bool false]) ∧ w = w' := by
  rcases h with h | ⟨h1, h2⟩
  · have ht : ((s.size : Int) == 0) = true := by rw [h]; rfl
    have H := Lib.hid h
    clear h
    go_enter Tryd.func33, Tryd.ntmps33
    go_wp2
    go_returns
    exact ⟨rfl, rfl⟩
  · have h0 := bt_at s 0 (by omega)
    rw [h2] at h0
    have hp : 0 < s.size := by omega
    have hz : ((s.size : Int) == 0) = false := by rw [beq_eq_false_iff_ne]; omega
    clear h2
    go_enter Tryd.func33, Tryd.ntmps33
    go_wp2
    go_returns
    exact ⟨rfl, rfl⟩

theorem own_zeros8 {w : World} {B n : Nat} {v : Value} (h : w.ownsRow B 5 1 v n (madeCells #[Value.int .u8 0] n).toList) : Own w B 5 v (u8s (List.replicate n 0)) := by
  rw [toList_madeCells_one, show List.replicate n (Value.int .u8 0) = u8s (List.replicate n 0) from by simp [u8s]] at h
  exact Own.mk_ h
theorem own_set8 {w : World} {B g n c : Nat} {ds : List Nat} (h : Own w B 5 (.slice (some ⟨g, 0, none⟩) n c) (u8s ds)) (k d : Nat) :
    Own (w.setCell ⟨g, k, none⟩ (.int .u8 (d : Int))) B 5 (.slice (some ⟨g, 0, none⟩) n c) (u8s (ds.set k d)) := by
  have hn := h.lt.1
  have hh : w.ownsRow B 5 1 (.slice (some ⟨g, 0, none⟩) n c) n (u8s ds) := by rw [hn]; rw [hn] at h; exact h
  have := (hh.stored k (.int .u8 (d : Int))).1
  rw [show (u8s ds).set k (.int .u8 (d : Int)) = u8s (ds.set k d) from by simp [u8s, List.map_set]] at this
  exact Own.mk_ this

theorem set_drop {ds es : List Nat} {n q : Nat} (hd : ds.length = n) (he : es.length = n) (hq : q < n) (h : ds.drop (q + 1) = es.drop (q + 1)) : (ds.set q (es.getD q 0)).drop q = es.drop q := by
  have hl : q < (ds.set q (es.getD q 0)).length := by rw [List.length_set]; omega
  rw [List.drop_eq_getElem_cons hl, List.drop_eq_getElem_cons (show q < es.length by omega)]
  congr 1
  · simp [List.getD_eq_getElem?_getD, List.getElem?_eq_getElem (show q < es.length by omega)]
  · rw [List.drop_set_of_lt (by omega), h]

def RefOfRet (s : ByteArray) (w : World) (e : Ending) (w' : World) : Prop := (¬ digs (bt s) → e = .returned (.tuple #[.slice none 0 0, .bool false])) ∧ (digs (bt s) → ∃ v, e = .returned (.tuple #[v, .bool true]) ∧ IsNat w' w.heap.size v (dval (dg s))) ∧ Below w.heap.size w w'

set_option maxRecDepth 100000 in
set_option maxHeartbeats 8000000 in
theorem refOf_body {s : ByteArray} (w : World) (hs : s.size ≤ 100000) (h0 : 0 < s.size) (h : s.size = 1 ∨ (bt s).getD 0 0 ≠ 48) :
    Calls Tryd.prog 33 #[.string s] w (RefOfRet s w) := by
  obtain ⟨i0, hi, hz0, hz1, hz2⟩ := info_parts info_u8
  have hz : ((s.size : Int) == 0) = false := by rw [beq_eq_false_iff_ne]; omega
  have hb0 := bt_at s 0 h0
  obtain ⟨x0, hx0⟩ : ∃ x, x = (bt s).getD 0 0 := ⟨_, rfl⟩
  rw [← hx0] at hb0 h
  have hgd : s.size ≤ 1 ∨ 1 < s.size ∧ ((x0 : Int) == 48) = false := by
    rcases Nat.lt_or_ge 1 s.size with h1 | h1
    · right; refine ⟨h1, ?_⟩; rw [beq_eq_false_iff_ne]; omega
    · exact .inl h1
  clear h hx0
  rcases hgd with hg | ⟨hg, hg2⟩
  all_goals
    go_enter Tryd.func33, Tryd.ntmps33
    go_wp2_with (at_make; refine wpList_make_full _ rfl _ _ 75 rfl w.heap.size 5 i0 (.int .u8 0) 1 Tryd.underlying75 hi hz0 hz1 .i64 .i64 (s.size : Int) (s.size : Int) s.size rfl rfl rfl rfl (by rw [hz2]; omega) (by unfold maxLen; omega) (Nat.le_refl _) ?_)
    intro w1 hown hgrow
    have ho1 := own_zeros8 hown
    have hb1 : Below w.heap.size w w1 := (Below.refl _ _).grown hgrow (Nat.le_refl _) (fun k h => by cases h)
    clear hown hgrow hb0
    go_wp2_with fail
    go_loopw [5] (fun i wr => ∃ (k : Nat) (ds : List Nat), k ≤ s.size ∧ i = .int .i64 (k : Int) ∧ Own wr w.heap.size 5 (.slice (some ⟨w.heap.size, 0, none⟩) s.size s.size) (u8s ds) ∧ Hid (ds.length = s.size ∧ ds.drop (s.size - k) = (dg s).drop (s.size - k) ∧ ∀ j, j < k → 48 ≤ (bt s).getD j 0 ∧ (bt s).getD j 0 ≤ 57) ∧ Below w.heap.size w wr)
      (fun i _ => s.size - (intOf i).toNat)
    case atStart => exact ⟨0, List.replicate s.size 0, Nat.zero_le _, rfl, ho1, ⟨by simp, by rw [List.drop_of_length_le (by simp), List.drop_of_length_le (by rw [dg_length]; omega)], fun j hj => absurd hj (by omega)⟩, hb1⟩
    case round =>
      obtain ⟨k, ds, hk, rfl, hown, HO, hb⟩ := hrel
      by_cases hlt : k < s.size
      · have hx := bt_at s k hlt
        obtain ⟨x, hxe⟩ : ∃ x, x = (bt s).getD k 0 := ⟨_, rfl⟩
        rw [← hxe] at hx
        have HX := Lib.hid hxe
        clear hxe
        by_cases hdg : 48 ≤ x ∧ x ≤ 57
        · obtain ⟨h2, h3⟩ := hdg
          obtain ⟨q, hq⟩ : ∃ q : Nat, (s.size : Int) - 1 - (k : Int) = (q : Int) := ⟨s.size - 1 - k, by omega⟩
          have hq1 : q < s.size := by omega
          have hqk : s.size - k = q + 1 := by omega
          have hqk2 : s.size - (k + 1) = q := by omega
          have hqk3 : s.size - 1 - q = k := by omega
          have HQ1 := Lib.hid hqk
          have HQ2 := Lib.hid hqk2
          have HQ3 := Lib.hid hqk3
          clear hqk hqk2 hqk3
          obtain ⟨hqc, hqf⟩ := own_cell hown (k := q) (by rw [u8s_length, HO.out.1]; omega)
          go_wp2
          go_roundw
          case rel =>
            refine ⟨k + 1, ds.set q (x - 48), by omega, by go_num, ?_, ⟨by rw [List.length_set]; exact HO.out.1, ?_, ?_⟩, hb.setCell (Nat.le_refl _) _⟩
            · have := own_set8 hown q (x - 48)
              rw [show ((x - 48 : Nat) : Int) = (x : Int) - 48 from by omega] at this
              exact this
            · have h4 := HO.out.2.1
              rw [HQ1.out] at h4
              rw [HQ2.out]
              have h5 : x - 48 = (dg s).getD q 0 := by rw [dg_at s q hq1, HQ3.out, ← HX.out]
              rw [h5]
              exact set_drop HO.out.1 (dg_length s) hq1 h4
            · intro j hj
              rcases Nat.lt_or_ge j k with h | h
              · exact HO.out.2.2 j h
              · have : j = k := by omega
                rw [this, ← HX.out]; exact ⟨h2, h3⟩
          case measure => first | (simp [intOf]; done) | (simp [intOf]; omega)
        · have hbad : ¬ digs (bt s) := fun hd => hdg (by have := hd k (by rw [bt_length]; exact hlt); rw [HX.out]; exact this)
          have HB := Lib.hid hbad
          clear hbad
          rcases Nat.lt_or_ge x 48 with h2 | h2
          · clear hdg
            go_wp2
            go_returns
            exact ⟨fun _ => rfl, fun h => absurd h HB.out, hb⟩
          · have h3 : 57 < x := by omega
            clear hdg
            go_wp2
            go_returns
            exact ⟨fun _ => rfl, fun h => absurd h HB.out, hb⟩
      · have hks : k = s.size := by omega
        have hds : ds = dg s := by
          have := HO.out.2.1
          rw [hks, Nat.sub_self] at this
          simpa using this
        have hdg : digs (bt s) := fun j hj => HO.out.2.2 j (by rw [bt_length] at hj; omega)
        have HDG := Lib.hid hdg
        have hln := HO.out.1
        have hd10 : small 10 ds := by rw [hds]; exact dg_small hdg
        have hr := hown.row8
        have htr := trim_any (c := s.size) hr (by omega) (by omega)
        rw [hln] at htr
        have HTR := Lib.hid htr
        have HDS := Lib.hid hds
        have hsl := Nat.le_trans (strip_length ds) (Nat.le_of_eq hln)
        have hs2 := hb.size
        clear hks hds hdg hln htr
        go_wp2_with fail
        refine HTR.out.mono ?_
        rintro e w' ⟨⟨rfl, hrt⟩, rfl⟩
        go_wp2_with fail
        refine (write_any hrt (strip_dright hd10).1 (by omega)).mono ?_
        rintro e w3 ⟨v, n, rfl, hov, hb3, hn1, hn2⟩
        go_wp2
        go_returns
        refine ⟨fun h => absurd HDG.out h, fun _ => ⟨_, rfl, ⟨_, chunks_right (strip_dright hd10) hn1 hn2, ?_, hov.mono hs2⟩⟩, hb.trans (hb3.mono hs2)⟩
        rw [chunks_all hn1, dval_strip, HDS.out]
end Go.Proofs.YtbjcddfoajgebaaDoor

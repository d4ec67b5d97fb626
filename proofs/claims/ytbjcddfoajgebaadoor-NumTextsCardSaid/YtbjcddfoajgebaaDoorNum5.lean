/- What nat.Of and whetstoneref01.Of tell of any text of at most 4000 bytes, in one form: a number, and whether the text is decimal. Contracts of the answer's Parse of stage 2. What num.Parse and the answer's Parse tell of any text of at most 4000 bytes, in one form. -/
import Derived.Test.YtbjcddfoajgebaaDoorNum4
import Derived.Test.YtbjcddfoajgebaaDoorRefOf
import Derived.Test.YtbjcddfoajgebaaDoorOf
import Derived.Test.YtbjcddfoajgebaaDoorNum2
import Derived.Test.YtbjcddfoajgebaaDoorNum6
import Derived.Test.YtbjcddfoajgebaaDoorShelf
namespace Go.Proofs.YtbjcddfoajgebaaDoor
open Go.RowKit

theorem both_of (s : ByteArray) (hs : s.size ≤ 4000) : ∃ (v N : Nat) (ok : Bool), N ≤ 445 ∧ v < 1000000000 ^ N ∧ (ok = false → v = 0) ∧
    (∀ W, Calls Tryd.prog 32 #[.string s] W (RetSB W v ok)) ∧ (∀ W, Calls Tryd.prog 33 #[.string s] W (RetSB W v ok)) := by
  by_cases hdec : isDec (bt s)
  · have h0 : 0 < s.size := by
      rw [← bt_length]
      rcases hdec.2 with h | h
      · rw [h]; decide
      · exact List.length_pos_iff.2 h.1
    have h1 : s.size = 1 ∨ (bt s).getD 0 0 ≠ 48 := by
      rcases hdec.2 with h | h
      · left; rw [← bt_length, h]; rfl
      · exact .inr h.2
    obtain ⟨M, hM⟩ : ∃ M, M = 445 := ⟨_, rfl⟩
    have hM4 : M ≤ 445 := Nat.le_of_eq hM
    have hlt : dval (dg s) < 1000000000 ^ M := by
      have h10 : (10 : Nat) ^ (dg s).length ≤ 10 ^ (9 * M) := Nat.pow_le_pow_right (by decide) (by rw [dg_length]; omega)
      rw [Nat.pow_mul] at h10
      exact Nat.lt_of_lt_of_le (dval_lt (dg_small hdec.1)) h10
    refine ⟨dval (dg s), M, true, hM4, hlt, (fun h => by cases h), fun W => ?_, fun W => ?_⟩
    · refine (of_yes (s := s) W (by omega) hdec).mono ?_
      rintro e w' ⟨v, rfl, hv, hb⟩
      have hr := rr_isNat hv hlt (by omega)
      obtain ⟨A, k, c, rfl⟩ := hr.shape
      exact ⟨A, k, c, rfl, hr, hb⟩
    · refine (refOf_body (s := s) W (by omega) h0 h1).mono ?_
      rintro e w' ⟨_, hy, hb⟩
      obtain ⟨v, rfl, hv⟩ := hy hdec.1
      have hr := rr_isNat hv hlt (by omega)
      obtain ⟨A, k, c, rfl⟩ := hr.shape
      exact ⟨A, k, c, rfl, hr, hb⟩
  · refine ⟨0, 0, false, Nat.zero_le _, Nat.lt_of_lt_of_eq Nat.zero_lt_one (Nat.pow_zero _).symm, fun _ => rfl, fun W => ?_, fun W => ?_⟩
    · exact (of_no (s := s) W (by omega) hdec).mono fun _ _ ⟨a, b⟩ => ⟨none, 0, 0, a, rr_nil _, b ▸ Below.refl _ _⟩
    · by_cases h0 : s.size = 0 ∨ 1 < s.size ∧ (bt s).getD 0 0 = 48
      · exact (refOf_head W h0).mono fun _ _ ⟨a, b⟩ => ⟨none, 0, 0, a, rr_nil _, b ▸ Below.refl _ _⟩
      · have hp : 0 < s.size := Nat.pos_of_ne_zero fun h => h0 (.inl h)
        have h1 : s.size = 1 ∨ (bt s).getD 0 0 ≠ 48 := by
          rcases Nat.lt_or_ge 1 s.size with h | h
          · exact .inr fun h2 => h0 (.inr ⟨h, h2⟩)
          · exact .inl (by omega)
        refine (refOf_body W (by omega) hp h1).mono fun e w' h => ?_
        have he := h.1 fun hd => hdec ⟨hd, ?_⟩
        · exact ⟨none, 0, 0, he, rr_nil _, h.2.2⟩
        rcases h1 with h1 | h1
        · by_cases h48 : (bt s).getD 0 0 = 48
          · left
            have hbl := bt_length s
            match hb : bt s with
            | [] => rw [hb] at hbl; simp at hbl; omega
            | [d] => rw [hb] at h48; simp at h48; rw [h48]
            | a :: b :: r => rw [hb] at hbl; simp at hbl; omega
          · exact .inr ⟨fun e => by have := bt_length s; rw [e] at this; simp at this; omega, h48⟩
        · exact .inr ⟨fun e => by have := bt_length s; rw [e] at this; simp at this; omega, h1⟩
end Go.Proofs.YtbjcddfoajgebaaDoor

namespace Go.Proofs.YtbjcddfoajgebaaDoor
open Go.RowKit

set_option maxRecDepth 100000 in
set_option maxHeartbeats 3200000 in
theorem ref2Parse_core {s t : ByteArray} {neg ok sb : Bool} {v N : Nat} (hs : s.size ≤ 4000)
    (hcase : (s.size = 0 ∧ neg = false ∧ t = s) ∨ (∃ h : 0 < s.size, ((s[0].toNat : Int) == 45) = neg ∧ t = if neg then s.extract 1 s.size else s))
    (hof : ∀ W, Calls Tryd.prog 33 #[.string t] W (RetSB W v ok)) (hv : v < 1000000000 ^ N) (hN : N ≤ 445) (hsb : sb = sgn v neg) (w : World) :
    Calls Tryd.prog 10 #[.string s] w (RetIntB w (if ok && (sb == neg) then v else 0) (ok && (sb == neg) && neg) (ok && (sb == neg))) := by
  have HO := Lib.hid hof
  have hzero : ∀ W : World, Calls Tryd.prog 13 #[.int .i64 0] W (RetInt W 0 false) := fun W => ref2Of_any (w := W) 0 0 (by decide) (by decide) rfl
  have HZ := Lib.hid hzero
  have hdig : ∀ (W : World) (A : Option Addr) (k c : Nat), Rr W (.slice A k c) v → (k : Int) = 0 ∧ v = 0 ∨ ((k : Int) == 0) = false ∧ v ≠ 0 := fun W A k c h => by
    have := (rr_len h).1
    by_cases hv0 : v = 0
    · exact .inl ⟨by have := this.2 hv0; omega, hv0⟩
    · exact .inr ⟨beq_eq_false_iff_ne.2 fun h1 => hv0 (this.1 (by omega)), hv0⟩
  have HD := Lib.hid hdig
  have hmake : ∀ (W : World) (A : Option Addr) (k c : Nat), Rr W (.slice A k c) v → Calls Tryd.prog 40 #[.bool neg, .slice A k c] W (RetInt W v sb) := fun W A k c h => by
    obtain ⟨xs, rfl, hr, hx, rfl, hl⟩ := rr_row h hv
    rw [hsb]
    exact ref2of_any neg hr (fun d hd => Nat.lt_trans (hx.1 d hd) (by decide)) (by omega) hv (by omega)
  have HM := Lib.hid hmake
  clear hof hzero hmake hdig hv hN
  have HSB := Lib.hid hsb
  clear hsb
  obtain ⟨W0, hW0⟩ : ∃ W0, W0 = w.alloc (Obj.cells #[Value.bool false, Value.slice none 0 0] 29) := ⟨_, rfl⟩
  have bW0 : Below w.heap.size w W0 := by rw [hW0]; exact bal (Below.refl _ _) _
  have K0 : Hid (W0.heap[w.heap.size]? = some (Obj.cells #[Value.bool false, Value.slice none 0 0] 29)) := by show _ = _; rw [hW0]; exact heap_alloc_new _ _
  have hs0 : w.heap.size < W0.heap.size := lt_block K0.out
  have HW0 := Lib.hid hW0
  have hfin : ∀ (w3 : World) (A3 : Option Addr) (k3 c3 n : Nat), Below W0.heap.size W0 w3 → Rr w3 (.slice A3 k3 c3) n → (∀ b' : Bool, ((w3.setCell ⟨w.heap.size, 0, none⟩ (.bool b')).setCell ⟨w.heap.size, 1, none⟩ (.slice A3 k3 c3)).cell? ⟨w.heap.size, 0, none⟩ = some (.bool b') ∧ ((w3.setCell ⟨w.heap.size, 0, none⟩ (.bool b')).setCell ⟨w.heap.size, 1, none⟩ (.slice A3 k3 c3)).cell? ⟨w.heap.size, 1, none⟩ = some (.slice A3 k3 c3) ∧ Rr ((w3.setCell ⟨w.heap.size, 0, none⟩ (.bool b')).setCell ⟨w.heap.size, 1, none⟩ (.slice A3 k3 c3)) (.slice A3 k3 c3) n) ∧ (w3.cell? ⟨w.heap.size, 0, none⟩ = some (.bool false) ∧ w3.cell? ⟨w.heap.size, 1, none⟩ = some (.slice none 0 0) ∧ w3.frozen? ⟨w.heap.size, 0, none⟩ = false ∧ w3.frozen? ⟨w.heap.size, 1, none⟩ = false) := fun w3 A3 k3 c3 n hb hr => by
    have k3' := (hb.block w.heap.size hs0).trans K0.out
    exact ⟨fun b' => two_stored k3' (fun d h => by cases h) (fun d h => by cases h) hr, cell_of_two k3'⟩
  have HFIN := Lib.hid hfin
  clear hW0 hfin
  have HC := Lib.hid hcase
  clear hcase
  obtain ⟨r, hr⟩ : ∃ r, r = if ok && (sb == neg) then v else 0 := ⟨_, rfl⟩
  obtain ⟨b', hb'⟩ : ∃ b', b' = (ok && (sb == neg) && neg) := ⟨_, rfl⟩
  obtain ⟨o', ho'⟩ : ∃ o', o' = (ok && (sb == neg)) := ⟨_, rfl⟩
  rw [← hr, ← hb', ← ho']
  have HR := Lib.hid hr
  have HB := Lib.hid hb'
  have HK := Lib.hid ho'
  clear hr hb' ho'
  go_enter Tryd.func10, Tryd.ntmps10
  go_wp2_with fail
  all_goals rw [← HW0.out]
  · rename_i q1 q2 _ _ _ _
    have hnt : neg = true ∧ t = s.extract 1 s.size := by
      rcases HC.out with ⟨h0, _⟩ | ⟨_, hq, ht⟩
      · omega
      · have e : neg = true := hq ▸ q2
        subst e
        exact ⟨rfl, ht⟩
    obtain ⟨rfl, rfl⟩ := hnt
    clear HC
    refine (HO.out _).mono ?_
    rintro e w2 ⟨A1, k1, c1, rfl, h1, hb⟩
    have hdd := HD.out _ _ _ _ h1
    have HDD := Lib.hid hdd
    have hmm := HM.out _ _ _ _ h1
    have HMM := Lib.hid hmm
    clear hdd hmm
    cases ok
    · have er : r = 0 ∧ b' = false ∧ o' = false := by rw [HR.out, HB.out, HK.out]; simp
      obtain ⟨rfl, rfl, rfl⟩ := er
      go_wp2_with fail
      refine (HZ.out _).mono ?_
      rintro e w3 ⟨A3, k3, c3, rfl, h3, _, hb3⟩
      obtain ⟨hst, m1, m2, m3, m4⟩ := HFIN.out w3 A3 k3 c3 _ (bstep hb hb3) h3
      obtain ⟨n1, n2, n3⟩ := hst false
      have hbw := bstep bW0 (bstep hb hb3)
      clear hst hb hb3
      go_wp2
      refine bodyPost_ret (v := .tuple #[.agg #[.bool false, .slice A3 k3 c3], .bool false]) (by simp [results, Tryd.results10, go_sem, n1, n2]) rfl ?_
      exact ⟨A3, k3, c3, rfl, n3, fun _ => rfl, (hbw.setCell (Nat.le_refl _) _).setCell (Nat.le_refl _) _⟩
    · rcases HDD.out with ⟨hk, hv⟩ | ⟨hk, hv⟩
      · have es : sb = false := by rw [HSB.out, hv]; rfl
        subst es
        have er : r = 0 ∧ b' = false ∧ o' = false := by rw [HR.out, HB.out, HK.out]; simp
        obtain ⟨rfl, rfl, rfl⟩ := er
        go_wp2_with fail
        refine (HZ.out _).mono ?_
        rintro e w3 ⟨A3, k3, c3, rfl, h3, _, hb3⟩
        obtain ⟨hst, m1, m2, m3, m4⟩ := HFIN.out w3 A3 k3 c3 _ (bstep hb hb3) h3
        obtain ⟨n1, n2, n3⟩ := hst false
        have hbw := bstep bW0 (bstep hb hb3)
        clear hst hb hb3
        go_wp2
        refine bodyPost_ret (v := .tuple #[.agg #[.bool false, .slice A3 k3 c3], .bool false]) (by simp [results, Tryd.results10, go_sem, n1, n2]) rfl ?_
        exact ⟨A3, k3, c3, rfl, n3, fun _ => rfl, (hbw.setCell (Nat.le_refl _) _).setCell (Nat.le_refl _) _⟩
      · have es : sb = true := by rw [HSB.out]; simp [sgn, hv]
        subst es
        have er : r = v ∧ b' = true ∧ o' = true := by rw [HR.out, HB.out, HK.out]; simp
        obtain ⟨rfl, rfl, rfl⟩ := er
        go_wp2_with fail
        refine (HMM.out).mono ?_
        rintro e w3 ⟨A3, k3, c3, rfl, h3, z3, hb3⟩
        obtain ⟨hst, m1, m2, m3, m4⟩ := HFIN.out w3 A3 k3 c3 _ (bstep hb hb3) h3
        obtain ⟨n1, n2, n3⟩ := hst true
        have hbw := bstep bW0 (bstep hb hb3)
        clear hst hb hb3
        go_wp2
        refine bodyPost_ret (v := .tuple #[.agg #[.bool true, .slice A3 k3 c3], .bool true]) (by simp [results, Tryd.results10, go_sem, n1, n2]) rfl ?_
        exact ⟨A3, k3, c3, rfl, n3, z3, (hbw.setCell (Nat.le_refl _) _).setCell (Nat.le_refl _) _⟩
  · rename_i q1 q2 _ _ _ _
    have hnt : neg = false ∧ t = s := by
      rcases HC.out with ⟨h0, _⟩ | ⟨_, hq, ht⟩
      · omega
      · have e : neg = false := hq ▸ q2
        subst e
        exact ⟨rfl, ht⟩
    obtain ⟨rfl, rfl⟩ := hnt
    clear HC
    refine (HO.out _).mono ?_
    rintro e w2 ⟨A1, k1, c1, rfl, h1, hb⟩
    have hdd := HD.out _ _ _ _ h1
    have HDD := Lib.hid hdd
    have hmm := HM.out _ _ _ _ h1
    have HMM := Lib.hid hmm
    clear hdd hmm
    cases ok
    · have er : r = 0 ∧ b' = false ∧ o' = false := by rw [HR.out, HB.out, HK.out]; simp
      obtain ⟨rfl, rfl, rfl⟩ := er
      go_wp2_with fail
      refine (HZ.out _).mono ?_
      rintro e w3 ⟨A3, k3, c3, rfl, h3, _, hb3⟩
      obtain ⟨hst, m1, m2, m3, m4⟩ := HFIN.out w3 A3 k3 c3 _ (bstep hb hb3) h3
      obtain ⟨n1, n2, n3⟩ := hst false
      have hbw := bstep bW0 (bstep hb hb3)
      clear hst hb hb3
      go_wp2
      refine bodyPost_ret (v := .tuple #[.agg #[.bool false, .slice A3 k3 c3], .bool false]) (by simp [results, Tryd.results10, go_sem, n1, n2]) rfl ?_
      exact ⟨A3, k3, c3, rfl, n3, fun _ => rfl, (hbw.setCell (Nat.le_refl _) _).setCell (Nat.le_refl _) _⟩
    · have es : sb = false := by rw [HSB.out]; rfl
      subst es
      have er : r = v ∧ b' = false ∧ o' = true := by rw [HR.out, HB.out, HK.out]; simp
      obtain ⟨rfl, rfl, rfl⟩ := er
      go_wp2_with fail
      refine (HMM.out).mono ?_
      rintro e w3 ⟨A3, k3, c3, rfl, h3, _, hb3⟩
      obtain ⟨hst, m1, m2, m3, m4⟩ := HFIN.out w3 A3 k3 c3 _ (bstep hb hb3) h3
      obtain ⟨n1, n2, n3⟩ := hst false
      have hbw := bstep bW0 (bstep hb hb3)
      clear hst hb hb3
      go_wp2
      refine bodyPost_ret (v := .tuple #[.agg #[.bool false, .slice A3 k3 c3], .bool true]) (by simp [results, Tryd.results10, go_sem, n1, n2]) rfl ?_
      exact ⟨A3, k3, c3, rfl, n3, fun _ => rfl, (hbw.setCell (Nat.le_refl _) _).setCell (Nat.le_refl _) _⟩
  · rename_i q1 _ _ _ _
    have hnt : neg = false ∧ t = s := by
      rcases HC.out with ⟨_, h1, h2⟩ | ⟨h0, _⟩
      · exact ⟨h1, h2⟩
      · exact absurd h0 q1
    obtain ⟨rfl, rfl⟩ := hnt
    clear HC
    refine (HO.out _).mono ?_
    rintro e w2 ⟨A1, k1, c1, rfl, h1, hb⟩
    have hdd := HD.out _ _ _ _ h1
    have HDD := Lib.hid hdd
    have hmm := HM.out _ _ _ _ h1
    have HMM := Lib.hid hmm
    clear hdd hmm
    cases ok
    · have er : r = 0 ∧ b' = false ∧ o' = false := by rw [HR.out, HB.out, HK.out]; simp
      obtain ⟨rfl, rfl, rfl⟩ := er
      go_wp2_with fail
      refine (HZ.out _).mono ?_
      rintro e w3 ⟨A3, k3, c3, rfl, h3, _, hb3⟩
      obtain ⟨hst, m1, m2, m3, m4⟩ := HFIN.out w3 A3 k3 c3 _ (bstep hb hb3) h3
      obtain ⟨n1, n2, n3⟩ := hst false
      have hbw := bstep bW0 (bstep hb hb3)
      clear hst hb hb3
      go_wp2
      refine bodyPost_ret (v := .tuple #[.agg #[.bool false, .slice A3 k3 c3], .bool false]) (by simp [results, Tryd.results10, go_sem, n1, n2]) rfl ?_
      exact ⟨A3, k3, c3, rfl, n3, fun _ => rfl, (hbw.setCell (Nat.le_refl _) _).setCell (Nat.le_refl _) _⟩
    · have es : sb = false := by rw [HSB.out]; rfl
      subst es
      have er : r = v ∧ b' = false ∧ o' = true := by rw [HR.out, HB.out, HK.out]; simp
      obtain ⟨rfl, rfl, rfl⟩ := er
      go_wp2_with fail
      refine (HMM.out).mono ?_
      rintro e w3 ⟨A3, k3, c3, rfl, h3, _, hb3⟩
      obtain ⟨hst, m1, m2, m3, m4⟩ := HFIN.out w3 A3 k3 c3 _ (bstep hb hb3) h3
      obtain ⟨n1, n2, n3⟩ := hst false
      have hbw := bstep bW0 (bstep hb hb3)
      clear hst hb hb3
      go_wp2
      refine bodyPost_ret (v := .tuple #[.agg #[.bool false, .slice A3 k3 c3], .bool true]) (by simp [results, Tryd.results10, go_sem, n1, n2]) rfl ?_
      exact ⟨A3, k3, c3, rfl, n3, fun _ => rfl, (hbw.setCell (Nat.le_refl _) _).setCell (Nat.le_refl _) _⟩
end Go.Proofs.YtbjcddfoajgebaaDoor

namespace Go.Proofs.YtbjcddfoajgebaaDoor
open Go.RowKit

/-- The sign of a text, and the text behind it. -/
theorem cut_of (s : ByteArray) : ∃ (neg : Bool) (t : ByteArray), t.size ≤ s.size ∧ ((s.size = 0 ∧ neg = false ∧ t = s) ∨ (∃ h : 0 < s.size, ((s[0].toNat : Int) == 45) = neg ∧ t = if neg then s.extract 1 s.size else s)) ∧
    (⟨(Lib.trimPrefix s.data.toList [45]).toArray⟩ : ByteArray) = t ∧ Lib.hasPrefix s.data.toList [45] = neg := by
  refine ⟨Lib.hasPrefix s.data.toList [45], ⟨(Lib.trimPrefix s.data.toList [45]).toArray⟩, ?_, ?_, rfl, rfl⟩
  · have := Lib.trimPrefix_le s.data.toList [45]
    rw [Lib.size_eq, Lib.size_eq]
    exact this
  · obtain ⟨⟨l⟩⟩ := s
    match l with
    | [] => exact .inl ⟨rfl, rfl, rfl⟩
    | x :: r =>
      have hx : ((x.toNat : Int) == 45) = (x == 45) := by
        rw [Bool.eq_iff_iff, beq_iff_eq, beq_iff_eq, ← UInt8.toNat_inj]
        exact ⟨fun h => by have h1 : x.toNat = 45 := by omega
                           exact h1, fun h => by have h1 : x.toNat = 45 := h
                                                 omega⟩
      have hf : Lib.hasPrefix (x :: r) [45] = (x == 45) := by
        show ((45 == x) && List.isPrefixOf [] r) = _
        rw [List.isPrefixOf_nil_left, Bool.and_true, Bool.beq_comm]
      refine .inr ⟨by show 0 < (x :: r).length; exact Nat.succ_pos _, hx.trans hf.symm, ?_⟩
      show (⟨(if Lib.hasPrefix (x :: r) [45] then r else x :: r).toArray⟩ : ByteArray) = if Lib.hasPrefix (x :: r) [45] then _ else _
      rw [hf]
      split
      · rw [Lib.extract_eq]
        show _ = (⟨(r.take (r.length + 1 - 1)).toArray⟩ : ByteArray)
        rw [Nat.add_sub_cancel, List.take_length]
      · rfl

theorem parse_of (s : ByteArray) (hs : s.size ≤ 4000) : ∃ (v N : Nat) (b ok : Bool), N ≤ 445 ∧ v < 1000000000 ^ N ∧
    (∀ W, Calls Tryd.prog 9 #[.string s] W (RetIntB W v b ok)) ∧ (∀ W, Calls Tryd.prog 10 #[.string s] W (RetIntB W v b ok)) := by
  obtain ⟨neg, t, ht, hcase, e1, e2⟩ := cut_of s
  obtain ⟨v, N, ok, hN, hv, _, h1, h2⟩ := both_of t (Nat.le_trans ht hs)
  refine ⟨if ok && (sgn v neg == neg) then v else 0, N, ok && (sgn v neg == neg) && neg, ok && (sgn v neg == neg), hN, ?_, fun W => ?_, fun W => ?_⟩
  · split
    · exact hv
    · exact Nat.lt_of_le_of_lt (Nat.zero_le _) hv
  · refine numParse_core (fun W' => ?_) h1 (fun W' A k c h => signed_any neg h) W
    have := Tryd.strings_CutPrefix s ⟨#[45]⟩ W'
    rw [← e1, ← e2]
    exact this
  · exact ref2Parse_core hs hcase h2 hv hN rfl W
end Go.Proofs.YtbjcddfoajgebaaDoor

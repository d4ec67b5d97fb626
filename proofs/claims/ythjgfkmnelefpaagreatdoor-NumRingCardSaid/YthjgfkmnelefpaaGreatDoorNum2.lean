/- Contracts of package num's Of and of the document's answer of stage 2: of, Of; whether two numbers are the same. Contracts of package num's Of and of whetstoneref02.Of: a number of 64 bits. -/
import Derived.Test.YthjgfkmnelefpaaGreatDoorNum1
import Derived.Test.YthjgfkmnelefpaaGreatDoorRefLess
namespace Go.Proofs.YthjgfkmnelefpaaGreatDoor
open Go.RowKit

theorem rr_row {W : World} {A : Option Addr} {k c n N : Nat} (h : Rr W (.slice A k c) n) (hn : n < 1000000000 ^ N) : ∃ xs, k = xs.length ∧ Row W A (u32s xs) ∧ right xs ∧ val xs = n ∧ xs.length ≤ N := by
  obtain ⟨A', c', xs, e, hr, hx, _, hv⟩ := h
  injection e with e1 e2 e3
  subst e1; subst e2
  exact ⟨xs, rfl, hr, hx, hv, right_length_le hx (by rw [hv]; exact hn)⟩

set_option maxRecDepth 100000 in
set_option maxHeartbeats 1000000 in
theorem sameInt_yes {w : World} {A1 A2 : Option Addr} {k1 c1 k2 c2 n : Nat} {b : Bool} (h1 : Rr w (.slice A1 k1 c1) n) (h2 : Rr w (.slice A2 k2 c2) n) :
    Calls Tryz.prog 27 #[.agg #[.bool b, .slice A1 k1 c1], .agg #[.bool b, .slice A2 k2 c2]] w fun e w' => e = .returned (.bool true) ∧ Below w.heap.size w w' := by
  obtain ⟨A1', c1', xs, e1, r1, x1, l1, v1⟩ := h1
  obtain ⟨A2', c2', ys, e2, r2, x2, l2, v2⟩ := h2
  injection e1 with e1 e1' e1''
  injection e2 with e2 e2' e2''
  subst e1; subst e1'; subst e2; subst e2'
  obtain rfl : xs = ys := right_unique x1 x2 (by rw [v1, v2])
  have hsm := fun (W : World) (hW : Below w.heap.size w W) => same_yes0 (w := W) (c1 := c1) (c2 := c2) (r1.below hW) (r2.below hW) (by omega)
  have HSM := Lib.hid hsm
  clear hsm r1 r2 x1 x2 v1 v2 e1'' e2''
  go_enter Tryz.func27, Tryz.ntmps27
  go_wp2_with fail
  refine (HSM.out _ (bal (bal (Below.refl _ _) _) _)).mono ?_
  rintro e w1 ⟨rfl, hd⟩
  have hb := bstep (bal (bal (Below.refl w.heap.size w) _) _) hd.below
  clear hd
  go_wp2
  go_ret
  exact ⟨rfl, hb⟩

set_option maxRecDepth 100000 in
set_option maxHeartbeats 1000000 in
theorem same2_yes {w : World} {A1 A2 : Option Addr} {k1 c1 k2 c2 n : Nat} {b : Bool} (h1 : Rr w (.slice A1 k1 c1) n) (h2 : Rr w (.slice A2 k2 c2) n) :
    Calls Tryz.prog 9 #[.agg #[.bool b, .slice A1 k1 c1], .agg #[.bool b, .slice A2 k2 c2]] w fun e w' => e = .returned (.bool true) ∧ Below w.heap.size w w' := by
  have hsm := fun (W : World) (hW : Below w.heap.size w W) => sameInt_yes (b := b) (h1.below hW) (h2.below hW)
  have HSM := Lib.hid hsm
  clear hsm h1 h2
  go_enter Tryz.func9, Tryz.ntmps9
  go_wp2_with fail
  refine (HSM.out _ (bal (bal (Below.refl _ _) _) _)).mono ?_
  rintro e w1 ⟨rfl, hd⟩
  have hb := bstep (bal (bal (Below.refl w.heap.size w) _) _) hd
  clear hd
  go_wp2
  go_ret
  exact ⟨rfl, hb⟩

set_option maxRecDepth 100000 in
set_option maxHeartbeats 1000000 in
theorem ref2of_any {w : World} {A : Option Addr} {c N : Nat} {xs : List Nat} (b : Bool) (hr : Row w A (u32s xs)) (hd : small 4294967296 xs) (hl : xs.length ≤ 1000) (hn : val xs < 1000000000 ^ N) (hN : N ≤ 2000) :
    Calls Tryz.prog 38 #[.bool b, .slice A xs.length c] w (RetInt w (val xs) (sgn (val xs) b)) := by
  have htr := fun (W : World) (hW : Below w.heap.size w W) => refTrim (c := c) (hr.below hW) hd hl hn hN
  have HTR := Lib.hid htr
  clear htr hr hd hn
  go_enter Tryz.func38, Tryz.ntmps38
  go_wp2_with fail
  refine (HTR.out _ (bal (Below.refl _ _) _)).mono ?_
  rintro e w1 ⟨A1, k1, c1, rfl, h1, hb⟩
  obtain ⟨hk, _⟩ := rr_len h1
  have K1 := Lib.hid ((hb.block w.heap.size (by simp)).trans (heap_alloc_new w _))
  obtain ⟨m1, m2, m3, m4⟩ := cell_of_two K1.out
  have hb1 := bstep (bal (Below.refl w.heap.size w) _) hb
  clear hb
  have hts := fun (b' : Bool) => two_stored (a' := .bool b') (b' := .slice A1 k1 c1) K1.out (fun d h => by cases h) (fun d h => by cases h) h1
  have HTS := Lib.hid hts
  clear hts
  cases b
  · go_wp2
    obtain ⟨n1, n2, n3⟩ := HTS.out false
    refine bodyPost_ret (v := .agg #[.bool false, .slice A1 k1 c1]) (by simp [results, Tryz.results38, go_sem, n1, n2]) rfl ?_
    exact ⟨A1, k1, c1, by simp [sgn], n3, fun _ => by simp [sgn], (hb1.setCell (Nat.le_refl _) _).setCell (Nat.le_refl _) _⟩
  · by_cases h0 : val xs = 0
    · have hk0 : decide (0 < k1) = false := decide_eq_false (by have := hk.2 h0; omega)
      have hk0' : decide ((0 : Int) < (k1 : Int)) = false := decide_eq_false (by have := hk.2 h0; omega)
      have H0 := Lib.hid h0
      clear h0 hk
      go_wp2
      obtain ⟨n1, n2, n3⟩ := HTS.out false
      refine bodyPost_ret (v := .agg #[.bool false, .slice A1 k1 c1]) (by simp [results, Tryz.results38, go_sem, n1, n2]) rfl ?_
      exact ⟨A1, k1, c1, by simp [sgn, H0.out], n3, fun _ => by simp [sgn, H0.out], (hb1.setCell (Nat.le_refl _) _).setCell (Nat.le_refl _) _⟩
    · have hkp : 0 < k1 := by
        rcases Nat.eq_zero_or_pos k1 with h | h
        · exact absurd (hk.1 h) h0
        · exact h
      have H0 := Lib.hid h0
      clear h0 hk
      go_wp2
      obtain ⟨n1, n2, n3⟩ := HTS.out true
      refine bodyPost_ret (v := .agg #[.bool true, .slice A1 k1 c1]) (by simp [results, Tryz.results38, go_sem, n1, n2]) rfl ?_
      exact ⟨A1, k1, c1, by simp [sgn, H0.out], n3, fun h => absurd h H0.out, (hb1.setCell (Nat.le_refl _) _).setCell (Nat.le_refl _) _⟩
end Go.Proofs.YthjgfkmnelefpaaGreatDoor

namespace Go.Proofs.YthjgfkmnelefpaaGreatDoor
open Go.RowKit

theorem split3 (a : Nat) : val [a % 1000000000, a / 1000000000 % 1000000000, a / 1000000000 / 1000000000] = a := by
  simp only [val, Nat.mul_zero, Nat.add_zero]
  have h1 := Nat.div_add_mod a 1000000000
  have h2 := Nat.div_add_mod (a / 1000000000) 1000000000
  omega

set_option maxRecDepth 100000 in
set_option maxHeartbeats 1600000 in
theorem numOfInt_any {w : World} (n : Int) (a : Nat) (h1 : -9223372036854775808 ≤ n) (h2 : n ≤ 9223372036854775807) (ha : a = n.natAbs) :
    Calls Tryz.prog 23 #[.int .i64 n] w (RetInt w a (decide (n < 0))) := by
  obtain ⟨d0, hd0⟩ : ∃ d, d = a % 1000000000 := ⟨_, rfl⟩
  obtain ⟨d1, hd1⟩ : ∃ d, d = a / 1000000000 % 1000000000 := ⟨_, rfl⟩
  obtain ⟨d2, hd2⟩ : ∃ d, d = a / 1000000000 / 1000000000 := ⟨_, rfl⟩
  have hv := split3 a
  rw [← hd0, ← hd1, ← hd2] at hv
  have b0 : d0 < 1000000000 := by omega
  have b1 : d1 < 1000000000 := by omega
  have b2 : d2 < 1000000000 := by omega
  have e0 : (a : Int) % 1000000000 = (d0 : Int) := by omega
  have e1 : (a : Int) / 1000000000 % 1000000000 = (d1 : Int) := by omega
  have e2 : (a : Int) / 1000000000 / 1000000000 = (d2 : Int) := by omega
  have ba : a < 18446744073709551616 := by omega
  have hsg : sgn a (decide (n < 0)) = decide (n < 0) := by
    unfold sgn
    by_cases h : n < 0
    · rw [decide_eq_true h, decide_eq_true (show a ≠ 0 by omega)]; rfl
    · rw [decide_eq_false h]; rfl
  have hsm : small 4294967296 [d0, d1, d2] := by
    intro d hd
    rcases List.mem_cons.1 hd with rfl | hd
    · omega
    rcases List.mem_cons.1 hd with rfl | hd
    · omega
    · rw [List.mem_singleton.1 hd]; omega
  have hof := fun (W : World) (b : Bool) => numOf_any (w := W.alloc (.cells #[.int .u32 (d0 : Int), .int .u32 (d1 : Int), .int .u32 (d2 : Int)] 55)) (k := 3) (c := 3) (n := a) (N := 3) (A := some ⟨W.heap.size, 0, none⟩) b ⟨_, 3, [d0, d1, d2], rfl, row_lit W 55 #[.int .u32 (d0 : Int), .int .u32 (d1 : Int), .int .u32 (d2 : Int)] [d0, d1, d2] rfl, hsm, by simp, hv⟩ (by
    have : (1000000000 : Nat) ^ 3 = 1000000000000000000000000000 := by decide
    omega) (by omega)
  have HOF := Lib.hid hof
  have HSG := Lib.hid hsg
  obtain ⟨W0, hW0⟩ : ∃ W0, W0 = w.alloc (Obj.cells #[Value.bool false, Value.slice none 0 0] 29) := ⟨_, rfl⟩
  have bW0 : Below w.heap.size w W0 := by rw [hW0]; exact bal (Below.refl _ _) _
  have K0 : Hid (W0.heap[w.heap.size]? = some (Obj.cells #[Value.bool false, Value.slice none 0 0] 29)) := by show _ = _; rw [hW0]; exact heap_alloc_new _ _
  have hs0 : w.heap.size < W0.heap.size := lt_block K0.out
  have HW0 := Lib.hid hW0
  have HZ0 : Hid (W0.heap.size = w.heap.size + 1) := by show _ = _; rw [hW0, World.size_alloc]
  have hfin : ∀ (w3 : World) (A3 : Option Addr) (k3 c3 : Nat), Below W0.heap.size W0 w3 → Rr w3 (.slice A3 k3 c3) a → (∀ b' : Bool, ((w3.setCell ⟨w.heap.size, 0, none⟩ (.bool b')).setCell ⟨w.heap.size, 1, none⟩ (.slice A3 k3 c3)).cell? ⟨w.heap.size, 0, none⟩ = some (.bool b') ∧ ((w3.setCell ⟨w.heap.size, 0, none⟩ (.bool b')).setCell ⟨w.heap.size, 1, none⟩ (.slice A3 k3 c3)).cell? ⟨w.heap.size, 1, none⟩ = some (.slice A3 k3 c3) ∧ Rr ((w3.setCell ⟨w.heap.size, 0, none⟩ (.bool b')).setCell ⟨w.heap.size, 1, none⟩ (.slice A3 k3 c3)) (.slice A3 k3 c3) a) ∧ (w3.cell? ⟨w.heap.size, 0, none⟩ = some (.bool false) ∧ w3.cell? ⟨w.heap.size, 1, none⟩ = some (.slice none 0 0) ∧ w3.frozen? ⟨w.heap.size, 0, none⟩ = false ∧ w3.frozen? ⟨w.heap.size, 1, none⟩ = false) := fun w3 A3 k3 c3 hb hr => by
    have k3' := (hb.block w.heap.size hs0).trans K0.out
    exact ⟨fun b' => two_stored k3' (fun d h => by cases h) (fun d h => by cases h) hr, cell_of_two k3'⟩
  have HFIN := Lib.hid hfin
  clear hof hsg hv hd0 hd1 hd2 hsm hW0 hfin
  by_cases hn : n < 0
  · obtain ⟨m, hm⟩ : ∃ m : Nat, m = 18446744073709551616 - a := ⟨_, rfl⟩
    have g1 : IntKind.u64.wrap n = (m : Int) := by rw [IntKind.wrap_u64]; omega
    have g2 : IntKind.u64.wrap (-(m : Int)) = (a : Int) := by rw [IntKind.wrap_u64]; omega
    have hnd : decide (n < 0) = true := decide_eq_true hn
    rw [hnd] at HSG ⊢
    have HZ := Lib.hid (show a ≠ 0 by omega)
    clear hm ha hn h1 h2
    go_enter Tryz.func23, Tryz.ntmps23
    go_wp2_with fail
    rw [← HW0.out]
    go_wp2_with fail
    have hof1 := HOF.out W0 true
    rw [HZ0.out, HSG.out] at hof1
    refine hof1.mono ?_
    rintro e w3 ⟨A3, k3, c3, rfl, hr3, hz3, hb3⟩
    have hb30 : Below W0.heap.size W0 w3 := below_first hb3
    have htd := told_any (w := w3) hr3 hz3
    have HTD := Lib.hid htd
    clear hof1 htd hb3 hr3
    go_wp2_with fail
    refine HTD.out.mono ?_
    rintro e w4 ⟨A4, k4, c4, rfl, hr4, hz4, hb4⟩
    have hb40 := bstep hb30 hb4
    obtain ⟨hst, m1, m2, m3, m4⟩ := HFIN.out w4 A4 k4 c4 hb40 hr4
    obtain ⟨n1, n2, n3⟩ := hst true
    have hbw := bstep bW0 hb40
    clear hb30 hb4 hb40 hst HTD
    go_wp2
    refine bodyPost_ret (v := .agg #[.bool true, .slice A4 k4 c4]) (by simp [results, Tryz.results23, go_sem, n1, n2]) rfl ?_
    exact ⟨A4, k4, c4, rfl, n3, hz4, (hbw.setCell (Nat.le_refl _) _).setCell (Nat.le_refl _) _⟩
  · have g1 : IntKind.u64.wrap n = (a : Int) := by rw [IntKind.wrap_u64]; omega
    have hnd : decide (n < 0) = false := decide_eq_false hn
    rw [hnd] at HSG ⊢
    clear ha hn h1 h2
    go_enter Tryz.func23, Tryz.ntmps23
    go_wp2_with fail
    rw [← HW0.out]
    go_wp2_with fail
    have hof1 := HOF.out W0 false
    rw [HZ0.out, HSG.out] at hof1
    refine hof1.mono ?_
    rintro e w3 ⟨A3, k3, c3, rfl, hr3, hz3, hb3⟩
    have hb30 : Below W0.heap.size W0 w3 := below_first hb3
    have htd := told_any (w := w3) hr3 hz3
    have HTD := Lib.hid htd
    clear hof1 htd hb3 hr3
    go_wp2_with fail
    refine HTD.out.mono ?_
    rintro e w4 ⟨A4, k4, c4, rfl, hr4, hz4, hb4⟩
    have hb40 := bstep hb30 hb4
    obtain ⟨hst, m1, m2, m3, m4⟩ := HFIN.out w4 A4 k4 c4 hb40 hr4
    obtain ⟨n1, n2, n3⟩ := hst false
    have hbw := bstep bW0 hb40
    clear hb30 hb4 hb40 hst HTD
    go_wp2
    refine bodyPost_ret (v := .agg #[.bool false, .slice A4 k4 c4]) (by simp [results, Tryz.results23, go_sem, n1, n2]) rfl ?_
    exact ⟨A4, k4, c4, rfl, n3, fun _ => rfl, (hbw.setCell (Nat.le_refl _) _).setCell (Nat.le_refl _) _⟩

/-- The digits of a number of 64 bits, the lowest first, till nothing is left. -/
theorem ofInt_step {out : List Nat} {m a : Nat} (hlen : val out + 1000000000 ^ out.length * m = a) : val (out ++ [m % 1000000000]) + 1000000000 ^ (out ++ [m % 1000000000]).length * (m / 1000000000) = a := by
  rw [val_snoc, List.length_append, List.length_singleton, Nat.pow_succ, Nat.mul_assoc, Nat.add_assoc, ← Nat.mul_add, Nat.mod_add_div]; exact hlen

set_option maxRecDepth 100000 in
set_option maxHeartbeats 1600000 in
theorem ref2Of_any {w : World} (n : Int) (a : Nat) (h1 : -9223372036854775808 ≤ n) (h2 : n ≤ 9223372036854775807) (ha : a = n.natAbs) :
    Calls Tryz.prog 32 #[.int .i64 n] w (RetInt w a (decide (n < 0))) := by
  obtain ⟨i0, hi, hz0, hz1, hz2⟩ := info_parts info_u32
  have ba : a < 18446744073709551616 := by omega
  have hp3 : (1000000000 : Nat) ^ 3 = 1000000000000000000000000000 := by decide
  have hsg : sgn a (decide (n < 0)) = decide (n < 0) := by
    unfold sgn
    by_cases h : n < 0
    · rw [decide_eq_true h, decide_eq_true (show a ≠ 0 by omega)]; rfl
    · rw [decide_eq_false h]; rfl
  have ba3 : a < 1000000000 ^ 3 := by omega
  have BA3 := Lib.hid ba3
  have HSG := Lib.hid hsg
  obtain ⟨W0, hW0⟩ : ∃ W0, W0 = w.alloc (Obj.cells #[Value.bool false, Value.slice none 0 0] 29) := ⟨_, rfl⟩
  have bW0 : Below w.heap.size w W0 := by rw [hW0]; exact bal (Below.refl _ _) _
  have K0 : Hid (W0.heap[w.heap.size]? = some (Obj.cells #[Value.bool false, Value.slice none 0 0] 29)) := by show _ = _; rw [hW0]; exact heap_alloc_new _ _
  have hs0 : w.heap.size < W0.heap.size := lt_block K0.out
  have HW0 := Lib.hid hW0
  have hfin : ∀ (w3 : World) (A3 : Option Addr) (k3 c3 : Nat), Below W0.heap.size W0 w3 → Rr w3 (.slice A3 k3 c3) a → (∀ b' : Bool, ((w3.setCell ⟨w.heap.size, 0, none⟩ (.bool b')).setCell ⟨w.heap.size, 1, none⟩ (.slice A3 k3 c3)).cell? ⟨w.heap.size, 0, none⟩ = some (.bool b') ∧ ((w3.setCell ⟨w.heap.size, 0, none⟩ (.bool b')).setCell ⟨w.heap.size, 1, none⟩ (.slice A3 k3 c3)).cell? ⟨w.heap.size, 1, none⟩ = some (.slice A3 k3 c3) ∧ Rr ((w3.setCell ⟨w.heap.size, 0, none⟩ (.bool b')).setCell ⟨w.heap.size, 1, none⟩ (.slice A3 k3 c3)) (.slice A3 k3 c3) a) ∧ (w3.cell? ⟨w.heap.size, 0, none⟩ = some (.bool false) ∧ w3.cell? ⟨w.heap.size, 1, none⟩ = some (.slice none 0 0) ∧ w3.frozen? ⟨w.heap.size, 0, none⟩ = false ∧ w3.frozen? ⟨w.heap.size, 1, none⟩ = false) := fun w3 A3 k3 c3 hb hr => by
    have k3' := (hb.block w.heap.size hs0).trans K0.out
    exact ⟨fun b' => two_stored k3' (fun d h => by cases h) (fun d h => by cases h) hr, cell_of_two k3'⟩
  have HFIN := Lib.hid hfin
  clear hsg hW0 hfin ba3 hp3
  by_cases hn : n < 0
  · obtain ⟨m, hm⟩ : ∃ m : Nat, m = 18446744073709551616 - a := ⟨_, rfl⟩
    have g1 : IntKind.u64.wrap n = (m : Int) := by rw [IntKind.wrap_u64]; omega
    have g2 : IntKind.u64.wrap (-(m : Int)) = (a : Int) := by rw [IntKind.wrap_u64]; omega
    have hnd : decide (n < 0) = true := decide_eq_true hn
    rw [hnd] at HSG ⊢
    clear hm ha hn h1 h2
    go_enter Tryz.func32, Tryz.ntmps32
    go_wp2_with fail
    rw [← HW0.out]
    go_loopw [3, 4] (fun mv dv wr => ∃ (m : Nat) (out : List Nat), mv = .int .u64 (m : Int) ∧ m < 18446744073709551616 ∧ Own wr W0.heap.size 55 dv (u32s out) ∧ Hid (val out + 1000000000 ^ out.length * m = a ∧ small 1000000000 out ∧ out.length ≤ 3) ∧ Below W0.heap.size W0 wr)
      (fun mv _ _ => (intOf mv).toNat)
    case atStart => exact ⟨a, [], rfl, ba, Own.nil _ _ _, ⟨by simp [val], small_nil _, by simp⟩, Below.refl _ _⟩
    case round =>
      obtain ⟨m, out, rfl, hm, hown, HO, hb⟩ := hrel
      rcases Nat.eq_zero_or_pos m with rfl | hpos
      · obtain ⟨A1, c1, rfl, hr1, _⟩ := hown.slice32
        have hv : val out = a := by have := HO.out.1; rw [Nat.mul_zero, Nat.add_zero] at this; exact this
        have hof := ref2of_any (w := wr) (c := c1) (N := 3) true hr1 (small_mono HO.out.2.1 (by decide)) (by have := HO.out.2.2; omega) (by rw [hv]; exact BA3.out) (by omega)
        rw [hv, HSG.out] at hof
        have HOF := Lib.hid hof
        clear hof hv hr1
        go_wp2_with fail
        refine HOF.out.mono ?_
        rintro e w3 ⟨A3, k3, c3, rfl, hr3, hz3, hb3⟩
        have hb30 := bstep hb hb3
        obtain ⟨hst, m1, m2, m3, m4⟩ := HFIN.out w3 A3 k3 c3 hb30 hr3
        obtain ⟨n1, n2, n3⟩ := hst true
        have hbw := bstep bW0 hb30
        clear hb30 hb3 hst HOF hb
        go_wp2
        refine bodyPost_ret (v := .agg #[.bool true, .slice A3 k3 c3]) (by simp [results, Tryz.results32, go_sem, n1, n2]) rfl ?_
        exact ⟨A3, k3, c3, rfl, n3, hz3, (hbw.setCell (Nat.le_refl _) _).setCell (Nat.le_refl _) _⟩
      · have hlen2 : out.length ≤ 2 := by
          rcases Nat.lt_or_ge 2 out.length with h | h
          · exfalso
            have q1 : 1000000000 ^ 3 ≤ 1000000000 ^ out.length := Nat.pow_le_pow_right (by decide) h
            have q2 : 1000000000 ^ out.length * 1 ≤ 1000000000 ^ out.length * m := Nat.mul_le_mul_left _ hpos
            have q3 := HO.out.1
            have q4 := BA3.out
            omega
          · exact h
        have hstep := ofInt_step HO.out.1
        have HSTEP := Lib.hid hstep
        have hsz := hb.size
        have hmp : decide ((0 : Int) < (m : Int)) = true := by rw [decide_eq_true_eq]; omega
        clear hstep
        go_wp2_with (at_builtin; refine wpList_append_own _ rfl _ _ 27 rfl W0.heap.size 55 i0 (.int .u32 0) 1 4 Tryz.underlying27 hi hz0 hz1 hz2 rfl (by decide) _ _ _ rfl (hown.alloc _) ⟨wr.heap.size, 0, none⟩ 1 1 [.int .u32 ((m % 1000000000 : Nat) : Int)] rfl rfl ?c1 ?c2 ?c3 ?c4 ?c5 ?_)
        case c1 => exact one_news (int_eq (by omega))
        case c2 => exact one_cell
        case c3 => rw [u32s_length]; unfold maxLen; omega
        case c4 => rw [u32s_length]; omega
        case c5 => simp; omega
        intro v' w2 hown' hgrow' _
        have ho2 := own_app32 hown'
        have hb2 := below_app' hb hown (Nat.le_refl _) hgrow'
        clear hown' hgrow' hown hb
        go_wp2
        go_roundw
        case rel => exact ⟨m / 1000000000, out ++ [m % 1000000000], by first | rfl | (congr 1; omega), by omega, ho2, ⟨HSTEP.out, small_snoc HO.out.2.1 (Nat.mod_lt _ (by decide)), by rw [List.length_append]; simp; omega⟩, hb2⟩
        case measure => simp [intOf]; omega
  · have g1 : IntKind.u64.wrap n = (a : Int) := by rw [IntKind.wrap_u64]; omega
    have hnd : decide (n < 0) = false := decide_eq_false hn
    rw [hnd] at HSG ⊢
    clear ha hn h1 h2
    go_enter Tryz.func32, Tryz.ntmps32
    go_wp2_with fail
    rw [← HW0.out]
    go_loopw [3, 4] (fun mv dv wr => ∃ (m : Nat) (out : List Nat), mv = .int .u64 (m : Int) ∧ m < 18446744073709551616 ∧ Own wr W0.heap.size 55 dv (u32s out) ∧ Hid (val out + 1000000000 ^ out.length * m = a ∧ small 1000000000 out ∧ out.length ≤ 3) ∧ Below W0.heap.size W0 wr)
      (fun mv _ _ => (intOf mv).toNat)
    case atStart => exact ⟨a, [], rfl, ba, Own.nil _ _ _, ⟨by simp [val], small_nil _, by simp⟩, Below.refl _ _⟩
    case round =>
      obtain ⟨m, out, rfl, hm, hown, HO, hb⟩ := hrel
      rcases Nat.eq_zero_or_pos m with rfl | hpos
      · obtain ⟨A1, c1, rfl, hr1, _⟩ := hown.slice32
        have hv : val out = a := by have := HO.out.1; rw [Nat.mul_zero, Nat.add_zero] at this; exact this
        have hof := ref2of_any (w := wr) (c := c1) (N := 3) false hr1 (small_mono HO.out.2.1 (by decide)) (by have := HO.out.2.2; omega) (by rw [hv]; exact BA3.out) (by omega)
        rw [hv, HSG.out] at hof
        have HOF := Lib.hid hof
        clear hof hv hr1
        go_wp2_with fail
        refine HOF.out.mono ?_
        rintro e w3 ⟨A3, k3, c3, rfl, hr3, hz3, hb3⟩
        have hb30 := bstep hb hb3
        obtain ⟨hst, m1, m2, m3, m4⟩ := HFIN.out w3 A3 k3 c3 hb30 hr3
        obtain ⟨n1, n2, n3⟩ := hst false
        have hbw := bstep bW0 hb30
        clear hb30 hb3 hst HOF hb
        go_wp2
        refine bodyPost_ret (v := .agg #[.bool false, .slice A3 k3 c3]) (by simp [results, Tryz.results32, go_sem, n1, n2]) rfl ?_
        exact ⟨A3, k3, c3, rfl, n3, fun _ => rfl, (hbw.setCell (Nat.le_refl _) _).setCell (Nat.le_refl _) _⟩
      · have hlen2 : out.length ≤ 2 := by
          rcases Nat.lt_or_ge 2 out.length with h | h
          · exfalso
            have q1 : 1000000000 ^ 3 ≤ 1000000000 ^ out.length := Nat.pow_le_pow_right (by decide) h
            have q2 : 1000000000 ^ out.length * 1 ≤ 1000000000 ^ out.length * m := Nat.mul_le_mul_left _ hpos
            have q3 := HO.out.1
            have q4 := BA3.out
            omega
          · exact h
        have hstep := ofInt_step HO.out.1
        have HSTEP := Lib.hid hstep
        have hsz := hb.size
        have hmp : decide ((0 : Int) < (m : Int)) = true := by rw [decide_eq_true_eq]; omega
        clear hstep
        go_wp2_with (at_builtin; refine wpList_append_own _ rfl _ _ 27 rfl W0.heap.size 55 i0 (.int .u32 0) 1 4 Tryz.underlying27 hi hz0 hz1 hz2 rfl (by decide) _ _ _ rfl (hown.alloc _) ⟨wr.heap.size, 0, none⟩ 1 1 [.int .u32 ((m % 1000000000 : Nat) : Int)] rfl rfl ?c1 ?c2 ?c3 ?c4 ?c5 ?_)
        case c1 => exact one_news (int_eq (by omega))
        case c2 => exact one_cell
        case c3 => rw [u32s_length]; unfold maxLen; omega
        case c4 => rw [u32s_length]; omega
        case c5 => simp; omega
        intro v' w2 hown' hgrow' _
        have ho2 := own_app32 hown'
        have hb2 := below_app' hb hown (Nat.le_refl _) hgrow'
        clear hown' hgrow' hown hb
        go_wp2
        go_roundw
        case rel => exact ⟨m / 1000000000, out ++ [m % 1000000000], by first | rfl | (congr 1; omega), by omega, ho2, ⟨HSTEP.out, small_snoc HO.out.2.1 (Nat.mod_lt _ (by decide)), by rw [List.length_append]; simp; omega⟩, hb2⟩
        case measure => simp [intOf]; omega
end Go.Proofs.YthjgfkmnelefpaaGreatDoor

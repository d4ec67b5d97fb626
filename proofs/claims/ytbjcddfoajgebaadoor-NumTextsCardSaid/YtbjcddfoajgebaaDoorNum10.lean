/- Contracts of package num's DivMod: the quotient rounded down, and the rest, of any two numbers; the error, if the divisor is 0. -/
import Derived.Test.YtbjcddfoajgebaaDoorNum9
namespace Go.Proofs.YtbjcddfoajgebaaDoor
open Go.RowKit

def RetInt2 (w : World) (n : Nat) (b : Bool) (m : Nat) (c : Bool) (e : Ending) (w' : World) : Prop := ∃ x y, e = .returned (.tuple #[x, y, .int .i64 0]) ∧ Int_ w' x n b ∧ Int_ w' y m c ∧ Below w.heap.size w w'

set_option maxRecDepth 100000 in
set_option maxHeartbeats 4000000 in
theorem divMod_int {w : World} {A1 A2 : Option Addr} {k1 c1 k2 c2 n1 n2 N : Nat} (b1 b2 : Bool) (h1 : Rd w (.slice A1 k1 c1) n1) (h2 : Rd w (.slice A2 k2 c2) n2) (h0 : 0 < n2) (hn1 : n1 < 1000000000 ^ N) (hn2 : n2 < 1000000000 ^ N) (hN : N ≤ 3999) :
    Calls Tryd.prog 34 #[.agg #[.bool b1, .slice A1 k1 c1], .agg #[.bool b2, .slice A2 k2 c2]] w (RetInt2 w (divQ n1 (sgn n1 b1) n2 b2) (sgn (divQ n1 (sgn n1 b1) n2 b2) ((sgn n1 b1) != b2)) (divR n1 (sgn n1 b1) n2 b2) (sgn (divR n1 (sgn n1 b1) n2 b2) b2)) := by
  have hof := fun (W : World) (hW : Below w.heap.size w W) => numOf_any b1 (h1.below hW) hn1 (show N ≤ 4000 by omega)
  have hof2 := fun (W : World) (hW : Below w.heap.size w W) => numOf_any b2 (h2.below hW) hn2 (show N ≤ 4000 by omega)
  have hdv := fun (W : World) (A : Option Addr) (k c : Nat) (h1 : Rr W (.slice A k c) n1) (A2 : Option Addr) (k2 c2 : Nat) (h2 : Rr W (.slice A2 k2 c2) n2) => divide_num (sgn n1 b1) b2 h1 h2 h0 hn1 hn2 hN
  have hs2 : sgn n2 b2 = b2 := by
    unfold sgn
    rw [decide_eq_true (show n2 ≠ 0 by omega), Bool.and_true]
  obtain ⟨Q, hQ⟩ : ∃ Q, Q = divQ n1 (sgn n1 b1) n2 b2 := ⟨_, rfl⟩
  obtain ⟨M, hM⟩ : ∃ M, M = divR n1 (sgn n1 b1) n2 b2 := ⟨_, rfl⟩
  rw [← hQ, ← hM] at hdv ⊢
  obtain ⟨sq, hsq⟩ : ∃ s, s = sgn Q ((sgn n1 b1) != b2) := ⟨_, rfl⟩
  obtain ⟨sm, hsm⟩ : ∃ s, s = sgn M b2 := ⟨_, rfl⟩
  rw [← hsq, ← hsm] at hdv ⊢
  rw [hs2] at hof2
  have hHDV : ∀ (W : World) (A : Option Addr) (k c : Nat), Rr W (.slice A k c) n1 → ∀ {A2 : Option Addr} {k2 c2 : Nat}, Rr W (.slice A2 k2 c2) n2 → Calls Tryd.prog 62 #[.agg #[.slice A k c, .bool (sgn n1 b1)], .agg #[.slice A2 k2 c2, .bool b2]] W (RetNum2 W Q sq M sm) := fun W A k c h A2 k2 c2 h' => hdv W A k c h A2 k2 c2 h'
  have HOF := Lib.hid hof
  have HOF2 := Lib.hid hof2
  have HDV := Lib.hid hHDV
  have H0 := Lib.hid h0
  clear hof hof2 hdv hHDV h1 h2 h0 hn1 hn2 hN hQ hM hsq hsm hs2
  go_enter Tryd.func34, Tryd.ntmps34
  go_wp2_with fail
  obtain ⟨W, hW⟩ : ∃ W, W = (((w.alloc (Obj.cells #[Value.bool b1, Value.slice A1 k1 c1] 29)).alloc (Obj.cells #[Value.bool b2, Value.slice A2 k2 c2] 29)).alloc (Obj.cells #[Value.bool false, Value.slice none 0 0] 29)).alloc (Obj.cells #[Value.bool false, Value.slice none 0 0] 29) := ⟨_, rfl⟩
  obtain ⟨bW0, sW0, K0, _, K2, K3⟩ := four_new hW
  rw [← hW]
  clear hW
  refine (HOF2.out _ bW0).mono ?_
  clear HOF2
  rintro e w2 ⟨B2, j2, d2, rfl, hr, _, hb⟩
  have hk0 : ((j2 : Int) == 0) = false := by
    rw [beq_eq_false_iff_ne]; intro h; have := (rr_len hr).1.1 (by omega); have := H0.out; omega
  have hz := hb.size
  have K0 := (hb.block w.heap.size (by omega)).trans K0
  have K2 := (hb.block (w.heap.size + 1 + 1) (by omega)).trans K2
  have K3 := (hb.block (w.heap.size + 1 + 1 + 1) (by omega)).trans K3
  have bw2 := bstep bW0 hb
  clear hb bW0
  go_wp2_with (go_at_call 61; refine (sizeNone_any _ _ _ _).mono ?_; rintro e w' ⟨rfl, rfl⟩)
  obtain ⟨W4, hW4⟩ : ∃ W4, W4 = w2.alloc (Obj.cells #[Value.slice B2 j2 d2, Value.bool b2] 56) := ⟨_, rfl⟩
  have bW : Below w.heap.size w W4 := by rw [hW4]; exact bal bw2 _
  have sW : W4.heap.size = w2.heap.size + 1 := by rw [hW4]; simp
  have hr : Rr W4 (.slice B2 j2 d2) n2 := by rw [hW4]; exact hr.alloc _
  have K7 : W4.heap[w2.heap.size]? = some (Obj.cells #[Value.slice B2 j2 d2, Value.bool b2] 56) := by rw [hW4]; exact heap_alloc_new _ _
  have K0 : W4.heap[w.heap.size]? = _ := (by rw [hW4]; exact Below.heap_alloc _ _ _ (by omega) : W4.heap[w.heap.size]? = w2.heap[w.heap.size]?).trans K0
  have K2 : W4.heap[w.heap.size + 1 + 1]? = _ := (by rw [hW4]; exact Below.heap_alloc _ _ _ (by omega) : W4.heap[w.heap.size + 1 + 1]? = w2.heap[w.heap.size + 1 + 1]?).trans K2
  have K3 : W4.heap[w.heap.size + 1 + 1 + 1]? = _ := (by rw [hW4]; exact Below.heap_alloc _ _ _ (by omega) : W4.heap[w.heap.size + 1 + 1 + 1]? = w2.heap[w.heap.size + 1 + 1 + 1]?).trans K3
  obtain ⟨p1, p2, _, _⟩ := cell_of_two K0
  obtain ⟨q1, q2, _, _⟩ := cell_of_two K7
  rw [← hW4]
  clear hW4 K0 K7 bw2 hk0
  have hwz : w.heap.size + 4 ≤ w2.heap.size := by omega
  refine wp_region_pk (w.heap.size) [kIs (.agg #[.bool b1, .slice A1 k1 c1]), kNum n1 (sgn n1 b1), kIs (.agg #[.slice B2 j2 d2, .bool b2]), kNum2 Q sq M sm, kNum2 Q sq M sm, kNum Q sq, kNum M sm, PK.fresh 2, PK.fresh 2, kPutNum 7 Q sq, kPutNum 8 M sm] [ [], [(0, some 18)], [], [(1, some 19), (2, some 20)], [(3, some 21)], [(4, some 17)], [(4, some 17)], [], [], [(7, some 8), (5, some 22)], [(8, some 9), (6, some 23)] ] [(0, some 18), (1, some 19), (2, some 20), (3, some 21), (4, some 17), (5, some 22), (6, some 23), (7, some 8), (8, some 9), (9, none), (10, none)] [] [] (by kernel_rfl) (by kernel_rfl) (by kernel_rfl) (by kernel_rfl) (by kernel_rfl) (by kernel_rfl) ?n1 ?n2 ?n3 ?n4 ?st ?en
  case n1 => show List.Nodup ([] : List Nat); simp
  case n2 => show ∀ g ∈ ([] : List Nat), _; intro g hg; cases hg
  case n3 => omega
  case n4 =>
    show ∀ g ∈ ([] : List Nat), ∃ cs, Holds_ _ g cs
    intro g hg
    cases hg
  case st =>
    refine pk_cons rfl rfl ?_ ?_
    · intro wr x hC
      simp only [deps, at_, List.getD_cons_zero, PK.sem, PK.move, kIs]
      intro K hK
      have hce0 := (hC.cell (b := w.heap.size) (by omega) (show _ ∉ ([] : List Nat) by simp <;> omega) 0).1.trans p1
      have hce1 := (hC.cell (b := w.heap.size) (by omega) (show _ ∉ ([] : List Nat) by simp <;> omega) 1).1.trans p2
      simp only [putE, retOf]
      go_simp
      exact hK _ _ (Below.refl _ _) rfl
    refine pk_cons rfl rfl ?_ ?_
    · intro wr x hC
      simp only [deps, at_, List.getD_cons_zero, List.getD_cons_succ, PK.sem, PK.move, kIs, kNum]
      intro hA
      intro K hK
      simp only [putE, retOf, hA]
      go_simp
      refine (HOF.out _ (bW.trans hC.below)).mono ?_
      rintro e w2 ⟨A2, k2, c2, rfl, h1, h2, h3⟩
      go_simp
      exact hK _ _ h3 ⟨A2, k2, c2, rfl, h1, h2⟩
    refine pk_cons rfl rfl ?_ ?_
    · intro wr x hC
      simp only [deps, at_, List.getD_cons_zero, List.getD_cons_succ, PK.sem, PK.move, kIs]
      intro K hK
      have hce0 := (hC.cell (b := w2.heap.size) (by omega) (show _ ∉ ([] : List Nat) by simp <;> omega) 0).1.trans q1
      have hce1 := (hC.cell (b := w2.heap.size) (by omega) (show _ ∉ ([] : List Nat) by simp <;> omega) 1).1.trans q2
      simp only [putE, retOf]
      go_simp
      exact hK _ _ (Below.refl _ _) rfl
    refine pk_cons rfl rfl ?_ ?_
    · intro wr x hC
      simp only [deps, at_, List.getD_cons_zero, List.getD_cons_succ, PK.sem, PK.move, kIs, kNum, kNum2]
      intro hA hB
      intro K hK
      obtain ⟨A, k, c, hA, hr1, hr2⟩ := hA
      simp only [putE, retOf, hA, hB]
      go_simp
      refine (HDV.out _ A k c hr1 (hC.rr hr)).mono ?_
      rintro e w3 ⟨x, y, rfl, h1, h2, h3⟩
      go_simp
      exact hK _ _ h3 ⟨x, y, rfl, h1, h2⟩
    refine pk_cons rfl rfl ?_ ?_
    · intro wr x hC
      simp only [deps, at_, List.getD_cons_zero, List.getD_cons_succ, PK.sem, PK.move, kNum2]
      intro hA
      intro K hK
      obtain ⟨x, y, hA, h1, h2⟩ := hA
      simp only [putE, retOf, hA]
      go_simp
      exact hK _ _ (Below.refl _ _) ⟨x, y, rfl, h1, h2⟩
    refine pk_cons rfl rfl ?_ ?_
    · intro wr x hC
      simp only [deps, at_, List.getD_cons_zero, List.getD_cons_succ, PK.sem, PK.move, kNum, kNum2]
      intro hA
      intro K hK
      obtain ⟨x, y, hA, h1, h2⟩ := hA
      simp only [putE, retOf, hA]
      go_simp
      exact hK _ _ (Below.refl _ _) h1
    refine pk_cons rfl rfl ?_ ?_
    · intro wr x hC
      simp only [deps, at_, List.getD_cons_zero, List.getD_cons_succ, PK.sem, PK.move, kNum, kNum2]
      intro hA
      intro K hK
      obtain ⟨x, y, hA, h1, h2⟩ := hA
      simp only [putE, retOf, hA]
      go_simp
      exact hK _ _ (Below.refl _ _) h2
    refine pk_cons rfl rfl ?_ ?_
    · intro wr x hC
      simp only [deps, at_, List.getD_cons_zero, List.getD_cons_succ, PK.sem, PK.move]
      intro K hK
      have hsz := hC.below.size
      simp only [putE, retOf]
      go_simp
      exact hK _ _ ⟨(Below.refl _ _).alloc (Nat.le_refl _) _, _, rfl, Nat.le_refl _⟩ ⟨_, _, rfl, hsz, holds_new2 _ (noDig_slice _ _ _) (noDig_bool _) _, rfl⟩
    refine pk_cons rfl rfl ?_ ?_
    · intro wr x hC
      simp only [deps, at_, List.getD_cons_zero, List.getD_cons_succ, PK.sem, PK.move]
      intro K hK
      have hsz := hC.below.size
      simp only [putE, retOf]
      go_simp
      exact hK _ _ ⟨(Below.refl _ _).alloc (Nat.le_refl _) _, _, rfl, Nat.le_refl _⟩ ⟨_, _, rfl, hsz, holds_new2 _ (noDig_slice _ _ _) (noDig_bool _) _, rfl⟩
    refine pk_cons rfl rfl ?_ ?_
    · intro wr x hC
      simp only [deps, at_, List.getD_cons_zero, List.getD_cons_succ, PK.sem, PK.move, kNum, kPutNum]
      intro hA hB
      intro K hK
      obtain ⟨g, cs, hx, hg0, hg, hsz⟩ := hA
      obtain ⟨u0, v0, rfl⟩ := size_two hsz
      obtain ⟨A, k, c, hy, hr1, hr2⟩ := hB
      obtain ⟨m1, m2, m3, m4⟩ := hg.two
      simp only [putE, retOf, hx, hy]
      go_simp
      exact hK _ _ ⟨g, hx, hg0, stored_put2 hg (noDig_slice _ _ _) (noDig_bool _)⟩ ⟨g, _, hx, hg0, holds_put2 hg (noDig_slice _ _ _) (noDig_bool _), A, k, c, rfl, (stored_put2 hg (noDig_slice _ _ _) (noDig_bool _)).rr hr1, hr2⟩
    refine pk_cons rfl rfl ?_ ?_
    · intro wr x hC
      simp only [deps, at_, List.getD_cons_zero, List.getD_cons_succ, PK.sem, PK.move, kNum, kPutNum]
      intro hA hB
      intro K hK
      obtain ⟨g, cs, hx, hg0, hg, hsz⟩ := hA
      obtain ⟨u0, v0, rfl⟩ := size_two hsz
      obtain ⟨A, k, c, hy, hr1, hr2⟩ := hB
      obtain ⟨m1, m2, m3, m4⟩ := hg.two
      simp only [putE, retOf, hx, hy]
      go_simp
      exact hK _ _ ⟨g, hx, hg0, stored_put2 hg (noDig_slice _ _ _) (noDig_bool _)⟩ ⟨g, _, hx, hg0, holds_put2 hg (noDig_slice _ _ _) (noDig_bool _), A, k, c, rfl, (stored_put2 hg (noDig_slice _ _ _) (noDig_bool _)).rr hr1, hr2⟩
    exact pk_nil rfl
  case en =>
    intro wr x hC hall
    have h9 := hall 9 (of_decide_eq_true (by kernel_rfl))
    have h10 := hall 10 (of_decide_eq_true (by kernel_rfl))
    clear hall
    simp only [at_, List.getD_cons_zero, List.getD_cons_succ, PK.sem, kPutNum] at h9 h10
    obtain ⟨g8, _, hx8, hs8, e8, A8, k8, c8, rfl, r8, z8⟩ := h9
    obtain ⟨g9, _, hx9, hs9, e9, A9, k9, c9, rfl, r9, z9⟩ := h10
    simp only [putE, hx8, hx9]
    clear hx8 hx9
    obtain ⟨i1, i2, _, _⟩ := e8.two
    obtain ⟨j1, j2, _, _⟩ := e9.two
    have bwr := bW.trans hC.below
    have hzr := hC.below.size
    have J2 : Holds_ wr (w.heap.size + 1 + 1) #[Value.bool false, Value.slice none 0 0] := ⟨⟨_, (hC.old _ (by omega) (show _ ∉ ([] : List Nat) by simp)).trans K2⟩, by simp [noDig]⟩
    have J3 : Holds_ wr (w.heap.size + 1 + 1 + 1) #[Value.bool false, Value.slice none 0 0] := ⟨⟨_, (hC.old _ (by omega) (show _ ∉ ([] : List Nat) by simp)).trans K3⟩, by simp [noDig]⟩
    have hl8 := e8.lt
    have hl9 := e9.lt
    rename_i w4
    clear hC K2 K3 p1 p2 q1 q2
    go_wp2_with fail
    go_simp
    refine wp_region_pk (w.heap.size) [kIs (.agg #[.slice A8 k8 c8, .bool sq]), kInt Q sq, kIs (.agg #[.slice A9 k9 c9, .bool sm]), kInt M sm, kCellInt (w.heap.size + 1 + 1) Q sq, kCellInt (w.heap.size + 1 + 1 + 1) M sm, kIs (.int .i64 0)] [ [], [(0, some 24)], [], [(2, some 26)], [(1, some 25)], [(3, some 27)], [] ] [(0, some 24), (1, some 25), (2, some 26), (3, some 27), (4, none), (5, none), (6, some 6)] [] [] (by kernel_rfl) (by kernel_rfl) (by kernel_rfl) (by kernel_rfl) (by kernel_rfl) (by kernel_rfl) ?n1 ?n2 ?n3 ?n4 ?st ?en
    case n1 => show List.Nodup ([(w.heap.size + 1 + 1), (w.heap.size + 1 + 1 + 1)] : List Nat); simp
    case n2 => show ∀ g ∈ ([(w.heap.size + 1 + 1), (w.heap.size + 1 + 1 + 1)] : List Nat), _; intro g hg; simp only [List.mem_cons, List.not_mem_nil, or_false] at hg; omega
    case n3 => omega
    case n4 =>
      show ∀ g ∈ ([(w.heap.size + 1 + 1), (w.heap.size + 1 + 1 + 1)] : List Nat), ∃ cs, Holds_ _ g cs
      intro g hg
      simp only [List.mem_cons, List.not_mem_nil, or_false] at hg
      rcases hg with rfl | rfl
      · exact ⟨_, J2⟩
      · exact ⟨_, J3⟩
    case st =>
      refine pk_cons rfl rfl ?_ ?_
      · intro wr x hC
        simp only [deps, at_, List.getD_cons_zero, PK.sem, PK.move, kIs]
        intro K hK
        have hce0 := (hC.cell (b := g8) (by omega) (show _ ∉ ([(w.heap.size + 1 + 1), (w.heap.size + 1 + 1 + 1)] : List Nat) by simp <;> omega) 0).1.trans i1
        have hce1 := (hC.cell (b := g8) (by omega) (show _ ∉ ([(w.heap.size + 1 + 1), (w.heap.size + 1 + 1 + 1)] : List Nat) by simp <;> omega) 1).1.trans i2
        simp only [putE, retOf]
        go_simp
        exact hK _ _ (Below.refl _ _) rfl
      refine pk_cons rfl rfl ?_ ?_
      · intro wr x hC
        simp only [deps, at_, List.getD_cons_zero, List.getD_cons_succ, PK.sem, PK.move, kInt, kIs]
        intro hA
        intro K hK
        simp only [putE, retOf, hA]
        go_simp
        refine (told_any (hC.rr r8) z8).mono ?_
        rintro e w2 ⟨A2, k2, c2, rfl, h1, h2, h3⟩
        go_simp
        exact hK _ _ h3 ⟨A2, k2, c2, rfl, h1, h2⟩
      refine pk_cons rfl rfl ?_ ?_
      · intro wr x hC
        simp only [deps, at_, List.getD_cons_zero, List.getD_cons_succ, PK.sem, PK.move, kIs]
        intro K hK
        have hce0 := (hC.cell (b := g9) (by omega) (show _ ∉ ([(w.heap.size + 1 + 1), (w.heap.size + 1 + 1 + 1)] : List Nat) by simp <;> omega) 0).1.trans j1
        have hce1 := (hC.cell (b := g9) (by omega) (show _ ∉ ([(w.heap.size + 1 + 1), (w.heap.size + 1 + 1 + 1)] : List Nat) by simp <;> omega) 1).1.trans j2
        simp only [putE, retOf]
        go_simp
        exact hK _ _ (Below.refl _ _) rfl
      refine pk_cons rfl rfl ?_ ?_
      · intro wr x hC
        simp only [deps, at_, List.getD_cons_zero, List.getD_cons_succ, PK.sem, PK.move, kInt, kIs]
        intro hA
        intro K hK
        simp only [putE, retOf, hA]
        go_simp
        refine (told_any (hC.rr r9) z9).mono ?_
        rintro e w2 ⟨A2, k2, c2, rfl, h1, h2, h3⟩
        go_simp
        exact hK _ _ h3 ⟨A2, k2, c2, rfl, h1, h2⟩
      refine pk_cons rfl rfl ?_ ?_
      · intro wr x hC
        simp only [deps, at_, List.getD_cons_zero, List.getD_cons_succ, PK.sem, PK.move, kCellInt, kInt]
        intro hA
        intro K hK
        obtain ⟨A, k, c, hx, hr1, hr2⟩ := hA
        obtain ⟨u0, v0, hg⟩ := hC.two (show _ ∈ ([(w.heap.size + 1 + 1), (w.heap.size + 1 + 1 + 1)] : List Nat) by simp) J2
        obtain ⟨m1, m2, m3, m4⟩ := hg.two
        simp only [putE, retOf, hx]
        go_simp
        exact hK _ _ (stored_put2 hg (noDig_bool _) (noDig_slice _ _ _)) ⟨_, holds_put2 hg (noDig_bool _) (noDig_slice _ _ _), A, k, c, rfl, (stored_put2 hg (noDig_bool _) (noDig_slice _ _ _)).rr hr1, hr2⟩
      refine pk_cons rfl rfl ?_ ?_
      · intro wr x hC
        simp only [deps, at_, List.getD_cons_zero, List.getD_cons_succ, PK.sem, PK.move, kCellInt, kInt]
        intro hA
        intro K hK
        obtain ⟨A, k, c, hx, hr1, hr2⟩ := hA
        obtain ⟨u0, v0, hg⟩ := hC.two (show _ ∈ ([(w.heap.size + 1 + 1), (w.heap.size + 1 + 1 + 1)] : List Nat) by simp) J3
        obtain ⟨m1, m2, m3, m4⟩ := hg.two
        simp only [putE, retOf, hx]
        go_simp
        exact hK _ _ (stored_put2 hg (noDig_bool _) (noDig_slice _ _ _)) ⟨_, holds_put2 hg (noDig_bool _) (noDig_slice _ _ _), A, k, c, rfl, (stored_put2 hg (noDig_bool _) (noDig_slice _ _ _)).rr hr1, hr2⟩
      refine pk_cons rfl rfl ?_ ?_
      · intro wr x hC
        simp only [deps, at_, List.getD_cons_zero, List.getD_cons_succ, PK.sem, PK.move, kIs]
        intro K hK
        simp only [putE, retOf]
        go_simp
        exact hK _ _ (Below.refl _ _) rfl
      exact pk_nil rfl
    case en =>
      intro wr x hC hall
      have h4 := hall 4 (of_decide_eq_true (by kernel_rfl))
      have h5 := hall 5 (of_decide_eq_true (by kernel_rfl))
      have h6 := hall 6 (of_decide_eq_true (by kernel_rfl))
      clear hall
      simp only [at_, List.getD_cons_zero, List.getD_cons_succ, PK.sem, kCellInt, kIs] at h4 h5 h6
      obtain ⟨_, e4, A4, k4, c4, rfl, r4, z4⟩ := h4
      obtain ⟨_, e5, A5, k5, c5, rfl, r5, z5⟩ := h5
      have hbw := bwr.trans hC.below
      obtain ⟨i1, i2, _, _⟩ := e4.two
      obtain ⟨j1, j2, _, _⟩ := e5.two
      simp only [putE, h6]
      clear h6
      go_wp2
      refine bodyPost_ret (v := .tuple #[.agg #[.bool sq, .slice A4 k4 c4], .agg #[.bool sm, .slice A5 k5 c5], .int .i64 0]) (by simp [results, Tryd.results34, go_sem, i1, i2, j1, j2]) rfl ?_
      exact ⟨_, _, rfl, ⟨A4, k4, c4, rfl, r4, z4⟩, ⟨A5, k5, c5, rfl, r5, z5⟩, hbw⟩
end Go.Proofs.YtbjcddfoajgebaaDoor

/- Contracts of package num's plus, times, negated, compare: numbers by their sizes and signs. Contracts of package num's Add and Mul over a list of numbers, of their closures, of each over them: whole numbers. Contracts of package num's Neg, Sub, Cmp, Right: whole numbers. Package num's Right of a right number; DivMod by 0; what DivMod tells, in whole numbers. Contract of whetstonelaw02.great over a list of at most 20 numbers: whether they have more than 1000 digits together. -/
import Derived.Test.YthjgfkmnelefpaaGreatDoorNum4
import Derived.Test.YthjgfkmnelefpaaGreatDoorReg
import Derived.Test.YthjgfkmnelefpaaGreatDoorNum11
import Derived.Test.YthjgfkmnelefpaaGreatDoorNum9
namespace Go.Proofs.YthjgfkmnelefpaaGreatDoor
open Go.RowKit

/-- What a number is: its size, its sign. -/
def zOf (n : Nat) (b : Bool) : Int := if b = true then -(n : Int) else (n : Int)
/-- The sum of two, by sizes and signs. -/
def addN (n : Nat) (b : Bool) (m : Nat) (c : Bool) : Nat := if (b == c) = true then n + m else gapOf n m
def addB (n : Nat) (b : Bool) (m : Nat) (c : Bool) : Bool := if (b == c) = true then sgn (n + m) b else sgn (gapOf n m) (b != decide (n < m))

/-- Two boxes and a cell for the result. -/
theorem three_newW {w W : World} {o1 o2 o3 : Obj} (h : W = ((w.alloc o1).alloc o2).alloc o3) :
    Below w.heap.size w W ∧ W.heap.size = w.heap.size + 3 ∧ W.heap[w.heap.size]? = some o1 ∧ W.heap[w.heap.size + 1]? = some o2 ∧ W.heap[w.heap.size + 1 + 1]? = some o3 := by
  subst h
  refine ⟨below_first (below_first ((Below.refl _ _).alloc (Nat.le_refl _) _)), by simp, ?_, ?_, ?_⟩
  · rw [Below.heap_alloc _ _ _ (by simp <;> omega), Below.heap_alloc _ _ _ (by simp)]; exact new_at rfl
  · rw [Below.heap_alloc _ _ _ (by simp)]; exact new_at (by simp)
  · exact new_at (by simp)

set_option maxRecDepth 100000 in
set_option maxHeartbeats 4000000 in
theorem plus_num {w : World} {A1 A2 : Option Addr} {k1 c1 k2 c2 n1 n2 N : Nat} (b1 b2 : Bool) (h1 : Rr w (.slice A1 k1 c1) n1) (h2 : Rr w (.slice A2 k2 c2) n2) (hn : n1 + n2 < 1000000000 ^ N) (hN : N ≤ 4000) :
    Calls Tryz.prog 30 #[.agg #[.slice A1 k1 c1, .bool b1], .agg #[.slice A2 k2 c2, .bool b2]] w (RetNumB2 w (addN n1 b1 n2 b2) (addB n1 b1 n2 b2)) := by
  have hjn := fun (W : World) (hW : Below w.heap.size w W) => joined_any (h1.below hW).rd (h2.below hW).rd hn hN
  have hap := fun (W : World) (hW : Below w.heap.size w W) => apart_any (N := N) (h1.below hW).rd (h2.below hW).rd (by omega) (by omega) hN
  have HJN := Lib.hid hjn
  have HAP := Lib.hid hap
  clear hjn hap h1 h2 hn hN
  obtain ⟨Q, hQ⟩ : ∃ Q, Q = addN n1 b1 n2 b2 := ⟨_, rfl⟩
  obtain ⟨sq, hsq⟩ : ∃ s, s = addB n1 b1 n2 b2 := ⟨_, rfl⟩
  rw [← hQ, ← hsq]
  have HQ := Lib.hid hQ
  have HSQ := Lib.hid hsq
  clear hQ hsq
  by_cases he : b1 = b2
  · subst he
    have eQ : Q = n1 + n2 := by rw [HQ.out]; exact if_pos (by simp)
    have eS : sq = sgn (n1 + n2) b1 := by rw [HSQ.out]; exact if_pos (by simp)
    clear HQ HSQ HAP
    subst eQ
    subst eS
    go_enter Tryz.func30, Tryz.ntmps30
    go_wp2_with fail
    obtain ⟨W, hW⟩ : ∃ W, W = ((w.alloc (Obj.cells #[Value.slice A1 k1 c1, Value.bool b1] 49)).alloc (Obj.cells #[Value.slice A2 k2 c2, Value.bool b1] 49)).alloc (Obj.cells #[Value.slice none 0 0, Value.bool false] 49) := ⟨_, rfl⟩
    obtain ⟨bW, sW, K0, K1, K2⟩ := three_newW hW
    rw [← hW]
    clear hW
    obtain ⟨p1, p2, _, _⟩ := cell_of_two K0
    obtain ⟨q1, q2, _, _⟩ := cell_of_two K1
    go_simp
    have J2 : Holds_ W (w.heap.size + 1 + 1) #[Value.slice none 0 0, Value.bool false] := ⟨⟨_, K2⟩, by simp [noDig]⟩
    clear K0 K1 K2
    refine wp_region_pk (w.heap.size) [kIs (.pointer (some ⟨w.heap.size, 0, none⟩)), kIs (.slice A1 k1 c1), kIs (.pointer (some ⟨w.heap.size + 1, 0, none⟩)), kIs (.slice A2 k2 c2), kRr (n1 + n2), kIs (.pointer (some ⟨w.heap.size, 1, none⟩)), kIs (.bool b1), kNum (n1 + n2) (sgn (n1 + n2) b1), kCellNum (w.heap.size + 1 + 1) (n1 + n2) (sgn (n1 + n2) b1)] [ [], [(0, some 12)], [], [(2, some 14)], [(1, some 13), (3, some 15)], [], [(5, some 17)], [(4, some 16), (6, some 18)], [(7, some 19)] ] [(0, some 12), (1, some 13), (2, some 14), (3, some 15), (4, some 16), (5, some 17), (6, some 18), (7, some 19), (8, none)] [] [] (by kernel_rfl) (by kernel_rfl) (by kernel_rfl) (by kernel_rfl) (by kernel_rfl) (by kernel_rfl) ?n1 ?n2 ?n3 ?n4 ?st ?en
    case n1 => show List.Nodup ([(w.heap.size + 1 + 1)] : List Nat); simp
    case n2 => show ∀ g ∈ ([(w.heap.size + 1 + 1)] : List Nat), _; intro g hg; simp only [List.mem_cons, List.not_mem_nil, or_false] at hg; omega
    case n3 => omega
    case n4 =>
      show ∀ g ∈ ([(w.heap.size + 1 + 1)] : List Nat), ∃ cs, Holds_ _ g cs
      intro g hg
      simp only [List.mem_cons, List.not_mem_nil, or_false] at hg
      rcases hg with rfl
      · exact ⟨_, J2⟩
    case st =>
      refine pk_cons rfl rfl ?_ ?_
      · intro wr x hC
        simp only [deps, at_, List.getD_cons_zero, PK.sem, PK.move, kIs]
        intro K hK
        simp only [putE, retOf]
        go_simp
        exact hK _ _ (Below.refl _ _) rfl
      refine pk_cons rfl rfl ?_ ?_
      · intro wr x hC
        simp only [deps, at_, List.getD_cons_zero, List.getD_cons_succ, PK.sem, PK.move, kIs]
        intro h0
        intro K hK
        have hce0 := (hC.cell (b := w.heap.size) (by omega) (show _ ∉ ([(w.heap.size + 1 + 1)] : List Nat) by simp <;> omega) 0).1.trans p1
        simp only [putE, retOf, h0]
        go_simp
        exact hK _ _ (Below.refl _ _) rfl
      refine pk_cons rfl rfl ?_ ?_
      · intro wr x hC
        simp only [deps, at_, List.getD_cons_zero, List.getD_cons_succ, PK.sem, PK.move, kIs]
        intro K hK
        simp only [putE, retOf]
        go_simp
        exact hK _ _ (Below.refl _ _) rfl
      refine pk_cons rfl rfl ?_ ?_
      · intro wr x hC
        simp only [deps, at_, List.getD_cons_zero, List.getD_cons_succ, PK.sem, PK.move, kIs]
        intro h0
        intro K hK
        have hce0 := (hC.cell (b := w.heap.size + 1) (by omega) (show _ ∉ ([(w.heap.size + 1 + 1)] : List Nat) by simp <;> omega) 0).1.trans q1
        simp only [putE, retOf, h0]
        go_simp
        exact hK _ _ (Below.refl _ _) rfl
      refine pk_cons rfl rfl ?_ ?_
      · intro wr x hC
        simp only [deps, at_, List.getD_cons_zero, List.getD_cons_succ, PK.sem, PK.move, kIs, kRr]
        intro hA hB
        intro K hK
        simp only [putE, retOf, hA, hB]
        go_simp
        refine (HJN.out _ (bW.trans hC.below)).mono ?_
        rintro e w2 ⟨A2, k2, c2, rfl, h1, h2⟩
        go_simp
        exact hK _ _ h2 ⟨A2, k2, c2, rfl, h1⟩
      refine pk_cons rfl rfl ?_ ?_
      · intro wr x hC
        simp only [deps, at_, List.getD_cons_zero, List.getD_cons_succ, PK.sem, PK.move, kIs]
        intro K hK
        simp only [putE, retOf]
        go_simp
        exact hK _ _ (Below.refl _ _) rfl
      refine pk_cons rfl rfl ?_ ?_
      · intro wr x hC
        simp only [deps, at_, List.getD_cons_zero, List.getD_cons_succ, PK.sem, PK.move, kIs]
        intro h0
        intro K hK
        have hce1 := (hC.cell (b := w.heap.size) (by omega) (show _ ∉ ([(w.heap.size + 1 + 1)] : List Nat) by simp <;> omega) 1).1.trans p2
        simp only [putE, retOf, h0]
        go_simp
        exact hK _ _ (Below.refl _ _) rfl
      refine pk_cons rfl rfl ?_ ?_
      · intro wr x hC
        simp only [deps, at_, List.getD_cons_zero, List.getD_cons_succ, PK.sem, PK.move, kIs, kNum, kRr]
        intro hA hB
        intro K hK
        obtain ⟨A, k, c, hA, hr1⟩ := hA
        simp only [putE, retOf, hA, hB]
        go_simp
        refine (signed_s b1 hr1).mono ?_
        rintro e w2 ⟨A2, k2, c2, rfl, h1, h2, h3⟩
        go_simp
        exact hK _ _ h3 ⟨A2, k2, c2, rfl, h1, h2⟩
      refine pk_cons rfl rfl ?_ ?_
      · intro wr x hC
        simp only [deps, at_, List.getD_cons_zero, List.getD_cons_succ, PK.sem, PK.move, kCellNum, kNum]
        intro hA
        intro K hK
        obtain ⟨A, k, c, hx, hr1, hr2⟩ := hA
        obtain ⟨u0, v0, hg⟩ := hC.two (show _ ∈ ([(w.heap.size + 1 + 1)] : List Nat) by simp) J2
        obtain ⟨m1, m2, m3, m4⟩ := hg.two
        simp only [putE, retOf, hx]
        go_simp
        exact hK _ _ (stored_put2 hg (noDig_slice _ _ _) (noDig_bool _)) ⟨_, holds_put2 hg (noDig_slice _ _ _) (noDig_bool _), A, k, c, rfl, (stored_put2 hg (noDig_slice _ _ _) (noDig_bool _)).rr hr1, hr2⟩
      exact pk_nil rfl
    case en =>
      intro wr x hC hall
      have hE := hall 8 (of_decide_eq_true (by kernel_rfl))
      clear hall
      simp only [at_, List.getD_cons_zero, List.getD_cons_succ, PK.sem, kCellNum] at hE
      obtain ⟨_, e4, A4, k4, c4, rfl, r4, z4⟩ := hE
      have hbw := bW.trans hC.below
      obtain ⟨i1, i2, _, _⟩ := e4.two
      simp only [putE]
      clear hC e4
      go_wp2
      refine bodyPost_ret (v := .agg #[.slice A4 k4 c4, .bool (sgn (n1 + n2) b1)]) (by simp [results, Tryz.results30, go_sem, i1, i2]) rfl ?_
      exact ⟨A4, k4, c4, rfl, r4, z4, hbw⟩
  · have hb1 : (b1 == b2) = false := by simpa using he
    have eQ : Q = gapOf n1 n2 := by rw [HQ.out]; exact if_neg (by simpa using he)
    have eS : sq = sgn (gapOf n1 n2) (b1 != decide (n1 < n2)) := by rw [HSQ.out]; exact if_neg (by simpa using he)
    obtain ⟨tu, htu⟩ : ∃ t, t = decide (n1 < n2) := ⟨_, rfl⟩
    rw [← htu] at eS HAP
    clear HQ HSQ HJN he htu
    subst eQ
    obtain ⟨G, hG⟩ : ∃ G, G = gapOf n1 n2 := ⟨_, rfl⟩
    rw [← hG] at eS HAP ⊢
    subst eS
    clear hG
    go_enter Tryz.func30, Tryz.ntmps30
    go_wp2_with fail
    obtain ⟨W, hW⟩ : ∃ W, W = ((w.alloc (Obj.cells #[Value.slice A1 k1 c1, Value.bool b1] 49)).alloc (Obj.cells #[Value.slice A2 k2 c2, Value.bool b2] 49)).alloc (Obj.cells #[Value.slice none 0 0, Value.bool false] 49) := ⟨_, rfl⟩
    obtain ⟨bW, sW, K0, K1, K2⟩ := three_newW hW
    rw [← hW]
    clear hW
    refine (HAP.out _ bW).mono ?_
    rintro e w1 ⟨A, k, c, rfl, hr, hb⟩
    have hz := hb.size
    obtain ⟨p1, p2, _, _⟩ := cell_of_two ((hb.block w.heap.size (by omega)).trans K0)
    have K2 := (hb.block (w.heap.size + 1 + 1) (by omega)).trans K2
    have bw1 := bstep bW hb
    have HSG := Lib.hid (signed_s (b1 != tu) hr)
    clear hb bW K0 K1 hr HAP
    go_wp2_with fail
    refine HSG.out.mono ?_
    rintro e w2 ⟨A3, k3, c3, rfl, h3, z3, hb⟩
    have K3 := (hb.block (w.heap.size + 1 + 1) (by omega)).trans K2
    have bw2 := bstep bw1 hb
    obtain ⟨m1, m2, m3, m4⟩ := cell_of_two K3
    obtain ⟨i1, i2, i3⟩ := two_stored (a' := .slice A3 k3 c3) (b' := .bool (sgn G (b1 != tu))) K3 (fun d h => by cases h) (fun d h => by cases h) h3
    clear hb K3 K2 bw1 HSG
    go_wp2
    refine bodyPost_ret (v := .agg #[.slice A3 k3 c3, .bool (sgn G (b1 != tu))]) (by simp [results, Tryz.results30, go_sem, i1, i2]) rfl ?_
    exact ⟨A3, k3, c3, rfl, i3, z3, (bw2.setCell (by show w.heap.size ≤ w.heap.size + 1 + 1; omega) _).setCell (by show w.heap.size ≤ w.heap.size + 1 + 1; omega) _⟩

set_option maxRecDepth 100000 in
set_option maxHeartbeats 1000000 in
theorem scaled_any {w : World} {A1 A2 : Option Addr} {k1 c1 k2 c2 n1 n2 N : Nat} (h1 : Rd w (.slice A1 k1 c1) n1) (h2 : Rd w (.slice A2 k2 c2) n2) (hn1 : n1 < 1000000000 ^ N) (hn : n1 * n2 < 1000000000 ^ N) (hN : N ≤ 4000) (hN0 : 0 < N) :
    Calls Tryz.prog 61 #[.slice A1 k1 c1, .slice A2 k2 c2] w (RetR w (n1 * n2)) := by
  have ha := val_mul2 h1 h2 hn1 hn hN hN0
  have HA := Lib.hid ha
  clear ha h1 h2 hn hn1
  go_enter Tryz.func61, Tryz.ntmps61
  go_wp2_with fail
  refine HA.out.mono ?_
  rintro e w1 ⟨A, k, c, rfl, hr, hb⟩
  have hb1 := bstep (bal (Below.refl w.heap.size w) _) hb
  clear hb
  go_wp2
  go_ret
  exact ⟨A, k, c, rfl, hr, hb1⟩

set_option maxRecDepth 100000 in
set_option maxHeartbeats 4000000 in
theorem times_num {w : World} {A1 A2 : Option Addr} {k1 c1 k2 c2 n1 n2 N : Nat} (b1 b2 : Bool) (h1 : Rr w (.slice A1 k1 c1) n1) (h2 : Rr w (.slice A2 k2 c2) n2) (hn1 : n1 < 1000000000 ^ N) (hn : n1 * n2 < 1000000000 ^ N) (hN : N ≤ 4000) (hN0 : 0 < N) :
    Calls Tryz.prog 37 #[.agg #[.slice A1 k1 c1, .bool b1], .agg #[.slice A2 k2 c2, .bool b2]] w (RetNumB2 w (n1 * n2) (sgn (n1 * n2) (b1 != b2))) := by
  have hjn := fun (W : World) (hW : Below w.heap.size w W) => scaled_any (h1.below hW).rd (h2.below hW).rd hn1 hn hN hN0
  have HJN := Lib.hid hjn
  clear hjn h1 h2 hn hN hn1 hN0
  obtain ⟨sx, hsx⟩ : ∃ s, s = (b1 != b2) := ⟨_, rfl⟩
  rw [← hsx]
  have HSX := Lib.hid hsx
  clear hsx
  go_enter Tryz.func37, Tryz.ntmps37
  go_wp2_with fail
  obtain ⟨W, hW⟩ : ∃ W, W = ((w.alloc (Obj.cells #[Value.slice A1 k1 c1, Value.bool b1] 49)).alloc (Obj.cells #[Value.slice A2 k2 c2, Value.bool b2] 49)).alloc (Obj.cells #[Value.slice none 0 0, Value.bool false] 49) := ⟨_, rfl⟩
  obtain ⟨bW, sW, K0, K1, K2⟩ := three_newW hW
  rw [← hW]
  clear hW
  obtain ⟨p1, p2, _, _⟩ := cell_of_two K0
  obtain ⟨q1, q2, _, _⟩ := cell_of_two K1
  go_simp
  have J2 : Holds_ W (w.heap.size + 1 + 1) #[Value.slice none 0 0, Value.bool false] := ⟨⟨_, K2⟩, by simp [noDig]⟩
  clear K0 K1 K2
  refine wp_region_pk (w.heap.size) [kIs (.pointer (some ⟨w.heap.size, 0, none⟩)), kIs (.slice A1 k1 c1), kIs (.pointer (some ⟨w.heap.size + 1, 0, none⟩)), kIs (.slice A2 k2 c2), kRr (n1 * n2), kIs (.pointer (some ⟨w.heap.size, 1, none⟩)), kIs (.bool b1), kIs (.pointer (some ⟨w.heap.size + 1, 1, none⟩)), kIs (.bool b2), kIs (.bool sx), kNum (n1 * n2) (sgn (n1 * n2) sx), kCellNum (w.heap.size + 1 + 1) (n1 * n2) (sgn (n1 * n2) sx)] [ [], [(0, some 5)], [], [(2, some 7)], [(1, some 6), (3, some 8)], [], [(5, some 10)], [], [(7, some 12)], [(6, some 11), (8, some 13)], [(4, some 9), (9, some 14)], [(10, some 15)] ] [(0, some 5), (1, some 6), (2, some 7), (3, some 8), (4, some 9), (5, some 10), (6, some 11), (7, some 12), (8, some 13), (9, some 14), (10, some 15), (11, none)] [] [] (by kernel_rfl) (by kernel_rfl) (by kernel_rfl) (by kernel_rfl) (by kernel_rfl) (by kernel_rfl) ?n1 ?n2 ?n3 ?n4 ?st ?en
  case n1 => show List.Nodup ([(w.heap.size + 1 + 1)] : List Nat); simp
  case n2 => show ∀ g ∈ ([(w.heap.size + 1 + 1)] : List Nat), _; intro g hg; simp only [List.mem_cons, List.not_mem_nil, or_false] at hg; omega
  case n3 => omega
  case n4 =>
    show ∀ g ∈ ([(w.heap.size + 1 + 1)] : List Nat), ∃ cs, Holds_ _ g cs
    intro g hg
    simp only [List.mem_cons, List.not_mem_nil, or_false] at hg
    rcases hg with rfl
    · exact ⟨_, J2⟩
  case st =>
    refine pk_cons rfl rfl ?_ ?_
    · intro wr x hC
      simp only [deps, at_, List.getD_cons_zero, PK.sem, PK.move, kIs]
      intro K hK
      simp only [putE, retOf]
      go_simp
      exact hK _ _ (Below.refl _ _) rfl
    refine pk_cons rfl rfl ?_ ?_
    · intro wr x hC
      simp only [deps, at_, List.getD_cons_zero, List.getD_cons_succ, PK.sem, PK.move, kIs]
      intro h0
      intro K hK
      have hce0 := (hC.cell (b := w.heap.size) (by omega) (show _ ∉ ([(w.heap.size + 1 + 1)] : List Nat) by simp <;> omega) 0).1.trans p1
      simp only [putE, retOf, h0]
      go_simp
      exact hK _ _ (Below.refl _ _) rfl
    refine pk_cons rfl rfl ?_ ?_
    · intro wr x hC
      simp only [deps, at_, List.getD_cons_zero, List.getD_cons_succ, PK.sem, PK.move, kIs]
      intro K hK
      simp only [putE, retOf]
      go_simp
      exact hK _ _ (Below.refl _ _) rfl
    refine pk_cons rfl rfl ?_ ?_
    · intro wr x hC
      simp only [deps, at_, List.getD_cons_zero, List.getD_cons_succ, PK.sem, PK.move, kIs]
      intro h0
      intro K hK
      have hce0 := (hC.cell (b := w.heap.size + 1) (by omega) (show _ ∉ ([(w.heap.size + 1 + 1)] : List Nat) by simp <;> omega) 0).1.trans q1
      simp only [putE, retOf, h0]
      go_simp
      exact hK _ _ (Below.refl _ _) rfl
    refine pk_cons rfl rfl ?_ ?_
    · intro wr x hC
      simp only [deps, at_, List.getD_cons_zero, List.getD_cons_succ, PK.sem, PK.move, kIs, kRr]
      intro hA hB
      intro K hK
      simp only [putE, retOf, hA, hB]
      go_simp
      refine (HJN.out _ (bW.trans hC.below)).mono ?_
      rintro e w2 ⟨A2, k2, c2, rfl, h1, h2⟩
      go_simp
      exact hK _ _ h2 ⟨A2, k2, c2, rfl, h1⟩
    refine pk_cons rfl rfl ?_ ?_
    · intro wr x hC
      simp only [deps, at_, List.getD_cons_zero, List.getD_cons_succ, PK.sem, PK.move, kIs]
      intro K hK
      simp only [putE, retOf]
      go_simp
      exact hK _ _ (Below.refl _ _) rfl
    refine pk_cons rfl rfl ?_ ?_
    · intro wr x hC
      simp only [deps, at_, List.getD_cons_zero, List.getD_cons_succ, PK.sem, PK.move, kIs]
      intro h0
      intro K hK
      have hce1 := (hC.cell (b := w.heap.size) (by omega) (show _ ∉ ([(w.heap.size + 1 + 1)] : List Nat) by simp <;> omega) 1).1.trans p2
      simp only [putE, retOf, h0]
      go_simp
      exact hK _ _ (Below.refl _ _) rfl
    refine pk_cons rfl rfl ?_ ?_
    · intro wr x hC
      simp only [deps, at_, List.getD_cons_zero, List.getD_cons_succ, PK.sem, PK.move, kIs]
      intro K hK
      simp only [putE, retOf]
      go_simp
      exact hK _ _ (Below.refl _ _) rfl
    refine pk_cons rfl rfl ?_ ?_
    · intro wr x hC
      simp only [deps, at_, List.getD_cons_zero, List.getD_cons_succ, PK.sem, PK.move, kIs]
      intro h0
      intro K hK
      have hce1 := (hC.cell (b := w.heap.size + 1) (by omega) (show _ ∉ ([(w.heap.size + 1 + 1)] : List Nat) by simp <;> omega) 1).1.trans q2
      simp only [putE, retOf, h0]
      go_simp
      exact hK _ _ (Below.refl _ _) rfl
    refine pk_cons rfl rfl ?_ ?_
    · intro wr x hC
      simp only [deps, at_, List.getD_cons_zero, List.getD_cons_succ, PK.sem, PK.move, kIs]
      intro hA hB
      intro K hK
      simp only [putE, retOf, hA, hB]
      go_simp
      exact hK _ _ (Below.refl _ _) (by rw [HSX.out]; rfl)
    refine pk_cons rfl rfl ?_ ?_
    · intro wr x hC
      simp only [deps, at_, List.getD_cons_zero, List.getD_cons_succ, PK.sem, PK.move, kIs, kNum, kRr]
      intro hA hB
      intro K hK
      obtain ⟨A, k, c, hA, hr1⟩ := hA
      simp only [putE, retOf, hA, hB]
      go_simp
      refine (signed_s sx hr1).mono ?_
      rintro e w2 ⟨A2, k2, c2, rfl, h1, h2, h3⟩
      go_simp
      exact hK _ _ h3 ⟨A2, k2, c2, rfl, h1, h2⟩
    refine pk_cons rfl rfl ?_ ?_
    · intro wr x hC
      simp only [deps, at_, List.getD_cons_zero, List.getD_cons_succ, PK.sem, PK.move, kCellNum, kNum]
      intro hA
      intro K hK
      obtain ⟨A, k, c, hx, hr1, hr2⟩ := hA
      obtain ⟨u0, v0, hg⟩ := hC.two (show _ ∈ ([(w.heap.size + 1 + 1)] : List Nat) by simp) J2
      obtain ⟨m1, m2, m3, m4⟩ := hg.two
      simp only [putE, retOf, hx]
      go_simp
      exact hK _ _ (stored_put2 hg (noDig_slice _ _ _) (noDig_bool _)) ⟨_, holds_put2 hg (noDig_slice _ _ _) (noDig_bool _), A, k, c, rfl, (stored_put2 hg (noDig_slice _ _ _) (noDig_bool _)).rr hr1, hr2⟩
    exact pk_nil rfl
  case en =>
    intro wr x hC hall
    have hE := hall 11 (of_decide_eq_true (by kernel_rfl))
    clear hall
    simp only [at_, List.getD_cons_zero, List.getD_cons_succ, PK.sem, kCellNum] at hE
    obtain ⟨_, e4, A4, k4, c4, rfl, r4, z4⟩ := hE
    have hbw := bW.trans hC.below
    obtain ⟨i1, i2, _, _⟩ := e4.two
    simp only [putE]
    clear hC e4
    go_wp2
    refine bodyPost_ret (v := .agg #[.slice A4 k4 c4, .bool (sgn (n1 * n2) sx)]) (by simp [results, Tryz.results37, go_sem, i1, i2]) rfl ?_
    exact ⟨A4, k4, c4, rfl, r4, z4, hbw⟩

set_option maxRecDepth 100000 in
set_option maxHeartbeats 1600000 in
theorem negated_num {w : World} {A1 : Option Addr} {k1 c1 n1 : Nat} (b1 : Bool) (h1 : Rr w (.slice A1 k1 c1) n1) :
    Calls Tryz.prog 46 #[.agg #[.slice A1 k1 c1, .bool b1]] w (RetNumB2 w n1 (sgn n1 (!b1))) := by
  have hsg := fun (W : World) (hW : Below w.heap.size w W) => signed_s (!b1) (h1.below hW)
  have HSG := Lib.hid hsg
  clear hsg h1
  go_enter Tryz.func46, Tryz.ntmps46
  go_wp2_with fail
  refine (HSG.out _ (bal (bal (Below.refl _ _) _) _)).mono ?_
  rintro e w2 ⟨A3, k3, c3, rfl, h3, z3, hb⟩
  have K2 := (hb.block (w.heap.size + 1) (by simp)).trans (new_succ w (Obj.cells #[Value.slice none 0 0, Value.bool false] 49) (Obj.cells #[Value.slice A1 k1 c1, Value.bool b1] 49))
  have bw2 := bstep (bal (bal (Below.refl w.heap.size w) _) _) hb
  obtain ⟨m1, m2, m3, m4⟩ := cell_of_two K2
  obtain ⟨i1, i2, i3⟩ := two_stored (a' := .slice A3 k3 c3) (b' := .bool (sgn n1 (!b1))) K2 (fun d h => by cases h) (fun d h => by cases h) h3
  clear hb K2 HSG
  go_wp2
  refine bodyPost_ret (v := .agg #[.slice A3 k3 c3, .bool (sgn n1 (!b1))]) (by simp [results, Tryz.results46, go_sem, i1, i2]) rfl ?_
  exact ⟨A3, k3, c3, rfl, i3, z3, (bw2.setCell (Nat.le_succ _) _).setCell (Nat.le_succ _) _⟩

set_option maxRecDepth 100000 in
set_option maxHeartbeats 1600000 in
theorem against_any {w : World} {A1 A2 : Option Addr} {k1 c1 k2 c2 n1 n2 : Nat} (h1 : Rd w (.slice A1 k1 c1) n1) (h2 : Rd w (.slice A2 k2 c2) n2) :
    Calls Tryz.prog 73 #[.slice A1 k1 c1, .slice A2 k2 c2] w fun e w' => e = .returned (.int .i64 (ordI (n1 : Int) (n2 : Int))) ∧ Below w.heap.size w w' := by
  have ha := val_cmp h1 h2
  have HA := Lib.hid ha
  clear ha h1 h2
  go_enter Tryz.func73, Tryz.ntmps73
  go_wp2_with fail
  refine HA.out.mono ?_
  rintro e w1 ⟨rfl, hb⟩
  go_wp2
  go_ret
  exact ⟨rfl, hb⟩

theorem ordI_neg (a b : Int) : ordI (-a) (-b) = ordI b a := by
  unfold ordI
  by_cases h1 : a < b <;> by_cases h2 : b < a <;> simp_all <;> omega
set_option maxRecDepth 100000 in
set_option maxHeartbeats 1600000 in
theorem compare_num {w : World} {A1 A2 : Option Addr} {k1 c1 k2 c2 n1 n2 : Nat} (b1 b2 : Bool) (h1 : Rr w (.slice A1 k1 c1) n1) (h2 : Rr w (.slice A2 k2 c2) n2) (z1 : n1 = 0 → b1 = false) (z2 : n2 = 0 → b2 = false) :
    Calls Tryz.prog 51 #[.agg #[.slice A1 k1 c1, .bool b1], .agg #[.slice A2 k2 c2, .bool b2]] w fun e w' => e = .returned (.int .i64 (ordI (zOf n1 b1) (zOf n2 b2))) ∧ Below w.heap.size w w' := by
  have HA := Lib.hid fun (W : World) (hW : Below w.heap.size w W) => against_any (h1.below hW).rd (h2.below hW).rd
  have HB := Lib.hid fun (W : World) (hW : Below w.heap.size w W) => against_any (h2.below hW).rd (h1.below hW).rd
  obtain ⟨o, ho⟩ : ∃ o, o = ordI (zOf n1 b1) (zOf n2 b2) := ⟨_, rfl⟩
  rw [← ho]
  have HO := Lib.hid ho
  have HZ := Lib.hid (show (n1 = 0 → b1 = false) ∧ (n2 = 0 → b2 = false) from ⟨z1, z2⟩)
  clear h1 h2 ho z1 z2
  cases b1 <;> cases b2
  · have e : o = ordI (n1 : Int) (n2 : Int) := HO.out
    rw [e]
    clear HO HZ HB e
    go_enter Tryz.func51, Tryz.ntmps51
    go_wp2_with fail
    refine (HA.out _ (bal (bal (Below.refl _ _) _) _)).mono ?_
    rintro e w1 ⟨rfl, hb⟩
    have bw := bstep (bal (bal (Below.refl w.heap.size w) _) _) hb
    clear hb
    go_wp2
    go_returns
    exact ⟨rfl, bw⟩
  · have e : o = 1 := by
      have h2 : n2 ≠ 0 := fun h => by have := HZ.out.2 h; cases this
      rw [HO.out]
      show ordI (n1 : Int) (-(n2 : Int)) = 1
      unfold ordI
      rw [if_neg (by omega)]
      split <;> omega
    rw [e]
    clear HO HZ HB HA e
    go_enter Tryz.func51, Tryz.ntmps51
    go_wp2
    go_returns
    exact ⟨rfl, bal (bal (Below.refl w.heap.size w) _) _⟩
  · have e : o = -1 := by
      have h1 : n1 ≠ 0 := fun h => by have := HZ.out.1 h; cases this
      rw [HO.out]
      show ordI (-(n1 : Int)) (n2 : Int) = -1
      unfold ordI
      rw [if_pos (by omega)]
    rw [e]
    clear HO HZ HB HA e
    go_enter Tryz.func51, Tryz.ntmps51
    go_wp2
    go_returns
    exact ⟨rfl, bal (bal (Below.refl w.heap.size w) _) _⟩
  · have e : o = ordI (n2 : Int) (n1 : Int) := HO.out.trans (ordI_neg _ _)
    rw [e]
    clear HO HZ HA e
    go_enter Tryz.func51, Tryz.ntmps51
    go_wp2_with fail
    refine (HB.out _ (bal (bal (Below.refl _ _) _) _)).mono ?_
    rintro e w1 ⟨rfl, hb⟩
    have bw := bstep (bal (bal (Below.refl w.heap.size w) _) _) hb
    clear hb
    go_wp2
    go_returns
    exact ⟨rfl, bw⟩
end Go.Proofs.YthjgfkmnelefpaaGreatDoor

namespace Go.Proofs.YthjgfkmnelefpaaGreatDoor
open Go.RowKit

theorem zOf_abs (n : Nat) (b : Bool) : (zOf n b).natAbs = n := by
  unfold zOf; split <;> omega
theorem zOf_neg (n : Nat) (b : Bool) : decide (zOf n b < 0) = sgn n b := by
  unfold zOf sgn
  cases b
  · rw [if_neg (by decide), Bool.false_and, decide_eq_false_iff_not]; omega
  · rw [if_pos rfl, Bool.true_and, decide_eq_decide]; omega
theorem zOf_of (z : Int) : zOf z.natAbs (decide (z < 0)) = z := by
  unfold zOf
  by_cases h : z < 0
  · rw [if_pos (decide_eq_true h)]; omega
  · rw [if_neg (by simpa using h)]; omega
theorem abs_zero {z : Int} (h : z.natAbs = 0) : decide (z < 0) = false := by
  rw [decide_eq_false_iff_not]; omega
theorem sgn_right {n : Nat} {b : Bool} (h : n = 0 → b = false) : sgn n b = b := by
  unfold sgn
  by_cases h0 : n = 0
  · rw [h h0]; rfl
  · rw [decide_eq_true h0, Bool.and_true]

theorem addN_z (x y : Int) : addN x.natAbs (decide (x < 0)) y.natAbs (decide (y < 0)) = (x + y).natAbs ∧ addB x.natAbs (decide (x < 0)) y.natAbs (decide (y < 0)) = decide (x + y < 0) := by
  unfold addN addB gapOf sgn
  by_cases h1 : x < 0 <;> by_cases h2 : y < 0
  · simp only [decide_eq_true h1, decide_eq_true h2, beq_self_eq_true, if_true]
    exact ⟨by omega, by rw [Bool.true_and, decide_eq_decide]; omega⟩
  · simp only [decide_eq_true h1, decide_eq_false h2, Bool.true_eq_false, beq_iff_eq, if_false]
    refine ⟨by split <;> omega, ?_⟩
    by_cases h3 : x.natAbs < y.natAbs
    · rw [decide_eq_true h3, if_neg (by omega), bne_self_eq_false, Bool.false_and, eq_comm, decide_eq_false_iff_not]; omega
    · rw [decide_eq_false h3, if_pos (by omega)]
      show (true && _) = _
      rw [Bool.true_and, decide_eq_decide]; omega
  · simp only [decide_eq_false h1, decide_eq_true h2, Bool.false_eq_true, beq_iff_eq, if_false]
    refine ⟨by split <;> omega, ?_⟩
    by_cases h3 : x.natAbs < y.natAbs
    · rw [decide_eq_true h3, if_neg (by omega)]
      show (true && _) = _
      rw [Bool.true_and, decide_eq_decide]; omega
    · rw [decide_eq_false h3, if_pos (by omega), bne_self_eq_false, Bool.false_and, eq_comm, decide_eq_false_iff_not]; omega
  · simp only [decide_eq_false h1, decide_eq_false h2, beq_self_eq_true, if_true]
    exact ⟨by omega, by rw [Bool.false_and, eq_comm, decide_eq_false_iff_not]; omega⟩
theorem mulB_z (x y : Int) : sgn (x.natAbs * y.natAbs) (decide (x < 0) != decide (y < 0)) = decide (x * y < 0) := by
  rw [← Int.natAbs_mul]
  have hp : ∀ a b : Int, 0 ≤ a → 0 ≤ b → decide (a * b < 0) = false := fun a b ha hb => by
    rw [decide_eq_false_iff_not]; have := Int.mul_nonneg ha hb; omega
  have hm : ∀ a b : Int, a < 0 → 0 ≤ b → (decide ((a * b).natAbs ≠ 0)) = decide (a * b < 0) := fun a b ha hb => by
    rw [decide_eq_decide]
    have : 0 ≤ (-a) * b := Int.mul_nonneg (by omega) hb
    rw [Int.neg_mul] at this
    omega
  unfold sgn
  by_cases h1 : x < 0 <;> by_cases h2 : y < 0
  · rw [decide_eq_true h1, decide_eq_true h2, bne_self_eq_false, Bool.false_and]
    have := hp (-x) (-y) (by omega) (by omega)
    rw [Int.neg_mul_neg] at this
    exact this.symm
  · rw [decide_eq_true h1, decide_eq_false h2]
    show (true && _) = _
    rw [Bool.true_and]; exact hm x y h1 (by omega)
  · rw [decide_eq_false h1, decide_eq_true h2]
    show (true && _) = _
    rw [Bool.true_and, Int.mul_comm]; exact hm y x h2 (by omega)
  · rw [decide_eq_false h1, decide_eq_false h2, bne_self_eq_false, Bool.false_and]
    exact (hp x y (by omega) (by omega)).symm

/-- A call that tells a number to reckon with. -/
def RetZ (w : World) (z : Int) (e : Ending) (w' : World) : Prop := ∃ A k c, e = .returned (.agg #[.slice A k c, .bool (decide (z < 0))]) ∧ Rr w' (.slice A k c) z.natAbs ∧ Below w.heap.size w w'
theorem plus_z {w : World} {A1 A2 : Option Addr} {k1 c1 k2 c2 N : Nat} {z2 z1 : Int} (hB : z2.natAbs + z1.natAbs < 1000000000 ^ N) (hN : N ≤ 4000) (h2 : Rr w (.slice A2 k2 c2) z2.natAbs) (h1 : Rr w (.slice A1 k1 c1) z1.natAbs) :
    Calls Tryz.prog 30 #[.agg #[.slice A2 k2 c2, .bool (decide (z2 < 0))], .agg #[.slice A1 k1 c1, .bool (decide (z1 < 0))]] w (RetZ w (z2 + z1)) := by
  have h := plus_num (decide (z2 < 0)) (decide (z1 < 0)) h2 h1 hB hN
  rw [(addN_z z2 z1).1, (addN_z z2 z1).2] at h
  exact h.mono fun _ _ ⟨A, k, c, e, hr, _, hb⟩ => ⟨A, k, c, e, hr, hb⟩
theorem times_z {w : World} {A1 A2 : Option Addr} {k1 c1 k2 c2 N : Nat} {z2 z1 : Int} (hB : z2.natAbs < 1000000000 ^ N) (hB2 : z2.natAbs * z1.natAbs < 1000000000 ^ N) (hN : N ≤ 4000) (hN0 : 0 < N) (h2 : Rr w (.slice A2 k2 c2) z2.natAbs) (h1 : Rr w (.slice A1 k1 c1) z1.natAbs) :
    Calls Tryz.prog 37 #[.agg #[.slice A2 k2 c2, .bool (decide (z2 < 0))], .agg #[.slice A1 k1 c1, .bool (decide (z1 < 0))]] w (RetZ w (z2 * z1)) := by
  have h := times_num (decide (z2 < 0)) (decide (z1 < 0)) h2 h1 hB hB2 hN hN0
  rw [mulB_z, ← Int.natAbs_mul] at h
  exact h.mono fun _ _ ⟨A, k, c, e, hr, _, hb⟩ => ⟨A, k, c, e, hr, hb⟩

def addBound (N : Nat) (z2 z1 : Int) : Prop := z2.natAbs + z1.natAbs < 1000000000 ^ N
def zadd (L : List (Nat × Bool)) : Int := L.foldl (fun s p => (fun s x : Int => s + x) s (zOf p.1 p.2)) 0
theorem zadd_succ {L : List (Nat × Bool)} {k : Nat} (hk : k < L.length) : zadd (L.take (k + 1)) = (fun s x : Int => s + x) (zadd (L.take k)) (zOf L[k].1 L[k].2) := by
  unfold zadd
  rw [List.take_add_one, List.getElem?_eq_getElem hk, Option.toList_some, List.foldl_append]; rfl

set_option maxRecDepth 100000 in
set_option maxHeartbeats 1600000 in
theorem addStep {w : World} {g : Nat} {A1 A2 : Option Addr} {k1 c1 k2 c2 N : Nat} {z2 z1 : Int} {T : TypeId} (h1 : Rr w (.slice A1 k1 c1) z1.natAbs) (hg : w.heap[g]? = some (.cells #[.slice A2 k2 c2, .bool (decide (z2 < 0))] T (0, 0))) (h2 : Rr w (.slice A2 k2 c2) z2.natAbs) (hB : addBound N z2 z1) (hN : N ≤ 4000) :
    Calls Tryz.prog 29 #[.agg #[.slice A1 k1 c1, .bool (decide (z1 < 0))], .pointer (some ⟨g, 0, none⟩)] w fun e w' => (∃ v, e = .returned v) ∧ ∃ A k c w2 s, Rr w2 (.slice A k c) ((fun s x : Int => s + x) z2 z1).natAbs ∧ Below w.heap.size w w2 ∧ s = decide ((fun s x : Int => s + x) z2 z1 < 0) ∧ w' = put2 w2 g (.slice A k c) (.bool s) := by
  have hcm := fun (W : World) (hW : Below w.heap.size w W) => plus_z hB hN (h2.below hW) (h1.below hW)
  have hlt := lt_block hg
  obtain ⟨q1, q2, q3, q4⟩ := cell_of_two hg
  have HG := Lib.hid hg
  have HCM := Lib.hid hcm
  obtain ⟨s1, hs1⟩ : ∃ s, s = decide (z1 < 0) := ⟨_, rfl⟩
  obtain ⟨s2, hs2⟩ : ∃ s, s = decide (z2 < 0) := ⟨_, rfl⟩
  obtain ⟨z, hz⟩ : ∃ z, z = (fun s x : Int => s + x) z2 z1 := ⟨_, rfl⟩
  have hz' : (fun s x : Int => s + x) z2 z1 = z := hz.symm
  simp only [] at hz'
  rw [← hs1, ← hs2, hz'] at HCM
  rw [← hs2] at q2 HG
  rw [← hs1, ← hz]
  obtain ⟨s, hs⟩ : ∃ s, s = decide (z < 0) := ⟨_, rfl⟩
  unfold RetZ at HCM
  rw [← hs] at HCM
  have HS := Lib.hid hs
  clear hcm h1 h2 hg hB hN hs1 hs2 hz hz' hs
  go_enter Tryz.func29, Tryz.ntmps29
  go_wp2_with fail
  refine (HCM.out _ (bal (Below.refl _ _) _)).mono ?_
  rintro e w2 ⟨A, k, c, rfl, hr, hb⟩
  have hb := bstep (bal (Below.refl _ _) _) hb
  have hg2 := (hb.block g hlt).trans HG.out
  obtain ⟨m1, m2, m3, m4⟩ := cell_of_two hg2
  clear hg2
  go_wp2
  go_end0
  exact ⟨⟨_, rfl⟩, A, k, c, w2, s, hr, hb, HS.out, rfl⟩

set_option maxRecDepth 100000 in
set_option maxHeartbeats 1600000 in
theorem each_add {w0 w : World} {g g0 N c0 : Nat} {A : Option Addr} {k c : Nat} {T : TypeId} {L : List (Nat × Bool)} (hL : Ints w0 g0 L) (hb0 : Below w0.heap.size w0 w) (hlt : w0.heap.size ≤ g) (hg : w.heap[g]? = some (.cells #[.slice A k c, .bool (decide ((0 : Int) < 0))] T (0, 0))) (h : Rr w (.slice A k c) (0 : Int).natAbs) (hLn : ∀ p ∈ L, p.1 < 1000000000 ^ N) (hB : ∀ k (hk : k < L.length), addBound N (zadd (L.take k)) (zOf L[k].1 L[k].2)) (hN : N ≤ 4000) (hlen : L.length ≤ 100000) :
    Calls Tryz.prog 28 #[.func (.func 29) #[] #[.pointer (some ⟨g, 0, none⟩)], .slice (some ⟨g0, 0, none⟩) L.length c0] w fun e w' => (∃ v, e = .returned v) ∧ ∃ A k c, w'.heap[g]? = some (.cells #[.slice A k c, .bool (decide (zadd L < 0))] T (0, 0)) ∧ Rr w' (.slice A k c) (zadd L).natAbs ∧ Below w0.heap.size w0 w' ∧ w.heap.size ≤ w'.heap.size := by
  have HL := Lib.hid hL
  have HB := Lib.hid (show (∀ p ∈ L, p.1 < 1000000000 ^ N) ∧ N ≤ 4000 from ⟨hLn, hN⟩)
  have HBB := Lib.hid hB
  have HG := Lib.hid hg
  have HH := Lib.hid h
  have HB0 := Lib.hid hb0
  obtain ⟨l, hl⟩ : ∃ l, l = L.length := ⟨_, rfl⟩
  rw [← hl] at hlen ⊢
  have HLL := Lib.hid hl
  clear hL hLn hN hg h hb0 hl hB
  go_enter Tryz.func28, Tryz.ntmps28
  go_wp2_with fail
  go_loopw [8] (fun i wr => ∃ (k' : Nat) (A' : Option Addr) (j d : Nat), k' ≤ l ∧ i = .int .i64 k' ∧ Hid (wr.heap[g]? = some (.cells #[.slice A' j d, .bool (decide (zadd (L.take k') < 0))] T (0, 0))) ∧ Hid (Rr wr (.slice A' j d) (zadd (L.take k')).natAbs) ∧ Hid (Below w0.heap.size w0 wr) ∧ w.heap.size ≤ wr.heap.size) (fun i _ => l - (intOf i).toNat)
  case atStart => exact ⟨0, _, _, _, Nat.zero_le _, rfl, HG, HH, HB0, Nat.le_refl _⟩
  case round =>
    obtain ⟨k', A', j, d, hk, rfl, HG1, HR1, HB1, hsz⟩ := hrel
    by_cases hlt2 : k' < l
    · have hkL : k' < L.length := by rw [← HLL.out]; exact hlt2
      have hbd := HBB.out k' hkL
      have hGS := zadd_succ hkL
      obtain ⟨⟨n1, b1⟩, hp⟩ : ∃ p, p = L[k'] := ⟨_, rfl⟩
      obtain ⟨B, m, e, hc1, hc2, hrd⟩ := (HL.out.below HB1.out) k' (n1, b1) (by rw [List.getElem?_eq_getElem hkL, hp])
      have hc1 : wr.cell? ⟨g0, k' * 2, none⟩ = some (.bool b1) := hc1
      have hrd : Rd wr (.slice B m e) n1 := hrd
      rw [← hp] at hbd hGS
      have HRD := Lib.hid hrd
      have HGS := Lib.hid hGS
      have HBD := Lib.hid hbd
      have HPL := Lib.hid (hp ▸ List.getElem_mem hkL : (n1, b1) ∈ L)
      clear hp hrd hGS hbd
      go_wp2_with fail
      refine (numOf_any b1 (HRD.out.below (bal (Below.refl _ _) _)) (HB.out.1 _ HPL.out) HB.out.2).mono ?_
      rintro e w2 ⟨A3, k3, c3, rfl, hr3, _, hb3⟩
      have hb30 := bstep (bal (Below.refl _ _) _) hb3
      have hgr := lt_block HG1.out
      have hg3 := (hb30.block g hgr).trans HG1.out
      have hz3 := hb30.size
      have HB3 := Lib.hid (bstep HB1.out hb30)
      clear hb3
      have e1 := zOf_neg n1 b1
      have e2 := zOf_abs n1 b1
      rw [← e2] at hr3
      have hst := addStep hr3 hg3 (HR1.out.below hb30) HBD.out HB.out.2
      rw [e1] at hst
      have HST := Lib.hid hst
      have HG3 := Lib.hid hg3
      clear hst hg3 hr3 hb30 e1 e2
      go_wp2_with fail
      refine HST.out.mono ?_
      rintro e w3 ⟨⟨v, rfl⟩, A4, k4, c4, w4, s4, hr4, hb4, hs4, rfl⟩
      have hgs : zadd (L.take k') + zOf n1 b1 = zadd (L.take (k' + 1)) := HGS.out.symm
      replace hr4 : Rr w4 (.slice A4 k4 c4) (zadd (L.take (k' + 1))).natAbs := by rw [← hgs]; exact hr4
      replace hs4 : s4 = decide (zadd (L.take (k' + 1)) < 0) := hs4.trans (congrArg (fun z : Int => decide (z < 0)) hgs)
      have hg4 : Holds_ w4 g #[.slice A' j d, .bool (decide (zadd (L.take k') < 0))] := ⟨⟨T, (hb4.block g (by omega)).trans HG3.out⟩, fun y hy => by
        rcases List.mem_cons.1 (by simpa using hy : y ∈ [.slice A' j d, .bool (decide (zadd (L.take k') < 0))]) with rfl | hy
        · exact noDig_slice _ _ _
        · rw [List.mem_singleton.1 hy]; exact noDig_bool _⟩
      have hst4 := stored_put2 hg4 (noDig_slice A4 k4 c4) (noDig_bool s4)
      have hg5 := set_two1 (u := .bool s4) (set_two0 (u := .slice A4 k4 c4) ((hb4.block g (by omega)).trans HG3.out))
      have HG4 : Hid ((put2 w4 g (.slice A4 k4 c4) (.bool s4)).heap[g]? = some (.cells #[.slice A4 k4 c4, .bool (decide (zadd (L.take (k' + 1)) < 0))] T (0, 0))) := by rw [← hs4]; exact hg5
      have HR4 := Lib.hid (hst4.rr hr4)
      have HB4 := Lib.hid (hst4.below (bstep HB3.out hb4) hlt)
      have hz4 := hb4.size
      have hz5 : w.heap.size ≤ (put2 w4 g (.slice A4 k4 c4) (.bool s4)).heap.size := by rw [hst4.size]; omega
      clear hb4 hg4 hr4 HST HG3 hst4 hgs hs4 hg5
      go_wp2
      go_roundw
      case rel => exact ⟨k' + 1, _, _, _, by omega, by go_num, HG4, HR4, HB4, hz5⟩
      case measure => simp [intOf]; omega
    · have hk' : k' = l := by omega
      have HK := Lib.hid hk'
      clear hk'
      go_wp2
      go_end0
      have et : L.take k' = L := by rw [HK.out, HLL.out, List.take_length]
      exact ⟨⟨_, rfl⟩, A', j, d, by rw [← et]; exact HG1.out, by rw [← et]; exact HR1.out, HB1.out, hsz⟩

set_option maxRecDepth 100000 in
set_option maxHeartbeats 1600000 in
theorem add_int {w : World} {g0 c0 N : Nat} {L : List (Nat × Bool)} (hL : Ints w g0 L) (hLn : ∀ p ∈ L, p.1 < 1000000000 ^ N) (hB : ∀ k (hk : k < L.length), addBound N (zadd (L.take k)) (zOf L[k].1 L[k].2)) (hN : N ≤ 4000) (hlen : L.length ≤ 100000) :
    Calls Tryz.prog 10 #[.slice (some ⟨g0, 0, none⟩) L.length c0] w (RetInt w (zadd L).natAbs (decide (zadd L < 0))) := by
  have hmf : ∀ (fn : Fn) (first cap : Array Value) (w : World), (Instr.makeFunc fn first cap).run Tryz.prog w = .ok (.func fn first cap) w := fun _ _ _ _ => rfl
  obtain ⟨w1, hw1⟩ : ∃ w1, w1 = w.alloc (Obj.cells #[Value.bool false, Value.slice none 0 0] 29) := ⟨_, rfl⟩
  have b1 : Below w.heap.size w w1 := by rw [hw1]; exact bal (Below.refl _ _) _
  have s1 : w1.heap.size = w.heap.size + 1 := by rw [hw1]; simp
  have K1 : w1.heap[w.heap.size]? = some (Obj.cells #[Value.bool false, Value.slice none 0 0] 29) := by rw [hw1]; exact heap_alloc_new _ _
  have e0 : decide ((0 : Int) < 0) = false := by decide
  have e1 : (0 : Int).natAbs = 0 := rfl
  have hea := fun (W : World) (hb : Below w1.heap.size w1 W) (A : Option Addr) (k c g : Nat) (hg1 : w1.heap.size ≤ g) (hg : W.heap[g]? = some (.cells #[.slice A k c, .bool false] 49 (0, 0))) (h : Rr W (.slice A k c) 0) => each_add (c0 := c0) (hL.below b1) hb hg1 (by rw [e0]; exact hg) (by rw [e1]; exact h) hLn hB hN hlen
  obtain ⟨l, hl⟩ : ∃ l, l = L.length := ⟨_, rfl⟩
  rw [← hl] at hea ⊢
  obtain ⟨z, hz⟩ : ∃ z, z = zadd L := ⟨_, rfl⟩
  rw [← hz] at hea ⊢
  obtain ⟨s, hs⟩ : ∃ s, s = decide (z < 0) := ⟨_, rfl⟩
  have hzs : z.natAbs = 0 → s = false := fun h => by rw [hs]; exact abs_zero h
  rw [← hs] at hea ⊢
  obtain ⟨m, hm⟩ : ∃ m, m = z.natAbs := ⟨_, rfl⟩
  rw [← hm] at hea hzs ⊢
  clear hl hlen hz hs hm
  have HEA := Lib.hid hea
  have HW1 := Lib.hid hw1
  have HK1 := Lib.hid K1
  have HZS := Lib.hid hzs
  clear hea hL hLn hN hB hw1 K1 hzs e0 e1
  go_enter Tryz.func10, Tryz.ntmps10
  go_wp2_with fail
  rw [← HW1.out]
  refine (HEA.out _ (bal (Below.refl _ _) (Obj.cells #[Value.slice none 0 0, Value.bool false] 49)) none 0 0 (w.heap.size + 1) (Nat.le_of_eq s1) (by rw [← s1]; exact heap_alloc_new _ _) (rr_nil _)).mono ?_
  rintro e w2 ⟨⟨v, rfl⟩, A, k, c, hg, hr, hb, _⟩
  have K2 := (hb.block w.heap.size (by omega)).trans HK1.out
  obtain ⟨q1, q2, _, _⟩ := cell_of_two hg
  have bw2 := b1.trans (hb.mono (by omega))
  have hz := hb.size
  have HK2 := Lib.hid K2
  have HT := Lib.hid (told_any hr HZS.out)
  clear hb hg HK1 K2 hr
  go_wp2_with fail
  refine HT.out.mono ?_
  rintro e w4 ⟨A4, k4, c4, rfl, h4, z4, hb4⟩
  have K4 := (hb4.block w.heap.size (by omega)).trans HK2.out
  have bw4 := bstep bw2 hb4
  obtain ⟨m1, m2, m3, m4⟩ := cell_of_two K4
  obtain ⟨n1, n2, n3⟩ := two_stored (a' := .bool s) (b' := .slice A4 k4 c4) K4 (fun d h => by cases h) (fun d h => by cases h) h4
  clear hb4 K4 q1 q2
  go_wp2
  refine bodyPost_ret (v := .agg #[.bool s, .slice A4 k4 c4]) (by simp [results, Tryz.results10, go_sem, n1, n2]) rfl ?_
  exact ⟨A4, k4, c4, rfl, n3, z4, (bw4.setCell (Nat.le_refl _) _).setCell (Nat.le_refl _) _⟩

def mulBound (N : Nat) (z2 z1 : Int) : Prop := z2.natAbs < 1000000000 ^ N ∧ z2.natAbs * z1.natAbs < 1000000000 ^ N ∧ 0 < N
def zmul (L : List (Nat × Bool)) : Int := L.foldl (fun s p => (fun s x : Int => s * x) s (zOf p.1 p.2)) 1
theorem zmul_succ {L : List (Nat × Bool)} {k : Nat} (hk : k < L.length) : zmul (L.take (k + 1)) = (fun s x : Int => s * x) (zmul (L.take k)) (zOf L[k].1 L[k].2) := by
  unfold zmul
  rw [List.take_add_one, List.getElem?_eq_getElem hk, Option.toList_some, List.foldl_append]; rfl

set_option maxRecDepth 100000 in
set_option maxHeartbeats 1600000 in
theorem mulStep {w : World} {g : Nat} {A1 A2 : Option Addr} {k1 c1 k2 c2 N : Nat} {z2 z1 : Int} {T : TypeId} (h1 : Rr w (.slice A1 k1 c1) z1.natAbs) (hg : w.heap[g]? = some (.cells #[.slice A2 k2 c2, .bool (decide (z2 < 0))] T (0, 0))) (h2 : Rr w (.slice A2 k2 c2) z2.natAbs) (hB : mulBound N z2 z1) (hN : N ≤ 4000) :
    Calls Tryz.prog 36 #[.agg #[.slice A1 k1 c1, .bool (decide (z1 < 0))], .pointer (some ⟨g, 0, none⟩)] w fun e w' => (∃ v, e = .returned v) ∧ ∃ A k c w2 s, Rr w2 (.slice A k c) ((fun s x : Int => s * x) z2 z1).natAbs ∧ Below w.heap.size w w2 ∧ s = decide ((fun s x : Int => s * x) z2 z1 < 0) ∧ w' = put2 w2 g (.slice A k c) (.bool s) := by
  have hcm := fun (W : World) (hW : Below w.heap.size w W) => times_z hB.1 hB.2.1 hN hB.2.2 (h2.below hW) (h1.below hW)
  have hlt := lt_block hg
  obtain ⟨q1, q2, q3, q4⟩ := cell_of_two hg
  have HG := Lib.hid hg
  have HCM := Lib.hid hcm
  obtain ⟨s1, hs1⟩ : ∃ s, s = decide (z1 < 0) := ⟨_, rfl⟩
  obtain ⟨s2, hs2⟩ : ∃ s, s = decide (z2 < 0) := ⟨_, rfl⟩
  obtain ⟨z, hz⟩ : ∃ z, z = (fun s x : Int => s * x) z2 z1 := ⟨_, rfl⟩
  have hz' : (fun s x : Int => s * x) z2 z1 = z := hz.symm
  simp only [] at hz'
  rw [← hs1, ← hs2, hz'] at HCM
  rw [← hs2] at q2 HG
  rw [← hs1, ← hz]
  obtain ⟨s, hs⟩ : ∃ s, s = decide (z < 0) := ⟨_, rfl⟩
  unfold RetZ at HCM
  rw [← hs] at HCM
  have HS := Lib.hid hs
  clear hcm h1 h2 hg hB hN hs1 hs2 hz hz' hs
  go_enter Tryz.func36, Tryz.ntmps36
  go_wp2_with fail
  refine (HCM.out _ (bal (Below.refl _ _) _)).mono ?_
  rintro e w2 ⟨A, k, c, rfl, hr, hb⟩
  have hb := bstep (bal (Below.refl _ _) _) hb
  have hg2 := (hb.block g hlt).trans HG.out
  obtain ⟨m1, m2, m3, m4⟩ := cell_of_two hg2
  clear hg2
  go_wp2
  go_end0
  exact ⟨⟨_, rfl⟩, A, k, c, w2, s, hr, hb, HS.out, rfl⟩

set_option maxRecDepth 100000 in
set_option maxHeartbeats 1600000 in
theorem each_mul {w0 w : World} {g g0 N c0 : Nat} {A : Option Addr} {k c : Nat} {T : TypeId} {L : List (Nat × Bool)} (hL : Ints w0 g0 L) (hb0 : Below w0.heap.size w0 w) (hlt : w0.heap.size ≤ g) (hg : w.heap[g]? = some (.cells #[.slice A k c, .bool (decide ((1 : Int) < 0))] T (0, 0))) (h : Rr w (.slice A k c) (1 : Int).natAbs) (hLn : ∀ p ∈ L, p.1 < 1000000000 ^ N) (hB : ∀ k (hk : k < L.length), mulBound N (zmul (L.take k)) (zOf L[k].1 L[k].2)) (hN : N ≤ 4000) (hlen : L.length ≤ 100000) :
    Calls Tryz.prog 28 #[.func (.func 36) #[] #[.pointer (some ⟨g, 0, none⟩)], .slice (some ⟨g0, 0, none⟩) L.length c0] w fun e w' => (∃ v, e = .returned v) ∧ ∃ A k c, w'.heap[g]? = some (.cells #[.slice A k c, .bool (decide (zmul L < 0))] T (0, 0)) ∧ Rr w' (.slice A k c) (zmul L).natAbs ∧ Below w0.heap.size w0 w' ∧ w.heap.size ≤ w'.heap.size := by
  have HL := Lib.hid hL
  have HB := Lib.hid (show (∀ p ∈ L, p.1 < 1000000000 ^ N) ∧ N ≤ 4000 from ⟨hLn, hN⟩)
  have HBB := Lib.hid hB
  have HG := Lib.hid hg
  have HH := Lib.hid h
  have HB0 := Lib.hid hb0
  obtain ⟨l, hl⟩ : ∃ l, l = L.length := ⟨_, rfl⟩
  rw [← hl] at hlen ⊢
  have HLL := Lib.hid hl
  clear hL hLn hN hg h hb0 hl hB
  go_enter Tryz.func28, Tryz.ntmps28
  go_wp2_with fail
  go_loopw [8] (fun i wr => ∃ (k' : Nat) (A' : Option Addr) (j d : Nat), k' ≤ l ∧ i = .int .i64 k' ∧ Hid (wr.heap[g]? = some (.cells #[.slice A' j d, .bool (decide (zmul (L.take k') < 0))] T (0, 0))) ∧ Hid (Rr wr (.slice A' j d) (zmul (L.take k')).natAbs) ∧ Hid (Below w0.heap.size w0 wr) ∧ w.heap.size ≤ wr.heap.size) (fun i _ => l - (intOf i).toNat)
  case atStart => exact ⟨0, _, _, _, Nat.zero_le _, rfl, HG, HH, HB0, Nat.le_refl _⟩
  case round =>
    obtain ⟨k', A', j, d, hk, rfl, HG1, HR1, HB1, hsz⟩ := hrel
    by_cases hlt2 : k' < l
    · have hkL : k' < L.length := by rw [← HLL.out]; exact hlt2
      have hbd := HBB.out k' hkL
      have hGS := zmul_succ hkL
      obtain ⟨⟨n1, b1⟩, hp⟩ : ∃ p, p = L[k'] := ⟨_, rfl⟩
      obtain ⟨B, m, e, hc1, hc2, hrd⟩ := (HL.out.below HB1.out) k' (n1, b1) (by rw [List.getElem?_eq_getElem hkL, hp])
      have hc1 : wr.cell? ⟨g0, k' * 2, none⟩ = some (.bool b1) := hc1
      have hrd : Rd wr (.slice B m e) n1 := hrd
      rw [← hp] at hbd hGS
      have HRD := Lib.hid hrd
      have HGS := Lib.hid hGS
      have HBD := Lib.hid hbd
      have HPL := Lib.hid (hp ▸ List.getElem_mem hkL : (n1, b1) ∈ L)
      clear hp hrd hGS hbd
      go_wp2_with fail
      refine (numOf_any b1 (HRD.out.below (bal (Below.refl _ _) _)) (HB.out.1 _ HPL.out) HB.out.2).mono ?_
      rintro e w2 ⟨A3, k3, c3, rfl, hr3, _, hb3⟩
      have hb30 := bstep (bal (Below.refl _ _) _) hb3
      have hgr := lt_block HG1.out
      have hg3 := (hb30.block g hgr).trans HG1.out
      have hz3 := hb30.size
      have HB3 := Lib.hid (bstep HB1.out hb30)
      clear hb3
      have e1 := zOf_neg n1 b1
      have e2 := zOf_abs n1 b1
      rw [← e2] at hr3
      have hst := mulStep hr3 hg3 (HR1.out.below hb30) HBD.out HB.out.2
      rw [e1] at hst
      have HST := Lib.hid hst
      have HG3 := Lib.hid hg3
      clear hst hg3 hr3 hb30 e1 e2
      go_wp2_with fail
      refine HST.out.mono ?_
      rintro e w3 ⟨⟨v, rfl⟩, A4, k4, c4, w4, s4, hr4, hb4, hs4, rfl⟩
      have hgs : zmul (L.take k') * zOf n1 b1 = zmul (L.take (k' + 1)) := HGS.out.symm
      replace hr4 : Rr w4 (.slice A4 k4 c4) (zmul (L.take (k' + 1))).natAbs := by rw [← hgs]; exact hr4
      replace hs4 : s4 = decide (zmul (L.take (k' + 1)) < 0) := hs4.trans (congrArg (fun z : Int => decide (z < 0)) hgs)
      have hg4 : Holds_ w4 g #[.slice A' j d, .bool (decide (zmul (L.take k') < 0))] := ⟨⟨T, (hb4.block g (by omega)).trans HG3.out⟩, fun y hy => by
        rcases List.mem_cons.1 (by simpa using hy : y ∈ [.slice A' j d, .bool (decide (zmul (L.take k') < 0))]) with rfl | hy
        · exact noDig_slice _ _ _
        · rw [List.mem_singleton.1 hy]; exact noDig_bool _⟩
      have hst4 := stored_put2 hg4 (noDig_slice A4 k4 c4) (noDig_bool s4)
      have hg5 := set_two1 (u := .bool s4) (set_two0 (u := .slice A4 k4 c4) ((hb4.block g (by omega)).trans HG3.out))
      have HG4 : Hid ((put2 w4 g (.slice A4 k4 c4) (.bool s4)).heap[g]? = some (.cells #[.slice A4 k4 c4, .bool (decide (zmul (L.take (k' + 1)) < 0))] T (0, 0))) := by rw [← hs4]; exact hg5
      have HR4 := Lib.hid (hst4.rr hr4)
      have HB4 := Lib.hid (hst4.below (bstep HB3.out hb4) hlt)
      have hz4 := hb4.size
      have hz5 : w.heap.size ≤ (put2 w4 g (.slice A4 k4 c4) (.bool s4)).heap.size := by rw [hst4.size]; omega
      clear hb4 hg4 hr4 HST HG3 hst4 hgs hs4 hg5
      go_wp2
      go_roundw
      case rel => exact ⟨k' + 1, _, _, _, by omega, by go_num, HG4, HR4, HB4, hz5⟩
      case measure => simp [intOf]; omega
    · have hk' : k' = l := by omega
      have HK := Lib.hid hk'
      clear hk'
      go_wp2
      go_end0
      have et : L.take k' = L := by rw [HK.out, HLL.out, List.take_length]
      exact ⟨⟨_, rfl⟩, A', j, d, by rw [← et]; exact HG1.out, by rw [← et]; exact HR1.out, HB1.out, hsz⟩

set_option maxRecDepth 100000 in
set_option maxHeartbeats 1600000 in
theorem mul_int {w : World} {g0 c0 N : Nat} {L : List (Nat × Bool)} (hL : Ints w g0 L) (hLn : ∀ p ∈ L, p.1 < 1000000000 ^ N) (hB : ∀ k (hk : k < L.length), mulBound N (zmul (L.take k)) (zOf L[k].1 L[k].2)) (hN : N ≤ 4000) (hlen : L.length ≤ 100000) :
    Calls Tryz.prog 12 #[.slice (some ⟨g0, 0, none⟩) L.length c0] w (RetInt w (zmul L).natAbs (decide (zmul L < 0))) := by
  have hmf : ∀ (fn : Fn) (first cap : Array Value) (w : World), (Instr.makeFunc fn first cap).run Tryz.prog w = .ok (.func fn first cap) w := fun _ _ _ _ => rfl
  obtain ⟨w1, hw1⟩ : ∃ w1, w1 = w.alloc (Obj.cells #[Value.bool false, Value.slice none 0 0] 29) := ⟨_, rfl⟩
  have b1 : Below w.heap.size w w1 := by rw [hw1]; exact bal (Below.refl _ _) _
  have s1 : w1.heap.size = w.heap.size + 1 := by rw [hw1]; simp
  have K1 : w1.heap[w.heap.size]? = some (Obj.cells #[Value.bool false, Value.slice none 0 0] 29) := by rw [hw1]; exact heap_alloc_new _ _
  have e0 : decide ((1 : Int) < 0) = false := by decide
  have e1 : (1 : Int).natAbs = 1 := rfl
  have hea := fun (W : World) (hb : Below w1.heap.size w1 W) (A : Option Addr) (k c g : Nat) (hg1 : w1.heap.size ≤ g) (hg : W.heap[g]? = some (.cells #[.slice A k c, .bool false] 49 (0, 0))) (h : Rr W (.slice A k c) 1) => each_mul (c0 := c0) (hL.below b1) hb hg1 (by rw [e0]; exact hg) (by rw [e1]; exact h) hLn hB hN hlen
  obtain ⟨l, hl⟩ : ∃ l, l = L.length := ⟨_, rfl⟩
  rw [← hl] at hea ⊢
  obtain ⟨z, hz⟩ : ∃ z, z = zmul L := ⟨_, rfl⟩
  rw [← hz] at hea ⊢
  obtain ⟨s, hs⟩ : ∃ s, s = decide (z < 0) := ⟨_, rfl⟩
  have hzs : z.natAbs = 0 → s = false := fun h => by rw [hs]; exact abs_zero h
  rw [← hs] at hea ⊢
  obtain ⟨m, hm⟩ : ∃ m, m = z.natAbs := ⟨_, rfl⟩
  rw [← hm] at hea hzs ⊢
  clear hl hlen hz hs hm
  have HEA := Lib.hid hea
  have HW1 := Lib.hid hw1
  have HK1 := Lib.hid K1
  have HZS := Lib.hid hzs
  clear hea hL hLn hN hB hw1 K1 hzs e0 e1
  go_enter Tryz.func12, Tryz.ntmps12
  go_wp2_with fail
  rw [← HW1.out]
  have hone := rr_lit1 w1
  rw [s1] at hone
  have hsg := signed_s false hone
  rw [show sgn 1 false = false from rfl] at hsg
  refine hsg.mono ?_
  clear hsg hone
  rintro e w5 ⟨A5, k5, c5, rfl, h5, _, b5⟩
  have HB5 := Lib.hid (bstep (bal (Below.refl w1.heap.size w1) _) b5)
  have hz5 : w1.heap.size ≤ w5.heap.size := HB5.out.size
  have H5 := Lib.hid h5
  clear b5 h5
  go_wp2_with fail
  refine (HEA.out _ (bal HB5.out _) A5 k5 c5 w5.heap.size hz5 (heap_alloc_new _ _) (H5.out.alloc _)).mono ?_
  rintro e w2 ⟨⟨v, rfl⟩, A, k, c, hg, hr, hb, _⟩
  have K2 := (hb.block w.heap.size (by omega)).trans HK1.out
  obtain ⟨q1, q2, _, _⟩ := cell_of_two hg
  have bw2 := b1.trans (hb.mono (by omega))
  have hz := hb.size
  have HK2 := Lib.hid K2
  have HT := Lib.hid (told_any hr HZS.out)
  clear hb hg HK1 K2 hr
  go_wp2_with fail
  refine HT.out.mono ?_
  rintro e w4 ⟨A4, k4, c4, rfl, h4, z4, hb4⟩
  have K4 := (hb4.block w.heap.size (by omega)).trans HK2.out
  have bw4 := bstep bw2 hb4
  obtain ⟨m1, m2, m3, m4⟩ := cell_of_two K4
  obtain ⟨n1, n2, n3⟩ := two_stored (a' := .bool s) (b' := .slice A4 k4 c4) K4 (fun d h => by cases h) (fun d h => by cases h) h4
  clear hb4 K4 q1 q2
  go_wp2
  refine bodyPost_ret (v := .agg #[.bool s, .slice A4 k4 c4]) (by simp [results, Tryz.results12, go_sem, n1, n2]) rfl ?_
  exact ⟨A4, k4, c4, rfl, n3, z4, (bw4.setCell (Nat.le_refl _) _).setCell (Nat.le_refl _) _⟩
end Go.Proofs.YthjgfkmnelefpaaGreatDoor

namespace Go.Proofs.YthjgfkmnelefpaaGreatDoor
open Go.RowKit

/-- A call that tells the whole number z. -/
def RetI (w : World) (z : Int) (e : Ending) (w' : World) : Prop := RetInt w z.natAbs (decide (z < 0)) e w'

set_option maxRecDepth 100000 in
set_option maxHeartbeats 1600000 in
theorem neg_int {w : World} {A1 : Option Addr} {k1 c1 n1 N : Nat} (b1 : Bool) (h1 : Rd w (.slice A1 k1 c1) n1) (hn : n1 < 1000000000 ^ N) (hN : N ≤ 4000) :
    Calls Tryz.prog 17 #[.agg #[.bool b1, .slice A1 k1 c1]] w (RetI w (-zOf n1 b1)) := by
  have hof := fun (W : World) (hW : Below w.heap.size w W) => numOf_any b1 (h1.below hW) hn hN
  have hm : (-zOf n1 b1).natAbs = n1 := by rw [Int.natAbs_neg]; exact zOf_abs _ _
  have hs : decide (-zOf n1 b1 < 0) = sgn n1 (!(sgn n1 b1)) := by
    unfold zOf sgn
    cases b1
    · rw [if_neg (by decide)]; simp only [Bool.false_and, Bool.not_false, Bool.true_and, decide_eq_decide]; omega
    · rw [if_pos rfl, Bool.true_and, decide_eq_false (by omega)]
      by_cases h0 : n1 = 0
      · simp [h0]
      · simp [h0]
  obtain ⟨s1, hs1⟩ : ∃ s, s = sgn n1 b1 := ⟨_, rfl⟩
  obtain ⟨s2, hs2⟩ : ∃ s, s = decide (-zOf n1 b1 < 0) := ⟨_, rfl⟩
  unfold RetI
  rw [hm, ← hs2]
  rw [← hs2, ← hs1] at hs
  rw [← hs1] at hof
  have hng := fun (W : World) (A : Option Addr) (k c : Nat) (h : Rr W (.slice A k c) n1) => negated_num s1 h
  rw [← hs] at hng
  have HOF := Lib.hid hof
  have HNG := Lib.hid hng
  clear hof hng h1 hn hN hs hs1 hs2 hm
  obtain ⟨W1, hW1⟩ : ∃ W, W = (w.alloc (Obj.cells #[Value.bool b1, Value.slice A1 k1 c1] 29)).alloc (Obj.cells #[Value.bool false, Value.slice none 0 0] 29) := ⟨_, rfl⟩
  have bw1 : Below w.heap.size w W1 := by rw [hW1]; exact bal (bal (Below.refl _ _) _) _
  have K1 : W1.heap[w.heap.size + 1]? = some (Obj.cells #[Value.bool false, Value.slice none 0 0] 29) := by rw [hW1]; exact new_succ w (Obj.cells #[Value.bool false, Value.slice none 0 0] 29) (Obj.cells #[Value.bool b1, Value.slice A1 k1 c1] 29)
  have HW1 := Lib.hid hW1
  have HK1 := Lib.hid K1
  clear hW1 K1
  go_enter Tryz.func17, Tryz.ntmps17
  go_wp2_with fail
  rw [← HW1.out]
  refine (HOF.out _ bw1).mono ?_
  rintro e w2 ⟨A2, k2, c2, rfl, h2, _, b2⟩
  have HK2 := Lib.hid ((b2.block _ (lt_block HK1.out)).trans HK1.out)
  have bw2 := bstep bw1 b2
  have HG := Lib.hid (HNG.out _ _ _ _ h2)
  clear b2 h2 bw1
  go_wp2_with fail
  refine HG.out.mono ?_
  rintro e w3 ⟨A3, k3, c3, rfl, h3, z3, b3⟩
  have HK3 := Lib.hid ((b3.block _ (lt_block HK2.out)).trans HK2.out)
  have bw3 := bstep bw2 b3
  have HT := Lib.hid (told_any h3 z3)
  clear b3 h3 bw2 HG
  go_wp2_with fail
  refine HT.out.mono ?_
  rintro e w4 ⟨A4, k4, c4, rfl, h4, z4, b4⟩
  have K4 := (b4.block _ (lt_block HK3.out)).trans HK3.out
  have bw4 := bstep bw3 b4
  obtain ⟨m1, m2, m3, m4⟩ := cell_of_two K4
  obtain ⟨i1, i2, i3⟩ := two_stored (a' := .bool s2) (b' := .slice A4 k4 c4) K4 (fun d h => by cases h) (fun d h => by cases h) h4
  clear b4 K4 HT
  go_wp2
  refine bodyPost_ret (v := .agg #[.bool s2, .slice A4 k4 c4]) (by simp [results, Tryz.results17, go_sem, i1, i2]) rfl ?_
  exact ⟨A4, k4, c4, rfl, i3, z4, (bw4.setCell (Nat.le_succ _) _).setCell (Nat.le_succ _) _⟩

set_option maxRecDepth 100000 in
set_option maxHeartbeats 4000000 in
theorem sub_int {w : World} {A1 A2 : Option Addr} {k1 c1 k2 c2 n1 n2 N : Nat} (b1 b2 : Bool) (h1 : Rd w (.slice A1 k1 c1) n1) (h2 : Rd w (.slice A2 k2 c2) n2) (hn : n1 + n2 < 1000000000 ^ N) (hN : N ≤ 4000) :
    Calls Tryz.prog 18 #[.agg #[.bool b1, .slice A1 k1 c1], .agg #[.bool b2, .slice A2 k2 c2]] w (RetI w (zOf n1 b1 - zOf n2 b2)) := by
  have hof := fun (W : World) (hW : Below w.heap.size w W) => numOf_any b1 (h1.below hW) (show n1 < 1000000000 ^ N by omega) hN
  have hof2 := fun (W : World) (hW : Below w.heap.size w W) => numOf_any b2 (h2.below hW) (show n2 < 1000000000 ^ N by omega) hN
  obtain ⟨s1, hs1⟩ : ∃ s, s = sgn n1 b1 := ⟨_, rfl⟩
  obtain ⟨s2, hs2⟩ : ∃ s, s = sgn n2 b2 := ⟨_, rfl⟩
  obtain ⟨s3, hs3⟩ : ∃ s, s = sgn n2 (!s2) := ⟨_, rfl⟩
  have hng := fun (W : World) (A : Option Addr) (k c : Nat) (h : Rr W (.slice A k c) n2) => negated_num s2 h
  have hpl := fun (W : World) (A : Option Addr) (k c : Nat) (h : Rr W (.slice A k c) n1) (B : Option Addr) (j d : Nat) (h' : Rr W (.slice B j d) n2) => plus_num s1 s3 h h' hn hN
  have q1 : n1 = (zOf n1 b1).natAbs := (zOf_abs _ _).symm
  have q2 : n2 = (-zOf n2 b2).natAbs := by rw [Int.natAbs_neg]; exact (zOf_abs _ _).symm
  have q3 : s1 = decide (zOf n1 b1 < 0) := hs1.trans (zOf_neg _ _).symm
  have q4 : s3 = decide (-zOf n2 b2 < 0) := by
    rw [hs3, hs2]
    unfold zOf sgn
    cases b2
    · rw [if_neg (by decide)]; simp only [Bool.false_and, Bool.not_false, Bool.true_and, decide_eq_decide]; omega
    · rw [if_pos rfl, Bool.true_and, eq_comm, decide_eq_false (by omega)]
      by_cases h0 : n2 = 0
      · simp [h0]
      · simp [h0]
  have hz := addN_z (zOf n1 b1) (-zOf n2 b2)
  rw [← q1, ← q2, ← q3, ← q4, ← Int.sub_eq_add_neg] at hz
  obtain ⟨m, hm⟩ : ∃ m, m = (zOf n1 b1 - zOf n2 b2).natAbs := ⟨_, rfl⟩
  obtain ⟨sm, hsm⟩ : ∃ s, s = decide (zOf n1 b1 - zOf n2 b2 < 0) := ⟨_, rfl⟩
  unfold RetI
  rw [← hm, ← hsm] at hz ⊢
  rw [hz.1, hz.2] at hpl
  rw [← hs1] at hof
  rw [← hs2] at hof2
  rw [← hs3] at hng
  have HOF := Lib.hid hof
  have HOF2 := Lib.hid hof2
  have HNG := Lib.hid hng
  have HPL := Lib.hid hpl
  clear hof hof2 hng hpl h1 h2 hn hN hs1 hs2 hs3 hm hsm hz q1 q2 q3 q4
  go_enter Tryz.func18, Tryz.ntmps18
  go_wp2_with fail
  obtain ⟨W, hW⟩ : ∃ W, W = ((w.alloc (Obj.cells #[Value.bool b1, Value.slice A1 k1 c1] 29)).alloc (Obj.cells #[Value.bool b2, Value.slice A2 k2 c2] 29)).alloc (Obj.cells #[Value.bool false, Value.slice none 0 0] 29) := ⟨_, rfl⟩
  obtain ⟨bW, sW, K0, K1, K2⟩ := three_newW hW
  rw [← hW]
  clear hW
  obtain ⟨p1, p2, _, _⟩ := cell_of_two K0
  obtain ⟨q1, q2, _, _⟩ := cell_of_two K1
  go_simp
  have J2 : Holds_ W (w.heap.size + 1 + 1) #[Value.bool false, Value.slice none 0 0] := ⟨⟨_, K2⟩, by simp [noDig]⟩
  clear K0 K1 K2
  refine wp_region_pk (w.heap.size) [kIs (.agg #[.bool b1, .slice A1 k1 c1]), kNum n1 s1, kIs (.agg #[.bool b2, .slice A2 k2 c2]), kNum n2 s2, kNum n2 s3, kNum m sm, kInt m sm, kCellInt (w.heap.size + 1 + 1) m sm] [ [], [(0, some 5)], [], [(2, some 7)], [(3, some 8)], [(1, some 6), (4, some 9)], [(5, some 10)], [(6, some 11)] ] [(0, some 5), (1, some 6), (2, some 7), (3, some 8), (4, some 9), (5, some 10), (6, some 11), (7, none)] [] [] (by kernel_rfl) (by kernel_rfl) (by kernel_rfl) (by kernel_rfl) (by kernel_rfl) (by kernel_rfl) ?n1 ?n2 ?n3 ?n4 ?st ?en
  case n1 => show List.Nodup ([(w.heap.size + 1 + 1)] : List Nat); simp
  case n2 => show ∀ g ∈ ([(w.heap.size + 1 + 1)] : List Nat), _; intro g hg; simp only [List.mem_cons, List.not_mem_nil, or_false] at hg; omega
  case n3 => omega
  case n4 =>
    show ∀ g ∈ ([(w.heap.size + 1 + 1)] : List Nat), ∃ cs, Holds_ _ g cs
    intro g hg
    simp only [List.mem_cons, List.not_mem_nil, or_false] at hg
    rcases hg with rfl
    · exact ⟨_, J2⟩
  case st =>
    refine pk_cons rfl rfl ?_ ?_
    · intro wr x hC
      simp only [deps, at_, List.getD_cons_zero, PK.sem, PK.move, kIs]
      intro K hK
      have hce0 := (hC.cell (b := w.heap.size) (by omega) (show _ ∉ ([(w.heap.size + 1 + 1)] : List Nat) by simp <;> omega) 0).1.trans p1
      have hce1 := (hC.cell (b := w.heap.size) (by omega) (show _ ∉ ([(w.heap.size + 1 + 1)] : List Nat) by simp <;> omega) 1).1.trans p2
      simp only [putE, retOf]
      go_simp
      exact hK _ _ (Below.refl _ _) rfl
    refine pk_cons rfl rfl ?_ ?_
    · intro wr x hC
      simp only [deps, at_, List.getD_cons_zero, List.getD_cons_succ, PK.sem, PK.move, kIs, kNum]
      intro hA
      intro K hK
      simp only [putE, retOf, hA]
      go_simp
      refine (HOF.out _ (bW.trans hC.below)).mono ?_
      rintro e w2 ⟨A2, k2, c2, rfl, h1, h2, h3⟩
      go_simp
      exact hK _ _ h3 ⟨A2, k2, c2, rfl, h1, h2⟩
    refine pk_cons rfl rfl ?_ ?_
    · intro wr x hC
      simp only [deps, at_, List.getD_cons_zero, List.getD_cons_succ, PK.sem, PK.move, kIs]
      intro K hK
      have hce0 := (hC.cell (b := w.heap.size + 1) (by omega) (show _ ∉ ([(w.heap.size + 1 + 1)] : List Nat) by simp <;> omega) 0).1.trans q1
      have hce1 := (hC.cell (b := w.heap.size + 1) (by omega) (show _ ∉ ([(w.heap.size + 1 + 1)] : List Nat) by simp <;> omega) 1).1.trans q2
      simp only [putE, retOf]
      go_simp
      exact hK _ _ (Below.refl _ _) rfl
    refine pk_cons rfl rfl ?_ ?_
    · intro wr x hC
      simp only [deps, at_, List.getD_cons_zero, List.getD_cons_succ, PK.sem, PK.move, kIs, kNum]
      intro hA
      intro K hK
      simp only [putE, retOf, hA]
      go_simp
      refine (HOF2.out _ (bW.trans hC.below)).mono ?_
      rintro e w2 ⟨A2, k2, c2, rfl, h1, h2, h3⟩
      go_simp
      exact hK _ _ h3 ⟨A2, k2, c2, rfl, h1, h2⟩
    refine pk_cons rfl rfl ?_ ?_
    · intro wr x hC
      simp only [deps, at_, List.getD_cons_zero, List.getD_cons_succ, PK.sem, PK.move, kNum]
      intro hA
      intro K hK
      obtain ⟨A, k, c, hx, hr1, _⟩ := hA
      simp only [putE, retOf, hx]
      go_simp
      refine (HNG.out _ _ _ _ hr1).mono ?_
      rintro e w2 ⟨A2, k2, c2, rfl, h1, h2, h3⟩
      go_simp
      exact hK _ _ h3 ⟨A2, k2, c2, rfl, h1, h2⟩
    refine pk_cons rfl rfl ?_ ?_
    · intro wr x hC
      simp only [deps, at_, List.getD_cons_zero, List.getD_cons_succ, PK.sem, PK.move, kNum]
      intro hA hB
      intro K hK
      obtain ⟨A, k, c, hx, hr1, _⟩ := hA
      obtain ⟨B, j, d, hy, hr2, _⟩ := hB
      simp only [putE, retOf, hx, hy]
      go_simp
      refine (HPL.out _ _ _ _ hr1 _ _ _ hr2).mono ?_
      rintro e w2 ⟨A2, k2, c2, rfl, h1, h2, h3⟩
      go_simp
      exact hK _ _ h3 ⟨A2, k2, c2, rfl, h1, h2⟩
    refine pk_cons rfl rfl ?_ ?_
    · intro wr x hC
      simp only [deps, at_, List.getD_cons_zero, List.getD_cons_succ, PK.sem, PK.move, kInt, kNum]
      intro hA
      intro K hK
      obtain ⟨A, k, c, hx, hr1, hr2⟩ := hA
      simp only [putE, retOf, hx]
      go_simp
      refine (told_any hr1 hr2).mono ?_
      rintro e w2 ⟨A2, k2, c2, rfl, h1, h2, h3⟩
      go_simp
      exact hK _ _ h3 ⟨A2, k2, c2, rfl, h1, h2⟩
    refine pk_cons rfl rfl ?_ ?_
    · intro wr x hC
      simp only [deps, at_, List.getD_cons_zero, List.getD_cons_succ, PK.sem, PK.move, kCellInt, kInt]
      intro hA
      intro K hK
      obtain ⟨A, k, c, hx, hr1, hr2⟩ := hA
      obtain ⟨u0, v0, hg⟩ := hC.two (show _ ∈ ([(w.heap.size + 1 + 1)] : List Nat) by simp) J2
      obtain ⟨m1, m2, m3, m4⟩ := hg.two
      simp only [putE, retOf, hx]
      go_simp
      exact hK _ _ (stored_put2 hg (noDig_bool _) (noDig_slice _ _ _)) ⟨_, holds_put2 hg (noDig_bool _) (noDig_slice _ _ _), A, k, c, rfl, (stored_put2 hg (noDig_bool _) (noDig_slice _ _ _)).rr hr1, hr2⟩
    exact pk_nil rfl
  case en =>
    intro wr x hC hall
    have hE := hall 7 (of_decide_eq_true (by kernel_rfl))
    clear hall
    simp only [at_, List.getD_cons_zero, List.getD_cons_succ, PK.sem, kCellInt] at hE
    obtain ⟨_, e4, A4, k4, c4, rfl, r4, z4⟩ := hE
    have hbw := bW.trans hC.below
    obtain ⟨i1, i2, _, _⟩ := e4.two
    simp only [putE]
    clear hC e4
    go_wp2
    refine bodyPost_ret (v := .agg #[.bool sm, .slice A4 k4 c4]) (by simp [results, Tryz.results18, go_sem, i1, i2]) rfl ?_
    exact ⟨A4, k4, c4, rfl, r4, z4, hbw⟩

set_option maxRecDepth 100000 in
set_option maxHeartbeats 4000000 in
theorem numCmp_any {w : World} {A1 A2 : Option Addr} {k1 c1 k2 c2 n1 n2 N : Nat} (b1 b2 : Bool) (h1 : Rd w (.slice A1 k1 c1) n1) (h2 : Rd w (.slice A2 k2 c2) n2) (hn1 : n1 < 1000000000 ^ N) (hn2 : n2 < 1000000000 ^ N) (hN : N ≤ 4000) :
    Calls Tryz.prog 22 #[.agg #[.bool b1, .slice A1 k1 c1], .agg #[.bool b2, .slice A2 k2 c2]] w fun e w' => e = .returned (.int .i64 (ordI (zOf n1 b1) (zOf n2 b2))) ∧ Below w.heap.size w w' := by
  have hof := fun (W : World) (hW : Below w.heap.size w W) => numOf_any b1 (h1.below hW) hn1 hN
  have hof2 := fun (W : World) (hW : Below w.heap.size w W) => numOf_any b2 (h2.below hW) hn2 hN
  have sz : ∀ (n : Nat) (b : Bool), zOf n (sgn n b) = zOf n b := fun n b => by
    unfold zOf sgn
    by_cases h : n = 0
    · subst h; simp
    · simp [h]
  obtain ⟨s1, hs1⟩ : ∃ s, s = sgn n1 b1 := ⟨_, rfl⟩
  obtain ⟨s2, hs2⟩ : ∃ s, s = sgn n2 b2 := ⟨_, rfl⟩
  have hcp := fun (W : World) (A : Option Addr) (k c : Nat) (h : Rr W (.slice A k c) n1) (B : Option Addr) (j d : Nat) (h' : Rr W (.slice B j d) n2) (z1 : n1 = 0 → s1 = false) (z2 : n2 = 0 → s2 = false) => compare_num s1 s2 h h' z1 z2
  have e1 : zOf n1 s1 = zOf n1 b1 := by rw [hs1]; exact sz _ _
  have e2 : zOf n2 s2 = zOf n2 b2 := by rw [hs2]; exact sz _ _
  obtain ⟨o, ho⟩ : ∃ o, o = ordI (zOf n1 b1) (zOf n2 b2) := ⟨_, rfl⟩
  rw [e1, e2, ← ho] at hcp
  rw [← hs1] at hof
  rw [← hs2] at hof2
  rw [← ho]
  have HOF := Lib.hid hof
  have HOF2 := Lib.hid hof2
  have HCP := Lib.hid hcp
  clear hof hof2 hcp h1 h2 hn1 hn2 hN hs1 hs2 ho e1 e2 sz
  go_enter Tryz.func22, Tryz.ntmps22
  go_wp2_with fail
  obtain ⟨W, hW⟩ : ∃ W, W = (w.alloc (Obj.cells #[Value.bool b1, Value.slice A1 k1 c1] 29)).alloc (Obj.cells #[Value.bool b2, Value.slice A2 k2 c2] 29) := ⟨_, rfl⟩
  have bW : Below w.heap.size w W := by rw [hW]; exact bal (bal (Below.refl _ _) _) _
  have sW : W.heap.size = w.heap.size + 2 := by rw [hW]; simp
  have K0 : W.heap[w.heap.size]? = some (Obj.cells #[Value.bool b1, Value.slice A1 k1 c1] 29) := by rw [hW, Below.heap_alloc _ _ _ (by simp)]; exact new_at rfl
  have K1 : W.heap[w.heap.size + 1]? = some (Obj.cells #[Value.bool b2, Value.slice A2 k2 c2] 29) := by rw [hW]; exact new_at (by simp)
  rw [← hW]
  clear hW
  obtain ⟨p1, p2, _, _⟩ := cell_of_two K0
  obtain ⟨q1, q2, _, _⟩ := cell_of_two K1
  go_simp
  clear K0 K1
  refine wp_region_pk (w.heap.size) [kIs (.agg #[.bool b1, .slice A1 k1 c1]), kNum n1 s1, kIs (.agg #[.bool b2, .slice A2 k2 c2]), kNum n2 s2, kIs (.int .i64 o), kIs (.int .i64 o)] [ [], [(0, some 5)], [], [(2, some 7)], [(1, some 6), (3, some 8)], [(4, some 9)] ] [(0, some 5), (1, some 6), (2, some 7), (3, some 8), (4, some 9), (5, some 4)] [] [] (by kernel_rfl) (by kernel_rfl) (by kernel_rfl) (by kernel_rfl) (by kernel_rfl) (by kernel_rfl) ?n1 ?n2 ?n3 ?n4 ?st ?en
  case n1 => show List.Nodup ([] : List Nat); simp
  case n2 => show ∀ g ∈ ([] : List Nat), _; intro g hg; cases hg
  case n3 => omega
  case n4 =>
    show ∀ g ∈ ([] : List Nat), ∃ cs, Holds_ _ g cs
    intro g hg
    cases hg
  case st =>
    refine pk_cons rfl rfl ?_ ?_
    · intro wr x hC
      simp only [deps, at_, List.getD_cons_zero, PK.sem, PK.move, kIs]
      intro K hK
      have hce0 := (hC.cell (b := w.heap.size) (by omega) (show _ ∉ ([] : List Nat) by simp <;> omega) 0).1.trans p1
      have hce1 := (hC.cell (b := w.heap.size) (by omega) (show _ ∉ ([] : List Nat) by simp <;> omega) 1).1.trans p2
      simp only [putE, retOf]
      go_simp
      exact hK _ _ (Below.refl _ _) rfl
    refine pk_cons rfl rfl ?_ ?_
    · intro wr x hC
      simp only [deps, at_, List.getD_cons_zero, List.getD_cons_succ, PK.sem, PK.move, kIs, kNum]
      intro hA
      intro K hK
      simp only [putE, retOf, hA]
      go_simp
      refine (HOF.out _ (bW.trans hC.below)).mono ?_
      rintro e w2 ⟨A2, k2, c2, rfl, h1, h2, h3⟩
      go_simp
      exact hK _ _ h3 ⟨A2, k2, c2, rfl, h1, h2⟩
    refine pk_cons rfl rfl ?_ ?_
    · intro wr x hC
      simp only [deps, at_, List.getD_cons_zero, List.getD_cons_succ, PK.sem, PK.move, kIs]
      intro K hK
      have hce0 := (hC.cell (b := w.heap.size + 1) (by omega) (show _ ∉ ([] : List Nat) by simp <;> omega) 0).1.trans q1
      have hce1 := (hC.cell (b := w.heap.size + 1) (by omega) (show _ ∉ ([] : List Nat) by simp <;> omega) 1).1.trans q2
      simp only [putE, retOf]
      go_simp
      exact hK _ _ (Below.refl _ _) rfl
    refine pk_cons rfl rfl ?_ ?_
    · intro wr x hC
      simp only [deps, at_, List.getD_cons_zero, List.getD_cons_succ, PK.sem, PK.move, kIs, kNum]
      intro hA
      intro K hK
      simp only [putE, retOf, hA]
      go_simp
      refine (HOF2.out _ (bW.trans hC.below)).mono ?_
      rintro e w2 ⟨A2, k2, c2, rfl, h1, h2, h3⟩
      go_simp
      exact hK _ _ h3 ⟨A2, k2, c2, rfl, h1, h2⟩
    refine pk_cons rfl rfl ?_ ?_
    · intro wr x hC
      simp only [deps, at_, List.getD_cons_zero, List.getD_cons_succ, PK.sem, PK.move, kIs, kNum]
      intro hA hB
      intro K hK
      obtain ⟨A, k, c, hx, hr1, hz1⟩ := hA
      obtain ⟨B, j, d, hy, hr2, hz2⟩ := hB
      simp only [putE, retOf, hx, hy]
      go_simp
      refine (HCP.out _ _ _ _ hr1 _ _ _ hr2 hz1 hz2).mono ?_
      rintro e w2 ⟨rfl, h3⟩
      go_simp
      exact hK _ _ h3 rfl
    refine pk_cons rfl rfl ?_ ?_
    · intro wr x hC
      simp only [deps, at_, List.getD_cons_zero, List.getD_cons_succ, PK.sem, PK.move, kIs]
      intro h0
      intro K hK
      simp only [putE, retOf, h0]
      go_simp
      exact hK _ _ (Below.refl _ _) rfl
    exact pk_nil rfl
  case en =>
    intro wr x hC hall
    have hE := hall 5 (of_decide_eq_true (by kernel_rfl))
    clear hall
    simp only [at_, List.getD_cons_zero, List.getD_cons_succ, PK.sem, kIs] at hE
    have hbw := bW.trans hC.below
    simp only [putE, hE]
    clear hC hE
    go_wp2
    go_ret
    exact ⟨rfl, hbw⟩
end Go.Proofs.YthjgfkmnelefpaaGreatDoor

namespace Go.Proofs.YthjgfkmnelefpaaGreatDoor
open Go.RowKit

set_option maxRecDepth 100000 in
set_option maxHeartbeats 1600000 in
theorem numRight_yes {w : World} {A : Option Addr} {k c n : Nat} (b : Bool) (h : Rr w (.slice A k c) n) (hz : n = 0 → b = false) :
    Calls Tryz.prog 21 #[.agg #[.bool b, .slice A k c]] w fun e w' => e = .returned (.bool true) ∧ Below w.heap.size w w' := by
  have hr := fun (W : World) (hW : Below w.heap.size w W) => val_right (h.below hW)
  have hk := (rr_len h).1
  have HR := Lib.hid hr
  clear hr h
  cases b
  · clear hz hk
    go_enter Tryz.func21, Tryz.ntmps21
    go_wp2_with fail
    refine (HR.out _ (bal (Below.refl _ _) _)).mono ?_
    rintro e w1 ⟨rfl, rfl⟩
    go_wp2
    go_ret
    exact ⟨rfl, bal (Below.refl _ _) _⟩
  · have hk0 : ((k : Int) == 0) = false := by
      rw [beq_eq_false_iff_ne]; intro h1
      have := hz (hk.1 (by omega))
      cases this
    clear hz hk
    go_enter Tryz.func21, Tryz.ntmps21
    go_wp2_with fail
    refine (HR.out _ (bal (Below.refl _ _) _)).mono ?_
    rintro e w1 ⟨rfl, rfl⟩
    go_wp2
    go_ret
    exact ⟨rfl, bal (Below.refl _ _) _⟩

set_option maxRecDepth 100000 in
set_option maxHeartbeats 1600000 in
theorem divMod_zero {w : World} {A1 A2 : Option Addr} {k1 c1 k2 c2 : Nat} (b1 b2 : Bool) (h2 : Rd w (.slice A2 k2 c2) 0) :
    Calls Tryz.prog 24 #[.agg #[.bool b1, .slice A1 k1 c1], .agg #[.bool b2, .slice A2 k2 c2]] w fun e w' => e = .returned (.tuple #[.agg #[.bool false, .slice none 0 0], .agg #[.bool false, .slice none 0 0], .int .i64 9]) ∧ Below w.heap.size w w' := by
  have hof2 := fun (W : World) (hW : Below w.heap.size w W) => numOf_any (N := 0) b2 (h2.below hW) (by decide) (by decide)
  have HOF2 := Lib.hid hof2
  clear hof2 h2
  go_enter Tryz.func24, Tryz.ntmps24
  go_wp2_with fail
  obtain ⟨W, hW⟩ : ∃ W, W = (((w.alloc (Obj.cells #[Value.bool b1, Value.slice A1 k1 c1] 29)).alloc (Obj.cells #[Value.bool b2, Value.slice A2 k2 c2] 29)).alloc (Obj.cells #[Value.bool false, Value.slice none 0 0] 29)).alloc (Obj.cells #[Value.bool false, Value.slice none 0 0] 29) := ⟨_, rfl⟩
  obtain ⟨bW0, sW0, _, _, K2, K3⟩ := four_new hW
  rw [← hW]
  clear hW
  refine (HOF2.out _ bW0).mono ?_
  clear HOF2
  rintro e w2 ⟨B2, j2, d2, rfl, hr, _, hb⟩
  have hk0 : ((j2 : Int) == 0) = true := by rw [(rr_len hr).1.2 rfl]; rfl
  have hz := hb.size
  have K2 := (hb.block (w.heap.size + 1 + 1) (by omega)).trans K2
  have K3 := (hb.block (w.heap.size + 1 + 1 + 1) (by omega)).trans K3
  have bw2 := bstep bW0 hb
  clear hb bW0 hr
  obtain ⟨o, ho⟩ : ∃ o, o = Obj.cells #[Value.slice B2 j2 d2, Value.bool false] 49 := ⟨_, rfl⟩
  have K2A := ((Below.heap_alloc w2 o _ (by omega) : (w2.alloc o).heap[w.heap.size + 1 + 1]? = w2.heap[w.heap.size + 1 + 1]?)).trans K2
  have K3A := ((Below.heap_alloc w2 o _ (by omega) : (w2.alloc o).heap[w.heap.size + 1 + 1 + 1]? = w2.heap[w.heap.size + 1 + 1 + 1]?)).trans K3
  have bwA := bal bw2 o
  rw [ho] at K2A K3A bwA
  obtain ⟨p1, p2, p3, p4⟩ := cell_of_two K2A
  obtain ⟨q1, q2, q3, q4⟩ := cell_of_two K3A
  have BWA := Lib.hid bwA
  have H2 := Lib.hid K2A
  have H3 := Lib.hid K3A
  clear bwA K2A K3A ho o
  go_wp2_with (go_at_call 52; refine (sizeNone_any _ _ _ _).mono ?_; rintro e w' ⟨rfl, rfl⟩)
  have F2 := set_two1 (u := .slice none 0 0) (set_two0 (u := .bool false) H2.out)
  have ne1 : w.heap.size + 1 + 1 ≠ w.heap.size + 1 + 1 + 1 := by omega
  have G2 := (Below.heap_setCell _ ⟨w.heap.size + 1 + 1 + 1, 1, none⟩ (.slice none 0 0) _ ne1).trans ((Below.heap_setCell _ ⟨w.heap.size + 1 + 1 + 1, 0, none⟩ (.bool false) _ ne1).trans F2)
  have G3 := set_two1 (u := .slice none 0 0) (set_two0 (u := .bool false) ((Below.heap_setCell _ ⟨w.heap.size + 1 + 1, 1, none⟩ (.slice none 0 0) _ ne1.symm).trans ((Below.heap_setCell _ ⟨w.heap.size + 1 + 1, 0, none⟩ (.bool false) _ ne1.symm).trans H3.out)))
  obtain ⟨i1, i2, _, _⟩ := cell_of_two G2
  obtain ⟨j1, j2, _, _⟩ := cell_of_two G3
  refine bodyPost_ret (v := .tuple #[.agg #[.bool false, .slice none 0 0], .agg #[.bool false, .slice none 0 0], .int .i64 9]) (by simp [results, Tryz.results24, go_sem, i1, i2, j1, j2]) rfl ?_
  exact ⟨rfl, below_set_far (below_set_far (below_set_far (below_set_far BWA.out (by omega)) (by omega)) (by omega)) (by omega)⟩

/-- A quotient rounded down, and its rest, by sizes and signs: times the divisor, and the rest, are the number; where the rest lies. -/
theorem div_z (n m : Nat) (b c : Bool) (hm : 0 < m) :
    zOf (divQ n b m c) (b != c) * zOf m c + zOf (divR n b m c) c = zOf n b ∧ divR n b m c < m := by
  have h := Nat.div_add_mod n m
  have hlt := Nat.mod_lt n hm
  have hp : ((m * (n / m) : Nat) : Int) = (m : Int) * ((n / m : Nat) : Int) := Int.natCast_mul _ _
  unfold divQ divR
  by_cases h0 : n % m = 0
  · rw [if_pos (Or.inr h0), if_pos (Or.inr h0)]
    refine ⟨?_, by omega⟩
    generalize n / m = a at *
    cases b <;> cases c <;> simp only [zOf, bne_self_eq_false, Bool.false_eq_true, if_false, if_true, Bool.bne_true, Bool.bne_false, Bool.not_false, Int.neg_mul, Int.mul_neg, Int.neg_neg, Int.mul_comm (a : Int) (m : Int)] <;> omega
  · by_cases hbc : b = c
    · subst hbc
      rw [if_pos (Or.inl (by simp)), if_pos (Or.inl (by simp))]
      refine ⟨?_, hlt⟩
      generalize n / m = a at *
      cases b <;> simp only [zOf, bne_self_eq_false, Bool.false_eq_true, if_false, if_true, Int.mul_neg, Int.mul_comm (a : Int) (m : Int)] <;> omega
    · have hn : ¬ ((b == c) = true ∨ n % m = 0) := by
        intro h1
        rcases h1 with h1 | h1
        · exact hbc (by simpa using h1)
        · exact h0 h1
      rw [if_neg hn, if_neg hn]
      refine ⟨?_, by omega⟩
      generalize n / m = a at *
      have e1 : ((a + 1 : Nat) : Int) = (a : Int) + 1 := by omega
      cases b <;> cases c
      · exact absurd rfl hbc
      · simp only [zOf, Bool.bne_true, Bool.not_false, if_true, Bool.false_eq_true, if_false, Int.neg_mul, Int.mul_neg, Int.neg_neg, e1, Int.add_mul, Int.one_mul, Int.mul_comm (a : Int) (m : Int)]
        omega
      · simp only [zOf, Bool.bne_false, if_true, Bool.false_eq_true, if_false, Int.neg_mul, e1, Int.add_mul, Int.one_mul, Int.mul_comm (a : Int) (m : Int)]
        omega
      · exact absurd rfl hbc
theorem zOf_sgn (n : Nat) (b : Bool) : zOf n (sgn n b) = zOf n b := by
  unfold zOf sgn
  by_cases h : n = 0
  · subst h; simp
  · simp [h]
end Go.Proofs.YthjgfkmnelefpaaGreatDoor

namespace Go.Proofs.YthjgfkmnelefpaaGreatDoor
open Go.RowKit

/-- How many digits the numbers of a list have. -/
def Lens (W : World) (g : Nat) (ns : List Nat) : Prop := ∀ j n, ns[j]? = some n → ∃ A c, W.cell? ⟨g, j * 2 + 1, none⟩ = some (.slice A n c)
theorem sum_take_le (ns : List Nat) (k : Nat) : (ns.take k).sum ≤ ns.sum := by
  have := List.take_append_drop k ns
  have h2 : ns.sum = (ns.take k).sum + (ns.drop k).sum := by rw [← List.sum_append_nat, this]
  omega

set_option maxRecDepth 100000 in
set_option maxHeartbeats 2000000 in
theorem great_any {w : World} {g0 c0 : Nat} {ns : List Nat} (hL : Lens w g0 ns) (hns : ∀ n ∈ ns, n ≤ 35184372087808) (hlen : ns.length ≤ 20) :
    Calls Tryz.prog 6 #[.slice (some ⟨g0, 0, none⟩) ns.length c0] w fun e w' => e = .returned (.bool (decide (1000 < ns.sum))) ∧ w' = w := by
  have HL := Lib.hid hL
  have HNS := Lib.hid hns
  obtain ⟨l, hl⟩ : ∃ l, l = ns.length := ⟨_, rfl⟩
  rw [← hl] at hlen ⊢
  have HLL := Lib.hid hl
  obtain ⟨r, hr⟩ : ∃ r, r = decide (1000 < ns.sum) := ⟨_, rfl⟩
  rw [← hr]
  have HR := Lib.hid hr
  clear hL hns hl hr
  go_enter Tryz.func6, Tryz.ntmps6
  go_wp2
  go_loop [3, 4] (fun nv iv => ∃ (k s : Nat), k ≤ l ∧ iv = .int .i64 (k : Int) ∧ nv = .int .i64 (s : Int) ∧ Hid (s = (ns.take k).sum ∧ s ≤ 35184372088808)) (fun _ iv => l - (intOf iv).toNat)
  case atStart => exact ⟨0, 0, Nat.zero_le _, rfl, rfl, by simp [Hid]⟩
  case round =>
    obtain ⟨k, s, hk, rfl, rfl, HS⟩ := hrel
    have hs2 : (s : Int) ≤ 35184372088808 := by have := HS.out.2; omega
    have hs0 : 0 ≤ (s : Int) := by omega
    by_cases hlt : k < l
    · have hlt' : decide ((k : Int) < (l : Int)) = true := decide_eq_true (by omega)
      by_cases hgt : 1000 < s
      · have hgt' : ¬ s ≤ 1000 := by omega
        have hr : r = true := HR.out.trans (decide_eq_true (by have := sum_take_le ns k; have := HS.out.1; omega))
        clear HR
        subst hr
        go_wp2
        go_ret
        exact ⟨rfl, rfl⟩
      · have hgt' : s ≤ 1000 := by omega
        have hkL : k < ns.length := by rw [← HLL.out]; exact hlt
        obtain ⟨m, hm⟩ : ∃ m, m = ns[k] := ⟨_, rfl⟩
        obtain ⟨A, c, hce⟩ := HL.out k m (by rw [List.getElem?_eq_getElem hkL, hm])
        have hm2 : m ≤ 35184372087808 := HNS.out m (by rw [hm]; exact List.getElem_mem hkL)
        have hsum : s + m = (ns.take (k + 1)).sum := by
          rw [List.take_add_one, List.getElem?_eq_getElem hkL, Option.toList_some, List.sum_append_nat, ← HS.out.1, ← hm]; simp
        have HSUM := Lib.hid hsum
        have hm3 : (m : Int) ≤ 35184372087808 := by omega
        have hm0 : 0 ≤ (m : Int) := by omega
        have hs3 : (s : Int) ≤ 1000 := by omega
        have HM2 := Lib.hid (show s + m ≤ 35184372088808 by omega)
        clear hsum hm hm2
        go_wp2
        go_round
        case rel => exact ⟨k + 1, s + m, by omega, by go_num, by go_num, ⟨HSUM.out, HM2.out⟩⟩
        case measure => simp [intOf]; omega
    · have hk' : k = l := by omega
      have hl20 : ¬ 20 < l := by omega
      have es : s = ns.sum := by rw [HS.out.1, hk', HLL.out, List.take_length]
      have hr : r = decide (1000 < s) := by rw [HR.out, ← es]
      clear HR es hk' hs2 hs0
      by_cases hgt : 1000 < s
      · have er : r = true := hr.trans (decide_eq_true hgt)
        clear hr
        subst er
        go_wp2
        go_ret
        exact ⟨rfl, rfl⟩
      · have er : r = false := hr.trans (decide_eq_false hgt)
        clear hr
        subst er
        go_wp2
        go_ret
        have e1 : decide ((1000 : Int) < (s : Int)) = false := decide_eq_false (by omega)
        have e2 : decide ((20 : Int) < (l : Int)) = false := decide_eq_false (by omega)
        exact ⟨by simp [e1, e2], rfl⟩
end Go.Proofs.YthjgfkmnelefpaaGreatDoor

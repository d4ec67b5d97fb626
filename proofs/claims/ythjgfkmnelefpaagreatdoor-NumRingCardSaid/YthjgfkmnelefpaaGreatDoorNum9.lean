/- Contract of package num's divide: the quotient rounded down, and the rest, by sizes and signs. Contracts of package num's DivMod: the quotient rounded down, and the rest, of any two numbers; the error, if the divisor is 0. -/
import Derived.Test.YthjgfkmnelefpaaGreatDoorNum4
import Derived.Test.YthjgfkmnelefpaaGreatDoorReg
namespace Go.Proofs.YthjgfkmnelefpaaGreatDoor
open Go.RowKit

/-- The size of a quotient rounded down; of its rest. -/
def divQ (n : Nat) (b : Bool) (m : Nat) (c : Bool) : Nat := if (b == c) = true ∨ n % m = 0 then n / m else n / m + 1
def divR (n : Nat) (b : Bool) (m : Nat) (c : Bool) : Nat := if (b == c) = true ∨ n % m = 0 then n % m else m - n % m
def RetNum2 (w : World) (n : Nat) (b : Bool) (m : Nat) (c : Bool) (e : Ending) (w' : World) : Prop := ∃ x y, e = .returned (.tuple #[x, y]) ∧ Num w' x n b ∧ Num w' y m c ∧ Below w.heap.size w w'
theorem sgn_zero {n : Nat} {b : Bool} (h : n = 0) : sgn n b = false := by simp [sgn, h]

set_option maxRecDepth 100000 in
set_option maxHeartbeats 4000000 in
theorem divide_num {w : World} {A1 A2 : Option Addr} {k1 c1 k2 c2 n1 n2 N : Nat} (b1 b2 : Bool) (h1 : Rr w (.slice A1 k1 c1) n1) (h2 : Rr w (.slice A2 k2 c2) n2) (h0 : 0 < n2) (hn1 : n1 < 1000000000 ^ N) (hn2 : n2 < 1000000000 ^ N) (hN : N ≤ 3999) :
    Calls Tryz.prog 53 #[.agg #[.slice A1 k1 c1, .bool b1], .agg #[.slice A2 k2 c2, .bool b2]] w (RetNum2 w (divQ n1 b1 n2 b2) (sgn (divQ n1 b1 n2 b2) (b1 != b2)) (divR n1 b1 n2 b2) (sgn (divR n1 b1 n2 b2) b2)) := by
  have hsp := fun (W : World) (hW : Below w.heap.size w W) => split_any (h1.rd.below hW) (h2.rd.below hW) h0 hn1 (show N ≤ 4000 by omega)
  have HSP := Lib.hid hsp
  have H2 := Lib.hid h2
  have hq : n1 / n2 < 1000000000 ^ N := Nat.lt_of_le_of_lt (Nat.div_le_self _ _) hn1
  have HB := Lib.hid (show n2 < 1000000000 ^ N ∧ n1 % n2 < 1000000000 ^ N ∧ n1 / n2 + 1 < 1000000000 ^ (N + 1) ∧ n1 % n2 < n2 from ⟨hn2, Nat.lt_of_le_of_lt (Nat.mod_le _ _) hn1, by
    rw [Nat.pow_succ]
    have : 0 < 1000000000 ^ N := Nat.pow_pos (by decide)
    omega, Nat.mod_lt _ h0⟩)
  obtain ⟨Q, hQ⟩ : ∃ Q, Q = divQ n1 b1 n2 b2 := ⟨_, rfl⟩
  obtain ⟨R, hR⟩ : ∃ R, R = divR n1 b1 n2 b2 := ⟨_, rfl⟩
  obtain ⟨sx, hsx⟩ : ∃ sx, sx = (b1 != b2) := ⟨_, rfl⟩
  rw [← hQ, ← hR, ← hsx]
  have HSX := Lib.hid hsx
  have HQ := Lib.hid hQ
  have HR := Lib.hid hR
  have HN := Lib.hid hN
  clear hsp h1 h2 h0 hn1 hn2 hq hQ hR hN hsx
  go_enter Tryz.func53, Tryz.ntmps53
  go_wp2_with fail
  obtain ⟨W, hW⟩ : ∃ W, W = (((w.alloc (Obj.cells #[Value.slice A1 k1 c1, Value.bool b1] 49)).alloc (Obj.cells #[Value.slice A2 k2 c2, Value.bool b2] 49)).alloc (Obj.cells #[Value.slice none 0 0, Value.bool false] 49)).alloc (Obj.cells #[Value.slice none 0 0, Value.bool false] 49) := ⟨_, rfl⟩
  obtain ⟨bW, sW, K1, K2, K3, K4⟩ := four_new hW
  rw [← hW]
  clear hW
  refine (HSP.out _ bW).mono ?_
  rintro e w1 ⟨Aq, kq, cq, Ar, kr, cr, rfl, hq, hr, hb⟩
  have hk := (rr_len hr).1
  have hz := hb.size
  have bw1 := bstep bW hb
  have J1 := (hb.block w.heap.size (by omega)).trans K1
  have J2 := (hb.block (w.heap.size + 1) (by omega)).trans K2
  have J3 : Holds_ w1 (w.heap.size + 1 + 1) #[Value.slice none 0 0, Value.bool false] := ⟨⟨_, (hb.block (w.heap.size + 1 + 1) (by omega)).trans K3⟩, by simp [noDig]⟩
  have J4 : Holds_ w1 (w.heap.size + 1 + 1 + 1) #[Value.slice none 0 0, Value.bool false] := ⟨⟨_, (hb.block (w.heap.size + 1 + 1 + 1) (by omega)).trans K4⟩, by simp [noDig]⟩
  have hlt : w.heap.size + 1 < w1.heap.size := by omega
  obtain ⟨p1, p2, p3, p4⟩ := cell_of_two J1
  obtain ⟨q1, q2, q3, q4⟩ := cell_of_two J2
  clear K1 K2 K3 K4 hb bW J1 J2 hz sW
  have hd1 : (w.heap.size + 1 + 1) ≠ (w.heap.size + 1 + 1 + 1) := by omega
  by_cases hc : (b1 == b2) = true ∨ n1 % n2 = 0
  · have eQ : Q = n1 / n2 := by rw [HQ.out]; exact if_pos hc
    have eR : R = n1 % n2 := by rw [HR.out]; exact if_pos hc
    clear HQ HR
    subst eQ
    subst eR
    by_cases he : b1 = b2
    · subst he
      have esx : sx = false := by rw [HSX.out]; simp
      clear HSX
      subst esx
      clear hc hk
      go_wp2_with fail
      refine wp_region_pk (w.heap.size) [kIs (.slice Aq kq cq), kIs (.pointer (some ⟨w.heap.size, 1, none⟩)), kIs (.bool b1), kIs (.pointer (some ⟨w.heap.size + 1, 1, none⟩)), kIs (.bool b1), kIs (.bool false), kNum (n1 / n2) (sgn (n1 / n2) false), kIs (.slice Ar kr cr), kIs (.pointer (some ⟨w.heap.size + 1, 1, none⟩)), kIs (.bool b1), kNum (n1 % n2) (sgn (n1 % n2) b1), kCellNum (w.heap.size + 1 + 1) (n1 / n2) (sgn (n1 / n2) false), kCellNum (w.heap.size + 1 + 1 + 1) (n1 % n2) (sgn (n1 % n2) b1)] [ [], [], [(1, some 28)], [], [(3, some 30)], [(2, some 29), (4, some 31)], [(0, some 27), (5, some 32)], [], [], [(8, some 35)], [(7, some 34), (9, some 36)], [(6, some 33)], [(10, some 37)] ] [(0, some 27), (1, some 28), (2, some 29), (3, some 30), (4, some 31), (5, some 32), (6, some 33), (7, some 34), (8, some 35), (9, some 36), (10, some 37), (11, none), (12, none)] [] [] (by kernel_rfl) (by kernel_rfl) (by kernel_rfl) (by kernel_rfl) (by kernel_rfl) (by kernel_rfl) ?n1 ?n2 ?n3 ?n4 ?st ?en
      case n1 => show List.Nodup ([(w.heap.size + 1 + 1), (w.heap.size + 1 + 1 + 1)] : List Nat); simp
      case n2 => show ∀ g ∈ ([(w.heap.size + 1 + 1), (w.heap.size + 1 + 1 + 1)] : List Nat), _; intro g hg; simp only [List.mem_cons, List.not_mem_nil, or_false] at hg; omega
      case n3 => omega
      case n4 =>
        show ∀ g ∈ ([(w.heap.size + 1 + 1), (w.heap.size + 1 + 1 + 1)] : List Nat), ∃ cs, Holds_ _ g cs
        intro g hg
        simp only [List.mem_cons, List.not_mem_nil, or_false] at hg
        rcases hg with rfl | rfl
        · exact ⟨_, J3⟩
        · exact ⟨_, J4⟩
      case st =>
        refine pk_cons rfl rfl ?_ ?_
        · intro wr x hC
          simp only [deps, at_, List.getD_cons_zero, PK.sem, PK.move, kIs]
          intro K hK
          simp only [putE, retOf]
          go_simp
          exact hK _ _ (Below.refl _ _) rfl
        refine pk_cons rfl rfl ?_ ?_
        · intro wr x hC
          simp only [deps, at_, List.getD_cons_zero, List.getD_cons_succ, PK.sem, PK.move, kIs]
          intro K hK
          simp only [putE, retOf]
          go_simp
          exact hK _ _ (Below.refl _ _) rfl
        refine pk_cons rfl rfl ?_ ?_
        · intro wr x hC
          simp only [deps, at_, List.getD_cons_zero, List.getD_cons_succ, PK.sem, PK.move, kIs]
          intro h0
          intro K hK
          have hce1 := (hC.cell (b := w.heap.size) (by omega) (show _ ∉ ([(w.heap.size + 1 + 1), (w.heap.size + 1 + 1 + 1)] : List Nat) by simp <;> omega) 1).1.trans p2
          simp only [putE, retOf, h0]
          go_simp
          exact hK _ _ (Below.refl _ _) rfl
        refine pk_cons rfl rfl ?_ ?_
        · intro wr x hC
          simp only [deps, at_, List.getD_cons_zero, List.getD_cons_succ, PK.sem, PK.move, kIs]
          intro K hK
          simp only [putE, retOf]
          go_simp
          exact hK _ _ (Below.refl _ _) rfl
        refine pk_cons rfl rfl ?_ ?_
        · intro wr x hC
          simp only [deps, at_, List.getD_cons_zero, List.getD_cons_succ, PK.sem, PK.move, kIs]
          intro h0
          intro K hK
          have hce1 := (hC.cell (b := w.heap.size + 1) (by omega) (show _ ∉ ([(w.heap.size + 1 + 1), (w.heap.size + 1 + 1 + 1)] : List Nat) by simp <;> omega) 1).1.trans q2
          simp only [putE, retOf, h0]
          go_simp
          exact hK _ _ (Below.refl _ _) rfl
        refine pk_cons rfl rfl ?_ ?_
        · intro wr x hC
          simp only [deps, at_, List.getD_cons_zero, List.getD_cons_succ, PK.sem, PK.move, kIs]
          intro h0 h1
          intro K hK
          simp only [putE, retOf, h0, h1]
          go_simp
          exact hK _ _ (Below.refl _ _) rfl
        refine pk_cons rfl rfl ?_ ?_
        · intro wr x hC
          simp only [deps, at_, List.getD_cons_zero, List.getD_cons_succ, PK.sem, PK.move, kIs, kNum]
          intro hA hB
          intro K hK
          simp only [putE, retOf, hA, hB]
          go_simp
          refine (signed_s false (hC.rr hq)).mono ?_
          rintro e w2 ⟨A2, k2, c2, rfl, h1, h2, h3⟩
          go_simp
          exact hK _ _ h3 ⟨A2, k2, c2, rfl, h1, h2⟩
        refine pk_cons rfl rfl ?_ ?_
        · intro wr x hC
          simp only [deps, at_, List.getD_cons_zero, List.getD_cons_succ, PK.sem, PK.move, kIs]
          intro K hK
          simp only [putE, retOf]
          go_simp
          exact hK _ _ (Below.refl _ _) rfl
        refine pk_cons rfl rfl ?_ ?_
        · intro wr x hC
          simp only [deps, at_, List.getD_cons_zero, List.getD_cons_succ, PK.sem, PK.move, kIs]
          intro K hK
          simp only [putE, retOf]
          go_simp
          exact hK _ _ (Below.refl _ _) rfl
        refine pk_cons rfl rfl ?_ ?_
        · intro wr x hC
          simp only [deps, at_, List.getD_cons_zero, List.getD_cons_succ, PK.sem, PK.move, kIs]
          intro h0
          intro K hK
          have hce1 := (hC.cell (b := w.heap.size + 1) (by omega) (show _ ∉ ([(w.heap.size + 1 + 1), (w.heap.size + 1 + 1 + 1)] : List Nat) by simp <;> omega) 1).1.trans q2
          simp only [putE, retOf, h0]
          go_simp
          exact hK _ _ (Below.refl _ _) rfl
        refine pk_cons rfl rfl ?_ ?_
        · intro wr x hC
          simp only [deps, at_, List.getD_cons_zero, List.getD_cons_succ, PK.sem, PK.move, kIs, kNum]
          intro hA hB
          intro K hK
          simp only [putE, retOf, hA, hB]
          go_simp
          refine (signed_s b1 (hC.rr hr)).mono ?_
          rintro e w2 ⟨A2, k2, c2, rfl, h1, h2, h3⟩
          go_simp
          exact hK _ _ h3 ⟨A2, k2, c2, rfl, h1, h2⟩
        refine pk_cons rfl rfl ?_ ?_
        · intro wr x hC
          simp only [deps, at_, List.getD_cons_zero, List.getD_cons_succ, PK.sem, PK.move, kCellNum, kNum]
          intro hA
          intro K hK
          obtain ⟨A, k, c, hx, hr1, hr2⟩ := hA
          obtain ⟨u0, v0, hg⟩ := hC.two (show _ ∈ ([(w.heap.size + 1 + 1), (w.heap.size + 1 + 1 + 1)] : List Nat) by simp) J3
          obtain ⟨m1, m2, m3, m4⟩ := hg.two
          simp only [putE, retOf, hx]
          go_simp
          exact hK _ _ (stored_put2 hg (noDig_slice _ _ _) (noDig_bool _)) ⟨_, holds_put2 hg (noDig_slice _ _ _) (noDig_bool _), A, k, c, rfl, (stored_put2 hg (noDig_slice _ _ _) (noDig_bool _)).rr hr1, hr2⟩
        refine pk_cons rfl rfl ?_ ?_
        · intro wr x hC
          simp only [deps, at_, List.getD_cons_zero, List.getD_cons_succ, PK.sem, PK.move, kCellNum, kNum]
          intro hA
          intro K hK
          obtain ⟨A, k, c, hx, hr1, hr2⟩ := hA
          obtain ⟨u0, v0, hg⟩ := hC.two (show _ ∈ ([(w.heap.size + 1 + 1), (w.heap.size + 1 + 1 + 1)] : List Nat) by simp) J4
          obtain ⟨m1, m2, m3, m4⟩ := hg.two
          simp only [putE, retOf, hx]
          go_simp
          exact hK _ _ (stored_put2 hg (noDig_slice _ _ _) (noDig_bool _)) ⟨_, holds_put2 hg (noDig_slice _ _ _) (noDig_bool _), A, k, c, rfl, (stored_put2 hg (noDig_slice _ _ _) (noDig_bool _)).rr hr1, hr2⟩
        exact pk_nil rfl
      case en =>
        intro wr x hC hall
        have h11 := hall 11 (of_decide_eq_true (by kernel_rfl))
        have h12 := hall 12 (of_decide_eq_true (by kernel_rfl))
        clear hall
        simp only [at_, List.getD_cons_zero, List.getD_cons_succ, PK.sem, kCellNum] at h11 h12
        obtain ⟨_, e4, A4, k4, c4, rfl, r4, z4⟩ := h11
        obtain ⟨_, e5, A5, k5, c5, rfl, r5, z5⟩ := h12
        have hbw := bw1.trans hC.below
        obtain ⟨i1, i2, _, _⟩ := e4.two
        obtain ⟨j1, j2, _, _⟩ := e5.two
        simp only [putE]
        go_wp2
        refine bodyPost_ret (v := .tuple #[.agg #[.slice A4 k4 c4, .bool (sgn (n1 / n2) false)], .agg #[.slice A5 k5 c5, .bool (sgn (n1 % n2) b1)]]) (by simp [results, Tryz.results53, go_sem, i1, i2, j1, j2]) rfl ?_
        exact ⟨_, _, rfl, ⟨A4, k4, c4, rfl, r4, z4⟩, ⟨A5, k5, c5, rfl, r5, z5⟩, hbw⟩
    · have hn0 : n1 % n2 = 0 := hc.resolve_left (by simpa using he)
      have hk0 : ((kr : Int) == 0) = true := by rw [hk.2 hn0]; rfl
      have hb1 : (b1 == b2) = false := by simpa using he
      have hb2 : (b1 != b2) = true := by simpa using he
      have esx : sx = true := HSX.out.trans hb2
      clear HSX
      subst esx
      clear hc hk hn0 he
      go_wp2_with (go_at_call 52; refine (sizeNone_any _ _ _ _).mono ?_; rintro e w' ⟨rfl, rfl⟩)
      refine wp_region_pk (w.heap.size) [kIs (.slice Aq kq cq), kIs (.pointer (some ⟨w.heap.size, 1, none⟩)), kIs (.bool b1), kIs (.pointer (some ⟨w.heap.size + 1, 1, none⟩)), kIs (.bool b2), kIs (.bool true), kNum (n1 / n2) (sgn (n1 / n2) true), kIs (.slice Ar kr cr), kIs (.pointer (some ⟨w.heap.size + 1, 1, none⟩)), kIs (.bool b2), kNum (n1 % n2) (sgn (n1 % n2) b2), kCellNum (w.heap.size + 1 + 1) (n1 / n2) (sgn (n1 / n2) true), kCellNum (w.heap.size + 1 + 1 + 1) (n1 % n2) (sgn (n1 % n2) b2)] [ [], [], [(1, some 28)], [], [(3, some 30)], [(2, some 29), (4, some 31)], [(0, some 27), (5, some 32)], [], [], [(8, some 35)], [(7, some 34), (9, some 36)], [(6, some 33)], [(10, some 37)] ] [(0, some 27), (1, some 28), (2, some 29), (3, some 30), (4, some 31), (5, some 32), (6, some 33), (7, some 34), (8, some 35), (9, some 36), (10, some 37), (11, none), (12, none)] [] [] (by kernel_rfl) (by kernel_rfl) (by kernel_rfl) (by kernel_rfl) (by kernel_rfl) (by kernel_rfl) ?n1 ?n2 ?n3 ?n4 ?st ?en
      case n1 => show List.Nodup ([(w.heap.size + 1 + 1), (w.heap.size + 1 + 1 + 1)] : List Nat); simp
      case n2 => show ∀ g ∈ ([(w.heap.size + 1 + 1), (w.heap.size + 1 + 1 + 1)] : List Nat), _; intro g hg; simp only [List.mem_cons, List.not_mem_nil, or_false] at hg; omega
      case n3 => omega
      case n4 =>
        show ∀ g ∈ ([(w.heap.size + 1 + 1), (w.heap.size + 1 + 1 + 1)] : List Nat), ∃ cs, Holds_ _ g cs
        intro g hg
        simp only [List.mem_cons, List.not_mem_nil, or_false] at hg
        rcases hg with rfl | rfl
        · exact ⟨_, J3⟩
        · exact ⟨_, J4⟩
      case st =>
        refine pk_cons rfl rfl ?_ ?_
        · intro wr x hC
          simp only [deps, at_, List.getD_cons_zero, PK.sem, PK.move, kIs]
          intro K hK
          simp only [putE, retOf]
          go_simp
          exact hK _ _ (Below.refl _ _) rfl
        refine pk_cons rfl rfl ?_ ?_
        · intro wr x hC
          simp only [deps, at_, List.getD_cons_zero, List.getD_cons_succ, PK.sem, PK.move, kIs]
          intro K hK
          simp only [putE, retOf]
          go_simp
          exact hK _ _ (Below.refl _ _) rfl
        refine pk_cons rfl rfl ?_ ?_
        · intro wr x hC
          simp only [deps, at_, List.getD_cons_zero, List.getD_cons_succ, PK.sem, PK.move, kIs]
          intro h0
          intro K hK
          have hce1 := (hC.cell (b := w.heap.size) (by omega) (show _ ∉ ([(w.heap.size + 1 + 1), (w.heap.size + 1 + 1 + 1)] : List Nat) by simp <;> omega) 1).1.trans p2
          simp only [putE, retOf, h0]
          go_simp
          exact hK _ _ (Below.refl _ _) rfl
        refine pk_cons rfl rfl ?_ ?_
        · intro wr x hC
          simp only [deps, at_, List.getD_cons_zero, List.getD_cons_succ, PK.sem, PK.move, kIs]
          intro K hK
          simp only [putE, retOf]
          go_simp
          exact hK _ _ (Below.refl _ _) rfl
        refine pk_cons rfl rfl ?_ ?_
        · intro wr x hC
          simp only [deps, at_, List.getD_cons_zero, List.getD_cons_succ, PK.sem, PK.move, kIs]
          intro h0
          intro K hK
          have hce1 := (hC.cell (b := w.heap.size + 1) (by omega) (show _ ∉ ([(w.heap.size + 1 + 1), (w.heap.size + 1 + 1 + 1)] : List Nat) by simp <;> omega) 1).1.trans q2
          simp only [putE, retOf, h0]
          go_simp
          exact hK _ _ (Below.refl _ _) rfl
        refine pk_cons rfl rfl ?_ ?_
        · intro wr x hC
          simp only [deps, at_, List.getD_cons_zero, List.getD_cons_succ, PK.sem, PK.move, kIs]
          intro h0 h1
          intro K hK
          simp only [putE, retOf, h0, h1]
          go_simp
          exact hK _ _ (Below.refl _ _) rfl
        refine pk_cons rfl rfl ?_ ?_
        · intro wr x hC
          simp only [deps, at_, List.getD_cons_zero, List.getD_cons_succ, PK.sem, PK.move, kIs, kNum]
          intro hA hB
          intro K hK
          simp only [putE, retOf, hA, hB]
          go_simp
          refine (signed_s true (hC.rr hq)).mono ?_
          rintro e w2 ⟨A2, k2, c2, rfl, h1, h2, h3⟩
          go_simp
          exact hK _ _ h3 ⟨A2, k2, c2, rfl, h1, h2⟩
        refine pk_cons rfl rfl ?_ ?_
        · intro wr x hC
          simp only [deps, at_, List.getD_cons_zero, List.getD_cons_succ, PK.sem, PK.move, kIs]
          intro K hK
          simp only [putE, retOf]
          go_simp
          exact hK _ _ (Below.refl _ _) rfl
        refine pk_cons rfl rfl ?_ ?_
        · intro wr x hC
          simp only [deps, at_, List.getD_cons_zero, List.getD_cons_succ, PK.sem, PK.move, kIs]
          intro K hK
          simp only [putE, retOf]
          go_simp
          exact hK _ _ (Below.refl _ _) rfl
        refine pk_cons rfl rfl ?_ ?_
        · intro wr x hC
          simp only [deps, at_, List.getD_cons_zero, List.getD_cons_succ, PK.sem, PK.move, kIs]
          intro h0
          intro K hK
          have hce1 := (hC.cell (b := w.heap.size + 1) (by omega) (show _ ∉ ([(w.heap.size + 1 + 1), (w.heap.size + 1 + 1 + 1)] : List Nat) by simp <;> omega) 1).1.trans q2
          simp only [putE, retOf, h0]
          go_simp
          exact hK _ _ (Below.refl _ _) rfl
        refine pk_cons rfl rfl ?_ ?_
        · intro wr x hC
          simp only [deps, at_, List.getD_cons_zero, List.getD_cons_succ, PK.sem, PK.move, kIs, kNum]
          intro hA hB
          intro K hK
          simp only [putE, retOf, hA, hB]
          go_simp
          refine (signed_s b2 (hC.rr hr)).mono ?_
          rintro e w2 ⟨A2, k2, c2, rfl, h1, h2, h3⟩
          go_simp
          exact hK _ _ h3 ⟨A2, k2, c2, rfl, h1, h2⟩
        refine pk_cons rfl rfl ?_ ?_
        · intro wr x hC
          simp only [deps, at_, List.getD_cons_zero, List.getD_cons_succ, PK.sem, PK.move, kCellNum, kNum]
          intro hA
          intro K hK
          obtain ⟨A, k, c, hx, hr1, hr2⟩ := hA
          obtain ⟨u0, v0, hg⟩ := hC.two (show _ ∈ ([(w.heap.size + 1 + 1), (w.heap.size + 1 + 1 + 1)] : List Nat) by simp) J3
          obtain ⟨m1, m2, m3, m4⟩ := hg.two
          simp only [putE, retOf, hx]
          go_simp
          exact hK _ _ (stored_put2 hg (noDig_slice _ _ _) (noDig_bool _)) ⟨_, holds_put2 hg (noDig_slice _ _ _) (noDig_bool _), A, k, c, rfl, (stored_put2 hg (noDig_slice _ _ _) (noDig_bool _)).rr hr1, hr2⟩
        refine pk_cons rfl rfl ?_ ?_
        · intro wr x hC
          simp only [deps, at_, List.getD_cons_zero, List.getD_cons_succ, PK.sem, PK.move, kCellNum, kNum]
          intro hA
          intro K hK
          obtain ⟨A, k, c, hx, hr1, hr2⟩ := hA
          obtain ⟨u0, v0, hg⟩ := hC.two (show _ ∈ ([(w.heap.size + 1 + 1), (w.heap.size + 1 + 1 + 1)] : List Nat) by simp) J4
          obtain ⟨m1, m2, m3, m4⟩ := hg.two
          simp only [putE, retOf, hx]
          go_simp
          exact hK _ _ (stored_put2 hg (noDig_slice _ _ _) (noDig_bool _)) ⟨_, holds_put2 hg (noDig_slice _ _ _) (noDig_bool _), A, k, c, rfl, (stored_put2 hg (noDig_slice _ _ _) (noDig_bool _)).rr hr1, hr2⟩
        exact pk_nil rfl
      case en =>
        intro wr x hC hall
        have h11 := hall 11 (of_decide_eq_true (by kernel_rfl))
        have h12 := hall 12 (of_decide_eq_true (by kernel_rfl))
        clear hall
        simp only [at_, List.getD_cons_zero, List.getD_cons_succ, PK.sem, kCellNum] at h11 h12
        obtain ⟨_, e4, A4, k4, c4, rfl, r4, z4⟩ := h11
        obtain ⟨_, e5, A5, k5, c5, rfl, r5, z5⟩ := h12
        have hbw := bw1.trans hC.below
        obtain ⟨i1, i2, _, _⟩ := e4.two
        obtain ⟨j1, j2, _, _⟩ := e5.two
        simp only [putE]
        go_wp2
        refine bodyPost_ret (v := .tuple #[.agg #[.slice A4 k4 c4, .bool (sgn (n1 / n2) true)], .agg #[.slice A5 k5 c5, .bool (sgn (n1 % n2) b2)]]) (by simp [results, Tryz.results53, go_sem, i1, i2, j1, j2]) rfl ?_
        exact ⟨_, _, rfl, ⟨A4, k4, c4, rfl, r4, z4⟩, ⟨A5, k5, c5, rfl, r5, z5⟩, hbw⟩
  · have eQ : Q = n1 / n2 + 1 := by rw [HQ.out]; exact if_neg hc
    have eR : R = n2 - n1 % n2 := by rw [HR.out]; exact if_neg hc
    have hb1 : (b1 == b2) = false := by
      cases h : (b1 == b2) with
      | false => rfl
      | true => exact absurd (.inl h) hc
    have hb2 : (b1 != b2) = true := by rw [bne, hb1]; rfl
    have hk0 : ((kr : Int) == 0) = false := by
      rw [beq_eq_false_iff_ne]; intro h; exact hc (.inr (hk.1 (by omega)))
    clear HQ HR
    subst eQ
    subst eR
    have esx : sx = true := HSX.out.trans hb2
    clear HSX
    subst esx
    clear hc hk
    have hap := fun (W : World) (hW : Below w1.heap.size w1 W) => apart_any (N := N) ((H2.out.below bw1).below hW).rd (hr.below hW).rd HB.out.1 HB.out.2.1 (Nat.le_trans HN.out (by omega))
    have hg : gapOf n2 (n1 % n2) = n2 - n1 % n2 := if_pos (Nat.le_of_lt HB.out.2.2.2)
    rw [hg] at hap
    have HAP := Lib.hid hap
    clear hap hg
    go_wp2_with (go_at_call 52; refine (sizeNone_any _ _ _ _).mono ?_; rintro e w' ⟨rfl, rfl⟩)
    refine (HAP.out _ (Below.refl _ _)).mono ?_
    rintro e w2 ⟨Am, km, cm, rfl, hm, hb⟩
    have hz := hb.size
    have q2 := (hb.cell (p := ⟨w.heap.size + 1, 1, none⟩) hlt).trans q2
    have J3 := J3.step hb
    have J4 := J4.step hb
    have bw1 := bstep bw1 hb
    have hq := hq.below hb
    have hlt : w.heap.size + 1 < w2.heap.size := by omega
    clear hb hr HAP
    go_wp2_with fail
    refine wp_region_pk (w.heap.size) [kIs (.slice Aq kq cq), kRr 1, kRr (n1 / n2 + 1), kNum (n1 / n2 + 1) (sgn (n1 / n2 + 1) true), kIs (.slice Am km cm), kIs (.pointer (some ⟨w.heap.size + 1, 1, none⟩)), kIs (.bool b2), kNum (n2 - n1 % n2) (sgn (n2 - n1 % n2) b2), kCellNum (w.heap.size + 1 + 1) (n1 / n2 + 1) (sgn (n1 / n2 + 1) true), kCellNum (w.heap.size + 1 + 1 + 1) (n2 - n1 % n2) (sgn (n2 - n1 % n2) b2)] [ [], [], [(0, some 45), (1, some 46)], [(2, some 47)], [], [], [(5, some 50)], [(4, some 49), (6, some 51)], [(3, some 48)], [(7, some 52)] ] [(0, some 45), (1, some 46), (2, some 47), (3, some 48), (4, some 49), (5, some 50), (6, some 51), (7, some 52), (8, none), (9, none)] [] [] (by kernel_rfl) (by kernel_rfl) (by kernel_rfl) (by kernel_rfl) (by kernel_rfl) (by kernel_rfl) ?n1 ?n2 ?n3 ?n4 ?st ?en
    case n1 => show List.Nodup ([(w.heap.size + 1 + 1), (w.heap.size + 1 + 1 + 1)] : List Nat); simp
    case n2 => show ∀ g ∈ ([(w.heap.size + 1 + 1), (w.heap.size + 1 + 1 + 1)] : List Nat), _; intro g hg; simp only [List.mem_cons, List.not_mem_nil, or_false] at hg; omega
    case n3 => omega
    case n4 =>
      show ∀ g ∈ ([(w.heap.size + 1 + 1), (w.heap.size + 1 + 1 + 1)] : List Nat), ∃ cs, Holds_ _ g cs
      intro g hg
      simp only [List.mem_cons, List.not_mem_nil, or_false] at hg
      rcases hg with rfl | rfl
      · exact ⟨_, J3⟩
      · exact ⟨_, J4⟩
    case st =>
      refine pk_cons rfl rfl ?_ ?_
      · intro wr x hC
        simp only [deps, at_, List.getD_cons_zero, PK.sem, PK.move, kIs]
        intro K hK
        simp only [putE, retOf]
        go_simp
        exact hK _ _ (Below.refl _ _) rfl
      refine pk_cons rfl rfl ?_ ?_
      · intro wr x hC
        simp only [deps, at_, List.getD_cons_zero, List.getD_cons_succ, PK.sem, PK.move, kRr]
        intro K hK
        simp only [putE, retOf]
        go_simp
        exact hK _ _ ((Below.refl _ _).alloc (Nat.le_refl _) _) ⟨_, _, _, rfl, rr_lit1 _⟩
      refine pk_cons rfl rfl ?_ ?_
      · intro wr x hC
        simp only [deps, at_, List.getD_cons_zero, List.getD_cons_succ, PK.sem, PK.move, kIs, kRr]
        intro hA hB
        intro K hK
        obtain ⟨A, k, c, hB, hr1⟩ := hB
        simp only [putE, retOf, hA, hB]
        go_simp
        refine (joined_any (hC.rr hq).rd hr1.rd HB.out.2.2.1 (show N + 1 ≤ 4000 from Nat.succ_le_succ HN.out)).mono ?_
        rintro e w2 ⟨A2, k2, c2, rfl, h1, h2⟩
        go_simp
        exact hK _ _ h2 ⟨A2, k2, c2, rfl, h1⟩
      refine pk_cons rfl rfl ?_ ?_
      · intro wr x hC
        simp only [deps, at_, List.getD_cons_zero, List.getD_cons_succ, PK.sem, PK.move, kNum, kRr]
        intro hA
        intro K hK
        obtain ⟨A, k, c, hA, hr1⟩ := hA
        simp only [putE, retOf, hA]
        go_simp
        refine (signed_s true hr1).mono ?_
        rintro e w2 ⟨A2, k2, c2, rfl, h1, h2, h3⟩
        go_simp
        exact hK _ _ h3 ⟨A2, k2, c2, rfl, h1, h2⟩
      refine pk_cons rfl rfl ?_ ?_
      · intro wr x hC
        simp only [deps, at_, List.getD_cons_zero, List.getD_cons_succ, PK.sem, PK.move, kIs]
        intro K hK
        simp only [putE, retOf]
        go_simp
        exact hK _ _ (Below.refl _ _) rfl
      refine pk_cons rfl rfl ?_ ?_
      · intro wr x hC
        simp only [deps, at_, List.getD_cons_zero, List.getD_cons_succ, PK.sem, PK.move, kIs]
        intro K hK
        simp only [putE, retOf]
        go_simp
        exact hK _ _ (Below.refl _ _) rfl
      refine pk_cons rfl rfl ?_ ?_
      · intro wr x hC
        simp only [deps, at_, List.getD_cons_zero, List.getD_cons_succ, PK.sem, PK.move, kIs]
        intro h0
        intro K hK
        have hce1 := (hC.cell (b := w.heap.size + 1) (by omega) (show _ ∉ ([(w.heap.size + 1 + 1), (w.heap.size + 1 + 1 + 1)] : List Nat) by simp <;> omega) 1).1.trans q2
        simp only [putE, retOf, h0]
        go_simp
        exact hK _ _ (Below.refl _ _) rfl
      refine pk_cons rfl rfl ?_ ?_
      · intro wr x hC
        simp only [deps, at_, List.getD_cons_zero, List.getD_cons_succ, PK.sem, PK.move, kIs, kNum]
        intro hA hB
        intro K hK
        simp only [putE, retOf, hA, hB]
        go_simp
        refine (signed_s b2 (hC.rr hm)).mono ?_
        rintro e w2 ⟨A2, k2, c2, rfl, h1, h2, h3⟩
        go_simp
        exact hK _ _ h3 ⟨A2, k2, c2, rfl, h1, h2⟩
      refine pk_cons rfl rfl ?_ ?_
      · intro wr x hC
        simp only [deps, at_, List.getD_cons_zero, List.getD_cons_succ, PK.sem, PK.move, kCellNum, kNum]
        intro hA
        intro K hK
        obtain ⟨A, k, c, hx, hr1, hr2⟩ := hA
        obtain ⟨u0, v0, hg⟩ := hC.two (show _ ∈ ([(w.heap.size + 1 + 1), (w.heap.size + 1 + 1 + 1)] : List Nat) by simp) J3
        obtain ⟨m1, m2, m3, m4⟩ := hg.two
        simp only [putE, retOf, hx]
        go_simp
        exact hK _ _ (stored_put2 hg (noDig_slice _ _ _) (noDig_bool _)) ⟨_, holds_put2 hg (noDig_slice _ _ _) (noDig_bool _), A, k, c, rfl, (stored_put2 hg (noDig_slice _ _ _) (noDig_bool _)).rr hr1, hr2⟩
      refine pk_cons rfl rfl ?_ ?_
      · intro wr x hC
        simp only [deps, at_, List.getD_cons_zero, List.getD_cons_succ, PK.sem, PK.move, kCellNum, kNum]
        intro hA
        intro K hK
        obtain ⟨A, k, c, hx, hr1, hr2⟩ := hA
        obtain ⟨u0, v0, hg⟩ := hC.two (show _ ∈ ([(w.heap.size + 1 + 1), (w.heap.size + 1 + 1 + 1)] : List Nat) by simp) J4
        obtain ⟨m1, m2, m3, m4⟩ := hg.two
        simp only [putE, retOf, hx]
        go_simp
        exact hK _ _ (stored_put2 hg (noDig_slice _ _ _) (noDig_bool _)) ⟨_, holds_put2 hg (noDig_slice _ _ _) (noDig_bool _), A, k, c, rfl, (stored_put2 hg (noDig_slice _ _ _) (noDig_bool _)).rr hr1, hr2⟩
      exact pk_nil rfl
    case en =>
      intro wr x hC hall
      have h8 := hall 8 (of_decide_eq_true (by kernel_rfl))
      have h9 := hall 9 (of_decide_eq_true (by kernel_rfl))
      clear hall
      simp only [at_, List.getD_cons_zero, List.getD_cons_succ, PK.sem, kCellNum] at h8 h9
      obtain ⟨_, e4, A4, k4, c4, rfl, r4, z4⟩ := h8
      obtain ⟨_, e5, A5, k5, c5, rfl, r5, z5⟩ := h9
      have hbw := bw1.trans hC.below
      obtain ⟨i1, i2, _, _⟩ := e4.two
      obtain ⟨j1, j2, _, _⟩ := e5.two
      simp only [putE]
      go_wp2
      refine bodyPost_ret (v := .tuple #[.agg #[.slice A4 k4 c4, .bool (sgn (n1 / n2 + 1) true)], .agg #[.slice A5 k5 c5, .bool (sgn (n2 - n1 % n2) b2)]]) (by simp [results, Tryz.results53, go_sem, i1, i2, j1, j2]) rfl ?_
      exact ⟨_, _, rfl, ⟨A4, k4, c4, rfl, r4, z4⟩, ⟨A5, k5, c5, rfl, r5, z5⟩, hbw⟩
end Go.Proofs.YthjgfkmnelefpaaGreatDoor

namespace Go.Proofs.YthjgfkmnelefpaaGreatDoor
open Go.RowKit

def RetInt2 (w : World) (n : Nat) (b : Bool) (m : Nat) (c : Bool) (e : Ending) (w' : World) : Prop := ∃ x y, e = .returned (.tuple #[x, y, .int .i64 0]) ∧ Int_ w' x n b ∧ Int_ w' y m c ∧ Below w.heap.size w w'

set_option maxRecDepth 100000 in
set_option maxHeartbeats 4000000 in
theorem divMod_int {w : World} {A1 A2 : Option Addr} {k1 c1 k2 c2 n1 n2 N : Nat} (b1 b2 : Bool) (h1 : Rd w (.slice A1 k1 c1) n1) (h2 : Rd w (.slice A2 k2 c2) n2) (h0 : 0 < n2) (hn1 : n1 < 1000000000 ^ N) (hn2 : n2 < 1000000000 ^ N) (hN : N ≤ 3999) :
    Calls Tryz.prog 24 #[.agg #[.bool b1, .slice A1 k1 c1], .agg #[.bool b2, .slice A2 k2 c2]] w (RetInt2 w (divQ n1 (sgn n1 b1) n2 b2) (sgn (divQ n1 (sgn n1 b1) n2 b2) ((sgn n1 b1) != b2)) (divR n1 (sgn n1 b1) n2 b2) (sgn (divR n1 (sgn n1 b1) n2 b2) b2)) := by
  have hof := fun (W : World) (hW : Below w.heap.size w W) => numOf_any b1 (h1.below hW) hn1 (show N ≤ 4000 by omega)
  have hof2 := fun (W : World) (hW : Below w.heap.size w W) => numOf_any b2 (h2.below hW) hn2 (show N ≤ 4000 by omega)
  have hdv := fun (W : World) (A : Option Addr) (k c : Nat) (h1 : Rr W (.slice A k c) n1) (A2 : Option Addr) (k2 c2 : Nat) (h2 : Rr W (.slice A2 k2 c2) n2) => divide_num (sgn n1 b1) b2 h1 h2 h0 hn1 hn2 hN
  have hs2 : sgn n2 b2 = b2 := by
    unfold sgn
    rw [decide_eq_true (show n2 ≠ 0 by omega), Bool.and_true]
  obtain ⟨Q, hQ⟩ : ∃ Q, Q = divQ n1 (sgn n1 b1) n2 b2 := ⟨_, rfl⟩
  obtain ⟨M, hM⟩ : ∃ M, M = divR n1 (sgn n1 b1) n2 b2 := ⟨_, rfl⟩
  rw [← hQ, ← hM] at hdv ⊢
  obtain ⟨sq, hsq⟩ : ∃ s, s = sgn Q ((sgn n1 b1) != b2) := ⟨_, rfl⟩
  obtain ⟨sm, hsm⟩ : ∃ s, s = sgn M b2 := ⟨_, rfl⟩
  rw [← hsq, ← hsm] at hdv ⊢
  rw [hs2] at hof2
  have hHDV : ∀ (W : World) (A : Option Addr) (k c : Nat), Rr W (.slice A k c) n1 → ∀ {A2 : Option Addr} {k2 c2 : Nat}, Rr W (.slice A2 k2 c2) n2 → Calls Tryz.prog 53 #[.agg #[.slice A k c, .bool (sgn n1 b1)], .agg #[.slice A2 k2 c2, .bool b2]] W (RetNum2 W Q sq M sm) := fun W A k c h A2 k2 c2 h' => hdv W A k c h A2 k2 c2 h'
  have HOF := Lib.hid hof
  have HOF2 := Lib.hid hof2
  have HDV := Lib.hid hHDV
  have H0 := Lib.hid h0
  clear hof hof2 hdv hHDV h1 h2 h0 hn1 hn2 hN hQ hM hsq hsm hs2
  go_enter Tryz.func24, Tryz.ntmps24
  go_wp2_with fail
  obtain ⟨W, hW⟩ : ∃ W, W = (((w.alloc (Obj.cells #[Value.bool b1, Value.slice A1 k1 c1] 29)).alloc (Obj.cells #[Value.bool b2, Value.slice A2 k2 c2] 29)).alloc (Obj.cells #[Value.bool false, Value.slice none 0 0] 29)).alloc (Obj.cells #[Value.bool false, Value.slice none 0 0] 29) := ⟨_, rfl⟩
  obtain ⟨bW0, sW0, K0, _, K2, K3⟩ := four_new hW
  rw [← hW]
  clear hW
  refine (HOF2.out _ bW0).mono ?_
  clear HOF2
  rintro e w2 ⟨B2, j2, d2, rfl, hr, _, hb⟩
  have hk0 : ((j2 : Int) == 0) = false := by
    rw [beq_eq_false_iff_ne]; intro h; have := (rr_len hr).1.1 (by omega); have := H0.out; omega
  have hz := hb.size
  have K0 := (hb.block w.heap.size (by omega)).trans K0
  have K2 := (hb.block (w.heap.size + 1 + 1) (by omega)).trans K2
  have K3 := (hb.block (w.heap.size + 1 + 1 + 1) (by omega)).trans K3
  have bw2 := bstep bW0 hb
  clear hb bW0
  go_wp2_with (go_at_call 52; refine (sizeNone_any _ _ _ _).mono ?_; rintro e w' ⟨rfl, rfl⟩)
  obtain ⟨W4, hW4⟩ : ∃ W4, W4 = w2.alloc (Obj.cells #[Value.slice B2 j2 d2, Value.bool b2] 49) := ⟨_, rfl⟩
  have bW : Below w.heap.size w W4 := by rw [hW4]; exact bal bw2 _
  have sW : W4.heap.size = w2.heap.size + 1 := by rw [hW4]; simp
  have hr : Rr W4 (.slice B2 j2 d2) n2 := by rw [hW4]; exact hr.alloc _
  have K7 : W4.heap[w2.heap.size]? = some (Obj.cells #[Value.slice B2 j2 d2, Value.bool b2] 49) := by rw [hW4]; exact heap_alloc_new _ _
  have K0 : W4.heap[w.heap.size]? = _ := (by rw [hW4]; exact Below.heap_alloc _ _ _ (by omega) : W4.heap[w.heap.size]? = w2.heap[w.heap.size]?).trans K0
  have K2 : W4.heap[w.heap.size + 1 + 1]? = _ := (by rw [hW4]; exact Below.heap_alloc _ _ _ (by omega) : W4.heap[w.heap.size + 1 + 1]? = w2.heap[w.heap.size + 1 + 1]?).trans K2
  have K3 : W4.heap[w.heap.size + 1 + 1 + 1]? = _ := (by rw [hW4]; exact Below.heap_alloc _ _ _ (by omega) : W4.heap[w.heap.size + 1 + 1 + 1]? = w2.heap[w.heap.size + 1 + 1 + 1]?).trans K3
  obtain ⟨p1, p2, _, _⟩ := cell_of_two K0
  obtain ⟨q1, q2, _, _⟩ := cell_of_two K7
  rw [← hW4]
  clear hW4 K0 K7 bw2 hk0
  have hwz : w.heap.size + 4 ≤ w2.heap.size := by omega
  refine wp_region_pk (w.heap.size) [kIs (.agg #[.bool b1, .slice A1 k1 c1]), kNum n1 (sgn n1 b1), kIs (.agg #[.slice B2 j2 d2, .bool b2]), kNum2 Q sq M sm, kNum2 Q sq M sm, kNum Q sq, kNum M sm, PK.fresh 2, PK.fresh 2, kPutNum 7 Q sq, kPutNum 8 M sm] [ [], [(0, some 18)], [], [(1, some 19), (2, some 20)], [(3, some 21)], [(4, some 17)], [(4, some 17)], [], [], [(7, some 8), (5, some 22)], [(8, some 9), (6, some 23)] ] [(0, some 18), (1, some 19), (2, some 20), (3, some 21), (4, some 17), (5, some 22), (6, some 23), (7, some 8), (8, some 9), (9, none), (10, none)] [] [] (by kernel_rfl) (by kernel_rfl) (by kernel_rfl) (by kernel_rfl) (by kernel_rfl) (by kernel_rfl) ?n1 ?n2 ?n3 ?n4 ?st ?en
  case n1 => show List.Nodup ([] : List Nat); simp
  case n2 => show ∀ g ∈ ([] : List Nat), _; intro g hg; cases hg
  case n3 => omega
  case n4 =>
    show ∀ g ∈ ([] : List Nat), ∃ cs, Holds_ _ g cs
    intro g hg
    cases hg
  case st =>
    refine pk_cons rfl rfl ?_ ?_
    · intro wr x hC
      simp only [deps, at_, List.getD_cons_zero, PK.sem, PK.move, kIs]
      intro K hK
      have hce0 := (hC.cell (b := w.heap.size) (by omega) (show _ ∉ ([] : List Nat) by simp <;> omega) 0).1.trans p1
      have hce1 := (hC.cell (b := w.heap.size) (by omega) (show _ ∉ ([] : List Nat) by simp <;> omega) 1).1.trans p2
      simp only [putE, retOf]
      go_simp
      exact hK _ _ (Below.refl _ _) rfl
    refine pk_cons rfl rfl ?_ ?_
    · intro wr x hC
      simp only [deps, at_, List.getD_cons_zero, List.getD_cons_succ, PK.sem, PK.move, kIs, kNum]
      intro hA
      intro K hK
      simp only [putE, retOf, hA]
      go_simp
      refine (HOF.out _ (bW.trans hC.below)).mono ?_
      rintro e w2 ⟨A2, k2, c2, rfl, h1, h2, h3⟩
      go_simp
      exact hK _ _ h3 ⟨A2, k2, c2, rfl, h1, h2⟩
    refine pk_cons rfl rfl ?_ ?_
    · intro wr x hC
      simp only [deps, at_, List.getD_cons_zero, List.getD_cons_succ, PK.sem, PK.move, kIs]
      intro K hK
      have hce0 := (hC.cell (b := w2.heap.size) (by omega) (show _ ∉ ([] : List Nat) by simp <;> omega) 0).1.trans q1
      have hce1 := (hC.cell (b := w2.heap.size) (by omega) (show _ ∉ ([] : List Nat) by simp <;> omega) 1).1.trans q2
      simp only [putE, retOf]
      go_simp
      exact hK _ _ (Below.refl _ _) rfl
    refine pk_cons rfl rfl ?_ ?_
    · intro wr x hC
      simp only [deps, at_, List.getD_cons_zero, List.getD_cons_succ, PK.sem, PK.move, kIs, kNum, kNum2]
      intro hA hB
      intro K hK
      obtain ⟨A, k, c, hA, hr1, hr2⟩ := hA
      simp only [putE, retOf, hA, hB]
      go_simp
      refine (HDV.out _ A k c hr1 (hC.rr hr)).mono ?_
      rintro e w3 ⟨x, y, rfl, h1, h2, h3⟩
      go_simp
      exact hK _ _ h3 ⟨x, y, rfl, h1, h2⟩
    refine pk_cons rfl rfl ?_ ?_
    · intro wr x hC
      simp only [deps, at_, List.getD_cons_zero, List.getD_cons_succ, PK.sem, PK.move, kNum2]
      intro hA
      intro K hK
      obtain ⟨x, y, hA, h1, h2⟩ := hA
      simp only [putE, retOf, hA]
      go_simp
      exact hK _ _ (Below.refl _ _) ⟨x, y, rfl, h1, h2⟩
    refine pk_cons rfl rfl ?_ ?_
    · intro wr x hC
      simp only [deps, at_, List.getD_cons_zero, List.getD_cons_succ, PK.sem, PK.move, kNum, kNum2]
      intro hA
      intro K hK
      obtain ⟨x, y, hA, h1, h2⟩ := hA
      simp only [putE, retOf, hA]
      go_simp
      exact hK _ _ (Below.refl _ _) h1
    refine pk_cons rfl rfl ?_ ?_
    · intro wr x hC
      simp only [deps, at_, List.getD_cons_zero, List.getD_cons_succ, PK.sem, PK.move, kNum, kNum2]
      intro hA
      intro K hK
      obtain ⟨x, y, hA, h1, h2⟩ := hA
      simp only [putE, retOf, hA]
      go_simp
      exact hK _ _ (Below.refl _ _) h2
    refine pk_cons rfl rfl ?_ ?_
    · intro wr x hC
      simp only [deps, at_, List.getD_cons_zero, List.getD_cons_succ, PK.sem, PK.move]
      intro K hK
      have hsz := hC.below.size
      simp only [putE, retOf]
      go_simp
      exact hK _ _ ⟨(Below.refl _ _).alloc (Nat.le_refl _) _, _, rfl, Nat.le_refl _⟩ ⟨_, _, rfl, hsz, holds_new2 _ (noDig_slice _ _ _) (noDig_bool _) _, rfl⟩
    refine pk_cons rfl rfl ?_ ?_
    · intro wr x hC
      simp only [deps, at_, List.getD_cons_zero, List.getD_cons_succ, PK.sem, PK.move]
      intro K hK
      have hsz := hC.below.size
      simp only [putE, retOf]
      go_simp
      exact hK _ _ ⟨(Below.refl _ _).alloc (Nat.le_refl _) _, _, rfl, Nat.le_refl _⟩ ⟨_, _, rfl, hsz, holds_new2 _ (noDig_slice _ _ _) (noDig_bool _) _, rfl⟩
    refine pk_cons rfl rfl ?_ ?_
    · intro wr x hC
      simp only [deps, at_, List.getD_cons_zero, List.getD_cons_succ, PK.sem, PK.move, kNum, kPutNum]
      intro hA hB
      intro K hK
      obtain ⟨g, cs, hx, hg0, hg, hsz⟩ := hA
      obtain ⟨u0, v0, rfl⟩ := size_two hsz
      obtain ⟨A, k, c, hy, hr1, hr2⟩ := hB
      obtain ⟨m1, m2, m3, m4⟩ := hg.two
      simp only [putE, retOf, hx, hy]
      go_simp
      exact hK _ _ ⟨g, hx, hg0, stored_put2 hg (noDig_slice _ _ _) (noDig_bool _)⟩ ⟨g, _, hx, hg0, holds_put2 hg (noDig_slice _ _ _) (noDig_bool _), A, k, c, rfl, (stored_put2 hg (noDig_slice _ _ _) (noDig_bool _)).rr hr1, hr2⟩
    refine pk_cons rfl rfl ?_ ?_
    · intro wr x hC
      simp only [deps, at_, List.getD_cons_zero, List.getD_cons_succ, PK.sem, PK.move, kNum, kPutNum]
      intro hA hB
      intro K hK
      obtain ⟨g, cs, hx, hg0, hg, hsz⟩ := hA
      obtain ⟨u0, v0, rfl⟩ := size_two hsz
      obtain ⟨A, k, c, hy, hr1, hr2⟩ := hB
      obtain ⟨m1, m2, m3, m4⟩ := hg.two
      simp only [putE, retOf, hx, hy]
      go_simp
      exact hK _ _ ⟨g, hx, hg0, stored_put2 hg (noDig_slice _ _ _) (noDig_bool _)⟩ ⟨g, _, hx, hg0, holds_put2 hg (noDig_slice _ _ _) (noDig_bool _), A, k, c, rfl, (stored_put2 hg (noDig_slice _ _ _) (noDig_bool _)).rr hr1, hr2⟩
    exact pk_nil rfl
  case en =>
    intro wr x hC hall
    have h9 := hall 9 (of_decide_eq_true (by kernel_rfl))
    have h10 := hall 10 (of_decide_eq_true (by kernel_rfl))
    clear hall
    simp only [at_, List.getD_cons_zero, List.getD_cons_succ, PK.sem, kPutNum] at h9 h10
    obtain ⟨g8, _, hx8, hs8, e8, A8, k8, c8, rfl, r8, z8⟩ := h9
    obtain ⟨g9, _, hx9, hs9, e9, A9, k9, c9, rfl, r9, z9⟩ := h10
    simp only [putE, hx8, hx9]
    clear hx8 hx9
    obtain ⟨i1, i2, _, _⟩ := e8.two
    obtain ⟨j1, j2, _, _⟩ := e9.two
    have bwr := bW.trans hC.below
    have hzr := hC.below.size
    have J2 : Holds_ wr (w.heap.size + 1 + 1) #[Value.bool false, Value.slice none 0 0] := ⟨⟨_, (hC.old _ (by omega) (show _ ∉ ([] : List Nat) by simp)).trans K2⟩, by simp [noDig]⟩
    have J3 : Holds_ wr (w.heap.size + 1 + 1 + 1) #[Value.bool false, Value.slice none 0 0] := ⟨⟨_, (hC.old _ (by omega) (show _ ∉ ([] : List Nat) by simp)).trans K3⟩, by simp [noDig]⟩
    have hl8 := e8.lt
    have hl9 := e9.lt
    rename_i w4
    clear hC K2 K3 p1 p2 q1 q2
    go_wp2_with fail
    go_simp
    refine wp_region_pk (w.heap.size) [kIs (.agg #[.slice A8 k8 c8, .bool sq]), kInt Q sq, kIs (.agg #[.slice A9 k9 c9, .bool sm]), kInt M sm, kCellInt (w.heap.size + 1 + 1) Q sq, kCellInt (w.heap.size + 1 + 1 + 1) M sm, kIs (.int .i64 0)] [ [], [(0, some 24)], [], [(2, some 26)], [(1, some 25)], [(3, some 27)], [] ] [(0, some 24), (1, some 25), (2, some 26), (3, some 27), (4, none), (5, none), (6, some 6)] [] [] (by kernel_rfl) (by kernel_rfl) (by kernel_rfl) (by kernel_rfl) (by kernel_rfl) (by kernel_rfl) ?n1 ?n2 ?n3 ?n4 ?st ?en
    case n1 => show List.Nodup ([(w.heap.size + 1 + 1), (w.heap.size + 1 + 1 + 1)] : List Nat); simp
    case n2 => show ∀ g ∈ ([(w.heap.size + 1 + 1), (w.heap.size + 1 + 1 + 1)] : List Nat), _; intro g hg; simp only [List.mem_cons, List.not_mem_nil, or_false] at hg; omega
    case n3 => omega
    case n4 =>
      show ∀ g ∈ ([(w.heap.size + 1 + 1), (w.heap.size + 1 + 1 + 1)] : List Nat), ∃ cs, Holds_ _ g cs
      intro g hg
      simp only [List.mem_cons, List.not_mem_nil, or_false] at hg
      rcases hg with rfl | rfl
      · exact ⟨_, J2⟩
      · exact ⟨_, J3⟩
    case st =>
      refine pk_cons rfl rfl ?_ ?_
      · intro wr x hC
        simp only [deps, at_, List.getD_cons_zero, PK.sem, PK.move, kIs]
        intro K hK
        have hce0 := (hC.cell (b := g8) (by omega) (show _ ∉ ([(w.heap.size + 1 + 1), (w.heap.size + 1 + 1 + 1)] : List Nat) by simp <;> omega) 0).1.trans i1
        have hce1 := (hC.cell (b := g8) (by omega) (show _ ∉ ([(w.heap.size + 1 + 1), (w.heap.size + 1 + 1 + 1)] : List Nat) by simp <;> omega) 1).1.trans i2
        simp only [putE, retOf]
        go_simp
        exact hK _ _ (Below.refl _ _) rfl
      refine pk_cons rfl rfl ?_ ?_
      · intro wr x hC
        simp only [deps, at_, List.getD_cons_zero, List.getD_cons_succ, PK.sem, PK.move, kInt, kIs]
        intro hA
        intro K hK
        simp only [putE, retOf, hA]
        go_simp
        refine (told_any (hC.rr r8) z8).mono ?_
        rintro e w2 ⟨A2, k2, c2, rfl, h1, h2, h3⟩
        go_simp
        exact hK _ _ h3 ⟨A2, k2, c2, rfl, h1, h2⟩
      refine pk_cons rfl rfl ?_ ?_
      · intro wr x hC
        simp only [deps, at_, List.getD_cons_zero, List.getD_cons_succ, PK.sem, PK.move, kIs]
        intro K hK
        have hce0 := (hC.cell (b := g9) (by omega) (show _ ∉ ([(w.heap.size + 1 + 1), (w.heap.size + 1 + 1 + 1)] : List Nat) by simp <;> omega) 0).1.trans j1
        have hce1 := (hC.cell (b := g9) (by omega) (show _ ∉ ([(w.heap.size + 1 + 1), (w.heap.size + 1 + 1 + 1)] : List Nat) by simp <;> omega) 1).1.trans j2
        simp only [putE, retOf]
        go_simp
        exact hK _ _ (Below.refl _ _) rfl
      refine pk_cons rfl rfl ?_ ?_
      · intro wr x hC
        simp only [deps, at_, List.getD_cons_zero, List.getD_cons_succ, PK.sem, PK.move, kInt, kIs]
        intro hA
        intro K hK
        simp only [putE, retOf, hA]
        go_simp
        refine (told_any (hC.rr r9) z9).mono ?_
        rintro e w2 ⟨A2, k2, c2, rfl, h1, h2, h3⟩
        go_simp
        exact hK _ _ h3 ⟨A2, k2, c2, rfl, h1, h2⟩
      refine pk_cons rfl rfl ?_ ?_
      · intro wr x hC
        simp only [deps, at_, List.getD_cons_zero, List.getD_cons_succ, PK.sem, PK.move, kCellInt, kInt]
        intro hA
        intro K hK
        obtain ⟨A, k, c, hx, hr1, hr2⟩ := hA
        obtain ⟨u0, v0, hg⟩ := hC.two (show _ ∈ ([(w.heap.size + 1 + 1), (w.heap.size + 1 + 1 + 1)] : List Nat) by simp) J2
        obtain ⟨m1, m2, m3, m4⟩ := hg.two
        simp only [putE, retOf, hx]
        go_simp
        exact hK _ _ (stored_put2 hg (noDig_bool _) (noDig_slice _ _ _)) ⟨_, holds_put2 hg (noDig_bool _) (noDig_slice _ _ _), A, k, c, rfl, (stored_put2 hg (noDig_bool _) (noDig_slice _ _ _)).rr hr1, hr2⟩
      refine pk_cons rfl rfl ?_ ?_
      · intro wr x hC
        simp only [deps, at_, List.getD_cons_zero, List.getD_cons_succ, PK.sem, PK.move, kCellInt, kInt]
        intro hA
        intro K hK
        obtain ⟨A, k, c, hx, hr1, hr2⟩ := hA
        obtain ⟨u0, v0, hg⟩ := hC.two (show _ ∈ ([(w.heap.size + 1 + 1), (w.heap.size + 1 + 1 + 1)] : List Nat) by simp) J3
        obtain ⟨m1, m2, m3, m4⟩ := hg.two
        simp only [putE, retOf, hx]
        go_simp
        exact hK _ _ (stored_put2 hg (noDig_bool _) (noDig_slice _ _ _)) ⟨_, holds_put2 hg (noDig_bool _) (noDig_slice _ _ _), A, k, c, rfl, (stored_put2 hg (noDig_bool _) (noDig_slice _ _ _)).rr hr1, hr2⟩
      refine pk_cons rfl rfl ?_ ?_
      · intro wr x hC
        simp only [deps, at_, List.getD_cons_zero, List.getD_cons_succ, PK.sem, PK.move, kIs]
        intro K hK
        simp only [putE, retOf]
        go_simp
        exact hK _ _ (Below.refl _ _) rfl
      exact pk_nil rfl
    case en =>
      intro wr x hC hall
      have h4 := hall 4 (of_decide_eq_true (by kernel_rfl))
      have h5 := hall 5 (of_decide_eq_true (by kernel_rfl))
      have h6 := hall 6 (of_decide_eq_true (by kernel_rfl))
      clear hall
      simp only [at_, List.getD_cons_zero, List.getD_cons_succ, PK.sem, kCellInt, kIs] at h4 h5 h6
      obtain ⟨_, e4, A4, k4, c4, rfl, r4, z4⟩ := h4
      obtain ⟨_, e5, A5, k5, c5, rfl, r5, z5⟩ := h5
      have hbw := bwr.trans hC.below
      obtain ⟨i1, i2, _, _⟩ := e4.two
      obtain ⟨j1, j2, _, _⟩ := e5.two
      simp only [putE, h6]
      clear h6
      go_wp2
      refine bodyPost_ret (v := .tuple #[.agg #[.bool sq, .slice A4 k4 c4], .agg #[.bool sm, .slice A5 k5 c5], .int .i64 0]) (by simp [results, Tryz.results24, go_sem, i1, i2, j1, j2]) rfl ?_
      exact ⟨_, _, rfl, ⟨A4, k4, c4, rfl, r4, z4⟩, ⟨A5, k5, c5, rfl, r5, z5⟩, hbw⟩
end Go.Proofs.YthjgfkmnelefpaaGreatDoor

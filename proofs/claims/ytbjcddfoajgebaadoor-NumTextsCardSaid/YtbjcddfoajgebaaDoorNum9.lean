/- Contract of package num's divide: the quotient rounded down, and the rest, by sizes and signs. -/
import Derived.Test.YtbjcddfoajgebaaDoorNum4
import Derived.Test.YtbjcddfoajgebaaDoorReg
namespace Go.Proofs.YtbjcddfoajgebaaDoor
open Go.RowKit

/-- The size of a quotient rounded down; of its rest. -/
def divQ (n : Nat) (b : Bool) (m : Nat) (c : Bool) : Nat := if (b == c) = true ∨ n % m = 0 then n / m else n / m + 1
def divR (n : Nat) (b : Bool) (m : Nat) (c : Bool) : Nat := if (b == c) = true ∨ n % m = 0 then n % m else m - n % m
def RetNum2 (w : World) (n : Nat) (b : Bool) (m : Nat) (c : Bool) (e : Ending) (w' : World) : Prop := ∃ x y, e = .returned (.tuple #[x, y]) ∧ Num w' x n b ∧ Num w' y m c ∧ Below w.heap.size w w'
theorem sgn_zero {n : Nat} {b : Bool} (h : n = 0) : sgn n b = false := by simp [sgn, h]

set_option maxRecDepth 100000 in
set_option maxHeartbeats 4000000 in
theorem divide_num {w : World} {A1 A2 : Option Addr} {k1 c1 k2 c2 n1 n2 N : Nat} (b1 b2 : Bool) (h1 : Rr w (.slice A1 k1 c1) n1) (h2 : Rr w (.slice A2 k2 c2) n2) (h0 : 0 < n2) (hn1 : n1 < 1000000000 ^ N) (hn2 : n2 < 1000000000 ^ N) (hN : N ≤ 3999) :
    Calls Tryd.prog 62 #[.agg #[.slice A1 k1 c1, .bool b1], .agg #[.slice A2 k2 c2, .bool b2]] w (RetNum2 w (divQ n1 b1 n2 b2) (sgn (divQ n1 b1 n2 b2) (b1 != b2)) (divR n1 b1 n2 b2) (sgn (divR n1 b1 n2 b2) b2)) := by
  have hsp := fun (W : World) (hW : Below w.heap.size w W) => split_any (h1.rd.below hW) (h2.rd.below hW) h0 hn1 (show N ≤ 4000 by omega)
  have HSP := Lib.hid hsp
  have H2 := Lib.hid h2
  have hq : n1 / n2 < 1000000000 ^ N := Nat.lt_of_le_of_lt (Nat.div_le_self _ _) hn1
  have HB := Lib.hid (show n2 < 1000000000 ^ N ∧ n1 % n2 < 1000000000 ^ N ∧ n1 / n2 + 1 < 1000000000 ^ (N + 1) ∧ n1 % n2 < n2 from ⟨hn2, Nat.lt_of_le_of_lt (Nat.mod_le _ _) hn1, by
    rw [Nat.pow_succ]
    have : 0 < 1000000000 ^ N := Nat.pow_pos (by decide)
    omega, Nat.mod_lt _ h0⟩)
  obtain ⟨Q, hQ⟩ : ∃ Q, Q = divQ n1 b1 n2 b2 := ⟨_, rfl⟩
  obtain ⟨R, hR⟩ : ∃ R, R = divR n1 b1 n2 b2 := ⟨_, rfl⟩
  obtain ⟨sx, hsx⟩ : ∃ sx, sx = (b1 != b2) := ⟨_, rfl⟩
  rw [← hQ, ← hR, ← hsx]
  have HSX := Lib.hid hsx
  have HQ := Lib.hid hQ
  have HR := Lib.hid hR
  have HN := Lib.hid hN
  clear hsp h1 h2 h0 hn1 hn2 hq hQ hR hN hsx
  go_enter Tryd.func62, Tryd.ntmps62
  go_wp2_with fail
  obtain ⟨W, hW⟩ : ∃ W, W = (((w.alloc (Obj.cells #[Value.slice A1 k1 c1, Value.bool b1] 56)).alloc (Obj.cells #[Value.slice A2 k2 c2, Value.bool b2] 56)).alloc (Obj.cells #[Value.slice none 0 0, Value.bool false] 56)).alloc (Obj.cells #[Value.slice none 0 0, Value.bool false] 56) := ⟨_, rfl⟩
  obtain ⟨bW, sW, K1, K2, K3, K4⟩ := four_new hW
  rw [← hW]
  clear hW
  refine (HSP.out _ bW).mono ?_
  rintro e w1 ⟨Aq, kq, cq, Ar, kr, cr, rfl, hq, hr, hb⟩
  have hk := (rr_len hr).1
  have hz := hb.size
  have bw1 := bstep bW hb
  have J1 := (hb.block w.heap.size (by omega)).trans K1
  have J2 := (hb.block (w.heap.size + 1) (by omega)).trans K2
  have J3 : Holds_ w1 (w.heap.size + 1 + 1) #[Value.slice none 0 0, Value.bool false] := ⟨⟨_, (hb.block (w.heap.size + 1 + 1) (by omega)).trans K3⟩, by simp [noDig]⟩
  have J4 : Holds_ w1 (w.heap.size + 1 + 1 + 1) #[Value.slice none 0 0, Value.bool false] := ⟨⟨_, (hb.block (w.heap.size + 1 + 1 + 1) (by omega)).trans K4⟩, by simp [noDig]⟩
  have hlt : w.heap.size + 1 < w1.heap.size := by omega
  obtain ⟨p1, p2, p3, p4⟩ := cell_of_two J1
  obtain ⟨q1, q2, q3, q4⟩ := cell_of_two J2
  clear K1 K2 K3 K4 hb bW J1 J2 hz sW
  have hd1 : (w.heap.size + 1 + 1) ≠ (w.heap.size + 1 + 1 + 1) := by omega
  by_cases hc : (b1 == b2) = true ∨ n1 % n2 = 0
  · have eQ : Q = n1 / n2 := by rw [HQ.out]; exact if_pos hc
    have eR : R = n1 % n2 := by rw [HR.out]; exact if_pos hc
    clear HQ HR
    subst eQ
    subst eR
    by_cases he : b1 = b2
    · subst he
      have esx : sx = false := by rw [HSX.out]; simp
      clear HSX
      subst esx
      clear hc hk
      go_wp2_with fail
      refine wp_region_pk (w.heap.size) [kIs (.slice Aq kq cq), kIs (.pointer (some ⟨w.heap.size, 1, none⟩)), kIs (.bool b1), kIs (.pointer (some ⟨w.heap.size + 1, 1, none⟩)), kIs (.bool b1), kIs (.bool false), kNum (n1 / n2) (sgn (n1 / n2) false), kIs (.slice Ar kr cr), kIs (.pointer (some ⟨w.heap.size + 1, 1, none⟩)), kIs (.bool b1), kNum (n1 % n2) (sgn (n1 % n2) b1), kCellNum (w.heap.size + 1 + 1) (n1 / n2) (sgn (n1 / n2) false), kCellNum (w.heap.size + 1 + 1 + 1) (n1 % n2) (sgn (n1 % n2) b1)] [ [], [], [(1, some 28)], [], [(3, some 30)], [(2, some 29), (4, some 31)], [(0, some 27), (5, some 32)], [], [], [(8, some 35)], [(7, some 34), (9, some 36)], [(6, some 33)], [(10, some 37)] ] [(0, some 27), (1, some 28), (2, some 29), (3, some 30), (4, some 31), (5, some 32), (6, some 33), (7, some 34), (8, some 35), (9, some 36), (10, some 37), (11, none), (12, none)] [] [] (by kernel_rfl) (by kernel_rfl) (by kernel_rfl) (by kernel_rfl) (by kernel_rfl) (by kernel_rfl) ?n1 ?n2 ?n3 ?n4 ?st ?en
      case n1 => show List.Nodup ([(w.heap.size + 1 + 1), (w.heap.size + 1 + 1 + 1)] : List Nat); simp
      case n2 => show ∀ g ∈ ([(w.heap.size + 1 + 1), (w.heap.size + 1 + 1 + 1)] : List Nat), _; intro g hg; simp only [List.mem_cons, List.not_mem_nil, or_false] at hg; omega
      case n3 => omega
      case n4 =>
        show ∀ g ∈ ([(w.heap.size + 1 + 1), (w.heap.size + 1 + 1 + 1)] : List Nat), ∃ cs, Holds_ _ g cs
        intro g hg
        simp only [List.mem_cons, List.not_mem_nil, or_false] at hg
        rcases hg with rfl | rfl
        · exact ⟨_, J3⟩
        · exact ⟨_, J4⟩
      case st =>
        refine pk_cons rfl rfl ?_ ?_
        · intro wr x hC
          simp only [deps, at_, List.getD_cons_zero, PK.sem, PK.move, kIs]
          intro K hK
          simp only [putE, retOf]
          go_simp
          exact hK _ _ (Below.refl _ _) rfl
        refine pk_cons rfl rfl ?_ ?_
        · intro wr x hC
          simp only [deps, at_, List.getD_cons_zero, List.getD_cons_succ, PK.sem, PK.move, kIs]
          intro K hK
          simp only [putE, retOf]
          go_simp
          exact hK _ _ (Below.refl _ _) rfl
        refine pk_cons rfl rfl ?_ ?_
        · intro wr x hC
          simp only [deps, at_, List.getD_cons_zero, List.getD_cons_succ, PK.sem, PK.move, kIs]
          intro h0
          intro K hK
          have hce1 := (hC.cell (b := w.heap.size) (by omega) (show _ ∉ ([(w.heap.size + 1 + 1), (w.heap.size + 1 + 1 + 1)] : List Nat) by simp <;> omega) 1).1.trans p2
          simp only [putE, retOf, h0]
          go_simp
          exact hK _ _ (Below.refl _ _) rfl
        refine pk_cons rfl rfl ?_ ?_
        · intro wr x hC
          simp only [deps, at_, List.getD_cons_zero, List.getD_cons_succ, PK.sem, PK.move, kIs]
          intro K hK
          simp only [putE, retOf]
          go_simp
          exact hK _ _ (Below.refl _ _) rfl
        refine pk_cons rfl rfl ?_ ?_
        · intro wr x hC
          simp only [deps, at_, List.getD_cons_zero, List.getD_cons_succ, PK.sem, PK.move, kIs]
          intro h0
          intro K hK
          have hce1 := (hC.cell (b := w.heap.size + 1) (by omega) (show _ ∉ ([(w.heap.size + 1 + 1), (w.heap.size + 1 + 1 + 1)] : List Nat) by simp <;> omega) 1).1.trans q2
          simp only [putE, retOf, h0]
          go_simp
          exact hK _ _ (Below.refl _ _) rfl
        refine pk_cons rfl rfl ?_ ?_
        · intro wr x hC
          simp only [deps, at_, List.getD_cons_zero, List.getD_cons_succ, PK.sem, PK.move, kIs]
          intro h0 h1
          intro K hK
          simp only [putE, retOf, h0, h1]
          go_simp
          exact hK _ _ (Below.refl _ _) rfl
        refine pk_cons rfl rfl ?_ ?_
        · intro wr x hC
          simp only [deps, at_, List.getD_cons_zero, List.getD_cons_succ, PK.sem, PK.move, kIs, kNum]
          intro hA hB
          intro K hK
          simp only [putE, retOf, hA, hB]
          go_simp
          refine (signed_s false (hC.rr hq)).mono ?_
          rintro e w2 ⟨A2, k2, c2, rfl, h1, h2, h3⟩
          go_simp
          exact hK _ _ h3 ⟨A2, k2, c2, rfl, h1, h2⟩
        refine pk_cons rfl rfl ?_ ?_
        · intro wr x hC
          simp only [deps, at_, List.getD_cons_zero, List.getD_cons_succ, PK.sem, PK.move, kIs]
          intro K hK
          simp only [putE, retOf]
          go_simp
          exact hK _ _ (Below.refl _ _) rfl
        refine pk_cons rfl rfl ?_ ?_
        · intro wr x hC
          simp only [deps, at_, List.getD_cons_zero, List.getD_cons_succ, PK.sem, PK.move, kIs]
          intro K hK
          simp only [putE, retOf]
          go_simp
          exact hK _ _ (Below.refl _ _) rfl
        refine pk_cons rfl rfl ?_ ?_
        · intro wr x hC
          simp only [deps, at_, List.getD_cons_zero, List.getD_cons_succ, PK.sem, PK.move, kIs]
          intro h0
          intro K hK
          have hce1 := (hC.cell (b := w.heap.size + 1) (by omega) (show _ ∉ ([(w.heap.size + 1 + 1), (w.heap.size + 1 + 1 + 1)] : List Nat) by simp <;> omega) 1).1.trans q2
          simp only [putE, retOf, h0]
          go_simp
          exact hK _ _ (Below.refl _ _) rfl
        refine pk_cons rfl rfl ?_ ?_
        · intro wr x hC
          simp only [deps, at_, List.getD_cons_zero, List.getD_cons_succ, PK.sem, PK.move, kIs, kNum]
          intro hA hB
          intro K hK
          simp only [putE, retOf, hA, hB]
          go_simp
          refine (signed_s b1 (hC.rr hr)).mono ?_
          rintro e w2 ⟨A2, k2, c2, rfl, h1, h2, h3⟩
          go_simp
          exact hK _ _ h3 ⟨A2, k2, c2, rfl, h1, h2⟩
        refine pk_cons rfl rfl ?_ ?_
        · intro wr x hC
          simp only [deps, at_, List.getD_cons_zero, List.getD_cons_succ, PK.sem, PK.move, kCellNum, kNum]
          intro hA
          intro K hK
          obtain ⟨A, k, c, hx, hr1, hr2⟩ := hA
          obtain ⟨u0, v0, hg⟩ := hC.two (show _ ∈ ([(w.heap.size + 1 + 1), (w.heap.size + 1 + 1 + 1)] : List Nat) by simp) J3
          obtain ⟨m1, m2, m3, m4⟩ := hg.two
          simp only [putE, retOf, hx]
          go_simp
          exact hK _ _ (stored_put2 hg (noDig_slice _ _ _) (noDig_bool _)) ⟨_, holds_put2 hg (noDig_slice _ _ _) (noDig_bool _), A, k, c, rfl, (stored_put2 hg (noDig_slice _ _ _) (noDig_bool _)).rr hr1, hr2⟩
        refine pk_cons rfl rfl ?_ ?_
        · intro wr x hC
          simp only [deps, at_, List.getD_cons_zero, List.getD_cons_succ, PK.sem, PK.move, kCellNum, kNum]
          intro hA
          intro K hK
          obtain ⟨A, k, c, hx, hr1, hr2⟩ := hA
          obtain ⟨u0, v0, hg⟩ := hC.two (show _ ∈ ([(w.heap.size + 1 + 1), (w.heap.size + 1 + 1 + 1)] : List Nat) by simp) J4
          obtain ⟨m1, m2, m3, m4⟩ := hg.two
          simp only [putE, retOf, hx]
          go_simp
          exact hK _ _ (stored_put2 hg (noDig_slice _ _ _) (noDig_bool _)) ⟨_, holds_put2 hg (noDig_slice _ _ _) (noDig_bool _), A, k, c, rfl, (stored_put2 hg (noDig_slice _ _ _) (noDig_bool _)).rr hr1, hr2⟩
        exact pk_nil rfl
      case en =>
        intro wr x hC hall
        have h11 := hall 11 (of_decide_eq_true (by kernel_rfl))
        have h12 := hall 12 (of_decide_eq_true (by kernel_rfl))
        clear hall
        simp only [at_, List.getD_cons_zero, List.getD_cons_succ, PK.sem, kCellNum] at h11 h12
        obtain ⟨_, e4, A4, k4, c4, rfl, r4, z4⟩ := h11
        obtain ⟨_, e5, A5, k5, c5, rfl, r5, z5⟩ := h12
        have hbw := bw1.trans hC.below
        obtain ⟨i1, i2, _, _⟩ := e4.two
        obtain ⟨j1, j2, _, _⟩ := e5.two
        simp only [putE]
        go_wp2
        refine bodyPost_ret (v := .tuple #[.agg #[.slice A4 k4 c4, .bool (sgn (n1 / n2) false)], .agg #[.slice A5 k5 c5, .bool (sgn (n1 % n2) b1)]]) (by simp [results, Tryd.results62, go_sem, i1, i2, j1, j2]) rfl ?_
        exact ⟨_, _, rfl, ⟨A4, k4, c4, rfl, r4, z4⟩, ⟨A5, k5, c5, rfl, r5, z5⟩, hbw⟩
    · have hn0 : n1 % n2 = 0 := hc.resolve_left (by simpa using he)
      have hk0 : ((kr : Int) == 0) = true := by rw [hk.2 hn0]; rfl
      have hb1 : (b1 == b2) = false := by simpa using he
      have hb2 : (b1 != b2) = true := by simpa using he
      have esx : sx = true := HSX.out.trans hb2
      clear HSX
      subst esx
      clear hc hk hn0 he
      go_wp2_with (go_at_call 61; refine (sizeNone_any _ _ _ _).mono ?_; rintro e w' ⟨rfl, rfl⟩)
      refine wp_region_pk (w.heap.size) [kIs (.slice Aq kq cq), kIs (.pointer (some ⟨w.heap.size, 1, none⟩)), kIs (.bool b1), kIs (.pointer (some ⟨w.heap.size + 1, 1, none⟩)), kIs (.bool b2), kIs (.bool true), kNum (n1 / n2) (sgn (n1 / n2) true), kIs (.slice Ar kr cr), kIs (.pointer (some ⟨w.heap.size + 1, 1, none⟩)), kIs (.bool b2), kNum (n1 % n2) (sgn (n1 % n2) b2), kCellNum (w.heap.size + 1 + 1) (n1 / n2) (sgn (n1 / n2) true), kCellNum (w.heap.size + 1 + 1 + 1) (n1 % n2) (sgn (n1 % n2) b2)] [ [], [], [(1, some 28)], [], [(3, some 30)], [(2, some 29), (4, some 31)], [(0, some 27), (5, some 32)], [], [], [(8, some 35)], [(7, some 34), (9, some 36)], [(6, some 33)], [(10, some 37)] ] [(0, some 27), (1, some 28), (2, some 29), (3, some 30), (4, some 31), (5, some 32), (6, some 33), (7, some 34), (8, some 35), (9, some 36), (10, some 37), (11, none), (12, none)] [] [] (by kernel_rfl) (by kernel_rfl) (by kernel_rfl) (by kernel_rfl) (by kernel_rfl) (by kernel_rfl) ?n1 ?n2 ?n3 ?n4 ?st ?en
      case n1 => show List.Nodup ([(w.heap.size + 1 + 1), (w.heap.size + 1 + 1 + 1)] : List Nat); simp
      case n2 => show ∀ g ∈ ([(w.heap.size + 1 + 1), (w.heap.size + 1 + 1 + 1)] : List Nat), _; intro g hg; simp only [List.mem_cons, List.not_mem_nil, or_false] at hg; omega
      case n3 => omega
      case n4 =>
        show ∀ g ∈ ([(w.heap.size + 1 + 1), (w.heap.size + 1 + 1 + 1)] : List Nat), ∃ cs, Holds_ _ g cs
        intro g hg
        simp only [List.mem_cons, List.not_mem_nil, or_false] at hg
        rcases hg with rfl | rfl
        · exact ⟨_, J3⟩
        · exact ⟨_, J4⟩
      case st =>
        refine pk_cons rfl rfl ?_ ?_
        · intro wr x hC
          simp only [deps, at_, List.getD_cons_zero, PK.sem, PK.move, kIs]
          intro K hK
          simp only [putE, retOf]
          go_simp
          exact hK _ _ (Below.refl _ _) rfl
        refine pk_cons rfl rfl ?_ ?_
        · intro wr x hC
          simp only [deps, at_, List.getD_cons_zero, List.getD_cons_succ, PK.sem, PK.move, kIs]
          intro K hK
          simp only [putE, retOf]
          go_simp
          exact hK _ _ (Below.refl _ _) rfl
        refine pk_cons rfl rfl ?_ ?_
        · intro wr x hC
          simp only [deps, at_, List.getD_cons_zero, List.getD_cons_succ, PK.sem, PK.move, kIs]
          intro h0
          intro K hK
          have hce1 := (hC.cell (b := w.heap.size) (by omega) (show _ ∉ ([(w.heap.size + 1 + 1), (w.heap.size + 1 + 1 + 1)] : List Nat) by simp <;> omega) 1).1.trans p2
          simp only [putE, retOf, h0]
          go_simp
          exact hK _ _ (Below.refl _ _) rfl
        refine pk_cons rfl rfl ?_ ?_
        · intro wr x hC
          simp only [deps, at_, List.getD_cons_zero, List.getD_cons_succ, PK.sem, PK.move, kIs]
          intro K hK
          simp only [putE, retOf]
          go_simp
          exact hK _ _ (Below.refl _ _) rfl
        refine pk_cons rfl rfl ?_ ?_
        · intro wr x hC
          simp only [deps, at_, List.getD_cons_zero, List.getD_cons_succ, PK.sem, PK.move, kIs]
          intro h0
          intro K hK
          have hce1 := (hC.cell (b := w.heap.size + 1) (by omega) (show _ ∉ ([(w.heap.size + 1 + 1), (w.heap.size + 1 + 1 + 1)] : List Nat) by simp <;> omega) 1).1.trans q2
          simp only [putE, retOf, h0]
          go_simp
          exact hK _ _ (Below.refl _ _) rfl
        refine pk_cons rfl rfl ?_ ?_
        · intro wr x hC
          simp only [deps, at_, List.getD_cons_zero, List.getD_cons_succ, PK.sem, PK.move, kIs]
          intro h0 h1
          intro K hK
          simp only [putE, retOf, h0, h1]
          go_simp
          exact hK _ _ (Below.refl _ _) rfl
        refine pk_cons rfl rfl ?_ ?_
        · intro wr x hC
          simp only [deps, at_, List.getD_cons_zero, List.getD_cons_succ, PK.sem, PK.move, kIs, kNum]
          intro hA hB
          intro K hK
          simp only [putE, retOf, hA, hB]
          go_simp
          refine (signed_s true (hC.rr hq)).mono ?_
          rintro e w2 ⟨A2, k2, c2, rfl, h1, h2, h3⟩
          go_simp
          exact hK _ _ h3 ⟨A2, k2, c2, rfl, h1, h2⟩
        refine pk_cons rfl rfl ?_ ?_
        · intro wr x hC
          simp only [deps, at_, List.getD_cons_zero, List.getD_cons_succ, PK.sem, PK.move, kIs]
          intro K hK
          simp only [putE, retOf]
          go_simp
          exact hK _ _ (Below.refl _ _) rfl
        refine pk_cons rfl rfl ?_ ?_
        · intro wr x hC
          simp only [deps, at_, List.getD_cons_zero, List.getD_cons_succ, PK.sem, PK.move, kIs]
          intro K hK
          simp only [putE, retOf]
          go_simp
          exact hK _ _ (Below.refl _ _) rfl
        refine pk_cons rfl rfl ?_ ?_
        · intro wr x hC
          simp only [deps, at_, List.getD_cons_zero, List.getD_cons_succ, PK.sem, PK.move, kIs]
          intro h0
          intro K hK
          have hce1 := (hC.cell (b := w.heap.size + 1) (by omega) (show _ ∉ ([(w.heap.size + 1 + 1), (w.heap.size + 1 + 1 + 1)] : List Nat) by simp <;> omega) 1).1.trans q2
          simp only [putE, retOf, h0]
          go_simp
          exact hK _ _ (Below.refl _ _) rfl
        refine pk_cons rfl rfl ?_ ?_
        · intro wr x hC
          simp only [deps, at_, List.getD_cons_zero, List.getD_cons_succ, PK.sem, PK.move, kIs, kNum]
          intro hA hB
          intro K hK
          simp only [putE, retOf, hA, hB]
          go_simp
          refine (signed_s b2 (hC.rr hr)).mono ?_
          rintro e w2 ⟨A2, k2, c2, rfl, h1, h2, h3⟩
          go_simp
          exact hK _ _ h3 ⟨A2, k2, c2, rfl, h1, h2⟩
        refine pk_cons rfl rfl ?_ ?_
        · intro wr x hC
          simp only [deps, at_, List.getD_cons_zero, List.getD_cons_succ, PK.sem, PK.move, kCellNum, kNum]
          intro hA
          intro K hK
          obtain ⟨A, k, c, hx, hr1, hr2⟩ := hA
          obtain ⟨u0, v0, hg⟩ := hC.two (show _ ∈ ([(w.heap.size + 1 + 1), (w.heap.size + 1 + 1 + 1)] : List Nat) by simp) J3
          obtain ⟨m1, m2, m3, m4⟩ := hg.two
          simp only [putE, retOf, hx]
          go_simp
          exact hK _ _ (stored_put2 hg (noDig_slice _ _ _) (noDig_bool _)) ⟨_, holds_put2 hg (noDig_slice _ _ _) (noDig_bool _), A, k, c, rfl, (stored_put2 hg (noDig_slice _ _ _) (noDig_bool _)).rr hr1, hr2⟩
        refine pk_cons rfl rfl ?_ ?_
        · intro wr x hC
          simp only [deps, at_, List.getD_cons_zero, List.getD_cons_succ, PK.sem, PK.move, kCellNum, kNum]
          intro hA
          intro K hK
          obtain ⟨A, k, c, hx, hr1, hr2⟩ := hA
          obtain ⟨u0, v0, hg⟩ := hC.two (show _ ∈ ([(w.heap.size + 1 + 1), (w.heap.size + 1 + 1 + 1)] : List Nat) by simp) J4
          obtain ⟨m1, m2, m3, m4⟩ := hg.two
          simp only [putE, retOf, hx]
          go_simp
          exact hK _ _ (stored_put2 hg (noDig_slice _ _ _) (noDig_bool _)) ⟨_, holds_put2 hg (noDig_slice _ _ _) (noDig_bool _), A, k, c, rfl, (stored_put2 hg (noDig_slice _ _ _) (noDig_bool _)).rr hr1, hr2⟩
        exact pk_nil rfl
      case en =>
        intro wr x hC hall
        have h11 := hall 11 (of_decide_eq_true (by kernel_rfl))
        have h12 := hall 12 (of_decide_eq_true (by kernel_rfl))
        clear hall
        simp only [at_, List.getD_cons_zero, List.getD_cons_succ, PK.sem, kCellNum] at h11 h12
        obtain ⟨_, e4, A4, k4, c4, rfl, r4, z4⟩ := h11
        obtain ⟨_, e5, A5, k5, c5, rfl, r5, z5⟩ := h12
        have hbw := bw1.trans hC.below
        obtain ⟨i1, i2, _, _⟩ := e4.two
        obtain ⟨j1, j2, _, _⟩ := e5.two
        simp only [putE]
        go_wp2
        refine bodyPost_ret (v := .tuple #[.agg #[.slice A4 k4 c4, .bool (sgn (n1 / n2) true)], .agg #[.slice A5 k5 c5, .bool (sgn (n1 % n2) b2)]]) (by simp [results, Tryd.results62, go_sem, i1, i2, j1, j2]) rfl ?_
        exact ⟨_, _, rfl, ⟨A4, k4, c4, rfl, r4, z4⟩, ⟨A5, k5, c5, rfl, r5, z5⟩, hbw⟩
  · have eQ : Q = n1 / n2 + 1 := by rw [HQ.out]; exact if_neg hc
    have eR : R = n2 - n1 % n2 := by rw [HR.out]; exact if_neg hc
    have hb1 : (b1 == b2) = false := by
      cases h : (b1 == b2) with
      | false => rfl
      | true => exact absurd (.inl h) hc
    have hb2 : (b1 != b2) = true := by rw [bne, hb1]; rfl
    have hk0 : ((kr : Int) == 0) = false := by
      rw [beq_eq_false_iff_ne]; intro h; exact hc (.inr (hk.1 (by omega)))
    clear HQ HR
    subst eQ
    subst eR
    have esx : sx = true := HSX.out.trans hb2
    clear HSX
    subst esx
    clear hc hk
    have hap := fun (W : World) (hW : Below w1.heap.size w1 W) => apart_any (N := N) ((H2.out.below bw1).below hW).rd (hr.below hW).rd HB.out.1 HB.out.2.1 (Nat.le_trans HN.out (by omega))
    have hg : gapOf n2 (n1 % n2) = n2 - n1 % n2 := if_pos (Nat.le_of_lt HB.out.2.2.2)
    rw [hg] at hap
    have HAP := Lib.hid hap
    clear hap hg
    go_wp2_with (go_at_call 61; refine (sizeNone_any _ _ _ _).mono ?_; rintro e w' ⟨rfl, rfl⟩)
    refine (HAP.out _ (Below.refl _ _)).mono ?_
    rintro e w2 ⟨Am, km, cm, rfl, hm, hb⟩
    have hz := hb.size
    have q2 := (hb.cell (p := ⟨w.heap.size + 1, 1, none⟩) hlt).trans q2
    have J3 := J3.step hb
    have J4 := J4.step hb
    have bw1 := bstep bw1 hb
    have hq := hq.below hb
    have hlt : w.heap.size + 1 < w2.heap.size := by omega
    clear hb hr HAP
    go_wp2_with fail
    refine wp_region_pk (w.heap.size) [kIs (.slice Aq kq cq), kRr 1, kRr (n1 / n2 + 1), kNum (n1 / n2 + 1) (sgn (n1 / n2 + 1) true), kIs (.slice Am km cm), kIs (.pointer (some ⟨w.heap.size + 1, 1, none⟩)), kIs (.bool b2), kNum (n2 - n1 % n2) (sgn (n2 - n1 % n2) b2), kCellNum (w.heap.size + 1 + 1) (n1 / n2 + 1) (sgn (n1 / n2 + 1) true), kCellNum (w.heap.size + 1 + 1 + 1) (n2 - n1 % n2) (sgn (n2 - n1 % n2) b2)] [ [], [], [(0, some 45), (1, some 46)], [(2, some 47)], [], [], [(5, some 50)], [(4, some 49), (6, some 51)], [(3, some 48)], [(7, some 52)] ] [(0, some 45), (1, some 46), (2, some 47), (3, some 48), (4, some 49), (5, some 50), (6, some 51), (7, some 52), (8, none), (9, none)] [] [] (by kernel_rfl) (by kernel_rfl) (by kernel_rfl) (by kernel_rfl) (by kernel_rfl) (by kernel_rfl) ?n1 ?n2 ?n3 ?n4 ?st ?en
    case n1 => show List.Nodup ([(w.heap.size + 1 + 1), (w.heap.size + 1 + 1 + 1)] : List Nat); simp
    case n2 => show ∀ g ∈ ([(w.heap.size + 1 + 1), (w.heap.size + 1 + 1 + 1)] : List Nat), _; intro g hg; simp only [List.mem_cons, List.not_mem_nil, or_false] at hg; omega
    case n3 => omega
    case n4 =>
      show ∀ g ∈ ([(w.heap.size + 1 + 1), (w.heap.size + 1 + 1 + 1)] : List Nat), ∃ cs, Holds_ _ g cs
      intro g hg
      simp only [List.mem_cons, List.not_mem_nil, or_false] at hg
      rcases hg with rfl | rfl
      · exact ⟨_, J3⟩
      · exact ⟨_, J4⟩
    case st =>
      refine pk_cons rfl rfl ?_ ?_
      · intro wr x hC
        simp only [deps, at_, List.getD_cons_zero, PK.sem, PK.move, kIs]
        intro K hK
        simp only [putE, retOf]
        go_simp
        exact hK _ _ (Below.refl _ _) rfl
      refine pk_cons rfl rfl ?_ ?_
      · intro wr x hC
        simp only [deps, at_, List.getD_cons_zero, List.getD_cons_succ, PK.sem, PK.move, kRr]
        intro K hK
        simp only [putE, retOf]
        go_simp
        exact hK _ _ ((Below.refl _ _).alloc (Nat.le_refl _) _) ⟨_, _, _, rfl, rr_lit1 _⟩
      refine pk_cons rfl rfl ?_ ?_
      · intro wr x hC
        simp only [deps, at_, List.getD_cons_zero, List.getD_cons_succ, PK.sem, PK.move, kIs, kRr]
        intro hA hB
        intro K hK
        obtain ⟨A, k, c, hB, hr1⟩ := hB
        simp only [putE, retOf, hA, hB]
        go_simp
        refine (joined_any (hC.rr hq).rd hr1.rd HB.out.2.2.1 (show N + 1 ≤ 4000 from Nat.succ_le_succ HN.out)).mono ?_
        rintro e w2 ⟨A2, k2, c2, rfl, h1, h2⟩
        go_simp
        exact hK _ _ h2 ⟨A2, k2, c2, rfl, h1⟩
      refine pk_cons rfl rfl ?_ ?_
      · intro wr x hC
        simp only [deps, at_, List.getD_cons_zero, List.getD_cons_succ, PK.sem, PK.move, kNum, kRr]
        intro hA
        intro K hK
        obtain ⟨A, k, c, hA, hr1⟩ := hA
        simp only [putE, retOf, hA]
        go_simp
        refine (signed_s true hr1).mono ?_
        rintro e w2 ⟨A2, k2, c2, rfl, h1, h2, h3⟩
        go_simp
        exact hK _ _ h3 ⟨A2, k2, c2, rfl, h1, h2⟩
      refine pk_cons rfl rfl ?_ ?_
      · intro wr x hC
        simp only [deps, at_, List.getD_cons_zero, List.getD_cons_succ, PK.sem, PK.move, kIs]
        intro K hK
        simp only [putE, retOf]
        go_simp
        exact hK _ _ (Below.refl _ _) rfl
      refine pk_cons rfl rfl ?_ ?_
      · intro wr x hC
        simp only [deps, at_, List.getD_cons_zero, List.getD_cons_succ, PK.sem, PK.move, kIs]
        intro K hK
        simp only [putE, retOf]
        go_simp
        exact hK _ _ (Below.refl _ _) rfl
      refine pk_cons rfl rfl ?_ ?_
      · intro wr x hC
        simp only [deps, at_, List.getD_cons_zero, List.getD_cons_succ, PK.sem, PK.move, kIs]
        intro h0
        intro K hK
        have hce1 := (hC.cell (b := w.heap.size + 1) (by omega) (show _ ∉ ([(w.heap.size + 1 + 1), (w.heap.size + 1 + 1 + 1)] : List Nat) by simp <;> omega) 1).1.trans q2
        simp only [putE, retOf, h0]
        go_simp
        exact hK _ _ (Below.refl _ _) rfl
      refine pk_cons rfl rfl ?_ ?_
      · intro wr x hC
        simp only [deps, at_, List.getD_cons_zero, List.getD_cons_succ, PK.sem, PK.move, kIs, kNum]
        intro hA hB
        intro K hK
        simp only [putE, retOf, hA, hB]
        go_simp
        refine (signed_s b2 (hC.rr hm)).mono ?_
        rintro e w2 ⟨A2, k2, c2, rfl, h1, h2, h3⟩
        go_simp
        exact hK _ _ h3 ⟨A2, k2, c2, rfl, h1, h2⟩
      refine pk_cons rfl rfl ?_ ?_
      · intro wr x hC
        simp only [deps, at_, List.getD_cons_zero, List.getD_cons_succ, PK.sem, PK.move, kCellNum, kNum]
        intro hA
        intro K hK
        obtain ⟨A, k, c, hx, hr1, hr2⟩ := hA
        obtain ⟨u0, v0, hg⟩ := hC.two (show _ ∈ ([(w.heap.size + 1 + 1), (w.heap.size + 1 + 1 + 1)] : List Nat) by simp) J3
        obtain ⟨m1, m2, m3, m4⟩ := hg.two
        simp only [putE, retOf, hx]
        go_simp
        exact hK _ _ (stored_put2 hg (noDig_slice _ _ _) (noDig_bool _)) ⟨_, holds_put2 hg (noDig_slice _ _ _) (noDig_bool _), A, k, c, rfl, (stored_put2 hg (noDig_slice _ _ _) (noDig_bool _)).rr hr1, hr2⟩
      refine pk_cons rfl rfl ?_ ?_
      · intro wr x hC
        simp only [deps, at_, List.getD_cons_zero, List.getD_cons_succ, PK.sem, PK.move, kCellNum, kNum]
        intro hA
        intro K hK
        obtain ⟨A, k, c, hx, hr1, hr2⟩ := hA
        obtain ⟨u0, v0, hg⟩ := hC.two (show _ ∈ ([(w.heap.size + 1 + 1), (w.heap.size + 1 + 1 + 1)] : List Nat) by simp) J4
        obtain ⟨m1, m2, m3, m4⟩ := hg.two
        simp only [putE, retOf, hx]
        go_simp
        exact hK _ _ (stored_put2 hg (noDig_slice _ _ _) (noDig_bool _)) ⟨_, holds_put2 hg (noDig_slice _ _ _) (noDig_bool _), A, k, c, rfl, (stored_put2 hg (noDig_slice _ _ _) (noDig_bool _)).rr hr1, hr2⟩
      exact pk_nil rfl
    case en =>
      intro wr x hC hall
      have h8 := hall 8 (of_decide_eq_true (by kernel_rfl))
      have h9 := hall 9 (of_decide_eq_true (by kernel_rfl))
      clear hall
      simp only [at_, List.getD_cons_zero, List.getD_cons_succ, PK.sem, kCellNum] at h8 h9
      obtain ⟨_, e4, A4, k4, c4, rfl, r4, z4⟩ := h8
      obtain ⟨_, e5, A5, k5, c5, rfl, r5, z5⟩ := h9
      have hbw := bw1.trans hC.below
      obtain ⟨i1, i2, _, _⟩ := e4.two
      obtain ⟨j1, j2, _, _⟩ := e5.two
      simp only [putE]
      go_wp2
      refine bodyPost_ret (v := .tuple #[.agg #[.slice A4 k4 c4, .bool (sgn (n1 / n2 + 1) true)], .agg #[.slice A5 k5 c5, .bool (sgn (n2 - n1 % n2) b2)]]) (by simp [results, Tryd.results62, go_sem, i1, i2, j1, j2]) rfl ?_
      exact ⟨_, _, rfl, ⟨A4, k4, c4, rfl, r4, z4⟩, ⟨A5, k5, c5, rfl, r5, z5⟩, hbw⟩
end Go.Proofs.YtbjcddfoajgebaaDoor

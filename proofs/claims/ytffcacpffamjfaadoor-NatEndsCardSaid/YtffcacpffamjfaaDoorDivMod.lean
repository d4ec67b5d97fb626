/- Contract of nat.DivMod: quotient, rest and true; none, none and false by 0. The division by two digits or more comes in as a premise ('LongSpec'), wanted only there. At most 10000 digits. -/
import Derived.Test.YtffcacpffamjfaaDoorDivide
import Derived.Test.YtffcacpffamjfaaDoorPk
import Derived.Deep.DeepCutAuto
namespace Go.Proofs.YtffcacpffamjfaaDoor
open Go.RowKit

set_option maxRecDepth 100000 in
theorem divMod_no {w : World} {A1 A2 : Option Addr} {n1 c1 c2 : Nat} {ys : List Nat} (hr2 : Row w A2 (u32s ys)) (hy : small 4294967296 ys) (hl2 : ys.length ≤ 10000) (h0 : val ys = 0) :
    Calls Tryd.prog 7 #[.slice A1 n1 c1, .slice A2 ys.length c2] w fun e w' => e = .returned (.tuple #[.slice none 0 0, .slice none 0 0, .bool false]) ∧ Below w.heap.size w w' := by
  have H0 := Lib.hid h0
  clear h0
  go_enter Tryd.func7, Tryd.ntmps7
  go_wp2_with fail
  refine (of_any hr2 hy (by omega)).mono ?_
  rintro e w2 ⟨v2, rfl, ⟨zs, hz, hzv, hzo⟩, hb2⟩
  obtain rfl : zs = [] := right_zero hz (by rw [hzv, H0.out])
  obtain ⟨A3, c3, rfl, _⟩ := hzo.slice32
  go_wp2_with (go_at_call 28; refine (none_any _ _ _ _).mono ?_; rintro e w' ⟨rfl, rfl⟩)
  go_returns
  exact ⟨rfl, hb2.alloc hb2.size _⟩

theorem lt_alloc (w : World) (o : Obj) : w.heap.size < (w.alloc o).heap.size := by rw [World.size_alloc]; exact Nat.lt_succ_self _
theorem lt_alloc2 (w : World) (o o' : Obj) : w.heap.size + 1 < ((w.alloc o).alloc o').heap.size := by rw [World.size_alloc, World.size_alloc]; exact Nat.lt_succ_self _
theorem new_succ (w : World) (o o' : Obj) : ((w.alloc o').alloc o).heap[w.heap.size + 1]? = some o := new_at (by rw [World.size_alloc])
theorem new_set (w : World) (a : Addr) (u : Value) (o : Obj) : ((w.setCell a u).alloc o).heap[w.heap.size]? = some o := new_at (by rw [World.size_setCell])
theorem heap_set_far (w : World) (b o : Nat) (u : Value) (k : Nat) (h : k ≠ b) : (w.setCell ⟨b, o, none⟩ u).heap[k]? = w.heap[k]? := Below.heap_setCell _ _ _ _ h
theorem heap_drew (w : World) (k : Nat) : w.drew.heap[k]? = w.heap[k]? := rfl
theorem below_set_far {B : Nat} {a w : World} {b o : Nat} {u : Value} (h : Below B a w) (hb : B ≤ b) : Below B a (w.setCell ⟨b, o, none⟩ u) := h.setCell hb u

/-- Two rows of the call's own, and true. -/
def RetQR (w : World) (q r : Nat) (e : Ending) (w' : World) : Prop := ∃ v u, e = .returned (.tuple #[v, u, .bool true]) ∧ IsNat w' w.heap.size v q ∧ IsNat w' w.heap.size u r ∧ Below w.heap.size w w'

/-- A number in memory of its own: its row; as it is reckoned with; a quotient and a rest; one stored into a fresh variable. -/
def kOwnN (B n : Nat) : PK := .p (fun v w => ∃ (rs : List Nat) (A : Option Addr) (c : Nat), v = .agg #[.slice A rs.length c] ∧ right rs ∧ val rs = n ∧ Own w B 23 (.slice A rs.length c) (u32s rs)) (fun _ _ _ ⟨rs, A, c, e, h1, h2, h3⟩ hb => ⟨rs, A, c, e, h1, h2, h3.below hb⟩) (fun _ _ _ _ ⟨rs, A, c, e, h1, h2, h3⟩ hs => ⟨rs, A, c, e, h1, h2, h3.stored hs⟩)
def kNat1 (B n : Nat) : PK := .p (fun v w => ∃ A k c, v = .agg #[.slice A k c] ∧ IsNat w B (.slice A k c) n) (fun _ _ _ ⟨A, k, c, e, h⟩ hb => ⟨A, k, c, e, h.below hb⟩) (fun _ _ _ _ ⟨A, k, c, e, h⟩ hs => ⟨A, k, c, e, h.stored hs⟩)
def kNat2 (B n m : Nat) : PK := .p (fun v w => ∃ A k c A' k' c', v = .tuple #[.agg #[.slice A k c], .agg #[.slice A' k' c']] ∧ IsNat w B (.slice A k c) n ∧ IsNat w B (.slice A' k' c') m) (fun _ _ _ ⟨A, k, c, A', k', c', e, h, h'⟩ hb => ⟨A, k, c, A', k', c', e, h.below hb, h'.below hb⟩) (fun _ _ _ _ ⟨A, k, c, A', k', c', e, h, h'⟩ hs => ⟨A, k, c, A', k', c', e, h.stored hs, h'.stored hs⟩)
def kPutN1 (e B n : Nat) : PK := .put e (fun cs w => ∃ A k c, cs = #[.slice A k c] ∧ IsNat w B (.slice A k c) n) (fun _ _ _ ⟨A, k, c, e, h⟩ hb => ⟨A, k, c, e, h.below hb⟩) (fun _ _ _ _ ⟨A, k, c, e, h⟩ hs => ⟨A, k, c, e, h.stored hs⟩)
theorem size_one {cs : Array Value} (h : cs.size = 1) : ∃ u, cs = #[u] := by
  obtain ⟨l⟩ := cs
  match l, h with
  | [u], _ => exact ⟨u, rfl⟩
  | [], h => simp at h
  | _ :: _ :: _, h => simp at h
theorem holds_new1 (w : World) {u : Value} (hu : noDig u) (T : TypeId) : Holds_ (w.alloc (.cells #[u] T)) w.heap.size #[u] :=
  ⟨⟨T, heap_alloc_new _ _⟩, fun y hy => by rw [List.mem_singleton.1 (by simpa using hy : y ∈ [u])]; exact hu⟩

set_option maxRecDepth 100000 in
set_option maxHeartbeats 40000000 in
theorem divMod_yes {w : World} {A1 A2 : Option Addr} {c1 c2 : Nat} {xs ys : List Nat} (hr1 : Row w A1 (u32s xs)) (hr2 : Row w A2 (u32s ys)) (hx : small 4294967296 xs) (hy : small 4294967296 ys) (hl1 : xs.length ≤ 10000) (hl2 : ys.length ≤ 10000) (h0 : 0 < val ys) (hL : val ys < 1000000000 ∨ LongSpec) :
    Calls Tryd.prog 7 #[.slice A1 xs.length c1, .slice A2 ys.length c2] w (RetQR w (val xs / val ys) (val xs % val ys)) := by
  have H0 := Lib.hid h0
  have HL := Lib.hid hL
  clear h0 hL
  go_enter Tryd.func7, Tryd.ntmps7
  go_wp2_with fail
  refine (of_any hr2 hy (by omega)).mono ?_
  rintro e w2 ⟨v2, rfl, ⟨zs, hz, hzv, hzo⟩, hb2⟩
  have hzne : zs ≠ [] := fun e => by
    subst e
    have := H0.out
    rw [← hzv] at this
    simp [val] at this
  have hz0 : ((zs.length : Int) == 0) = false := by
    rw [beq_eq_false_iff_ne]
    intro h
    exact hzne (List.eq_nil_of_length_eq_zero (by omega))
  have HZ1 : Hid (zs.length = 1 ∨ LongSpec) := by
    rcases HL.out with h | h
    · left
      have h1 := right_length_le hz (k := 1) (by rw [hzv]; simpa using h)
      have h2 : zs.length ≠ 0 := fun e => hzne (List.eq_nil_of_length_eq_zero e)
      omega
    · exact .inr h
  have HZN := Lib.hid hzne
  clear hzne
  obtain ⟨A3, c3, rfl, _⟩ := hzo.slice32
  go_wp2_with (go_at_call 28; refine (none_any _ _ _ _).mono ?_; rintro e w' ⟨rfl, rfl⟩)
  obtain ⟨W, hW⟩ : ∃ W, W = w2.alloc (Obj.cells #[Value.slice A3 zs.length c3] 42) := ⟨_, rfl⟩
  have bW : Below w.heap.size w W := by rw [hW]; exact hb2.alloc hb2.size _
  have sW : W.heap.size = w2.heap.size + 1 := by rw [hW]; simp
  have kW : W.heap[w2.heap.size]? = some (Obj.cells #[Value.slice A3 zs.length c3] 42) := by rw [hW]; exact heap_alloc_new _ _
  have zW : Row W A3 (u32s zs) := by rw [hW]; exact hzo.row32.alloc _
  rw [← hW]
  have s2 := hb2.size
  have HW := Lib.hid hW
  have SW := Lib.hid sW
  have KW := Lib.hid kW
  have cW := cell_of_one kW
  clear hW sW kW hb2 hzo
  have hl2a : w2.heap.size < W.heap.size := by rw [SW.out]; omega
  have zWR : Row W A3 (u32s zs) := zW
  have hof := fun (wr : World) (hb : Below w.heap.size W wr) => of_any (w := wr) (c := c1) (hr1.below (bW.trans hb)) hx (by omega)
  have HOF := Lib.hid hof
  have HDV := Lib.hid (show (right zs ∧ zs ≠ [] ∧ val zs = val ys) from ⟨hz, HZN.out, hzv⟩)
  have HXS := Lib.hid (show val xs < 1000000000 ^ (xs.length + 1) ∧ xs.length ≤ 10000 from ⟨val_lt32 hx, hl1⟩)
  have HZ3 := Lib.hid zWR
  have HBW := Lib.hid bW
  obtain ⟨Q, hQ⟩ : ∃ Q, Q = val xs / val ys := ⟨_, rfl⟩
  obtain ⟨R, hR⟩ : ∃ R, R = val xs % val ys := ⟨_, rfl⟩
  rw [← hQ, ← hR]
  have HQR := Lib.hid (show Q = val xs / val ys ∧ R = val xs % val ys from ⟨hQ, hR⟩)
  have hwW : w.heap.size ≤ W.heap.size := bW.size
  clear hof bW zW zWR hr1 hr2 hx hy hl1 hl2 hz hzv hQ hR
  go_simp
  refine wp_region_pk (w.heap.size) [kIs (.slice A1 xs.length c1), kOwnN w.heap.size (val xs), kIs (.agg #[.slice A3 zs.length c3]), kNat2 w.heap.size Q R, kNat2 w.heap.size Q R, kNat1 w.heap.size Q, kNat1 w.heap.size R, .fresh 1, .fresh 1, kPutN1 7 w.heap.size Q, kPutN1 8 w.heap.size R] [ [], [(0, some 16)], [], [(1, some 17), (2, some 18)], [(3, some 19)], [(4, some 15)], [(4, some 15)], [], [], [(7, some 8), (5, some 20)], [(8, some 9), (6, some 21)] ] [(0, some 16), (1, some 17), (2, some 18), (3, some 19), (4, some 15), (5, some 20), (6, some 21), (7, some 8), (8, some 9), (9, none), (10, none)] [] [] (by kernel_rfl) (by kernel_rfl) (by kernel_rfl) (by kernel_rfl) (by kernel_rfl) (by kernel_rfl) ?n1 ?n2 hwW ?n4 ?st ?en
  case n1 => show List.Nodup ([] : List Nat); simp
  case n2 => show ∀ g ∈ ([] : List Nat), _; intro g hg; cases hg
  case n4 =>
    show ∀ g ∈ ([] : List Nat), ∃ cs, Holds_ _ g cs
    intro g hg
    cases hg
  case st =>
    refine pk_cons rfl rfl ?_ ?_
    · intro wr x hC
      simp only [deps, at_, List.getD_cons_zero, PK.sem, PK.move, kIs]
      intro K hK
      simp only [putE, retOf]
      go_simp
      exact hK _ _ (Below.refl _ _) rfl
    refine pk_cons rfl rfl ?_ ?_
    · intro wr x hC
      simp only [deps, at_, List.getD_cons_zero, List.getD_cons_succ, PK.sem, PK.move, kIs, kOwnN]
      intro hA
      intro K hK
      simp only [putE, retOf, hA]
      go_simp
      refine (HOF.out _ hC.below).mono ?_
      rintro e w4 ⟨v4, rfl, ⟨ts, ht, htv, hto⟩, hb4⟩
      obtain ⟨A4, c4, rfl, _⟩ := hto.slice32
      go_simp
      exact hK _ _ hb4 ⟨ts, A4, c4, rfl, ht, htv, hto.mono (Nat.le_trans hwW hC.below.size)⟩
    refine pk_cons rfl rfl ?_ ?_
    · intro wr x hC
      simp only [deps, at_, List.getD_cons_zero, List.getD_cons_succ, PK.sem, PK.move, kIs]
      intro K hK
      have hce := (hC.cell (b := w2.heap.size) hl2a (show _ ∉ ([] : List Nat) by simp) 0).1.trans cW
      simp only [putE, retOf]
      go_simp
      exact hK _ _ (Below.refl _ _) rfl
    refine pk_cons rfl rfl ?_ ?_
    · intro wr x hC
      simp only [deps, at_, List.getD_cons_zero, List.getD_cons_succ, PK.sem, PK.move, kIs, kOwnN, kNat2]
      intro hA hB
      intro K hK
      obtain ⟨ts, A4, c4, hx, ht, htv, hto⟩ := hA
      simp only [putE, retOf, hx, hB]
      go_simp
      have hbz := Nat.le_trans hwW hC.below.size
      have hRow := hC.row HZ3.out
      have hlt : ts.length ≤ 100000 := Nat.le_trans (right_length_le ht (by rw [htv]; exact HXS.out.1)) (by have := HXS.out.2; omega)
      refine (divide_any (B0 := w.heap.size) hto hbz hRow ht HDV.out.1 HDV.out.2.1 hlt HZ1.out).mono ?_
      rintro e w5 ⟨vq, vr, rfl, hvq, hvr, hb5⟩
      obtain ⟨Aq, nq, cq, rfl⟩ := hvq.shape
      obtain ⟨Ar, nr, cr, rfl⟩ := hvr.shape
      rw [htv, HDV.out.2.2, ← HQR.out.1] at hvq
      rw [htv, HDV.out.2.2, ← HQR.out.2] at hvr
      go_simp
      exact hK _ _ hb5 ⟨_, _, _, _, _, _, rfl, hvq, hvr⟩
    refine pk_cons rfl rfl ?_ ?_
    · intro wr x hC
      simp only [deps, at_, List.getD_cons_zero, List.getD_cons_succ, PK.sem, PK.move, kNat2]
      intro hA
      intro K hK
      simp only [putE, retOf]
      go_simp
      exact hK _ _ (Below.refl _ _) hA
    refine pk_cons rfl rfl ?_ ?_
    · intro wr x hC
      simp only [deps, at_, List.getD_cons_zero, List.getD_cons_succ, PK.sem, PK.move, kNat2, kNat1]
      intro hA
      intro K hK
      obtain ⟨A, k, c, A', k', c', hx, h1, h2⟩ := hA
      simp only [putE, retOf, hx]
      go_simp
      exact hK _ _ (Below.refl _ _) ⟨_, _, _, rfl, h1⟩
    refine pk_cons rfl rfl ?_ ?_
    · intro wr x hC
      simp only [deps, at_, List.getD_cons_zero, List.getD_cons_succ, PK.sem, PK.move, kNat2, kNat1]
      intro hA
      intro K hK
      obtain ⟨A, k, c, A', k', c', hx, h1, h2⟩ := hA
      simp only [putE, retOf, hx]
      go_simp
      exact hK _ _ (Below.refl _ _) ⟨_, _, _, rfl, h2⟩
    refine pk_cons rfl rfl ?_ ?_
    · intro wr x hC
      simp only [deps, at_, List.getD_cons_zero, List.getD_cons_succ, PK.sem, PK.move]
      intro K hK
      have hsz := hC.below.size
      simp only [putE, retOf]
      go_simp
      exact hK _ _ ⟨(Below.refl _ _).alloc (Nat.le_refl _) _, _, rfl, Nat.le_refl _⟩ ⟨_, _, rfl, hsz, holds_new1 _ (noDig_slice _ _ _) _, rfl⟩
    refine pk_cons rfl rfl ?_ ?_
    · intro wr x hC
      simp only [deps, at_, List.getD_cons_zero, List.getD_cons_succ, PK.sem, PK.move]
      intro K hK
      have hsz := hC.below.size
      simp only [putE, retOf]
      go_simp
      exact hK _ _ ⟨(Below.refl _ _).alloc (Nat.le_refl _) _, _, rfl, Nat.le_refl _⟩ ⟨_, _, rfl, hsz, holds_new1 _ (noDig_slice _ _ _) _, rfl⟩
    refine pk_cons rfl rfl ?_ ?_
    · intro wr x hC
      simp only [deps, at_, List.getD_cons_zero, List.getD_cons_succ, PK.sem, PK.move, kNat1, kPutN1]
      intro hA hB
      intro K hK
      obtain ⟨g, cs, hx, hg0, hg, hsz⟩ := hA
      obtain ⟨u0, rfl⟩ := size_one hsz
      obtain ⟨A, k, c, hy, hr1⟩ := hB
      obtain ⟨m1, m3⟩ := hg.one
      simp only [putE, retOf, hx, hy]
      go_simp
      exact hK _ _ ⟨g, hx, hg0, stored_put1 hg (noDig_slice _ _ _)⟩ ⟨g, _, hx, hg0, holds_put1 hg (noDig_slice _ _ _), A, k, c, rfl, hr1.stored (stored_put1 hg (noDig_slice _ _ _))⟩
    refine pk_cons rfl rfl ?_ ?_
    · intro wr x hC
      simp only [deps, at_, List.getD_cons_zero, List.getD_cons_succ, PK.sem, PK.move, kNat1, kPutN1]
      intro hA hB
      intro K hK
      obtain ⟨g, cs, hx, hg0, hg, hsz⟩ := hA
      obtain ⟨u0, rfl⟩ := size_one hsz
      obtain ⟨A, k, c, hy, hr1⟩ := hB
      obtain ⟨m1, m3⟩ := hg.one
      simp only [putE, retOf, hx, hy]
      go_simp
      exact hK _ _ ⟨g, hx, hg0, stored_put1 hg (noDig_slice _ _ _)⟩ ⟨g, _, hx, hg0, holds_put1 hg (noDig_slice _ _ _), A, k, c, rfl, hr1.stored (stored_put1 hg (noDig_slice _ _ _))⟩
    exact pk_nil rfl
  case en =>
    intro wr x hC hall
    have hE1 := hall 9 (of_decide_eq_true (by kernel_rfl))
    have hE2 := hall 10 (of_decide_eq_true (by kernel_rfl))
    clear hall
    simp only [at_, List.getD_cons_zero, List.getD_cons_succ, PK.sem, kPutN1] at hE1 hE2
    obtain ⟨g8, _, hx8, _, h8, A8, n8, m8, rfl, q8⟩ := hE1
    obtain ⟨g9, _, hx9, _, h9, A9, n9, m9, rfl, q9⟩ := hE2
    have hbw := HBW.out.trans hC.below
    have e8 := h8.one.1
    have e9 := h9.one.1
    simp only [putE, hx8, hx9]
    clear hC h8 h9 hx8 hx9
    go_wp2
    go_quiet (fail)
    go_wp2
    go_returns
    rw [HQR.out.1] at q8
    rw [HQR.out.2] at q9
    exact ⟨_, _, rfl, q8, q9, below_drewN hbw nq⟩
end Go.Proofs.YtffcacpffamjfaaDoor

/- Contract of nat.DivMod: quotient, rest and true; none, none and false by 0. The division by two digits or more comes in as a premise ('LongSpec'), wanted only there. At most 10000 digits. -/
import Derived.Test.YthjgfkmnelefpaaGreatDoorDivide
import Derived.Deep.DeepCutAuto
namespace Go.Proofs.YthjgfkmnelefpaaGreatDoor
open Go.RowKit

set_option maxRecDepth 100000 in
theorem divMod_no {w : World} {A1 A2 : Option Addr} {n1 c1 c2 : Nat} {ys : List Nat} (hr2 : Row w A2 (u32s ys)) (hy : small 4294967296 ys) (hl2 : ys.length ≤ 10000) (h0 : val ys = 0) :
    Calls Tryz.prog 81 #[.slice A1 n1 c1, .slice A2 ys.length c2] w fun e w' => e = .returned (.tuple #[.slice none 0 0, .slice none 0 0, .bool false]) ∧ Below w.heap.size w w' := by
  have H0 := Lib.hid h0
  clear h0
  go_enter Tryz.func81, Tryz.ntmps81
  go_wp2_with fail
  refine (of_any hr2 hy (by omega)).mono ?_
  rintro e w2 ⟨v2, rfl, ⟨zs, hz, hzv, hzo⟩, hb2⟩
  obtain rfl : zs = [] := right_zero hz (by rw [hzv, H0.out])
  obtain ⟨A3, c3, rfl, _⟩ := hzo.slice32
  go_wp2_with (go_at_call 92; refine (none_any _ _ _ _).mono ?_; rintro e w' ⟨rfl, rfl⟩)
  go_returns
  exact ⟨rfl, hb2.alloc hb2.size _⟩

theorem lt_alloc (w : World) (o : Obj) : w.heap.size < (w.alloc o).heap.size := by rw [World.size_alloc]; exact Nat.lt_succ_self _
theorem lt_alloc2 (w : World) (o o' : Obj) : w.heap.size + 1 < ((w.alloc o).alloc o').heap.size := by rw [World.size_alloc, World.size_alloc]; exact Nat.lt_succ_self _
theorem new_succ (w : World) (o o' : Obj) : ((w.alloc o').alloc o).heap[w.heap.size + 1]? = some o := new_at (by rw [World.size_alloc])
theorem new_set (w : World) (a : Addr) (u : Value) (o : Obj) : ((w.setCell a u).alloc o).heap[w.heap.size]? = some o := new_at (by rw [World.size_setCell])
theorem heap_set_far (w : World) (b o : Nat) (u : Value) (k : Nat) (h : k ≠ b) : (w.setCell ⟨b, o, none⟩ u).heap[k]? = w.heap[k]? := Below.heap_setCell _ _ _ _ h
theorem heap_drew (w : World) (k : Nat) : w.drew.heap[k]? = w.heap[k]? := rfl
theorem below_set_far {B : Nat} {a w : World} {b o : Nat} {u : Value} (h : Below B a w) (hb : B ≤ b) : Below B a (w.setCell ⟨b, o, none⟩ u) := h.setCell hb u

/-- Two rows of the call's own, and true. -/
def RetQR (w : World) (q r : Nat) (e : Ending) (w' : World) : Prop := ∃ v u, e = .returned (.tuple #[v, u, .bool true]) ∧ IsNat w' w.heap.size v q ∧ IsNat w' w.heap.size u r ∧ Below w.heap.size w w'

set_option maxRecDepth 100000 in
set_option maxHeartbeats 40000000 in
theorem divMod_yes {w : World} {A1 A2 : Option Addr} {c1 c2 : Nat} {xs ys : List Nat} (hr1 : Row w A1 (u32s xs)) (hr2 : Row w A2 (u32s ys)) (hx : small 4294967296 xs) (hy : small 4294967296 ys) (hl1 : xs.length ≤ 10000) (hl2 : ys.length ≤ 10000) (h0 : 0 < val ys) (hL : val ys < 1000000000 ∨ LongSpec) :
    Calls Tryz.prog 81 #[.slice A1 xs.length c1, .slice A2 ys.length c2] w (RetQR w (val xs / val ys) (val xs % val ys)) := by
  have H0 := Lib.hid h0
  have HL := Lib.hid hL
  clear h0 hL
  go_enter Tryz.func81, Tryz.ntmps81
  go_wp2_with fail
  refine (of_any hr2 hy (by omega)).mono ?_
  rintro e w2 ⟨v2, rfl, ⟨zs, hz, hzv, hzo⟩, hb2⟩
  have hzne : zs ≠ [] := fun e => by
    subst e
    have := H0.out
    rw [← hzv] at this
    simp [val] at this
  have hz0 : ((zs.length : Int) == 0) = false := by
    rw [beq_eq_false_iff_ne]
    intro h
    exact hzne (List.eq_nil_of_length_eq_zero (by omega))
  have HZ1 : Hid (zs.length = 1 ∨ LongSpec) := by
    rcases HL.out with h | h
    · left
      have h1 := right_length_le hz (k := 1) (by rw [hzv]; simpa using h)
      have h2 : zs.length ≠ 0 := fun e => hzne (List.eq_nil_of_length_eq_zero e)
      omega
    · exact .inr h
  have HZN := Lib.hid hzne
  clear hzne
  obtain ⟨A3, c3, rfl, _⟩ := hzo.slice32
  go_wp2_with (go_at_call 92; refine (none_any _ _ _ _).mono ?_; rintro e w' ⟨rfl, rfl⟩)
  obtain ⟨W, hW⟩ : ∃ W, W = w2.alloc (Obj.cells #[Value.slice A3 zs.length c3] 98) := ⟨_, rfl⟩
  have bW : Below w.heap.size w W := by rw [hW]; exact hb2.alloc hb2.size _
  have sW : W.heap.size = w2.heap.size + 1 := by rw [hW]; simp
  have kW : W.heap[w2.heap.size]? = some (Obj.cells #[Value.slice A3 zs.length c3] 98) := by rw [hW]; exact heap_alloc_new _ _
  have zW : Row W A3 (u32s zs) := by rw [hW]; exact hzo.row32.alloc _
  rw [← hW]
  have s2 := hb2.size
  have HW := Lib.hid hW
  have SW := Lib.hid sW
  have KW := Lib.hid kW
  have cW := cell_of_one kW
  clear hW sW kW hb2 hzo
  have hlt2 : w2.heap.size < W.heap.size := by rw [SW.out]; omega
  have hl2a : w2.heap.size ≤ W.heap.size := by omega
  have hl2b : w2.heap.size < W.heap.size + 1 := by omega
  have hl2c : w2.heap.size ≤ W.heap.size + 1 := by omega
  have R0 : Row W.drew A1 (u32s xs) := Row.below hr1 bW.drew
  have Z0 : Row W.drew A3 (u32s zs) := zW
  have bWd := bW.drew
  have szd : W.drew.heap.size = W.heap.size := rfl
  clear bW zW hr1 hr2
  go_cut [8, 9] (fun p8 p9 wr => ∃ (g8 g9 : Nat) (A8 A9 : Option Addr) (n8 n9 m8 m9 : Nat), p8 = .pointer (some ⟨g8, 0, none⟩) ∧ p9 = .pointer (some ⟨g9, 0, none⟩) ∧ wr.cell? ⟨g8, 0, none⟩ = some (.slice A8 n8 m8) ∧ wr.cell? ⟨g9, 0, none⟩ = some (.slice A9 n9 m9) ∧ IsNat wr w.heap.size (.slice A8 n8 m8) (val xs / val ys) ∧ IsNat wr w.heap.size (.slice A9 n9 m9) (val xs % val ys) ∧ Below w.heap.size w wr)
  case first =>
    go_region_with (first
      | (go_at_call 82; refine (of_any (by first | exact R0 | exact R0.alloc _ | exact (R0.alloc _).alloc _) hx (by omega)).mono ?_; rintro e w4 ⟨v4, rfl, ⟨ts, ht, htv, hto⟩, hb4⟩; obtain ⟨A4, c4, rfl, _⟩ := hto.slice32; obtain ⟨hc4, hf4⟩ := bcell hb4; have hz4 := hb4.size; (first | rw [World.size_drew, World.size_alloc, World.size_alloc] at hz4 | rw [World.size_drew, World.size_alloc] at hz4 | rw [World.size_drew] at hz4 | rw [World.size_alloc, World.size_alloc, World.size_drew] at hz4 | rw [World.size_alloc, World.size_drew] at hz4 | skip); (first | have : w2.heap.size < w4.heap.size := by omega | skip); (first | have : w2.heap.size ≤ w4.heap.size := by omega | skip); (first | have : w2.heap.size ≤ w4.heap.size + 1 := by omega | skip); (first | have : W.heap.size ≤ w4.heap.size := by omega | skip); (first | have : W.heap.size < w4.heap.size := by omega | skip); (first | have : W.heap.size + 1 < w4.heap.size := by omega | skip); (first | have : W.heap.size + 1 ≤ w4.heap.size := by omega | skip); (first | have : W.heap.size ≤ w4.heap.size + 1 := by omega | skip); (first | have : W.heap.size < w4.heap.size + 1 := by omega | skip); have bw4 : Below w.heap.size w w4 := (by first | exact bWd.trans (hb4.mono (show w.heap.size ≤ _ by omega)) | exact (bWd.alloc (by omega) _).trans (hb4.mono (by simp; omega)) | exact ((bWd.alloc (by omega) _).alloc (by simp; omega) _).trans (hb4.mono (by simp; omega))); have Z4 : Row w4 A3 (u32s zs) := Row.below (by first | exact Z0 | exact Z0.alloc _ | exact (Z0.alloc _).alloc _) hb4; have O4 : Own w4 w.heap.size 55 (.slice A4 ts.length c4) (u32s ts) := hto.mono (by first | exact (show w.heap.size ≤ W.heap.size by omega) | (simp; omega)); clear hto)
      | (go_at_call 93; refine (divide_any (B0 := w.heap.size) (by first | exact O4 | exact O4.alloc _ | exact (O4.alloc _).alloc _) (by first | omega | (simp; omega)) (by first | exact Z4 | exact Z4.alloc _ | exact (Z4.alloc _).alloc _) ht hz HZN.out (Nat.le_trans (right_length_le ht (by rw [htv]; exact val_lt32 hx)) (by omega)) HZ1.out).mono ?_; rintro e w5 ⟨vq, vr, rfl, hvq, hvr, hb5⟩; obtain ⟨Aq, nq, cq, rfl⟩ := hvq.shape; obtain ⟨Ar, nr, cr, rfl⟩ := hvr.shape; rw [htv, hzv] at hvq hvr; obtain ⟨hc5, hf5⟩ := bcell hb5; have hz5 := hb5.size; (first | rw [World.size_alloc, World.size_alloc] at hz5 | rw [World.size_alloc] at hz5 | skip); (first | have : w4.heap.size ≤ w5.heap.size := by omega | skip); (first | have : w4.heap.size < w5.heap.size := by omega | skip); (first | have : w4.heap.size + 1 < w5.heap.size := by omega | skip); (first | have : W.heap.size < w5.heap.size := by omega | skip); (first | have : W.heap.size + 1 < w5.heap.size := by omega | skip); have bw5 : Below w.heap.size w w5 := (by first | exact bw4.trans (hb5.mono (show w.heap.size ≤ _ by omega)) | exact (bw4.alloc (by omega) _).trans (hb5.mono (by simp; omega)) | exact ((bw4.alloc (by omega) _).alloc (by simp; omega) _).trans (hb5.mono (by simp; omega)))))
    all_goals go_wp2_with fail
    all_goals go_meet
    all_goals refine ⟨_, _, Aq, Ar, nq, nr, cq, cr, rfl, rfl, cell_of_one (t := 98) ?_, cell_of_one (t := 98) ?_, ?_, ?_, ?_⟩
    all_goals (repeat' (first | (with_reducible exact hvq) | (with_reducible exact hvr) | (with_reducible exact bw5) | (with_reducible refine IsNat.alloc ?_ _) | (with_reducible refine IsNat.setOther (u0 := .slice none 0 0) ?_ ?_ _) | (with_reducible refine Below.alloc ?_ ?_ _) | (with_reducible refine below_set_far ?_ ?_) | (with_reducible refine Below.drew ?_) | (with_reducible exact heap_alloc_new _ _) | (with_reducible exact new_succ _ _ _) | (with_reducible exact new_set _ _ _ _) | (with_reducible refine one_setCell (v := .slice none 0 0) ?_) | (with_reducible refine (Below.heap_alloc _ _ _ ?_).trans ?_) | (with_reducible refine (heap_set_far _ _ _ _ _ ?_).trans ?_) | (with_reducible refine (heap_drew _ _).trans ?_) | (with_reducible refine (hb5.block _ ?_).trans ?_) | (with_reducible refine (hb4.block _ ?_).trans ?_) | omega | (with_reducible exact lt_alloc _ _) | (with_reducible exact lt_alloc2 _ _ _) | (rw [World.size_alloc]; omega) | (rw [World.size_alloc, World.size_alloc]; omega) | (rw [World.size_setCell]; omega) | (rw [World.size_alloc, World.size_setCell]; omega) | (rw [World.size_drew]; omega) | (rw [World.size_drew, World.size_alloc]; omega) | (rw [World.size_drew, World.size_alloc, World.size_alloc]; omega)))
  case rest =>
    obtain ⟨g8, g9, A8, A9, n8, n9, m8, m9, rfl, rfl, h8, h9, q8, q9, bw⟩ := hcut
    go_wp2
    go_quiet (fail)
    go_wp2
    go_returns
    exact ⟨_, _, rfl, q8, q9, below_drewN bw nq⟩
end Go.Proofs.YthjgfkmnelefpaaGreatDoor

/- Contracts of package num's small calls: none, signed, told, of: a number as the right row of its size and a sign. Rows of at most 4000 digits. -/
import Derived.Test.YthjgfkmnelefpaaGreatDoorVal
import Derived.Deep.RegionWith
import Derived.RegionTactic
namespace Go.Proofs.YthjgfkmnelefpaaGreatDoor
open Go.RowKit

/-- A number that is reckoned with: its size, its sign, which 0 has not. -/
def Num (W : World) (v : Value) (n : Nat) (b : Bool) : Prop := ∃ A k c, v = .agg #[.slice A k c, .bool b] ∧ Rr W (.slice A k c) n ∧ (n = 0 → b = false)
/-- The same as api.Int has it. -/
def Int_ (W : World) (v : Value) (n : Nat) (b : Bool) : Prop := ∃ A k c, v = .agg #[.bool b, .slice A k c] ∧ Rr W (.slice A k c) n ∧ (n = 0 → b = false)
theorem Num.below {W w' : World} {v : Value} {n : Nat} {b : Bool} (h : Num W v n b) (hb : Below W.heap.size W w') : Num w' v n b := by
  obtain ⟨A, k, c, h1, h2, h3⟩ := h
  exact ⟨A, k, c, h1, h2.below hb, h3⟩
theorem Int_.below {W w' : World} {v : Value} {n : Nat} {b : Bool} (h : Int_ W v n b) (hb : Below W.heap.size W w') : Int_ w' v n b := by
  obtain ⟨A, k, c, h1, h2, h3⟩ := h
  exact ⟨A, k, c, h1, h2.below hb, h3⟩
theorem rr_len {W : World} {A : Option Addr} {k c n : Nat} (h : Rr W (.slice A k c) n) : (k = 0 ↔ n = 0) ∧ k ≤ 4000 := by
  obtain ⟨A', c', xs, e, _, hr, hl, hv⟩ := h
  injection e with _ e2 _
  subst e2
  refine ⟨⟨fun h => ?_, fun h => ?_⟩, hl⟩
  · rw [List.eq_nil_of_length_eq_zero h] at hv
    rw [← hv]; rfl
  · rw [right_zero hr (by rw [hv, h])]; rfl

theorem sizeNone_any (w : World) (A : Option Addr) (n c : Nat) :
    Calls Tryz.prog 52 #[.slice A n c] w fun e w' => e = .returned (.bool ((n : Int) == 0)) ∧ w = w' := by
  go_enter Tryz.func52, Tryz.ntmps52
  go_wp2
  go_ret
  exact ⟨rfl, rfl⟩

/-- A call that tells such a number, and changes nothing that was there. -/
def RetNumB2 (w : World) (n : Nat) (b : Bool) (e : Ending) (w' : World) : Prop := ∃ A k c, e = .returned (.agg #[.slice A k c, .bool b]) ∧ Rr w' (.slice A k c) n ∧ (n = 0 → b = false) ∧ Below w.heap.size w w'
def RetInt (w : World) (n : Nat) (b : Bool) (e : Ending) (w' : World) : Prop := ∃ A k c, e = .returned (.agg #[.bool b, .slice A k c]) ∧ Rr w' (.slice A k c) n ∧ (n = 0 → b = false) ∧ Below w.heap.size w w'

set_option maxRecDepth 100000 in
set_option maxHeartbeats 1000000 in
theorem signed_any {w : World} {A : Option Addr} {k c n : Nat} (b : Bool) (h : Rr w (.slice A k c) n) :
    Calls Tryz.prog 35 #[.slice A k c, .bool b] w (RetNumB2 w n (b && decide (n ≠ 0))) := by
  obtain ⟨hk, _⟩ := rr_len h
  have HH := Lib.hid h
  cases b
  · clear h hk
    go_enter Tryz.func35, Tryz.ntmps35
    go_wp2_with (go_at_call 52; refine (sizeNone_any _ _ _ _).mono ?_; rintro e w' ⟨rfl, rfl⟩)
    refine bodyPost_ret (v := .agg #[.slice A k c, .bool false]) (by simp [results, Tryz.results35, go_sem]) rfl ?_
    exact ⟨A, k, c, rfl, HH.out.alloc _, fun _ => rfl, (Below.refl _ _).alloc (Nat.le_refl _) _⟩
  · by_cases hn : n = 0
    · have hk0 : ((k : Int) == 0) = true := by rw [hk.2 hn]; rfl
      have HN := Lib.hid hn
      clear h hk hn
      go_enter Tryz.func35, Tryz.ntmps35
      go_wp2_with (go_at_call 52; refine (sizeNone_any _ _ _ _).mono ?_; rintro e w' ⟨rfl, rfl⟩)
      refine bodyPost_ret (v := .agg #[.slice A k c, .bool false]) (by simp [results, Tryz.results35, go_sem]) rfl ?_
      rw [decide_eq_false (fun h => h HN.out)]
      exact ⟨A, k, c, rfl, HH.out.alloc _, fun _ => rfl, (Below.refl _ _).alloc (Nat.le_refl _) _⟩
    · have hk0 : ((k : Int) == 0) = false := by
        rw [beq_eq_false_iff_ne]; intro h1; exact hn (hk.1 (by omega))
      have HN := Lib.hid hn
      clear h hk hn
      go_enter Tryz.func35, Tryz.ntmps35
      go_wp2_with (go_at_call 52; refine (sizeNone_any _ _ _ _).mono ?_; rintro e w' ⟨rfl, rfl⟩)
      refine bodyPost_ret (v := .agg #[.slice A k c, .bool true]) (by simp [results, Tryz.results35, go_sem]) rfl ?_
      rw [decide_eq_true (show n ≠ 0 from HN.out)]
      exact ⟨A, k, c, rfl, HH.out.alloc _, fun h => absurd h HN.out, (Below.refl _ _).alloc (Nat.le_refl _) _⟩

set_option maxRecDepth 100000 in
set_option maxHeartbeats 1000000 in
theorem told_any {w : World} {A : Option Addr} {k c n : Nat} {b : Bool} (h : Rr w (.slice A k c) n) (hb : n = 0 → b = false) :
    Calls Tryz.prog 31 #[.agg #[.slice A k c, .bool b]] w (RetInt w n b) := by
  have HH := Lib.hid h
  have HB := Lib.hid hb
  clear h hb
  go_enter Tryz.func31, Tryz.ntmps31
  go_wp2
  refine bodyPost_ret (v := .agg #[.bool b, .slice A k c]) (by simp [results, Tryz.results31, go_sem]) rfl ?_
  exact ⟨A, k, c, rfl, (HH.out.alloc _).alloc _, HB.out, bal (bal (Below.refl _ _) _) _⟩

theorem cell_of_two {w : World} {g : Nat} {a b : Value} {t : TypeId} (h : w.heap[g]? = some (.cells #[a, b] t (0, 0))) : w.cell? ⟨g, 0, none⟩ = some a ∧ w.cell? ⟨g, 1, none⟩ = some b ∧ w.frozen? ⟨g, 0, none⟩ = false ∧ w.frozen? ⟨g, 1, none⟩ = false := by
  refine ⟨?_, ?_, ?_, ?_⟩ <;> simp [World.cell?, World.frozen?, h]

/-- A store into a cell that holds no digit touches no row of digits. -/
theorem Row.set_not {w : World} {A : Option Addr} {xs : List Nat} {p : Addr} {u v : Value} (h : Row w A (u32s xs)) (hc : w.cell? p = some u) (hu : ∀ d : Nat, u ≠ .int .u32 (d : Int)) : Row (w.setCell p v) A (u32s xs) := by
  intro j z hz
  obtain ⟨ad, e, hcell⟩ := h j z hz
  refine ⟨ad, e, ?_⟩
  rw [World.cell?_setCell_other]
  · exact hcell
  · intro heq
    rw [heq] at hc
    rw [hc] at hcell
    injection hcell with hcell
    obtain ⟨d, _, hd⟩ := List.mem_map.1 (List.mem_of_getElem? hz)
    exact hu d (by rw [hcell, ← hd])
theorem Rr.set_not {w : World} {x : Value} {n : Nat} {p : Addr} {u v : Value} (h : Rr w x n) (hc : w.cell? p = some u) (hu : ∀ d : Nat, u ≠ .int .u32 (d : Int)) : Rr (w.setCell p v) x n := by
  obtain ⟨A, c, xs, h1, h2, h3⟩ := h
  exact ⟨A, c, xs, h1, h2.set_not hc hu, h3⟩
/-- Two cells of a block stored, the one behind the other: what they read, what rows read. -/
theorem two_stored {w : World} {g : Nat} {a b a' b' x : Value} {t : TypeId} {n : Nat} (h : w.heap[g]? = some (.cells #[a, b] t (0, 0))) (ha : ∀ d : Nat, a ≠ .int .u32 (d : Int)) (hb : ∀ d : Nat, b ≠ .int .u32 (d : Int)) (hx : Rr w x n) :
    ((w.setCell ⟨g, 0, none⟩ a').setCell ⟨g, 1, none⟩ b').cell? ⟨g, 0, none⟩ = some a' ∧ ((w.setCell ⟨g, 0, none⟩ a').setCell ⟨g, 1, none⟩ b').cell? ⟨g, 1, none⟩ = some b' ∧ Rr ((w.setCell ⟨g, 0, none⟩ a').setCell ⟨g, 1, none⟩ b') x n := by
  obtain ⟨h0, h1, _, _⟩ := cell_of_two h
  have h1' : (w.setCell ⟨g, 0, none⟩ a').cell? ⟨g, 1, none⟩ = some b := (World.cell?_setCell_other _ _ _ _ (by simp)).trans h1
  exact ⟨(World.cell?_setCell_other _ _ _ _ (by simp)).trans (World.cell?_setCell_same _ _ _ h0), World.cell?_setCell_same _ _ _ h1', (hx.set_not h0 ha).set_not h1' hb⟩

/-- A number as it comes in: any digits, any sign. -/
def sgn (n : Nat) (b : Bool) : Bool := b && decide (n ≠ 0)
set_option maxRecDepth 100000 in
set_option maxHeartbeats 1000000 in
theorem numOf_any {w : World} {A : Option Addr} {k c n N : Nat} (b : Bool) (h : Rd w (.slice A k c) n) (hn : n < 1000000000 ^ N) (hN : N ≤ 4000) :
    Calls Tryz.prog 45 #[.agg #[.bool b, .slice A k c]] w (RetNumB2 w n (sgn n b)) := by
  have htr := fun (W : World) (hW : Below w.heap.size w W) => val_trim (h.below hW) hn hN
  have HTR := Lib.hid htr
  clear htr h hn
  go_enter Tryz.func45, Tryz.ntmps45
  go_wp2_with fail
  obtain ⟨W, hW⟩ : ∃ W, W = (w.alloc (Obj.cells #[Value.bool b, Value.slice A k c] 29)).alloc (Obj.cells #[Value.slice none 0 0, Value.bool false] 49) := ⟨_, rfl⟩
  have bW : Below w.heap.size w W := by rw [hW]; exact bal (bal (Below.refl _ _) _) _
  have hk1 : W.heap[w.heap.size]? = some (Obj.cells #[Value.bool b, Value.slice A k c] 29) := by
    rw [hW]; exact first_block ((Below.refl _ _).alloc (Nat.le_refl _) _)
  have hk2 : W.heap[w.heap.size + 1]? = some (Obj.cells #[Value.slice none 0 0, Value.bool false] 49) := by rw [hW]; exact new_at (by simp)
  have hsW : W.heap.size = w.heap.size + 2 := by rw [hW]; simp
  rw [← hW]
  clear hW
  have hlt1 : w.heap.size < W.heap.size := by omega
  have hlt2 : w.heap.size + 1 < W.heap.size := by omega
  obtain ⟨q1, q2, q3, q4⟩ := cell_of_two hk1
  have K2 := Lib.hid hk2
  have K1 := Lib.hid hk1
  clear hk1 hk2 hsW
  go_region_with (first
    | (go_at_call 68; refine (HTR.out _ (by first | exact bW.drew | exact bW)).mono ?_; rintro e w1 ⟨A1, k1, c1, rfl, hr1, hb1⟩; have j1 := (cell_of_two ((hb1.block w.heap.size hlt1).trans K1.out)).1)
    | (go_at_call 35; refine (signed_any b hr1).mono ?_; rintro e w2 ⟨A2, k2, c2, rfl, hr2, hz2, hb2⟩; have hs1 : W.heap.size ≤ w1.heap.size := hb1.size; have k2w := (hb2.block (w.heap.size + 1) (Nat.lt_of_lt_of_le hlt2 hs1)).trans ((hb1.block (w.heap.size + 1) hlt2).trans K2.out); obtain ⟨m1, m2, m3, m4⟩ := cell_of_two k2w; have K2W := Lib.hid k2w; clear k2w))
  all_goals
    obtain ⟨n1, n2, n3⟩ := two_stored (a' := .slice A2 k2 c2) (b' := .bool (b && !decide (n = 0))) K2W.out (fun d h => by cases h) (fun d h => by cases h) hr2
    have hbA : Below w.heap.size w w1 := bW.drew.trans (hb1.mono (Nat.le_of_lt hlt1))
    have hbB : Below w.heap.size w w2 := bstep hbA hb2
    clear hb1 hb2 m1 m2 m3 m4 hr2
    go_wp2
    refine bodyPost_ret (v := .agg #[.slice A2 k2 c2, .bool (b && !decide (n = 0))]) (by simp [results, Tryz.results45, go_sem, n1, n2]) rfl ?_
    refine ⟨A2, k2, c2, by simp [sgn], n3, by simpa [sgn] using hz2, (hbB.setCell (Nat.le_succ _) _).setCell (Nat.le_succ _) _⟩
end Go.Proofs.YthjgfkmnelefpaaGreatDoor

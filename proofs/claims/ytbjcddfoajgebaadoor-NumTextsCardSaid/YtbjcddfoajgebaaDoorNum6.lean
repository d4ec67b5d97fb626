/- Contracts of package num's Parse. -/
import Derived.Test.YtbjcddfoajgebaaDoorNum4
import Derived.Test.YtbjcddfoajgebaaDoorNum2
namespace Go.Proofs.YtbjcddfoajgebaaDoor
open Go.RowKit

/-- A call that tells an api.Int and whether there is one. -/
def RetIntB (w : World) (n : Nat) (b ok : Bool) (e : Ending) (w' : World) : Prop := ∃ A k c, e = .returned (.tuple #[.agg #[.bool b, .slice A k c], .bool ok]) ∧ Rr w' (.slice A k c) n ∧ (n = 0 → b = false) ∧ Below w.heap.size w w'

set_option maxRecDepth 100000 in
set_option maxHeartbeats 1600000 in
/-- The text as it is cut, the digits as they are read, the sign as the number has it: all the rest goes by these three. -/
theorem numParse_core {s t : ByteArray} {neg ok sb : Bool} {v : Nat}
    (hc : ∀ W, Calls Tryd.prog 37 #[.string s, .string ⟨#[45]⟩] W fun e w' => e = .returned (.tuple #[.string t, .bool neg]) ∧ w' = W)
    (hof : ∀ W, Calls Tryd.prog 32 #[.string t] W (RetSB W v ok))
    (hsg : ∀ W A k c, Rr W (.slice A k c) v → Calls Tryd.prog 38 #[.slice A k c, .bool neg] W (RetNumB2 W v sb)) (w : World) :
    Calls Tryd.prog 9 #[.string s] w (RetIntB w (if ok && (sb == neg) then v else 0) (ok && (sb == neg) && neg) (ok && (sb == neg))) := by
  have HC := Lib.hid hc
  have HO := Lib.hid hof
  have HS := Lib.hid hsg
  clear hc hof hsg
  obtain ⟨W0, hW0⟩ : ∃ W0, W0 = w.alloc (Obj.cells #[Value.bool false, Value.slice none 0 0] 29) := ⟨_, rfl⟩
  have bW0 : Below w.heap.size w W0 := by rw [hW0]; exact bal (Below.refl _ _) _
  have K0 : Hid (W0.heap[w.heap.size]? = some (Obj.cells #[Value.bool false, Value.slice none 0 0] 29)) := by show _ = _; rw [hW0]; exact heap_alloc_new _ _
  have hs0 : w.heap.size < W0.heap.size := lt_block K0.out
  have HW0 := Lib.hid hW0
  have hfin : ∀ (w3 : World) (A3 : Option Addr) (k3 c3 n : Nat), Below W0.heap.size W0 w3 → Rr w3 (.slice A3 k3 c3) n → (∀ b' : Bool, ((w3.setCell ⟨w.heap.size, 0, none⟩ (.bool b')).setCell ⟨w.heap.size, 1, none⟩ (.slice A3 k3 c3)).cell? ⟨w.heap.size, 0, none⟩ = some (.bool b') ∧ ((w3.setCell ⟨w.heap.size, 0, none⟩ (.bool b')).setCell ⟨w.heap.size, 1, none⟩ (.slice A3 k3 c3)).cell? ⟨w.heap.size, 1, none⟩ = some (.slice A3 k3 c3) ∧ Rr ((w3.setCell ⟨w.heap.size, 0, none⟩ (.bool b')).setCell ⟨w.heap.size, 1, none⟩ (.slice A3 k3 c3)) (.slice A3 k3 c3) n) ∧ (w3.cell? ⟨w.heap.size, 0, none⟩ = some (.bool false) ∧ w3.cell? ⟨w.heap.size, 1, none⟩ = some (.slice none 0 0) ∧ w3.frozen? ⟨w.heap.size, 0, none⟩ = false ∧ w3.frozen? ⟨w.heap.size, 1, none⟩ = false) := fun w3 A3 k3 c3 n hb hr => by
    have k3' := (hb.block w.heap.size hs0).trans K0.out
    exact ⟨fun b' => two_stored k3' (fun d h => by cases h) (fun d h => by cases h) hr, cell_of_two k3'⟩
  have HFIN := Lib.hid hfin
  clear hW0 hfin
  cases ok <;> cases sb <;> cases neg
  all_goals
    go_enter Tryd.func9, Tryd.ntmps9
    go_wp2_with fail
    rw [← HW0.out]
    refine (HC.out _).mono ?_
    rintro e w1 ⟨rfl, rfl⟩
    go_wp2_with fail
    refine (HO.out _).mono ?_
    rintro e w2 ⟨A1, k1, c1, rfl, h1, hb⟩
    go_wp2_with fail
    refine (HS.out _ _ _ _ h1).mono ?_
    rintro e w3 ⟨A2, k2, c2, rfl, h2, h3, hb2⟩
    have hb30 := bstep hb hb2
    have hA := fun (b' : Bool) => HFIN.out (w3.alloc (Obj.cells #[Value.slice A2 k2 c2, Value.bool b'] 56)) none 0 0 0 (bal hb30 _) (rr_nil _)
    have hB := fun (b' : Bool) (w5 : World) (A5 : Option Addr) (k5 c5 : Nat) (hq : Below (w3.alloc (Obj.cells #[Value.slice A2 k2 c2, Value.bool b'] 56)).heap.size (w3.alloc (Obj.cells #[Value.slice A2 k2 c2, Value.bool b'] 56)) w5) => HFIN.out w5 A5 k5 c5 v (bstep (bal hb30 _) hq)
    have hT := fun (b' : Bool) => told_any (b := b') (h2.alloc (Obj.cells #[Value.slice A2 k2 c2, Value.bool b'] 56))
    have HT := Lib.hid hT
    have HB := Lib.hid hB
    have hbw := fun (o : Obj) (p : Value) (q : Value) => ((bstep bW0 (bal hb30 o)).setCell (p := ⟨w.heap.size, 0, none⟩) (Nat.le_refl _) p).setCell (p := ⟨w.heap.size, 1, none⟩) (Nat.le_refl _) q
    have HBW := Lib.hid hbw
    clear hbw hb hb2 hT hB h2
    obtain ⟨hy, m1, m2, m3, m4⟩ := hA true
    obtain ⟨hn, n1, n2, n3, n4⟩ := hA false
    have HY := Lib.hid hy
    have HN := Lib.hid hn
    clear hy hn hA
    go_wp2_with fail
    first
      | (first
           | refine (HT.out false (fun _ => rfl)).mono ?_
           | refine (HT.out true h3).mono ?_
         rintro e w5 ⟨A5, k5, c5, rfl, h5, h6, hb5⟩
         obtain ⟨hst, j1, j2, j3, j4⟩ := HB.out _ w5 A5 k5 c5 hb5 h5
         have hbx := bstep bW0 (bstep (bal hb30 _) hb5)
         have HST := Lib.hid hst
         clear hst hb5 h5 hb30
         go_wp2)
      | (obtain ⟨i1, i2, _⟩ := HN.out false
         obtain ⟨j1, j2, _⟩ := HY.out false
         refine bodyPost_ret (v := .tuple #[.agg #[.bool false, .slice none 0 0], .bool false]) (by simp [results, Tryd.results9, go_sem, i1, i2, j1, j2]) rfl ?_
         exact ⟨none, 0, 0, rfl, rr_nil _, fun _ => rfl, HBW.out _ _ _⟩)
  · obtain ⟨i1, i2, i3⟩ := HST.out false
    refine bodyPost_ret (v := .tuple #[.agg #[.bool false, .slice A5 k5 c5], .bool true]) (by simp [results, Tryd.results9, go_sem, i1, i2]) rfl ?_
    exact ⟨A5, k5, c5, rfl, i3, fun _ => rfl, (hbx.setCell (Nat.le_refl _) _).setCell (Nat.le_refl _) _⟩
  · obtain ⟨i1, i2, i3⟩ := HST.out true
    refine bodyPost_ret (v := .tuple #[.agg #[.bool true, .slice A5 k5 c5], .bool true]) (by simp [results, Tryd.results9, go_sem, i1, i2]) rfl ?_
    exact ⟨A5, k5, c5, rfl, i3, h6, (hbx.setCell (Nat.le_refl _) _).setCell (Nat.le_refl _) _⟩
end Go.Proofs.YtbjcddfoajgebaaDoor

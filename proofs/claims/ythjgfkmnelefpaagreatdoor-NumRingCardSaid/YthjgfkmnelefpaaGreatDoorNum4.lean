/- Contracts of package num's size: joined, apart, split: over values that read as numbers. -/
import Derived.Test.YthjgfkmnelefpaaGreatDoorNum1
namespace Go.Proofs.YthjgfkmnelefpaaGreatDoor
open Go.RowKit

set_option maxRecDepth 100000 in
set_option maxHeartbeats 1000000 in
theorem joined_any {w : World} {A1 A2 : Option Addr} {k1 c1 k2 c2 n1 n2 N : Nat} (h1 : Rd w (.slice A1 k1 c1) n1) (h2 : Rd w (.slice A2 k2 c2) n2) (hn : n1 + n2 < 1000000000 ^ N) (hN : N ≤ 4000) :
    Calls Tryz.prog 57 #[.slice A1 k1 c1, .slice A2 k2 c2] w (RetR w (n1 + n2)) := by
  have ha := val_add2 h1 h2 hn hN
  have HA := Lib.hid ha
  clear ha h1 h2 hn
  go_enter Tryz.func57, Tryz.ntmps57
  go_wp2_with fail
  refine HA.out.mono ?_
  rintro e w1 ⟨A, k, c, rfl, hr, hb⟩
  have hb1 := bstep (bal (Below.refl w.heap.size w) _) hb
  clear hb
  go_wp2
  go_ret
  exact ⟨A, k, c, rfl, hr, hb1⟩

/-- How far both are from each other. -/
def gapOf (a b : Nat) : Nat := if b ≤ a then a - b else b - a
set_option maxRecDepth 100000 in
set_option maxHeartbeats 1000000 in
theorem apart_any {w : World} {A1 A2 : Option Addr} {k1 c1 k2 c2 n1 n2 N : Nat} (h1 : Rd w (.slice A1 k1 c1) n1) (h2 : Rd w (.slice A2 k2 c2) n2) (hn1 : n1 < 1000000000 ^ N) (hn2 : n2 < 1000000000 ^ N) (hN : N ≤ 4000) :
    Calls Tryz.prog 58 #[.slice A1 k1 c1, .slice A2 k2 c2] w fun e w' => ∃ A k c, e = .returned (.tuple #[.slice A k c, .bool (decide (n1 < n2))]) ∧ Rr w' (.slice A k c) (gapOf n1 n2) ∧ Below w.heap.size w w' := by
  by_cases h : n2 ≤ n1
  · have hs := val_sub h1 h2 h hn1 hN
    have hg : gapOf n1 n2 = n1 - n2 := if_pos h
    have hd : decide (n1 < n2) = false := decide_eq_false (by omega)
    rw [hg, hd]
    have HS := Lib.hid hs
    clear hs h1 h2 hn1 hn2 h hg hd
    go_enter Tryz.func58, Tryz.ntmps58
    go_wp2_with fail
    refine HS.out.mono ?_
    rintro e w1 ⟨A, k, c, rfl, hr, hb⟩
    go_wp2
    go_ret2
    exact ⟨A, k, c, rfl, hr, hb⟩
  · have hs := val_sub_no h1 h2 (by omega)
    have hs2 := fun (W : World) (hW : Below w.heap.size w W) => val_sub (h2.below hW) (h1.below hW) (by omega) hn2 hN
    have hg : gapOf n1 n2 = n2 - n1 := if_neg h
    have hd : decide (n1 < n2) = true := decide_eq_true (by omega)
    rw [hg, hd]
    have HS := Lib.hid hs
    have HS2 := Lib.hid hs2
    clear hs hs2 h1 h2 hn1 hn2 h hg hd
    go_enter Tryz.func58, Tryz.ntmps58
    go_wp2_with fail
    refine HS.out.mono ?_
    rintro e w1 ⟨rfl, hb⟩
    go_wp2_with fail
    refine (HS2.out _ hb).mono ?_
    rintro e w2 ⟨A, k, c, rfl, hr, hb2⟩
    have hb3 := bstep hb hb2
    clear hb hb2
    go_wp2
    go_ret2
    exact ⟨A, k, c, rfl, hr, hb3⟩

set_option maxRecDepth 100000 in
set_option maxHeartbeats 1000000 in
theorem split_any {w : World} {A1 A2 : Option Addr} {k1 c1 k2 c2 n1 n2 N : Nat} (h1 : Rd w (.slice A1 k1 c1) n1) (h2 : Rd w (.slice A2 k2 c2) n2) (h0 : 0 < n2) (hn : n1 < 1000000000 ^ N) (hN : N ≤ 4000) :
    Calls Tryz.prog 65 #[.slice A1 k1 c1, .slice A2 k2 c2] w fun e w' => ∃ A k c B j d, e = .returned (.tuple #[.slice A k c, .slice B j d]) ∧ Rr w' (.slice A k c) (n1 / n2) ∧ Rr w' (.slice B j d) (n1 % n2) ∧ Below w.heap.size w w' := by
  have hd := val_div h1 h2 h0 hn hN
  have HD := Lib.hid hd
  clear hd h1 h2 h0 hn
  go_enter Tryz.func65, Tryz.ntmps65
  go_wp2_with fail
  refine HD.out.mono ?_
  rintro e w1 ⟨A, k, c, B, j, d, rfl, hr, hs, hb⟩
  go_wp2
  go_ret2
  exact ⟨A, k, c, B, j, d, rfl, hr, hs, hb⟩
end Go.Proofs.YthjgfkmnelefpaaGreatDoor

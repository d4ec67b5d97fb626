/- Contract of nat.Sub: the difference of what two rows stand for, and whether there is one. Rows of at most 10000 digits. -/
import Derived.Test.YtpamcdfbcglflaaDoorMinus
import Derived.Test.YtpamcdfbcglflaaDoorCmp
namespace Go.Proofs.YtpamcdfbcglflaaDoor
open Go.RowKit

set_option maxRecDepth 100000 in
set_option maxHeartbeats 4000000 in
theorem sub_yes {w : World} {A1 A2 : Option Addr} {c1 c2 : Nat} {xs ys : List Nat} (hr1 : Row w A1 (u32s xs)) (hr2 : Row w A2 (u32s ys)) (hx : small 4294967296 xs) (hy : small 4294967296 ys) (hl1 : xs.length ≤ 10000) (hl2 : ys.length ≤ 10000) (hle : val ys ≤ val xs) :
    Calls Tryd.prog 11 #[.slice A1 xs.length c1, .slice A2 ys.length c2] w fun e w' => ∃ v, e = .returned (.tuple #[v, .bool true]) ∧ IsNat w' w.heap.size v (val xs - val ys) ∧ Below w.heap.size w w' := by
  have hf := of_any (c := c1) hr1 hx (by omega)
  have hg := fun (W : World) (hW : Below w.heap.size w W) => of_any (c := c2) (hr2.below hW) hy (by omega)
  have HF := Lib.hid hf
  have HG := Lib.hid hg
  have HX := Lib.hid hx
  have HLE := Lib.hid hle
  have hfield := run_field
  clear hf hg hle
  go_enter Tryd.func11, Tryd.ntmps11
  go_wp2_with fail
  refine HF.out.mono ?_
  rintro e w2 ⟨v, rfl, ⟨rs, h1, h2, h3⟩, hb⟩
  obtain ⟨A3, c3, rfl, hr3, _⟩ := h3.slice32
  go_wp2_with fail
  refine (HG.out _ hb).mono ?_
  rintro e w3 ⟨v, rfl, ⟨ts, k1, k2, k3⟩, hb2⟩
  obtain ⟨A4, c4, rfl, hr4, _⟩ := k3.slice32
  have s1 := hb.size
  have b3 := hb.trans (hb2.mono s1)
  obtain ⟨M, hM1, hM2⟩ : ∃ M, M ≤ 10001 ∧ 10001 ≤ M := ⟨10001, Nat.le_refl _, Nat.le_refl _⟩
  have hl : rs.length ≤ M := right_length_le h1 (by rw [h2]; exact Nat.lt_of_lt_of_le (val_lt32 HX.out) (Nat.pow_le_pow_right (by decide) (by omega)))
  have hlt : ts.length ≤ rs.length := by
    rcases Nat.lt_or_ge rs.length ts.length with h | h
    · exfalso
      have q1 := val_lt h1.1
      have q2 := right_length_le k1 (k := rs.length) (by rw [k2]; have := HLE.out; rw [h2] at q1; omega)
      omega
    · exact h
  have hr3' := hr3.below hb2
  clear hb hb2 h3 k3 hr3
  go_wp2_with fail
  obtain ⟨W, hW⟩ : ∃ W, W = (w3.alloc (Obj.cells #[Value.slice A3 rs.length c3] 52)).alloc (Obj.cells #[Value.slice A4 ts.length c4] 52) := ⟨_, rfl⟩
  have hbW : Below w3.heap.size w3 W := by rw [hW]; exact below_first ((Below.refl _ _).alloc (Nat.le_refl _) _)
  have hbox : W.heap[w3.heap.size]? = some (.cells #[Value.slice A3 rs.length c3] 52 (0, 0)) := by
    rw [hW]; exact first_block ((Below.refl _ _).alloc (Nat.le_refl _) _)
  have hbox2 : W.heap[w3.heap.size + 1]? = some (.cells #[Value.slice A4 ts.length c4] 52 (0, 0)) := by
    rw [hW]; exact new_at (by simp)
  rw [← hW]
  clear hW
  obtain ⟨o, ho⟩ : ∃ o, o = ordI (val rs : Int) (val ts : Int) := ⟨_, rfl⟩
  have ho0 : 0 ≤ o := by
    rw [ho, h2, k2]
    have := HLE.out
    unfold ordI
    rw [if_neg (by omega)]
    split <;> omega
  have hcp := compare_any (c1 := c3) (c2 := c4) (hr3'.below hbW) (hr4.below hbW) h1 k1 (by omega)
  rw [← ho] at hcp
  have HC := Lib.hid hcp
  clear hcp ho
  refine HC.out.mono ?_
  rintro e w4 ⟨rfl, hd⟩
  have hb4 : Below W.heap.size W w4 := hd.below
  have sW := hbW.size
  have hW2 : w3.heap.size + 1 < W.heap.size := lt_block hbox2
  have hc1 := cell_of_one ((hb4.block w3.heap.size (by omega)).trans hbox)
  have hc2 := cell_of_one ((hb4.block (w3.heap.size + 1) (by omega)).trans hbox2)
  have b4 := (b3.trans (hbW.mono b3.size)).trans (hb4.mono (Nat.le_trans b3.size sW))
  have hmi := minus_any (w := w4) (c1 := c3) (c2 := c4) ((hr3'.below hbW).below hb4) ((hr4.below hbW).below hb4) h1.1 k1.1 (by omega) hlt (by rw [h2, k2]; exact HLE.out)
  rw [h2, k2] at hmi
  have HMI := Lib.hid hmi
  clear hmi hbW hb4 hd HC hbox hbox2 hr3' hr4 b3
  go_wp2_with fail
  refine HMI.out.mono ?_
  rintro e w5 ⟨v, rfl, hv, hb5⟩
  have b5 := b4.trans (hb5.mono b4.size)
  obtain ⟨us, g1, g2, g3⟩ := hv
  obtain ⟨A5, c5, rfl, _⟩ := g3.slice32
  clear hb5
  go_wp2
  go_returns
  exact ⟨_, rfl, ⟨us, g1, g2, g3.mono b4.size⟩, b5⟩
set_option maxRecDepth 100000 in
set_option maxHeartbeats 4000000 in
theorem sub_no {w : World} {A1 A2 : Option Addr} {c1 c2 : Nat} {xs ys : List Nat} (hr1 : Row w A1 (u32s xs)) (hr2 : Row w A2 (u32s ys)) (hx : small 4294967296 xs) (hy : small 4294967296 ys) (hl1 : xs.length ≤ 10000) (hl2 : ys.length ≤ 10000) (hle : val xs < val ys) :
    Calls Tryd.prog 11 #[.slice A1 xs.length c1, .slice A2 ys.length c2] w fun e w' => e = .returned (.tuple #[.slice none 0 0, .bool false]) ∧ Below w.heap.size w w' := by
  have hf := of_any (c := c1) hr1 hx (by omega)
  have hg := fun (W : World) (hW : Below w.heap.size w W) => of_any (c := c2) (hr2.below hW) hy (by omega)
  have HF := Lib.hid hf
  have HG := Lib.hid hg
  have HX := Lib.hid hx
  have HLE := Lib.hid hle
  have hfield := run_field
  clear hf hg hle
  go_enter Tryd.func11, Tryd.ntmps11
  go_wp2_with fail
  refine HF.out.mono ?_
  rintro e w2 ⟨v, rfl, ⟨rs, h1, h2, h3⟩, hb⟩
  obtain ⟨A3, c3, rfl, hr3, _⟩ := h3.slice32
  go_wp2_with fail
  refine (HG.out _ hb).mono ?_
  rintro e w3 ⟨v, rfl, ⟨ts, k1, k2, k3⟩, hb2⟩
  obtain ⟨A4, c4, rfl, hr4, _⟩ := k3.slice32
  have s1 := hb.size
  have b3 := hb.trans (hb2.mono s1)
  obtain ⟨M, hM1, hM2⟩ : ∃ M, M ≤ 10001 ∧ 10001 ≤ M := ⟨10001, Nat.le_refl _, Nat.le_refl _⟩
  have hl : rs.length ≤ M := right_length_le h1 (by rw [h2]; exact Nat.lt_of_lt_of_le (val_lt32 HX.out) (Nat.pow_le_pow_right (by decide) (by omega)))
  have hr3' := hr3.below hb2
  clear hb hb2 h3 k3 hr3
  go_wp2_with fail
  obtain ⟨W, hW⟩ : ∃ W, W = (w3.alloc (Obj.cells #[Value.slice A3 rs.length c3] 52)).alloc (Obj.cells #[Value.slice A4 ts.length c4] 52) := ⟨_, rfl⟩
  have hbW : Below w3.heap.size w3 W := by rw [hW]; exact below_first ((Below.refl _ _).alloc (Nat.le_refl _) _)
  have hbox : W.heap[w3.heap.size]? = some (.cells #[Value.slice A3 rs.length c3] 52 (0, 0)) := by
    rw [hW]; exact first_block ((Below.refl _ _).alloc (Nat.le_refl _) _)
  have hbox2 : W.heap[w3.heap.size + 1]? = some (.cells #[Value.slice A4 ts.length c4] 52 (0, 0)) := by
    rw [hW]; exact new_at (by simp)
  rw [← hW]
  clear hW
  obtain ⟨o, ho⟩ : ∃ o, o = ordI (val rs : Int) (val ts : Int) := ⟨_, rfl⟩
  have ho0 : o < 0 := by
    rw [ho, h2, k2]
    have := HLE.out
    unfold ordI
    rw [if_pos (by omega)]
    omega
  have hcp := compare_any (c1 := c3) (c2 := c4) (hr3'.below hbW) (hr4.below hbW) h1 k1 (by omega)
  rw [← ho] at hcp
  have HC := Lib.hid hcp
  clear hcp ho
  refine HC.out.mono ?_
  rintro e w4 ⟨rfl, hd⟩
  have hb4 : Below W.heap.size W w4 := hd.below
  have sW := hbW.size
  have b4 := (b3.trans (hbW.mono b3.size)).trans (hb4.mono (Nat.le_trans b3.size sW))
  clear hbW hb4 hd HC hbox hbox2 hr3' hr4 b3
  go_wp2
  go_returns
  exact ⟨rfl, b4⟩
end Go.Proofs.YtpamcdfbcglflaaDoor

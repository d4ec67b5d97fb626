/- Contracts of nat.Cmp and nat.Trim: the order of what two rows stand for; the right row of what a row stands for. Rows of at most 10000 digits. -/
import Derived.Test.YtpamcdfbcglflaaDoorOrd
import Derived.Test.YtpamcdfbcglflaaDoorNat2
namespace Go.Proofs.YtpamcdfbcglflaaDoor
open Go.RowKit

set_option maxRecDepth 100000 in
theorem trimRow_any {w : World} {A : Option Addr} {c : Nat} {ds : List Nat} (hr : Row w A (u32s ds)) (hd : small 4294967296 ds) (hlen : ds.length ≤ 10000) :
    Calls Tryd.prog 20 #[.slice A ds.length c] w (RetNat w (val ds)) := by
  have hf := of_any (c := c) hr hd (by omega)
  have HF := Lib.hid hf
  have hfield := run_field
  clear hf
  go_enter Tryd.func20, Tryd.ntmps20
  go_wp2_with fail
  refine HF.out.mono ?_
  rintro e w2 ⟨v, rfl, hv, hb⟩
  obtain ⟨rs, h1, h2, h3⟩ := hv
  obtain ⟨A2, c2, rfl, _⟩ := h3.slice32
  go_wp2
  go_ret
  exact ⟨_, rfl, ⟨rs, h1, h2, h3⟩, hb⟩

set_option maxRecDepth 100000 in
theorem cmp_any {w : World} {A1 A2 : Option Addr} {c1 c2 : Nat} {xs ys : List Nat} (hr1 : Row w A1 (u32s xs)) (hr2 : Row w A2 (u32s ys)) (hx : small 4294967296 xs) (hy : small 4294967296 ys) (hl1 : xs.length ≤ 10000) (hl2 : ys.length ≤ 10000) :
    Calls Tryd.prog 16 #[.slice A1 xs.length c1, .slice A2 ys.length c2] w fun e w' => e = .returned (.int .i64 (ordI (val xs : Int) (val ys : Int))) ∧ Below w.heap.size w w' := by
  have hf := of_any (c := c1) hr1 hx (by omega)
  have hg := fun (W : World) (hW : Below w.heap.size w W) => of_any (c := c2) (hr2.below hW) hy (by omega)
  have HF := Lib.hid hf
  have HG := Lib.hid hg
  have HX := Lib.hid hx
  have hfield := run_field
  clear hf hg
  go_enter Tryd.func16, Tryd.ntmps16
  go_wp2_with fail
  refine HF.out.mono ?_
  rintro e w2 ⟨v, rfl, ⟨rs, h1, h2, h3⟩, hb⟩
  obtain ⟨A3, c3, rfl, hr3, _⟩ := h3.slice32
  go_wp2_with fail
  refine (HG.out _ hb).mono ?_
  rintro e w3 ⟨v, rfl, ⟨ts, k1, k2, k3⟩, hb2⟩
  obtain ⟨A4, c4, rfl, hr4, _⟩ := k3.slice32
  have s1 := hb.size
  have b3 := hb.trans (hb2.mono s1)
  have hl : rs.length ≤ 1000000 := Nat.le_trans (right_length_le h1 (by rw [h2]; exact val_lt32 HX.out)) (by omega)
  have hcp := compare_any (c1 := c3) (c2 := c4) (hr3.below hb2) hr4 h1 k1 hl
  rw [h2, k2] at hcp
  have HC := Lib.hid hcp
  clear hcp hb hb2 h3 k3 hr3 hr4
  go_wp2_with fail
  refine HC.out.mono ?_
  rintro e w4 ⟨rfl, hd4⟩
  have b4 : Below w.heap.size w w4 := b3.trans (hd4.below.mono b3.size)
  clear hd4 b3
  go_wp2
  go_ret
  exact ⟨rfl, b4⟩
end Go.Proofs.YtpamcdfbcglflaaDoor

/- Contract of nat.Add: the right row of the sum of all; rows of at most 10000 digits, the sum below 10^9 to the power of at most 100000. -/
import Derived.Test.YthjgfkmnelefpaaGreatDoorFold
namespace Go.Proofs.YthjgfkmnelefpaaGreatDoor
open Go.RowKit

set_option maxRecDepth 100000 in
theorem add_any {w : World} {N : Nat} {A : Option Addr} {c : Nat} {L : List Arow} (hL : Rows_ w A L) (hacc : ∀ k, k ≤ L.length → ((vals L).take k).foldl (fun a b => a + b) 0 < 1000000000 ^ N) (hN : N ≤ 100000) (hlen : L.length ≤ 100000) :
    Calls Tryz.prog 74 #[.slice A L.length c] w (RetNat w ((vals L).foldl (fun a b => a + b) 0)) := by
  have hf := fold_plus (w := w) (B0 := w.heap.size) (N := N) (A1 := none) (c1 := 0) (c := c) (xs := []) right_nil (Own.nil _ _ _) (Nat.le_refl _) hL hacc hN hlen
  have HF := Lib.hid hf
  have hfield := run_field
  clear hf hacc
  go_enter Tryz.func74, Tryz.ntmps74
  go_wp2_with fail
  refine HF.out.mono ?_
  rintro e w2 ⟨v, rfl, hv, hb⟩
  obtain ⟨rs, h1, h2, h3⟩ := hv
  obtain ⟨A2, c2, rfl, _⟩ := h3.slice32
  go_wp2
  go_ret
  exact ⟨_, rfl, ⟨rs, h1, h2, h3⟩, hb⟩
end Go.Proofs.YthjgfkmnelefpaaGreatDoor

/- Contract of the laws' awake: the document's examples hold. The premise on DivMod comes in as a hypothesis (at its one example). -/
import Derived.Test.YthjgfkmnelefpaaGreatDoorAdd
import Derived.Test.YthjgfkmnelefpaaGreatDoorDecimal
import Derived.Test.YthjgfkmnelefpaaGreatDoorSame
namespace Go.Proofs.YthjgfkmnelefpaaGreatDoor
open Go.RowKit

theorem row_vals (w : World) (T : TypeId) (cs : Array Value) : Row (w.alloc (.cells cs T)) (some ⟨w.heap.size, 0, none⟩) cs.toList := by
  intro j v hv
  refine ⟨_, rfl, ?_⟩
  have : ((⟨w.heap.size, 0, none⟩ : Addr).add j) = ⟨w.heap.size, j, none⟩ := by
    unfold Addr.add; split
    · rename_i h; subst h; rfl
    · simp
  rw [this, World.cell?_alloc_new]
  simpa using hv
theorem row_lit (w : World) (T : TypeId) (cs : Array Value) (ds : List Nat) (h : cs.toList = u32s ds) : Row (w.alloc (.cells cs T)) (some ⟨w.heap.size, 0, none⟩) (u32s ds) := h ▸ row_vals w T cs

theorem text51 : Lib.decDigits (val [5, 1]) = [49, 48, 48, 48, 48, 48, 48, 48, 48, 53] := by
  have h := decDigits_base (u := 1) (v := 5) (by decide) (by decide)
  rw [show val [5, 1] = 5 + 1000000000 * 1 from by simp [val], h, decDigits_small (by decide), decDigits_small (by decide), Lib.nDigits_small (by decide)]
  rfl
/-- What DivMod tells at the example. -/
def DmEx : Prop := ∀ (w : World) (A1 A2 : Option Addr) (c1 c2 : Nat), Row w A1 (u32s [0, 1]) → Row w A2 (u32s [7]) →
  Calls Tryz.prog 81 #[.slice A1 2 c1, .slice A2 1 c2] w fun e w' => ∃ v u, e = .returned (.tuple #[v, u, .bool true]) ∧ IsNat w' w.heap.size v 142857142 ∧ IsNat w' w.heap.size u 6 ∧ Below w.heap.size w w'

theorem isNat_row {w : World} {B n : Nat} {v : Value} (h : IsNat w B v n) (rs : List Nat) (hr : right rs) (hv : val rs = n) : ∃ A c, v = .slice A rs.length c ∧ Row w A (u32s rs) := by
  obtain ⟨ts, h1, h2, h3⟩ := h
  obtain rfl : ts = rs := right_unique h1 hr (by rw [h2, hv])
  obtain ⟨A, c, e, hro, _⟩ := h3.slice32
  exact ⟨A, c, e, hro⟩
theorem right_one {d : Nat} (h0 : d ≠ 0) (h : d < 1000000000) : right [d] := ⟨fun x hx => by rw [List.mem_singleton.1 hx]; exact h, .inr (by simpa using h0)⟩
theorem right_two {d e : Nat} (h0 : e ≠ 0) (h : d < 1000000000) (h' : e < 1000000000) : right [d, e] := ⟨fun x hx => by
  rcases List.mem_cons.1 hx with rfl | hx
  · exact h
  · rw [List.mem_singleton.1 hx]; exact h', .inr (by simpa using h0)⟩

end Go.Proofs.YthjgfkmnelefpaaGreatDoor

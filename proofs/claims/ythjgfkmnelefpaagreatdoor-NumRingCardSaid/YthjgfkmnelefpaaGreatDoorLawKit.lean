/- What the laws over three rows share: rows written out in new memory, their sums, whether they are short. -/
import Derived.Test.YthjgfkmnelefpaaGreatDoorAdd
import Derived.Test.YthjgfkmnelefpaaGreatDoorMinus
import Derived.Test.YthjgfkmnelefpaaGreatDoorAwake
namespace Go.Proofs.YthjgfkmnelefpaaGreatDoor
open Go.RowKit

theorem lit_row (w : World) (cs : Array Value) (T : TypeId) (h : cs.size ≤ maxLen) : Row (w.alloc (.cells cs T)) (some ⟨w.heap.size, 0, none⟩) cs.toList := by
  have hs : cs.size = cs.size * 1 := (Nat.mul_one _).symm
  have ho : Own (w.alloc (.cells cs T)) w.heap.size T (.slice (some ⟨w.heap.size, 0, none⟩) cs.size cs.size) cs.toList := Own.mk_ (World.ownsRow_lit w cs cs.size (Nat.le_refl _) h hs)
  obtain ⟨A, c, e, hr, _⟩ := ho.slice
  injection e with e1
  rw [e1]; exact hr

theorem rows_lit {w : World} {L : List Arow} (T : TypeId) (h8 : L.length ≤ 8) (h : ∀ r ∈ L, Row w r.1 (u32s r.2.2) ∧ small 4294967296 r.2.2 ∧ r.2.2.length ≤ 10000) :
    Rows_ (w.alloc (.cells (L.map sl).toArray T)) (some ⟨w.heap.size, 0, none⟩) L :=
  ⟨by
    have := lit_row w (L.map sl).toArray T (by unfold maxLen; simp; omega)
    simpa using this, fun r hr => ⟨(h r hr).1.alloc _, (h r hr).2⟩⟩


/-- The sum of two rows, written out in new memory. -/
theorem add_two {w : World} {A1 A2 : Option Addr} {c1 c2 : Nat} {xs ys : List Nat} (hr1 : Row w A1 (u32s xs)) (hr2 : Row w A2 (u32s ys)) (hx : small 4294967296 xs) (hy : small 4294967296 ys) (hl1 : xs.length ≤ 1000) (hl2 : ys.length ≤ 1000) :
    Calls Tryz.prog 74 #[.slice (some ⟨w.heap.size, 0, none⟩) 2 2] (w.alloc (.cells #[.slice A1 xs.length c1, .slice A2 ys.length c2] 27)) (RetNat (w.alloc (.cells #[.slice A1 xs.length c1, .slice A2 ys.length c2] 27)) (val xs + val ys)) := by
  have hR : Rows_ (w.alloc (.cells #[.slice A1 xs.length c1, .slice A2 ys.length c2] 27)) (some ⟨w.heap.size, 0, none⟩) [(A1, c1, xs), (A2, c2, ys)] :=
    rows_lit (L := [(A1, c1, xs), (A2, c2, ys)]) 27 (by simp) fun r hr => by
      rcases List.mem_cons.1 hr with rfl | hr
      · exact ⟨hr1, hx, by show xs.length ≤ 10000; omega⟩
      · rw [List.mem_singleton.1 hr]; exact ⟨hr2, hy, by show ys.length ≤ 10000; omega⟩
  obtain ⟨M, hM1, hM2⟩ : ∃ M, M ≤ 1001 ∧ 1001 ≤ M := ⟨1001, Nat.le_refl _, Nat.le_refl _⟩
  have hv1 : val xs < 1000000000 ^ M := Nat.lt_of_lt_of_le (val_lt32 hx) (Nat.pow_le_pow_right (by decide) (by omega))
  have hv2 : val ys < 1000000000 ^ M := Nat.lt_of_lt_of_le (val_lt32 hy) (Nat.pow_le_pow_right (by decide) (by omega))
  have h := add_any (N := M + 1) (c := 2) hR (fun k hk => by
    have hp : 0 < 1000000000 ^ M := Nat.pow_pos (by decide)
    rw [Nat.pow_succ]
    match k, hk with
    | 0, _ => simp; omega
    | 1, _ => simp [vals]; omega
    | k + 2, hk => simp [vals]; omega) (by omega) (by simp)
  have e : (vals [(A1, c1, xs), (A2, c2, ys)]).foldl (fun a b => a + b) 0 = val xs + val ys := by simp [vals]
  rw [e] at h
  exact h

end Go.Proofs.YthjgfkmnelefpaaGreatDoor

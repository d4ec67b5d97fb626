/- Contract of slices.Clone at nat.digits: a copy in new memory of a row that is not nil; at most 1000000 digits. -/
import Derived.Test.YthjgfkmnelefpaaGreatDoorNat2
import Derived.Lib.SliceRun
namespace Go.Proofs.YthjgfkmnelefpaaGreatDoor
open Go.RowKit

theorem u32s_one (ds : List Nat) : ∀ u ∈ u32s ds, u.oneCell' = true := by
  intro u hu
  obtain ⟨d, _, rfl⟩ := List.mem_map.1 hu
  rfl
theorem own_empty32 (w : World) : Own (w.alloc (.cells #[] 55)) w.heap.size 55 (.slice (some ⟨w.heap.size, 0, none⟩) 0 0) (u32s []) :=
  Own.mk_ (World.ownsRow_lit w #[] 0 (Nat.le_refl _) (by decide) rfl)

set_option maxRecDepth 100000 in
set_option maxHeartbeats 2000000 in
theorem clone_any {w : World} {ad : Addr} {c : Nat} {xs : List Nat} (hr : Row w (some ad) (u32s xs)) (hlen : xs.length ≤ 1000000) :
    Calls Tryz.prog 107 #[.slice (some ad) xs.length c] w fun e w' => ∃ v, e = .returned v ∧ Own w' w.heap.size 55 v (u32s xs) ∧ Below w.heap.size w w' := by
  obtain ⟨i0, hi, hz0, hz1, hz2⟩ := info_parts info_u32
  have ho := own_empty32 w
  have heq : (binOp .eql 90 (.slice (some ad) xs.length c) (.slice none 0 0)).run Tryz.prog w = .ok (.bool false) w := Lib.run_eql_slice_nil w 90 55 (some ad) xs.length c 0 0 Tryz.underlying90
  have hr' := hr.alloc (.cells #[] 55)
  go_enter Tryz.func107, Tryz.ntmps107
  go_wp2_with (at_builtin; refine wpList_append_own _ rfl _ _ 90 rfl w.heap.size 55 i0 (.int .u32 0) 1 4 Tryz.underlying90 hi hz0 hz1 hz2 rfl (by decide) _ _ _ rfl ho ad xs.length c (u32s xs) rfl (by rw [u32s_length]; omega) (fun j u hj => by obtain ⟨ad', e', hc'⟩ := hr' j u hj; injection e' with e'; subst e'; exact hc') (u32s_one xs) (by rw [u32s_length]; unfold maxLen; simp; omega) (by rw [u32s_length]; simp; omega) (by simp) ?_)
  intro v' w2 hown' hgrow' _
  have ho2 : Own w2 w.heap.size 55 v' (u32s xs) := by
    have := Own.mk_ hown'
    simpa [u32s] using this
  have hb2 : Below w.heap.size w w2 := ((Below.refl _ _).alloc (Nat.le_refl _) _).grown hgrow' (by simp) (fun k hk => ((show (w.alloc (.cells #[] 55)).ownsRow w.heap.size 55 1 _ _ _ from ho).lt k hk).1)
  clear hown' hgrow'
  go_wp2
  go_ret
  exact ⟨_, rfl, ho2, hb2⟩
end Go.Proofs.YthjgfkmnelefpaaGreatDoor

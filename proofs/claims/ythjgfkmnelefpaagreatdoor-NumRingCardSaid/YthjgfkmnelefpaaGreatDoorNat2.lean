/- Contracts of nat.carried and nat.of: of any list of digits of 32 bits the right row of what it stands for, in memory of its own; at most 100000 digits. -/
import Derived.Test.YthjgfkmnelefpaaGreatDoorNat1
import Derived.Handy
namespace Go.Proofs.YthjgfkmnelefpaaGreatDoor
open Go.RowKit

/-- The value v is a row of the call's own (from block B on): the right row of n. -/
def IsNat (w : World) (B : Nat) (v : Value) (n : Nat) : Prop := ∃ rs, right rs ∧ val rs = n ∧ Own w B 55 v (u32s rs)

/-- A call that tells the right row of n in new memory, and changes nothing that was there. -/
def RetNat (w : World) (n : Nat) (e : Ending) (w' : World) : Prop := ∃ v, e = .returned v ∧ IsNat w' w.heap.size v n ∧ Below w.heap.size w w'

theorem carry_step {out ds : List Nat} {k cy : Nat} (hk : k < ds.length) (hlen : out.length = k) (hval : val out + 1000000000 ^ k * cy = val (ds.take k)) :
    val (out ++ [(cy + ds.getD k 0) % 1000000000]) + 1000000000 ^ (k + 1) * ((cy + ds.getD k 0) / 1000000000) = val (ds.take (k + 1)) := by
  rw [val_snoc, val_take_succ ds k hk, ← hval, hlen, Nat.pow_succ, Nat.add_assoc, Nat.mul_assoc, ← Nat.mul_add, Nat.mod_add_div, Nat.mul_add, Nat.add_assoc]

theorem info_u32 : (Tryz.prog.info? 55).map (fun i => (i.zero, i.size, i.bytes)) = some (some (.int .u32 0), 1, 4) := by kernel_rfl

set_option maxHeartbeats 1000000 in
theorem carried_any {w : World} {A : Option Addr} {c : Nat} {ds : List Nat} (hr : Row w A (u32s ds)) (hd : small 4294967296 ds) (hlen : ds.length ≤ 100000) :
    Calls Tryz.prog 94 #[.slice A ds.length c] w (RetNat w (val ds)) := by
  obtain ⟨i0, hi, hz0, hz1, hz2⟩ := info_parts info_u32
  obtain ⟨B, hB⟩ : ∃ B, B = w.heap.size := ⟨_, rfl⟩
  have HB := Lib.hid hB
  clear hB
  have hl63 : ds.length ≤ 9223372036854775807 := by omega
  go_enter Tryz.func94, Tryz.ntmps94
  go_wp2_with (at_make; refine wpList_make_own _ rfl _ _ 90 rfl B 55 i0 (.int .u32 0) 1 Tryz.underlying90 hi hz0 hz1 .i64 .i64 ((ds.length : Int) + 1) (ds.length + 1) rfl rfl (by omega) ?b2 ?b3 ?b4 ?_)
  case b2 => rw [hz2]; omega
  case b3 => unfold maxLen; omega
  case b4 => rw [HB.out]; exact Nat.le_refl _
  intro w1 hown hgrow
  have hb1 : Below w.heap.size w w1 := (Below.refl _ _).grown hgrow (Nat.le_refl _) (fun k h => by cases h)
  have ho1 : Own w1 B 55 (.slice (some ⟨w.heap.size, 0, none⟩) 0 (ds.length + 1)) (u32s []) := Own.mk_ hown
  clear hown hgrow
  go_wp2_with fail
  go_loopw [3, 4, 13] (fun v cv i wr => ∃ (k cy : Nat) (out : List Nat), k ≤ ds.length ∧ i = .int .i64 k ∧ cv = .int .u64 cy ∧ cy ≤ 4 ∧ Own wr B 55 v (u32s out) ∧ Hid (out.length = k ∧ small 1000000000 out ∧ val out + 1000000000 ^ k * cy = val (ds.take k)) ∧ Below w.heap.size w wr)
    (fun _ _ i _ => ds.length - (intOf i).toNat)
  case atStart => exact ⟨0, 0, [], Nat.zero_le _, rfl, rfl, by omega, ho1, ⟨rfl, small_nil _, by simp [val]⟩, hb1⟩
  case round =>
    obtain ⟨k, cy, out, hk, rfl, rfl, hcy, hout, HO, hb⟩ := hrel
    by_cases hlt : k < ds.length
    · obtain ⟨ad, x, rfl, hc, hx, hm⟩ := (hr.below hb).dig hlt
      have hxb := hd x hm
      clear hm
      have hsz := hb.size
      go_wp2_with (at_builtin; refine wpList_append_own _ rfl _ _ 90 rfl B 55 i0 (.int .u32 0) 1 4 Tryz.underlying90 hi hz0 hz1 hz2 rfl (by decide) _ _ _ rfl (hout.alloc _) ⟨wr.heap.size, 0, none⟩ 1 1 [.int .u32 ((((cy + x) % 1000000000 : Nat)) : Int)] rfl rfl ?c1 ?c2 ?c3 ?c4 ?c5 ?_)
      case c1 => exact one_news (int_eq (by omega))
      case c2 => exact one_cell
      case c3 => rw [u32s_length, HO.out.1]; unfold maxLen; omega
      case c4 => rw [u32s_length, HO.out.1]; omega
      case c5 => rw [HB.out]; simp; omega
      intro v' w2 hown' hgrow _
      have ho2 := own_app32 hown'
      have hb2 := below_app hb hout HB hgrow
      clear hown' hgrow hc hout hb
      go_wp2
      go_roundw
      case rel => exact ⟨k + 1, (cy + x) / 1000000000, _, by omega, by go_num, by go_num, by omega, ho2, by
        have h := HO.out
        rw [← hx.out]
        exact ⟨by rw [List.length_append, h.1]; rfl, small_snoc h.2.1 (Nat.mod_lt _ (by decide)), carry_step hlt h.1 h.2.2⟩, hb2⟩
      case measure => simp [intOf]; omega
    · have hk' : k = ds.length := by omega
      have HK := Lib.hid hk'
      clear hk'
      have hsz := hb.size
      go_wp2_with (at_builtin; refine wpList_append_own _ rfl _ _ 90 rfl B 55 i0 (.int .u32 0) 1 4 Tryz.underlying90 hi hz0 hz1 hz2 rfl (by decide) _ _ _ rfl (hout.alloc _) ⟨wr.heap.size, 0, none⟩ 1 1 [.int .u32 (cy : Int)] rfl rfl ?d1 ?d2 ?d3 ?d4 ?d5 ?_)
      case d1 => exact one_news rfl
      case d2 => exact one_cell
      case d3 => rw [u32s_length, HO.out.1]; unfold maxLen; omega
      case d4 => rw [u32s_length, HO.out.1]; omega
      case d5 => rw [HB.out]; simp; omega
      intro v' w2 hown' hgrow _
      have ho2 := own_app32 hown'
      have hb2 := below_app hb hout HB hgrow
      clear hown' hgrow hout hb
      obtain ⟨A2, c2, rfl, _⟩ := ho2.slice
      have hl : (out ++ [cy]).length ≤ 1000000 := by rw [List.length_append, HO.out.1]; simp; omega
      go_wp2_with fail
      refine (stripped_any ho2 hl).mono ?_
      rintro e w3 ⟨⟨v, rfl, hv⟩, rfl⟩
      go_wp2
      go_ret
      have h := HO.out
      exact ⟨v, rfl, ⟨_, strip_right (small_snoc h.2.1 (by omega)), by rw [strip_val, val_snoc, h.1, h.2.2, HK.out, List.take_length], HB.out ▸ hv⟩, hb2⟩

/-- nat.of: a number that holds the right row. -/
def RetNum (w : World) (n : Nat) (e : Ending) (w' : World) : Prop := ∃ v, e = .returned (.agg #[v]) ∧ IsNat w' w.heap.size v n ∧ Below w.heap.size w w'

theorem of_any {w : World} {A : Option Addr} {c : Nat} {ds : List Nat} (hr : Row w A (u32s ds)) (hd : small 4294967296 ds) (hlen : ds.length ≤ 100000) :
    Calls Tryz.prog 82 #[.slice A ds.length c] w (RetNum w (val ds)) := by
  go_enter Tryz.func82, Tryz.ntmps82
  go_wp2_with fail
  refine (carried_any (hr.alloc _) hd hlen).mono ?_
  rintro e w1 ⟨v, rfl, ⟨rs, hrs, hval, hown⟩, hb⟩
  have hfb := first_block hb
  have hc := cell_of_one hfb
  have hf := free_of_one hfb
  have hb' := below_first hb
  have hsz := hb'.size
  obtain ⟨A2, c2, rfl, _⟩ := hown.slice
  have hcs := cell_of_one (one_setCell (u := .slice A2 (u32s rs).length c2) hfb)
  clear hb hfb
  go_wp2
  refine bodyPost_ret (v := .agg #[.slice A2 (u32s rs).length c2]) (by simp [results, Tryz.results82, go_sem, hcs]) rfl ?_
  exact ⟨_, rfl, ⟨rs, hrs, hval, (hown.setBelow (by simp) _).mono (by simp)⟩, hb'.setCell (Nat.le_refl _) _⟩

/-- The digits of a number. -/
theorem run_field (A : Option Addr) (n c : Nat) (w : World) : (Instr.field 98 (.agg #[.slice A n c]) 0).run Tryz.prog w = .ok (.slice A n c) w := by kernel_rfl
end Go.Proofs.YthjgfkmnelefpaaGreatDoor

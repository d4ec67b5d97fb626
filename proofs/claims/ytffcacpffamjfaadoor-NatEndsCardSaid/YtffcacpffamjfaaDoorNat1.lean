/- Contracts of small functions of package nat: at, none, stripped: called with a slice that reads as a list of digits of 32 bits. No condition beside that. Contracts of nat.carried and nat.of: of any list of digits of 32 bits the right row of what it stands for, in memory of its own; at most 100000 digits. Contracts of cmp.Compare at int and uint32, and of nat.digits.compare at right rows. -/
import Derived.Test.YtffcacpffamjfaaDoorMem
import Derived.Test.YtffcacpffamjfaaDoorMath
import Derived.Test.YtffcacpffamjfaaDoorChecked
import Derived.Handy
import Derived.BigQuiet
import Derived.Deep.QuietTactic
namespace Go.Proofs.YtffcacpffamjfaaDoor
open Go.RowKit

/-- nat.digits.at: the digit at place i, 0 behind the last. -/
theorem at_any {w : World} {A : Option Addr} {c : Nat} {ds : List Nat} (hr : Row w A (u32s ds)) (hd : ∀ d ∈ ds, d < 4294967296) (i : Int) (h0 : 0 ≤ i) :
    Calls Tryd.prog 47 #[.slice A ds.length c, .int .i64 i] w fun e w' => e = .returned (.int .u64 ((ds.getD i.toNat 0 : Nat) : Int)) ∧ w = w' := by
  obtain ⟨k, rfl⟩ := Int.eq_ofNat_of_zero_le h0
  rw [Int.toNat_natCast]
  by_cases hk : k < ds.length
  · obtain ⟨ad, x, rfl, hc, hx, hm⟩ := hr.dig hk
    have hb := hd x hm
    clear hm
    go_enter Tryd.func47, Tryd.ntmps47
    go_wp2
    go_ret
    exact ⟨ret_of (by rw [hx.out]), rfl⟩
  · have e : ds.getD k 0 = 0 := by rw [List.getD_eq_getElem?_getD, List.getElem?_eq_none (by omega)]; rfl
    rw [e]
    go_enter Tryd.func47, Tryd.ntmps47
    go_wp2
    go_ret
    exact ⟨rfl, rfl⟩

/-- nat.digits.none. -/
theorem none_any (w : World) (A : Option Addr) (n c : Nat) :
    Calls Tryd.prog 28 #[.slice A n c] w fun e w' => e = .returned (.bool ((n : Int) == 0)) ∧ w = w' := by
  go_enter Tryd.func28, Tryd.ntmps28
  go_wp2
  go_ret
  exact ⟨rfl, rfl⟩

set_option maxHeartbeats 400000 in
/-- nat.digits.stripped: a row of the call's own is cut behind its last digit that is not 0; nil, if nothing is left. -/
theorem stripped_any {w : World} {B : Nat} {A : Option Addr} {n c : Nat} {ds : List Nat} (ho : Own w B 23 (.slice A n c) (u32s ds)) (hlen : ds.length ≤ 1000000) :
    Calls Tryd.prog 49 #[.slice A n c] w fun e w' => (∃ v, e = .returned v ∧ Own w B 23 v (u32s (strip ds))) ∧ w = w' := by
  obtain ⟨A', c', e, hr, hle, _⟩ := ho.slice
  injection e with e1 e2 e3
  subst e1; subst e2; subst e3
  rw [u32s_length] at ho hle ⊢
  go_enter Tryd.func49, Tryd.ntmps49
  go_wp2
  go_loop [3] (fun i => ∃ k : Nat, k ≤ ds.length ∧ i = .int .i64 k ∧ ∀ j, k ≤ j → ds.getD j 0 = 0) (fun i => (intOf i).toNat)
  case atStart => exact ⟨ds.length, Nat.le_refl _, rfl, fun j hj => by rw [List.getD_eq_getElem?_getD, List.getElem?_eq_none hj]; rfl⟩
  case round =>
    obtain ⟨k, hk, rfl, hz⟩ := hrel
    have HZ := Lib.hid hz
    clear hz
    rcases Nat.eq_zero_or_pos k with rfl | hpos
    · go_wp2
      go_ret
      exact ⟨⟨_, rfl, by rw [strip_take_of_zeros ds 0 HZ.out (Nat.zero_le _) (.inl rfl)]; exact Own.nil _ _ _⟩, rfl⟩
    · obtain ⟨ad, x, rfl, hc, hx, _⟩ := hr.dig (k := k - 1) (by omega)
      have hb : k ≤ c := by omega
      by_cases hd : x = 0
      · subst hd
        go_wp2
        go_round
        case rel => exact ⟨k - 1, by omega, by go_num, fun j hj => by
          rcases Nat.lt_or_ge j k with h | h
          · have : j = k - 1 := by omega
            rw [this]; exact hx.out
          · exact HZ.out j h⟩
        case measure => simp [intOf]; omega
      · have ht : ((x : Int) == 0) = false := by rw [beq_eq_false_iff_ne]; omega
        have hk0 : ((k : Int) == 0) = false := by rw [beq_eq_false_iff_ne]; omega
        have HD := Lib.hid hd
        clear hd
        go_wp2
        go_ret
        refine ⟨⟨_, rfl, ?_⟩, rfl⟩
        rw [strip_take_of_zeros ds k HZ.out hk (.inr (by rw [hx.out]; exact HD.out)), ← u32s_take]
        exact ho.cut k (by rw [u32s_length]; exact hk)
theorem at_q {w : World} {A : Option Addr} {c : Nat} {ds : List Nat} (hr : Row w A (u32s ds)) (hd : ∀ d ∈ ds, d < 4294967296) (i : Int) (h0 : 0 ≤ i) :
    Calls Tryd.prog 47 #[.slice A ds.length c, .int .i64 i] w fun e w' => e = .returned (.int .u64 ((ds.getD i.toNat 0 : Nat) : Int)) ∧ w' = w :=
  (at_any hr hd i h0).mono fun _ _ h => ⟨h.1, h.2.symm⟩
end Go.Proofs.YtffcacpffamjfaaDoor

namespace Go.Proofs.YtffcacpffamjfaaDoor
open Go.RowKit

/-- The value v is a row of the call's own (from block B on): the right row of n. -/
def IsNat (w : World) (B : Nat) (v : Value) (n : Nat) : Prop := ∃ rs, right rs ∧ val rs = n ∧ Own w B 23 v (u32s rs)

/-- A call that tells the right row of n in new memory, and changes nothing that was there. -/
def RetNat (w : World) (n : Nat) (e : Ending) (w' : World) : Prop := ∃ v, e = .returned v ∧ IsNat w' w.heap.size v n ∧ Below w.heap.size w w'

theorem carry_step {out ds : List Nat} {k cy : Nat} (hk : k < ds.length) (hlen : out.length = k) (hval : val out + 1000000000 ^ k * cy = val (ds.take k)) :
    val (out ++ [(cy + ds.getD k 0) % 1000000000]) + 1000000000 ^ (k + 1) * ((cy + ds.getD k 0) / 1000000000) = val (ds.take (k + 1)) := by
  rw [val_snoc, val_take_succ ds k hk, ← hval, hlen, Nat.pow_succ, Nat.add_assoc, Nat.mul_assoc, ← Nat.mul_add, Nat.mod_add_div, Nat.mul_add, Nat.add_assoc]

theorem info_u32 : (Tryd.prog.info? 23).map (fun i => (i.zero, i.size, i.bytes)) = some (some (.int .u32 0), 1, 4) := by kernel_rfl

set_option maxHeartbeats 1000000 in
theorem carried_any {w : World} {A : Option Addr} {c : Nat} {ds : List Nat} (hr : Row w A (u32s ds)) (hd : small 4294967296 ds) (hlen : ds.length ≤ 100000) :
    Calls Tryd.prog 45 #[.slice A ds.length c] w (RetNat w (val ds)) := by
  obtain ⟨i0, hi, hz0, hz1, hz2⟩ := info_parts info_u32
  obtain ⟨B, hB⟩ : ∃ B, B = w.heap.size := ⟨_, rfl⟩
  have HB := Lib.hid hB
  clear hB
  have hl63 : ds.length ≤ 9223372036854775807 := by omega
  go_enter Tryd.func45, Tryd.ntmps45
  go_wp2_with (at_make; refine wpList_make_own _ rfl _ _ 40 rfl B 23 i0 (.int .u32 0) 1 Tryd.underlying40 hi hz0 hz1 .i64 .i64 ((ds.length : Int) + 1) (ds.length + 1) rfl rfl (by omega) ?b2 ?b3 ?b4 ?_)
  case b2 => rw [hz2]; omega
  case b3 => unfold maxLen; omega
  case b4 => rw [HB.out]; exact Nat.le_refl _
  intro w1 hown hgrow
  have hb1 : Below w.heap.size w w1 := (Below.refl _ _).grown hgrow (Nat.le_refl _) (fun k h => by cases h)
  have ho1 : Own w1 B 23 (.slice (some ⟨w.heap.size, 0, none⟩) 0 (ds.length + 1)) (u32s []) := Own.mk_ hown
  clear hown hgrow
  go_wp2_with fail
  go_loopw [3, 4, 13] (fun v cv i wr => ∃ (k cy : Nat) (out : List Nat), k ≤ ds.length ∧ i = .int .i64 k ∧ cv = .int .u64 cy ∧ cy ≤ 4 ∧ Own wr B 23 v (u32s out) ∧ Hid (out.length = k ∧ small 1000000000 out ∧ val out + 1000000000 ^ k * cy = val (ds.take k)) ∧ Below w.heap.size w wr)
    (fun _ _ i _ => ds.length - (intOf i).toNat)
  case atStart => exact ⟨0, 0, [], Nat.zero_le _, rfl, rfl, by omega, ho1, ⟨rfl, small_nil _, by simp [val]⟩, hb1⟩
  case round =>
    obtain ⟨k, cy, out, hk, rfl, rfl, hcy, hout, HO, hb⟩ := hrel
    by_cases hlt : k < ds.length
    · obtain ⟨ad, x, rfl, hc, hx, hm⟩ := (hr.below hb).dig hlt
      have hxb := hd x hm
      clear hm
      have hsz := hb.size
      go_wp2_with (at_builtin; refine wpList_append_own _ rfl _ _ 40 rfl B 23 i0 (.int .u32 0) 1 4 Tryd.underlying40 hi hz0 hz1 hz2 rfl (by decide) _ _ _ rfl (hout.alloc _) ⟨wr.heap.size, 0, none⟩ 1 1 [.int .u32 ((((cy + x) % 1000000000 : Nat)) : Int)] rfl rfl ?c1 ?c2 ?c3 ?c4 ?c5 ?_)
      case c1 => exact one_news (int_eq (by omega))
      case c2 => exact one_cell
      case c3 => rw [u32s_length, HO.out.1]; unfold maxLen; omega
      case c4 => rw [u32s_length, HO.out.1]; omega
      case c5 => rw [HB.out]; simp; omega
      intro v' w2 hown' hgrow _
      have ho2 := own_app32 hown'
      have hb2 := below_app hb hout HB hgrow
      clear hown' hgrow hc hout hb
      go_wp2
      go_roundw
      case rel => exact ⟨k + 1, (cy + x) / 1000000000, _, by omega, by go_num, by go_num, by omega, ho2, by
        have h := HO.out
        rw [← hx.out]
        exact ⟨by rw [List.length_append, h.1]; rfl, small_snoc h.2.1 (Nat.mod_lt _ (by decide)), carry_step hlt h.1 h.2.2⟩, hb2⟩
      case measure => simp [intOf]; omega
    · have hk' : k = ds.length := by omega
      have HK := Lib.hid hk'
      clear hk'
      have hsz := hb.size
      go_wp2_with (at_builtin; refine wpList_append_own _ rfl _ _ 40 rfl B 23 i0 (.int .u32 0) 1 4 Tryd.underlying40 hi hz0 hz1 hz2 rfl (by decide) _ _ _ rfl (hout.alloc _) ⟨wr.heap.size, 0, none⟩ 1 1 [.int .u32 (cy : Int)] rfl rfl ?d1 ?d2 ?d3 ?d4 ?d5 ?_)
      case d1 => exact one_news rfl
      case d2 => exact one_cell
      case d3 => rw [u32s_length, HO.out.1]; unfold maxLen; omega
      case d4 => rw [u32s_length, HO.out.1]; omega
      case d5 => rw [HB.out]; simp; omega
      intro v' w2 hown' hgrow _
      have ho2 := own_app32 hown'
      have hb2 := below_app hb hout HB hgrow
      clear hown' hgrow hout hb
      obtain ⟨A2, c2, rfl, _⟩ := ho2.slice
      have hl : (out ++ [cy]).length ≤ 1000000 := by rw [List.length_append, HO.out.1]; simp; omega
      go_wp2_with fail
      refine (stripped_any ho2 hl).mono ?_
      rintro e w3 ⟨⟨v, rfl, hv⟩, rfl⟩
      go_wp2
      go_ret
      have h := HO.out
      exact ⟨v, rfl, ⟨_, strip_right (small_snoc h.2.1 (by omega)), by rw [strip_val, val_snoc, h.1, h.2.2, HK.out, List.take_length], HB.out ▸ hv⟩, hb2⟩

/-- nat.of: a number that holds the right row. -/
def RetNum (w : World) (n : Nat) (e : Ending) (w' : World) : Prop := ∃ v, e = .returned (.agg #[v]) ∧ IsNat w' w.heap.size v n ∧ Below w.heap.size w w'

theorem of_any {w : World} {A : Option Addr} {c : Nat} {ds : List Nat} (hr : Row w A (u32s ds)) (hd : small 4294967296 ds) (hlen : ds.length ≤ 100000) :
    Calls Tryd.prog 27 #[.slice A ds.length c] w (RetNum w (val ds)) := by
  go_enter Tryd.func27, Tryd.ntmps27
  go_wp2_with fail
  refine (carried_any (hr.alloc _) hd hlen).mono ?_
  rintro e w1 ⟨v, rfl, ⟨rs, hrs, hval, hown⟩, hb⟩
  have hfb := first_block hb
  have hc := cell_of_one hfb
  have hf := free_of_one hfb
  have hb' := below_first hb
  have hsz := hb'.size
  obtain ⟨A2, c2, rfl, _⟩ := hown.slice
  have hcs := cell_of_one (one_setCell (u := .slice A2 (u32s rs).length c2) hfb)
  clear hb hfb
  go_wp2
  refine bodyPost_ret (v := .agg #[.slice A2 (u32s rs).length c2]) (by simp [results, Tryd.results27, go_sem, hcs]) rfl ?_
  exact ⟨_, rfl, ⟨rs, hrs, hval, (hown.setBelow (by simp) _).mono (by simp)⟩, hb'.setCell (Nat.le_refl _) _⟩

/-- The digits of a number. -/
theorem run_field (A : Option Addr) (n c : Nat) (w : World) : (Instr.field 42 (.agg #[.slice A n c]) 0).run Tryd.prog w = .ok (.slice A n c) w := by kernel_rfl
end Go.Proofs.YtffcacpffamjfaaDoor

namespace Go.Proofs.YtffcacpffamjfaaDoor
open Go.RowKit

/-- -1, 0, 1. -/
def ordI (a b : Int) : Int := if a < b then -1 else if b < a then 1 else 0

theorem nan_int (x : Int) (w : World) : Calls Tryd.prog 67 #[.int .i64 x] w fun e w' => e = .returned (.bool false) ∧ w' = w := by
  go_enter Tryd.func67, Tryd.ntmps67
  go_wp2
  go_ret
  exact ⟨by simp, rfl⟩
theorem nan_u32 (x : Int) (w : World) : Calls Tryd.prog 68 #[.int .u32 x] w fun e w' => e = .returned (.bool false) ∧ w' = w := by
  go_enter Tryd.func68, Tryd.ntmps68
  go_wp2
  go_ret
  exact ⟨by simp, rfl⟩

theorem cmp_int (x y : Int) (w : World) : Calls Tryd.prog 54 #[.int .i64 x, .int .i64 y] w fun e w' => e = .returned (.int .i64 (ordI x y)) ∧ w = w' := by
  rcases Int.lt_trichotomy x y with h | h | h
  · go_enter Tryd.func54, Tryd.ntmps54
    go_wp2_with (first | (go_at_call 67; refine (nan_int _ _).mono ?_; rintro e w' ⟨rfl, rfl⟩))
    go_ret
    exact ⟨ret_of (by unfold ordI; rw [if_pos h]), rfl⟩
  · subst h
    go_enter Tryd.func54, Tryd.ntmps54
    go_wp2_with (first | (go_at_call 67; refine (nan_int _ _).mono ?_; rintro e w' ⟨rfl, rfl⟩))
    go_ret
    exact ⟨ret_of (by unfold ordI; rw [if_neg (by omega), if_neg (by omega)]), rfl⟩
  · go_enter Tryd.func54, Tryd.ntmps54
    go_wp2_with (first | (go_at_call 67; refine (nan_int _ _).mono ?_; rintro e w' ⟨rfl, rfl⟩))
    go_ret
    exact ⟨ret_of (by unfold ordI; rw [if_neg (by omega), if_pos h]), rfl⟩
theorem cmp_u32 (x y : Int) (w : World) : Calls Tryd.prog 55 #[.int .u32 x, .int .u32 y] w fun e w' => e = .returned (.int .i64 (ordI x y)) ∧ w' = w := by
  rcases Int.lt_trichotomy x y with h | h | h
  · go_enter Tryd.func55, Tryd.ntmps55
    go_wp2_with (first | (go_at_call 68; refine (nan_u32 _ _).mono ?_; rintro e w' ⟨rfl, rfl⟩))
    go_ret
    exact ⟨ret_of (by unfold ordI; rw [if_pos h]), rfl⟩
  · subst h
    go_enter Tryd.func55, Tryd.ntmps55
    go_wp2_with (first | (go_at_call 68; refine (nan_u32 _ _).mono ?_; rintro e w' ⟨rfl, rfl⟩))
    go_ret
    exact ⟨ret_of (by unfold ordI; rw [if_neg (by omega), if_neg (by omega)]), rfl⟩
  · go_enter Tryd.func55, Tryd.ntmps55
    go_wp2_with (first | (go_at_call 68; refine (nan_u32 _ _).mono ?_; rintro e w' ⟨rfl, rfl⟩))
    go_ret
    exact ⟨ret_of (by unfold ordI; rw [if_neg (by omega), if_pos h]), rfl⟩

/-- The order of two lists of digits that are as long. -/
theorem val_split (ds : List Nat) (k : Nat) (hk : k ≤ ds.length) : val ds = val (ds.take k) + 1000000000 ^ k * val (ds.drop k) := by
  have := val_append (ds.take k) (ds.drop k)
  rw [List.take_append_drop, List.length_take, Nat.min_eq_left hk] at this
  exact this

theorem val_drop (ds : List Nat) (k : Nat) (hk : k < ds.length) : val (ds.drop k) = ds.getD k 0 + 1000000000 * val (ds.drop (k + 1)) := by
  rw [List.drop_eq_getElem_cons hk, val, List.getD_eq_getElem?_getD, List.getElem?_eq_getElem hk]; rfl

theorem drop_eq_of {xs ys : List Nat} (hl : xs.length = ys.length) {k : Nat} (h : ∀ j, k ≤ j → xs.getD j 0 = ys.getD j 0) : xs.drop k = ys.drop k := by
  apply List.ext_getElem?
  intro i
  rw [List.getElem?_drop, List.getElem?_drop]
  have := h (k + i) (by omega)
  rw [List.getD_eq_getElem?_getD, List.getD_eq_getElem?_getD] at this
  rcases Nat.lt_or_ge (k + i) xs.length with h1 | h1
  · rw [List.getElem?_eq_getElem h1, List.getElem?_eq_getElem (by omega)] at this ⊢
    simpa using this
  · rw [List.getElem?_eq_none h1, List.getElem?_eq_none (by omega)]

theorem val_lt_of {xs ys : List Nat} (hx : small 1000000000 xs) (hl : xs.length = ys.length) {k : Nat} (hk : k < xs.length) (h : ∀ j, k + 1 ≤ j → xs.getD j 0 = ys.getD j 0) (hlt : xs.getD k 0 < ys.getD k 0) : val xs < val ys := by
  rw [val_split xs k (by omega), val_split ys k (by omega), val_drop xs k hk, val_drop ys k (by omega), drop_eq_of hl h]
  have h1 := val_lt (small_take hx k)
  rw [List.length_take, Nat.min_eq_left (by omega)] at h1
  have h2 : 1000000000 ^ k * (xs.getD k 0 + 1 + 1000000000 * val (ys.drop (k + 1))) ≤ 1000000000 ^ k * (ys.getD k 0 + 1000000000 * val (ys.drop (k + 1))) := Nat.mul_le_mul_left _ (by omega)
  have h3 : 1000000000 ^ k * (xs.getD k 0 + 1 + 1000000000 * val (ys.drop (k + 1))) = 1000000000 ^ k * (xs.getD k 0 + 1000000000 * val (ys.drop (k + 1))) + 1000000000 ^ k := by
    rw [← Nat.mul_succ]; congr 1; omega
  omega

theorem ordI_length {xs ys : List Nat} (hx : right xs) (hy : right ys) (h : xs.length ≠ ys.length) : ordI (xs.length : Int) (ys.length : Int) = ordI (val xs : Int) (val ys : Int) := by
  unfold ordI
  rcases Nat.lt_or_ge xs.length ys.length with h1 | h1
  · have := right_lt_of_length hx hy h1
    rw [if_pos (by omega), if_pos (by omega)]
  · have := right_lt_of_length hy hx (by omega)
    rw [if_neg (by omega), if_pos (by omega), if_neg (by omega), if_pos (by omega)]

set_option maxHeartbeats 1000000 in
theorem compare_any {w : World} {A1 A2 : Option Addr} {c1 c2 : Nat} {xs ys : List Nat} (hr1 : Row w A1 (u32s xs)) (hr2 : Row w A2 (u32s ys)) (hx : right xs) (hy : right ys) (hlen : xs.length ≤ 1000000) :
    Calls Tryd.prog 35 #[.slice A1 xs.length c1, .slice A2 ys.length c2] w fun e w' => e = .returned (.int .i64 (ordI (val xs : Int) (val ys : Int))) ∧ Drawn w w' := by
  by_cases hl : xs.length = ys.length
  · have hne : (ordI (xs.length : Int) (ys.length : Int) != 0) = false := by unfold ordI; rw [if_neg (by omega), if_neg (by omega)]; rfl
    have HL := Lib.hid hl
    clear hl
    go_enter Tryd.func35, Tryd.ntmps35
    go_wp2_with (first | (go_at_call 54; refine (cmp_int _ _ _).mono ?_; rintro e w' ⟨rfl, rfl⟩))
    go_loopw [6] (fun i wr => ∃ k : Nat, k ≤ xs.length ∧ i = .int .i64 ((k : Int) - 1) ∧ Hid (∀ j, k ≤ j → xs.getD j 0 = ys.getD j 0) ∧ Hid (Drawn w wr)) (fun i _ => (intOf i + 1).toNat)
    case atStart => exact ⟨xs.length, Nat.le_refl _, rfl, fun j hj => by
      rw [List.getD_eq_getElem?_getD, List.getD_eq_getElem?_getD, List.getElem?_eq_none hj, List.getElem?_eq_none (by rw [← HL.out]; exact hj)], Drawn.refl _⟩
    case round =>
      obtain ⟨k, hk, rfl, HE, HW⟩ := hrel
      rcases Nat.eq_zero_or_pos k with rfl | hpos
      · go_wp2
        go_ret
        refine ⟨ret_of ?_, HW.out⟩
        have : xs = ys := by simpa using drop_eq_of HL.out HE.out
        rw [this]; unfold ordI; rw [if_neg (by omega), if_neg (by omega)]
      · obtain ⟨p, rfl⟩ : ∃ p, k = p + 1 := ⟨k - 1, by omega⟩
        rw [show ((p + 1 : Nat) : Int) - 1 = (p : Int) from by omega]
        have hlt2 : p < ys.length := by rw [← HL.out]; omega
        obtain ⟨ad1, x, rfl, hc1, hx1, _⟩ := (hr1.drawn HW.out).dig (k := p) (by omega)
        obtain ⟨ad2, y, rfl, hc2, hy1, _⟩ := (hr2.drawn HW.out).dig (k := p) hlt2
        have hi1 : (p : Int) < xs.length := by omega
        have hi2 : (p : Int) < ys.length := by omega
        have hi0 : 0 ≤ (p : Int) := by omega
        rcases Nat.lt_trichotomy x y with h | h | h
        · have ht : (ordI (x : Int) (y : Int) != 0) = true := by rw [bne_iff_ne]; unfold ordI; rw [if_pos (by omega)]; decide
          go_wp2
          go_quiet ((go_at_call 55; exact Calls.quiet_of_same (cmp_u32 _ _ _)))
          go_wp2
          go_ret
          refine ⟨ret_of ?_, HW.out.more nq⟩
          have e1 : ordI (x : Int) (y : Int) = -1 := by unfold ordI; rw [if_pos (by omega)]
          have e2 := val_lt_of hx.1 HL.out (k := p) (by omega) (fun j hj => HE.out j hj) (by rw [hx1.out, hy1.out]; exact h)
          rw [e1]; unfold ordI; rw [if_pos (by omega)]
        · subst h
          have ht : (ordI (x : Int) (x : Int) != 0) = false := by unfold ordI; rw [if_neg (by omega), if_neg (by omega)]; rfl
          go_wp2
          go_quiet ((go_at_call 55; exact Calls.quiet_of_same (cmp_u32 _ _ _)))
          go_wp2
          go_roundw
          case rel => exact ⟨p, by omega, by go_num, fun j hj => by
            rcases Nat.lt_or_ge j (p + 1) with h | h
            · have : j = p := by omega
              rw [this, hx1.out, hy1.out]
            · exact HE.out j h, HW.out.more nq⟩
          case measure => first | (simp [intOf]; done) | (simp [intOf]; omega)
        · have ht : (ordI (x : Int) (y : Int) != 0) = true := by rw [bne_iff_ne]; unfold ordI; rw [if_neg (by omega), if_pos (by omega)]; decide
          go_wp2
          go_quiet ((go_at_call 55; exact Calls.quiet_of_same (cmp_u32 _ _ _)))
          go_wp2
          go_ret
          refine ⟨ret_of ?_, HW.out.more nq⟩
          have e1 : ordI (x : Int) (y : Int) = 1 := by unfold ordI; rw [if_neg (by omega), if_pos (by omega)]
          have e2 := val_lt_of hy.1 HL.out.symm (k := p) hlt2 (fun j hj => (HE.out j hj).symm) (by rw [hx1.out, hy1.out]; exact h)
          rw [e1]; unfold ordI; rw [if_neg (by omega), if_pos (by omega)]
  · have hne : (ordI (xs.length : Int) (ys.length : Int) != 0) = true := by
      rw [bne_iff_ne]; unfold ordI; split
      · decide
      · split
        · decide
        · omega
    have HL := Lib.hid hl
    clear hl
    go_enter Tryd.func35, Tryd.ntmps35
    go_wp2_with (first | (go_at_call 54; refine (cmp_int _ _ _).mono ?_; rintro e w' ⟨rfl, rfl⟩))
    go_ret
    exact ⟨ret_of (ordI_length hx hy HL.out), Drawn.refl _⟩
end Go.Proofs.YtffcacpffamjfaaDoor

/- Contracts of nat.digits.decimal and nat.Text: the decimal text of what a list of digits stands for; at most 100000 digits. The premise 'Tab': the library's table of powers of ten reads as it is laid. -/
import Derived.Test.YthjgfkmnelefpaaGreatDoorText
import Derived.Test.YthjgfkmnelefpaaGreatDoorDec
namespace Go.Proofs.YthjgfkmnelefpaaGreatDoor
open Go.RowKit Go.Lib

theorem formatUint (u : Nat) (hu64 : u < 18446744073709551616) (w : World) (htab : Tab w) :
    Calls Tryz.prog 102 #[.int .u64 u, .int .i64 10] w fun e w' => e = .returned (.string ⟨(Lib.decDigits u).toArray⟩) ∧ Below w.heap.size w w' := by
  go_enter Tryz.func102, Tryz.ntmps102
  go_wp2_with (go_at_call 112; refine (formatUint0 u hu64 _ htab).mono ?_; rintro e w' ⟨rfl, hb⟩)
  go_ret
  exact ⟨rfl, hb⟩

/-- In w the block b is a strings.Builder of this call's own that holds the bytes l. -/
def Bld (b : Nat) (l : List UInt8) (w : World) : Prop := Lib.IsBuilderF 116 5 b b (Lib.byteCells l) w

theorem Bld.below {b : Nat} {l : List UInt8} {w w' : World} (h : Bld b l w) (hb : Below w.heap.size w w') : Bld b l w' := by
  have key : ∀ p, Lib.BuilderAtF 116 5 b b p (Lib.byteCells l) w → Lib.BuilderAtF 116 5 b b p (Lib.byteCells l) w' := by
    intro p hp
    obtain ⟨h1, v, h2, ⟨h3, h4⟩, h5⟩ := hp
    refine ⟨h1, v, (hb.block b (lt_block h2)).trans h2, ⟨h3, ?_⟩, h5⟩
    rcases h4 with h4 | ⟨g, cap, cur, fz, e, hB, hg, r⟩
    · exact .inl h4
    · exact .inr ⟨g, cap, cur, fz, e, hB, (hb.block g (lt_block hg)).trans hg, r⟩
  rcases h with h | h
  · exact .inl (key _ h)
  · exact .inr (key _ h)

theorem writeString (b : Nat) (l m : List UInt8) (w : World) (h : Bld b l w) (hlen : l.length + m.length ≤ 140737488355328) (hb : b < w.heap.size) :
    Calls Tryz.prog 101 #[.pointer (some ⟨b, 0, none⟩), .string ⟨m.toArray⟩] w fun e w' => e = .returned (.tuple #[.int .i64 (m.length : Int), .nilIface]) ∧ Bld b (l ++ m) w' ∧ Below b w w' := by
  have := Any.Builder_WriteString_k (P := Tryz.prog) (ρ := Tryz.lays105_ren) { Tryz.lays105 with } Tryz.Builder_Extra_105 b b (Lib.byteCells l) ⟨m.toArray⟩ w h (by rw [Lib.byteCells_length]; exact hlen) (by omega)
  refine this.mono fun e w' hh => ⟨hh.1, ?_, hh.2.2.1⟩
  have h2 := hh.2.1
  rw [Lib.strCells_toArray, ← Lib.byteCells_append] at h2
  exact .inr h2

theorem val_drop_pos {ds : List Nat} (h : right ds) {k : Nat} (hk : k < ds.length) : 0 < val (ds.drop k) := by
  induction ds generalizing k with
  | nil => simp at hk
  | cons d ds ih =>
    cases k with
    | zero =>
      have := right_pos h (by simp)
      have h2 : 0 < 1000000000 ^ ((d :: ds).length - 1) := Nat.pow_pos (by omega)
      simp only [List.drop_zero]
      omega
    | succ k => exact ih (right_tail h) (by simpa using hk)

theorem decDigits_len {n k : Nat} (h : n < 1000000000 ^ k) (hk : 0 < k) : (decDigits n).length ≤ 9 * k := by
  rw [Lib.decDigits_length]
  have : nDigits n ≤ (9 * k - 1) + 1 := nDigits_le _ _ (by
    rw [show 9 * k - 1 + 1 = 9 * k from by omega, Nat.pow_mul]; exact h)
  omega

set_option maxRecDepth 100000 in
set_option maxHeartbeats 2000000 in
theorem decimal_any {w : World} {A : Option Addr} {c : Nat} {xs : List Nat} (hr : Row w A (u32s xs)) (hx : right xs) (hlen : xs.length ≤ 100000) (htab : Tab w) (hw : 3 ≤ w.heap.size) :
    Calls Tryz.prog 95 #[.slice A xs.length c] w fun e w' => e = .returned (.string ⟨(decDigits (val xs)).toArray⟩) ∧ Below w.heap.size w w' := by
  have HT := Lib.hid htab
  clear htab
  rcases Nat.eq_zero_or_pos xs.length with h0 | hpos
  · obtain rfl : xs = [] := List.eq_nil_of_length_eq_zero h0
    go_enter Tryz.func95, Tryz.ntmps95
    go_wp2_with (go_at_call 92; refine (none_any _ _ _ _).mono ?_; rintro e w' ⟨rfl, rfl⟩)
    go_ret
    exact ⟨by rw [decDigits_small (by decide)]; rfl, Below.refl _ _⟩
  · have hne : ((xs.length : Int) == 0) = false := by rw [beq_eq_false_iff_ne]; omega
    have hx' := small_mono hx.1 (show 1000000000 ≤ 4294967296 by decide)
    have q1 : ∀ (p : Nat) (W : World), Below w.heap.size w W → Calls Tryz.prog 96 #[.slice A xs.length c, .int .i64 p] W (fun e w' => e = .returned (.int .u64 ((xs.getD p 0 : Nat) : Int)) ∧ W = w') := fun p W hW => by
      have := at_any (c := c) (hr.below hW) hx' p (by omega)
      rw [Int.toNat_natCast] at this; exact this
    have Q1 := Lib.hid q1
    clear q1
    obtain ⟨x0, hx0⟩ : ∃ x, x = xs.getD (xs.length - 1) 0 := ⟨_, rfl⟩
    have hb0 : x0 < 1000000000 := by rw [hx0]; exact small_getD hx.1 (by decide) _
    have HX0 := Lib.hid hx0
    clear hx0
    go_enter Tryz.func95, Tryz.ntmps95
    go_wp2_with (go_at_call 92; refine (none_any _ _ _ _).mono ?_; rintro e w' ⟨rfl, rfl⟩)
    have bA : Below w.heap.size w (w.alloc (Obj.cells #[Value.pointer none, Value.slice none 0 0] 116)) := (Below.refl _ _).alloc (Nat.le_refl _) _
    have hB0 : Bld w.heap.size [] (w.alloc (Obj.cells #[Value.pointer none, Value.slice none 0 0] 116)) := Lib.IsBuilderF.of (Lib.fresh_isBuilder 116 5 w)
    have hS0 : w.heap.size < (w.alloc (Obj.cells #[Value.pointer none, Value.slice none 0 0] 116)).heap.size := by simp
    rw [show ((xs.length : Int) - 1) = ((xs.length - 1 : Nat) : Int) from by omega]
    generalize w.alloc (Obj.cells #[Value.pointer none, Value.slice none 0 0] 116) = w1 at *
    refine (Q1.out _ _ bA).mono ?_
    rintro e w' ⟨rfl, rfl⟩
    rw [← HX0.out]
    go_wp2_with fail
    refine (formatUint x0 (by omega) w1 (HT.out.below bA hw)).mono ?_
    rintro e w2 ⟨rfl, hb2⟩
    have hB2 := hB0.below hb2
    have hS2 := hb2.size
    have bA2 : Below w.heap.size w w2 := bA.trans (hb2.mono (by omega))
    clear hB0 hb2 bA
    have hl0 : (decDigits x0).length ≤ 9 := by rw [Lib.decDigits_length]; exact nDigits_le9 hb0
    go_wp2_with fail
    refine (writeString w.heap.size [] (decDigits x0) w2 hB2 (by simp; omega) (by omega)).mono ?_
    rintro e w3 ⟨rfl, hB3, hb3⟩
    have hS3 := hb3.size
    have bA3 : Below w.heap.size w w3 := bA2.trans hb3
    clear hB2 bA2 hb3
    have hend : decDigits x0 = decDigits (val (xs.drop (xs.length - 1))) := by
      rw [val_drop xs _ (by omega), List.drop_of_length_le (by omega), HX0.out]; simp [val]
    have HE := Lib.hid hend
    clear hend
    have hpw : ∀ k, (decDigits (val (xs.drop k))).length ≤ 900000 := fun k => by
      refine Nat.le_trans (decDigits_len (k := xs.length) (Nat.lt_of_lt_of_le (val_lt (small_drop hx.1 k)) (Nat.pow_le_pow_right (by omega) (by simp))) hpos) (by omega)
    have HP := Lib.hid hpw
    clear hpw
    go_wp2_with fail
    go_loopw [5] (fun i wr => ∃ (k : Nat) (l : List UInt8), k ≤ xs.length - 1 ∧ i = .int .i64 ((k : Int) - 1) ∧ Hid (l = decDigits (val (xs.drop k))) ∧ Bld w.heap.size l wr ∧ Below w.heap.size w wr ∧ w.heap.size < wr.heap.size)
      (fun i _ => (RowKit.intOf i + 1).toNat)
    case atStart => exact ⟨xs.length - 1, decDigits x0, Nat.le_refl _, rfl, HE, hB3, bA3, by omega⟩
    case round =>
      obtain ⟨k, l, hk, rfl, HL, hBr, hbr, hsr⟩ := hrel
      rcases Nat.eq_zero_or_pos k with rfl | hkp
      · go_wp2_with fail
        refine (Tryz.Builder_String_any_k w.heap.size w.heap.size l wr hBr (by omega)).mono ?_
        rintro e w4 ⟨rfl, _, hb4, _⟩
        go_wp2
        go_ret
        exact ⟨by rw [HL.out]; rfl, hbr.trans hb4⟩
      · obtain ⟨p, rfl⟩ : ∃ p, k = p + 1 := ⟨k - 1, by omega⟩
        rw [show ((p + 1 : Nat) : Int) - 1 = (p : Int) from by omega]
        obtain ⟨x, hxe⟩ : ∃ x, x = xs.getD p 0 := ⟨_, rfl⟩
        have hxb : x < 1000000000 := by rw [hxe]; exact small_getD hx.1 (by decide) _
        have HXE := Lib.hid hxe
        clear hxe
        have hl1 : (decDigits x).length ≤ 9 := by rw [Lib.decDigits_length]; exact nDigits_le9 hxb
        obtain ⟨dx, hdx⟩ : ∃ d, d = decDigits x := ⟨_, rfl⟩
        rw [← hdx] at hl1
        have HDX := Lib.hid hdx
        clear hdx
        have hll : l.length ≤ 900000 := by rw [HL.out]; exact HP.out _
        go_wp2_with fail
        refine (Q1.out _ _ hbr).mono ?_
        rintro e w' ⟨rfl, rfl⟩
        rw [← HXE.out]
        go_wp2_with fail
        refine (formatUint x (by omega) wr (HT.out.below hbr hw)).mono ?_
        rintro e w4 ⟨rfl, hb4⟩
        rw [← HDX.out]
        have hB4 := hBr.below hb4
        have hS4 := hb4.size
        have bA4 : Below w.heap.size w w4 := hbr.trans (hb4.mono (by omega))
        clear hb4 hBr hbr
        go_wp2_with fail
        rw [show (9 : Int) - (dx.length : Int) = ((9 - dx.length : Nat) : Int) from by omega]
        refine (Tryz.strings_Repeat ⟨#[48]⟩ (9 - dx.length) w4 (by omega) (show 1 * (9 - dx.length) ≤ _ by omega)).mono ?_
        rintro e w5 ⟨rfl, hb5⟩
        have hB5 := hB4.below hb5
        have hS5 := hb5.size
        have bA5 : Below w.heap.size w w5 := bA4.trans (hb5.mono (by omega))
        clear hb5 hB4 bA4
        go_wp2_with fail
        refine (writeString w.heap.size l (repeatL [48] (9 - dx.length)) w5 hB5 (by rw [repeatL_length]; simp; omega) (by omega)).mono ?_
        rintro e w6 ⟨rfl, hB6, hb6⟩
        have hS6 := hb6.size
        have bA6 : Below w.heap.size w w6 := bA5.trans hb6
        clear hb6 hB5 bA5
        go_wp2_with fail
        refine (writeString w.heap.size _ dx w6 hB6 (by rw [List.length_append, repeatL_length]; simp; omega) (by omega)).mono ?_
        rintro e w7 ⟨rfl, hB7, hb7⟩
        have hS7 := hb7.size
        have bA7 : Below w.heap.size w w7 := bA6.trans hb7
        clear hb7 hB6 bA6
        go_wp2
        go_roundw
        case rel => exact ⟨p, _, by omega, by go_num, by
          show _ = _
          rw [HL.out, val_drop xs p (by omega), ← HXE.out, decDigits_base (val_drop_pos hx (by omega)) hxb, HDX.out, Lib.decDigits_length, List.append_assoc], hB7, bA7, by omega⟩
        case measure => first | (simp [RowKit.intOf]; done) | (simp [RowKit.intOf]; omega)

set_option maxRecDepth 100000 in
/-- nat.Text. -/
theorem text_any {w : World} {A : Option Addr} {c : Nat} {ds : List Nat} (hr : Row w A (u32s ds)) (hd : small 4294967296 ds) (hlen : ds.length ≤ 10000) (htab : Tab w) (hw : 3 ≤ w.heap.size) :
    Calls Tryz.prog 85 #[.slice A ds.length c] w fun e w' => e = .returned (.string ⟨(decDigits (val ds)).toArray⟩) ∧ Below w.heap.size w w' := by
  have HT := Lib.hid htab
  clear htab
  have hfield := run_field
  go_enter Tryz.func85, Tryz.ntmps85
  go_wp2_with fail
  refine (of_any hr hd (by omega)).mono ?_
  rintro e w2 ⟨v2, rfl, ⟨ys, hy, hyv, hyo⟩, hb2⟩
  obtain ⟨A2, c2, rfl, hry, _⟩ := hyo.slice32
  have hyl : ys.length ≤ 100000 := Nat.le_trans (right_length_le hy (by rw [hyv]; exact val_lt32 hd)) (by omega)
  have hs2 := hb2.size
  go_wp2_with fail
  refine (decimal_any hry hy hyl (HT.out.below hb2 hw) (by omega)).mono ?_
  rintro e w3 ⟨rfl, hb3⟩
  go_wp2
  go_ret
  exact ⟨rfl, hb2.trans (hb3.mono hs2)⟩
end Go.Proofs.YthjgfkmnelefpaaGreatDoor

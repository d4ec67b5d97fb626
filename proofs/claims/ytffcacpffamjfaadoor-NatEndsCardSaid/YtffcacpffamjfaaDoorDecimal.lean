/- Contracts of strconv.FormatUint at base 10 (numbers of 64 bits), of strings.Builder.WriteString, and what decimal texts are. The table internal/strconv.uint64pow10 reads as the program's text lays it (the premise 'Tab'). Plain numbers: decimal texts: how the text of a number follows from the texts of its digits to the base 10^9. No program, no condition. Contracts of nat.digits.decimal and nat.Text: the decimal text of what a list of digits stands for; at most 100000 digits. The premise 'Tab': the library's table of powers of ten reads as it is laid. -/
import Derived.Test.YtffcacpffamjfaaDoorNat1
import Derived.Test.YtffcacpffamjfaaDoorShelf
import Derived.Lib.ItoaMem
import Derived.Lib.Repeat
import Derived.Lib.AppendIntMem
import Derived.WalkSmall
import Derived.Test.YtffcacpffamjfaaDoorMath
namespace Go.Proofs.YtffcacpffamjfaaDoor
open Go.RowKit Go.Lib Go.Sort

/-- The library's table of powers of ten reads as it is laid. -/
def Tab (w : World) : Prop := Lib.TabIs Tryd.prog w "internal/strconv.uint64pow10" .u64 Lib.pow10Tab

theorem Tab.below {w w' : World} {B : Nat} (h : Tab w) (hb : Below B w w') (hB : 3 ≤ B) : Tab w' :=
  Go.var?_below hb (g := 2) (by kernel_rfl) (by omega) h

theorem holds0 (w : World) (T : TypeId) (nd : Nat) (hs : nd ≤ 24) : Holds (fun (b : UInt8) => Value.int .u8 (b.toNat : Int)) (w.alloc (.cells zeros24 T)) w.heap.size 0 (Array.replicate nd (0 : UInt8)) := fun j hj => by
  have hj' : j < nd := by simpa using hj
  refine ⟨?_, World.frozen?_alloc_new _ _ _ _⟩
  rw [World.cell?_alloc_new, zeros24_at _ (by omega), getElem!_pos _ j hj]
  simp
theorem below0 (w : World) (o : Obj) (dk : Array UInt8) (k : Nat) : Below w.heap.size w ((putRow (fun (b : UInt8) => Value.int .u8 (b.toNat : Int)) (w.alloc o) w.heap.size 0 dk).drewN k) := by
  rw [alloc_eq_grow]
  obtain ⟨os', _, e⟩ := putRow_grow_new (fun (b : UInt8) => Value.int .u8 (b.toNat : Int)) w #[o] w.heap.size 0 dk (Nat.le_refl _)
  rw [e]
  exact Lib.below_grow w.heap.size w (Nat.le_refl _) k os'

set_option maxHeartbeats 6400000 in
set_option maxRecDepth 100000 in
theorem formatUint0 (u : Nat) (hu64 : u < 18446744073709551616) (w : World) (htab : Tab w) :
    Calls Tryd.prog 62 #[.int .u64 u, .int .i64 10] w fun e w' => e = .returned (.string ⟨(Lib.decDigits u).toArray⟩) ∧ Below w.heap.size w w' := by
  by_cases hs : u < 100
  · go_enter Tryd.func62, Tryd.ntmps62
    go_wp2_with (go_at_call 73; refine (Tryd.internal_strconv_small u hs _).mono ?_; rintro e w' ⟨rfl, hw⟩)
    go_ret
    exact ⟨rfl, hw ▸ Below.refl _ _⟩
  · have hu1 : 1 ≤ u := by omega
    have hnd20 : Lib.nDigits u ≤ 20 := by have := Lib.numDigits_eq u hu1 hu64; split at this <;> omega
    have hb3 : Lib.nDigits u ≤ 24 := by omega
    have hal : Tryd.prog.arrayLen 96 = 24 := by kernel_rfl
    have hsl1 : ∀ W, (Instr.sliceAt 96 (.pointer (some ⟨w.heap.size, 0, none⟩)) none (some (.int .i64 (Lib.nDigits u : Int))) none).run Tryd.prog W = .ok (.slice (some ⟨w.heap.size, 0, none⟩) (Lib.nDigits u) 24) W := fun W => by
      rw [run_sliceAt_array_h W 96 ⟨w.heap.size, 0, none⟩ (by kernel_rfl) .i64 (Lib.nDigits u : Int) (by omega) (by rw [hal]; omega)]
      go_simp
    have hH0 := holds0 w 96 (Lib.nDigits u) (by omega)
    have hfmt := Tryd.internal_strconv_formatBase10 w.heap.size 0 24 u (Array.replicate (Lib.nDigits u) 0) (w.alloc (.cells Lib.zeros24 96)) hH0 (by rw [Array.size_replicate]; exact Lib.lt_pow_nDigits u) hu64 (by rw [Array.size_replicate]; omega)
    rw [Array.size_replicate] at hfmt
    have HH0 := Lib.hid hH0
    have HT := Lib.hid htab
    have HF := Lib.hid hfmt
    clear hH0 hal htab hfmt
    go_enter Tryd.func62, Tryd.ntmps62
    go_wp2_with (first
      | (go_at_call 74; refine (Tryd.internal_strconv_numDigits u hu1 hu64 _ (Lib.tabIs_alloc HT.out _)).mono ?_; rintro e w' ⟨rfl, rfl⟩))
    go_at_call 75
    refine HF.out.mono ?_
    rintro e w' ⟨rfl, k, v', dk, rfl, hF⟩
    have hcv : (convert 52 9 (.slice (some ⟨w.heap.size, 0, none⟩) (Lib.nDigits u) 24)).run Tryd.prog ((putRow (fun (b : UInt8) => Value.int .u8 (b.toNat : Int)) (w.alloc (.cells Lib.zeros24 96)) w.heap.size 0 dk).drewN k) = .ok (.string ⟨(Lib.decDigits u).toArray⟩) ((putRow (fun (b : UInt8) => Value.int .u8 (b.toNat : Int)) (w.alloc (.cells Lib.zeros24 96)) w.heap.size 0 dk).drewN k) := by
      have h := run_convert_bytes_back (P := Tryd.prog) ((putRow (fun (b : UInt8) => Value.int .u8 (b.toNat : Int)) (w.alloc (.cells Lib.zeros24 96)) w.heap.size 0 dk).drewN k) 52 9 5 ⟨w.heap.size, 0, none⟩ 24 (Lib.decDigits u) Tryd.underlying52 Tryd.underlying5 Tryd.underlying9 (fun j hj => by
        rw [Lib.row_is_numeral hF j hj, Lib.add_plain, World.cell?_drewN]
        exact cell?_putRow (fun (b : UInt8) => Value.int .u8 (b.toNat : Int)) _ w.heap.size 0 _ dk HH0.out (by rw [hF.size, Array.size_replicate]) j (by rw [hF.size]; rw [Lib.decDigits_length] at hj; exact hj))
      rw [Lib.decDigits_length] at h
      exact h
    go_wp2
    go_ret
    exact ⟨rfl, below0 w _ dk k⟩
end Go.Proofs.YtffcacpffamjfaaDoor

namespace Go.Proofs.YtffcacpffamjfaaDoor
open Go.Lib

/-- The last k decimal digits of v, with noughts ahead. -/
def pad : Nat → Nat → List UInt8
  | 0, _ => []
  | k + 1, v => pad k (v / 10) ++ [UInt8.ofNat (48 + v % 10)]

theorem decDigits_small {u : Nat} (h : u < 10) : decDigits u = [UInt8.ofNat (48 + u)] := by rw [decDigits, dif_pos h]
theorem decDigits_big {u : Nat} (h : ¬ u < 10) : decDigits u = decDigits (u / 10) ++ [UInt8.ofNat (48 + u % 10)] := by rw [decDigits, dif_neg h]

theorem decDigits_pad (k : Nat) : ∀ u v : Nat, 0 < u → v < 10 ^ k → decDigits (u * 10 ^ k + v) = decDigits u ++ pad k v := by
  induction k with
  | zero =>
    intro u v hu hv
    have : v = 0 := by simpa using hv
    subst this
    simp [pad]
  | succ k ih =>
    intro u v hu hv
    have hp : 0 < 10 ^ k := Nat.pow_pos (by decide)
    have h1 : u * 10 ^ (k + 1) = 10 * (u * 10 ^ k) := by rw [Nat.pow_succ, Nat.mul_comm 10, Nat.mul_assoc]
    have h2 : 1 ≤ u * 10 ^ k := Nat.mul_pos hu hp
    rw [h1]
    have h3 : v / 10 < 10 ^ k := by
      rw [Nat.pow_succ] at hv
      omega
    rw [decDigits_big (by omega)]
    have e1 : (10 * (u * 10 ^ k) + v) / 10 = u * 10 ^ k + v / 10 := by omega
    have e2 : (10 * (u * 10 ^ k) + v) % 10 = v % 10 := by omega
    rw [e1, e2, ih u (v / 10) hu h3, List.append_assoc]
    rfl

theorem pad_zero (k : Nat) : pad k 0 = List.replicate k 48 := by
  induction k with
  | zero => rfl
  | succ k ih => rw [pad, Nat.zero_div, ih, List.replicate_succ']; rfl

theorem pad_eq (k : Nat) : ∀ v : Nat, v < 10 ^ (k + 1) → pad (k + 1) v = List.replicate (k + 1 - nDigits v) 48 ++ decDigits v := by
  induction k with
  | zero =>
    intro v hv
    have hv' : v < 10 := by simpa using hv
    rw [pad, nDigits_small hv', decDigits_small hv', Nat.mod_eq_of_lt hv']
    rfl
  | succ k ih =>
    intro v hv
    rcases Nat.lt_or_ge v 10 with h | h
    · rw [pad, Nat.div_eq_of_lt h, pad_zero, nDigits_small h, decDigits_small h, Nat.mod_eq_of_lt h]
      rfl
    · have h1 : v / 10 < 10 ^ (k + 1) := Nat.div_lt_of_lt_mul (by rw [Nat.mul_comm, ← Nat.pow_succ]; exact hv)
      have h2 : nDigits v = nDigits (v / 10) + 1 := nDigits_big (by omega)
      have h3 : decDigits v = decDigits (v / 10) ++ [UInt8.ofNat (48 + v % 10)] := decDigits_big (by omega)
      have h4 : pad (k + 1 + 1) v = pad (k + 1) (v / 10) ++ [UInt8.ofNat (48 + v % 10)] := rfl
      rw [h4, ih (v / 10) h1, h2, h3, List.append_assoc, show k + 1 + 1 - (nDigits (v / 10) + 1) = k + 1 - nDigits (v / 10) from by omega]

theorem nDigits_le (k : Nat) : ∀ v : Nat, v < 10 ^ (k + 1) → nDigits v ≤ k + 1 := by
  induction k with
  | zero =>
    intro v hv
    rw [nDigits_small (by simpa using hv)]; exact Nat.le_refl _
  | succ k ih =>
    intro v hv
    rcases Nat.lt_or_ge v 10 with h | h
    · rw [nDigits_small h]; omega
    · have h1 : v / 10 < 10 ^ (k + 1) := Nat.div_lt_of_lt_mul (by rw [Nat.mul_comm, ← Nat.pow_succ]; exact hv)
      rw [nDigits_big (by omega)]
      have := ih _ h1
      omega
theorem nDigits_le9 {v : Nat} (h : v < 1000000000) : nDigits v ≤ 9 := nDigits_le 8 v h

theorem repeat48 (k : Nat) : repeatL [48] k = List.replicate k 48 := by
  induction k with
  | zero => rfl
  | succ k ih => rw [repeatL, ih]; rfl

/-- The text of a number whose last digit to the base 10^9 is v. -/
theorem decDigits_base {u v : Nat} (hu : 0 < u) (hv : v < 1000000000) : decDigits (v + 1000000000 * u) = decDigits u ++ (repeatL [48] (9 - nDigits v) ++ decDigits v) := by
  have h := decDigits_pad 9 u v hu hv
  rw [show u * 10 ^ 9 + v = v + 1000000000 * u from by omega] at h
  rw [h, repeat48, pad_eq 8 v hv]
end Go.Proofs.YtffcacpffamjfaaDoor

namespace Go.Proofs.YtffcacpffamjfaaDoor
open Go.RowKit Go.Lib

theorem formatUint (u : Nat) (hu64 : u < 18446744073709551616) (w : World) (htab : Tab w) :
    Calls Tryd.prog 51 #[.int .u64 u, .int .i64 10] w fun e w' => e = .returned (.string ⟨(Lib.decDigits u).toArray⟩) ∧ Below w.heap.size w w' := by
  go_enter Tryd.func51, Tryd.ntmps51
  go_wp2_with (go_at_call 62; refine (formatUint0 u hu64 _ htab).mono ?_; rintro e w' ⟨rfl, hb⟩)
  go_ret
  exact ⟨rfl, hb⟩

/-- In w the block b is a strings.Builder of this call's own that holds the bytes l. -/
def Bld (b : Nat) (l : List UInt8) (w : World) : Prop := Lib.IsBuilderF 69 5 b b (Lib.byteCells l) w

theorem Bld.below {b : Nat} {l : List UInt8} {w w' : World} (h : Bld b l w) (hb : Below w.heap.size w w') : Bld b l w' := by
  have key : ∀ p, Lib.BuilderAtF 69 5 b b p (Lib.byteCells l) w → Lib.BuilderAtF 69 5 b b p (Lib.byteCells l) w' := by
    intro p hp
    obtain ⟨h1, v, h2, ⟨h3, h4⟩, h5⟩ := hp
    refine ⟨h1, v, (hb.block b (lt_block h2)).trans h2, ⟨h3, ?_⟩, h5⟩
    rcases h4 with h4 | ⟨g, cap, cur, fz, e, hB, hg, r⟩
    · exact .inl h4
    · exact .inr ⟨g, cap, cur, fz, e, hB, (hb.block g (lt_block hg)).trans hg, r⟩
  rcases h with h | h
  · exact .inl (key _ h)
  · exact .inr (key _ h)

theorem writeString (b : Nat) (l m : List UInt8) (w : World) (h : Bld b l w) (hlen : l.length + m.length ≤ 140737488355328) (hb : b < w.heap.size) :
    Calls Tryd.prog 50 #[.pointer (some ⟨b, 0, none⟩), .string ⟨m.toArray⟩] w fun e w' => e = .returned (.tuple #[.int .i64 (m.length : Int), .nilIface]) ∧ Bld b (l ++ m) w' ∧ Below b w w' := by
  have := Any.Builder_WriteString_k (P := Tryd.prog) (ρ := Tryd.lays105_ren) { Tryd.lays105 with } Tryd.Builder_Extra_105 b b (Lib.byteCells l) ⟨m.toArray⟩ w h (by rw [Lib.byteCells_length]; exact hlen) (by omega)
  refine this.mono fun e w' hh => ⟨hh.1, ?_, hh.2.2.1⟩
  have h2 := hh.2.1
  rw [Lib.strCells_toArray, ← Lib.byteCells_append] at h2
  exact .inr h2

theorem val_drop_pos {ds : List Nat} (h : right ds) {k : Nat} (hk : k < ds.length) : 0 < val (ds.drop k) := by
  induction ds generalizing k with
  | nil => simp at hk
  | cons d ds ih =>
    cases k with
    | zero =>
      have := right_pos h (by simp)
      have h2 : 0 < 1000000000 ^ ((d :: ds).length - 1) := Nat.pow_pos (by omega)
      simp only [List.drop_zero]
      omega
    | succ k => exact ih (right_tail h) (by simpa using hk)

theorem decDigits_len {n k : Nat} (h : n < 1000000000 ^ k) (hk : 0 < k) : (decDigits n).length ≤ 9 * k := by
  rw [Lib.decDigits_length]
  have : nDigits n ≤ (9 * k - 1) + 1 := nDigits_le _ _ (by
    rw [show 9 * k - 1 + 1 = 9 * k from by omega, Nat.pow_mul]; exact h)
  omega

set_option maxRecDepth 100000 in
set_option maxHeartbeats 2000000 in
theorem decimal_any {w : World} {A : Option Addr} {c : Nat} {xs : List Nat} (hr : Row w A (u32s xs)) (hx : right xs) (hlen : xs.length ≤ 100000) (htab : Tab w) (hw : 3 ≤ w.heap.size) :
    Calls Tryd.prog 33 #[.slice A xs.length c] w fun e w' => e = .returned (.string ⟨(decDigits (val xs)).toArray⟩) ∧ Below w.heap.size w w' := by
  have HT := Lib.hid htab
  clear htab
  rcases Nat.eq_zero_or_pos xs.length with h0 | hpos
  · obtain rfl : xs = [] := List.eq_nil_of_length_eq_zero h0
    go_enter Tryd.func33, Tryd.ntmps33
    go_wp2_with (go_at_call 28; refine (none_any _ _ _ _).mono ?_; rintro e w' ⟨rfl, rfl⟩)
    go_ret
    exact ⟨by rw [decDigits_small (by decide)]; rfl, Below.refl _ _⟩
  · have hne : ((xs.length : Int) == 0) = false := by rw [beq_eq_false_iff_ne]; omega
    have hx' := small_mono hx.1 (show 1000000000 ≤ 4294967296 by decide)
    have q1 : ∀ (p : Nat) (W : World), Below w.heap.size w W → Calls Tryd.prog 47 #[.slice A xs.length c, .int .i64 p] W (fun e w' => e = .returned (.int .u64 ((xs.getD p 0 : Nat) : Int)) ∧ W = w') := fun p W hW => by
      have := at_any (c := c) (hr.below hW) hx' p (by omega)
      rw [Int.toNat_natCast] at this; exact this
    have Q1 := Lib.hid q1
    clear q1
    obtain ⟨x0, hx0⟩ : ∃ x, x = xs.getD (xs.length - 1) 0 := ⟨_, rfl⟩
    have hb0 : x0 < 1000000000 := by rw [hx0]; exact small_getD hx.1 (by decide) _
    have HX0 := Lib.hid hx0
    clear hx0
    go_enter Tryd.func33, Tryd.ntmps33
    go_wp2_with (go_at_call 28; refine (none_any _ _ _ _).mono ?_; rintro e w' ⟨rfl, rfl⟩)
    have bA : Below w.heap.size w (w.alloc (Obj.cells #[Value.pointer none, Value.slice none 0 0] 69)) := (Below.refl _ _).alloc (Nat.le_refl _) _
    have hB0 : Bld w.heap.size [] (w.alloc (Obj.cells #[Value.pointer none, Value.slice none 0 0] 69)) := Lib.IsBuilderF.of (Lib.fresh_isBuilder 69 5 w)
    have hS0 : w.heap.size < (w.alloc (Obj.cells #[Value.pointer none, Value.slice none 0 0] 69)).heap.size := by simp
    rw [show ((xs.length : Int) - 1) = ((xs.length - 1 : Nat) : Int) from by omega]
    generalize w.alloc (Obj.cells #[Value.pointer none, Value.slice none 0 0] 69) = w1 at *
    refine (Q1.out _ _ bA).mono ?_
    rintro e w' ⟨rfl, rfl⟩
    rw [← HX0.out]
    go_wp2_with fail
    refine (formatUint x0 (by omega) w1 (HT.out.below bA hw)).mono ?_
    rintro e w2 ⟨rfl, hb2⟩
    have hB2 := hB0.below hb2
    have hS2 := hb2.size
    have bA2 : Below w.heap.size w w2 := bA.trans (hb2.mono (by omega))
    clear hB0 hb2 bA
    have hl0 : (decDigits x0).length ≤ 9 := by rw [Lib.decDigits_length]; exact nDigits_le9 hb0
    go_wp2_with fail
    refine (writeString w.heap.size [] (decDigits x0) w2 hB2 (by simp; omega) (by omega)).mono ?_
    rintro e w3 ⟨rfl, hB3, hb3⟩
    have hS3 := hb3.size
    have bA3 : Below w.heap.size w w3 := bA2.trans hb3
    clear hB2 bA2 hb3
    have hend : decDigits x0 = decDigits (val (xs.drop (xs.length - 1))) := by
      rw [val_drop xs _ (by omega), List.drop_of_length_le (by omega), HX0.out]; simp [val]
    have HE := Lib.hid hend
    clear hend
    have hpw : ∀ k, (decDigits (val (xs.drop k))).length ≤ 900000 := fun k => by
      refine Nat.le_trans (decDigits_len (k := xs.length) (Nat.lt_of_lt_of_le (val_lt (small_drop hx.1 k)) (Nat.pow_le_pow_right (by omega) (by simp))) hpos) (by omega)
    have HP := Lib.hid hpw
    clear hpw
    go_wp2_with fail
    go_loopw [5] (fun i wr => ∃ (k : Nat) (l : List UInt8), k ≤ xs.length - 1 ∧ i = .int .i64 ((k : Int) - 1) ∧ Hid (l = decDigits (val (xs.drop k))) ∧ Bld w.heap.size l wr ∧ Below w.heap.size w wr ∧ w.heap.size < wr.heap.size)
      (fun i _ => (RowKit.intOf i + 1).toNat)
    case atStart => exact ⟨xs.length - 1, decDigits x0, Nat.le_refl _, rfl, HE, hB3, bA3, by omega⟩
    case round =>
      obtain ⟨k, l, hk, rfl, HL, hBr, hbr, hsr⟩ := hrel
      rcases Nat.eq_zero_or_pos k with rfl | hkp
      · go_wp2_with fail
        refine (Tryd.Builder_String_any_k w.heap.size w.heap.size l wr hBr (by omega)).mono ?_
        rintro e w4 ⟨rfl, _, hb4, _⟩
        go_wp2
        go_ret
        exact ⟨by rw [HL.out]; rfl, hbr.trans hb4⟩
      · obtain ⟨p, rfl⟩ : ∃ p, k = p + 1 := ⟨k - 1, by omega⟩
        rw [show ((p + 1 : Nat) : Int) - 1 = (p : Int) from by omega]
        obtain ⟨x, hxe⟩ : ∃ x, x = xs.getD p 0 := ⟨_, rfl⟩
        have hxb : x < 1000000000 := by rw [hxe]; exact small_getD hx.1 (by decide) _
        have HXE := Lib.hid hxe
        clear hxe
        have hl1 : (decDigits x).length ≤ 9 := by rw [Lib.decDigits_length]; exact nDigits_le9 hxb
        obtain ⟨dx, hdx⟩ : ∃ d, d = decDigits x := ⟨_, rfl⟩
        rw [← hdx] at hl1
        have HDX := Lib.hid hdx
        clear hdx
        have hll : l.length ≤ 900000 := by rw [HL.out]; exact HP.out _
        go_wp2_with fail
        refine (Q1.out _ _ hbr).mono ?_
        rintro e w' ⟨rfl, rfl⟩
        rw [← HXE.out]
        go_wp2_with fail
        refine (formatUint x (by omega) wr (HT.out.below hbr hw)).mono ?_
        rintro e w4 ⟨rfl, hb4⟩
        rw [← HDX.out]
        have hB4 := hBr.below hb4
        have hS4 := hb4.size
        have bA4 : Below w.heap.size w w4 := hbr.trans (hb4.mono (by omega))
        clear hb4 hBr hbr
        go_wp2_with fail
        rw [show (9 : Int) - (dx.length : Int) = ((9 - dx.length : Nat) : Int) from by omega]
        refine (Tryd.strings_Repeat ⟨#[48]⟩ (9 - dx.length) w4 (by omega) (show 1 * (9 - dx.length) ≤ _ by omega)).mono ?_
        rintro e w5 ⟨rfl, hb5⟩
        have hB5 := hB4.below hb5
        have hS5 := hb5.size
        have bA5 : Below w.heap.size w w5 := bA4.trans (hb5.mono (by omega))
        clear hb5 hB4 bA4
        go_wp2_with fail
        refine (writeString w.heap.size l (repeatL [48] (9 - dx.length)) w5 hB5 (by rw [repeatL_length]; simp; omega) (by omega)).mono ?_
        rintro e w6 ⟨rfl, hB6, hb6⟩
        have hS6 := hb6.size
        have bA6 : Below w.heap.size w w6 := bA5.trans hb6
        clear hb6 hB5 bA5
        go_wp2_with fail
        refine (writeString w.heap.size _ dx w6 hB6 (by rw [List.length_append, repeatL_length]; simp; omega) (by omega)).mono ?_
        rintro e w7 ⟨rfl, hB7, hb7⟩
        have hS7 := hb7.size
        have bA7 : Below w.heap.size w w7 := bA6.trans hb7
        clear hb7 hB6 bA6
        go_wp2
        go_roundw
        case rel => exact ⟨p, _, by omega, by go_num, by
          show _ = _
          rw [HL.out, val_drop xs p (by omega), ← HXE.out, decDigits_base (val_drop_pos hx (by omega)) hxb, HDX.out, Lib.decDigits_length, List.append_assoc], hB7, bA7, by omega⟩
        case measure => first | (simp [RowKit.intOf]; done) | (simp [RowKit.intOf]; omega)

set_option maxRecDepth 100000 in
/-- nat.Text. -/
theorem text_any {w : World} {A : Option Addr} {c : Nat} {ds : List Nat} (hr : Row w A (u32s ds)) (hd : small 4294967296 ds) (hlen : ds.length ≤ 10000) (htab : Tab w) (hw : 3 ≤ w.heap.size) :
    Calls Tryd.prog 10 #[.slice A ds.length c] w fun e w' => e = .returned (.string ⟨(decDigits (val ds)).toArray⟩) ∧ Below w.heap.size w w' := by
  have HT := Lib.hid htab
  clear htab
  have hfield := run_field
  go_enter Tryd.func10, Tryd.ntmps10
  go_wp2_with fail
  refine (of_any hr hd (by omega)).mono ?_
  rintro e w2 ⟨v2, rfl, ⟨ys, hy, hyv, hyo⟩, hb2⟩
  obtain ⟨A2, c2, rfl, hry, _⟩ := hyo.slice32
  have hyl : ys.length ≤ 100000 := Nat.le_trans (right_length_le hy (by rw [hyv]; exact val_lt32 hd)) (by omega)
  have hs2 := hb2.size
  go_wp2_with fail
  refine (decimal_any hry hy hyl (HT.out.below hb2 hw) (by omega)).mono ?_
  rintro e w3 ⟨rfl, hb3⟩
  go_wp2
  go_ret
  exact ⟨rfl, hb2.trans (hb3.mono hs2)⟩
end Go.Proofs.YtffcacpffamjfaaDoor

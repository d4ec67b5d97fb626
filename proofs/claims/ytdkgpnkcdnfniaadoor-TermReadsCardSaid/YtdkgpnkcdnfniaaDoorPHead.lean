/- Package term's reader, number: of a text that does not begin with a number of so many bits and the sign behind it, ErrSyntax is thrown. strconv.ParseUint at base 10 of any text, at 8, 32 and 62 bits. Package term's reader: cut, skip, end, digits, of a text of which they can not be read: ErrSyntax is thrown. Package term's reader, read: of a text that does not begin with a part's head, ErrSyntax is thrown. -/
import Derived.Test.YtdkgpnkcdnfniaaDoorTRead
import Derived.Test.YtdkgpnkcdnfniaaDoorTRun
import Derived.Laws.Strings3
import Derived.Laws.Closers25
import Derived.Laws.Closers25b
import Derived.BigCall
import Derived.BigGuard
import Derived.Test.YtdkgpnkcdnfniaaDoorTDigs
import Derived.RegionDies
import Derived.Test.YtdkgpnkcdnfniaaDoorTReadP
set_option linter.unusedVariables false
set_option linter.unusedSimpArgs false
namespace Go.Proofs.YtdkgpnkcdnfniaaDoor
open Go.RowKit Go.Lib

/-- What internal/strconv.ParseUint tells: a number below 2^62, or an error. -/
def PuIn (w : World) (e : Ending) (w' : World) : Prop := Below w.heap.size w w' ∧ ∃ (v : Nat) (er : Value), e = .returned (.tuple #[.int .u64 v, er]) ∧ v < 18446744073709551616 ∧ ((er = .nilIface ∧ v < 4611686018427387904) ∨ er = .iface 134 (.int .i64 1) ∨ er = .iface 134 (.int .i64 2))
set_option maxHeartbeats 32000000 in
set_option maxRecDepth 100000 in
theorem parse62_any (t : ByteArray) (hne : t.size ≠ 0) (hmax : t.size ≤ 100000000) (w : World) :
    Calls Tryd.prog 71 #[.string t, .int .i64 10, .int .i64 62] w (PuIn w) := by
  have hemp : t.toList.isEmpty = false := by
    rw [← decide_eq_emptyBytes]
    exact decide_eq_false (fun h => hne (by rw [h]; rfl))
  have hcv := Go.Lib.run_convert_string_bytes (P := Tryd.prog) w 9 32 5 t (u := .string) Tryd.underlying9 Tryd.underlying32 Tryd.underlying5
  have hB : ∀ j, j < t.size → (bytesWorld w 5 t).cell? ⟨w.heap.size, j, none⟩ = some (.int .u8 (t.data.toList.getD j 0).toNat) := fun j hj => bytesWorld_cell w 5 t j hj
  have HW := hid (bytesWorld_below w 5 t)
  obtain ⟨W1, hW1⟩ : ∃ W1, W1 = bytesWorld w 5 t := ⟨_, rfl⟩
  rw [← hW1] at hcv hB HW
  have hmv : IntKind.u64.wrap (IntKind.u64.wrap 4611686018427387904 - 1) = 4611686018427387903 := by
    rw [IntKind.wrap_u64, IntKind.wrap_u64]
    decide
  clear hW1
  go_enter Tryd.func71, Tryd.ntmps71
  go_wp2
  go_loop [12, 13, 101] (fun vu vn vi => ∃ (k : Nat) (a : Int), vu = .bool false ∧ vn = .int .u64 a ∧ vi = .int .i64 k ∧ k ≤ t.size ∧ 0 ≤ a ∧ a ≤ 4611686018427387903)
    (fun _ _ vi => t.size - (RowKit.intOf vi).toNat)
  case atStart => exact ⟨0, 0, rfl, rfl, rfl, by omega, by omega, by omega⟩
  case round =>
    obtain ⟨k, a, rfl, rfl, rfl, hk, a0, a1⟩ := hrel
    by_cases hkn : k < t.size
    · have hc := hB k hkn
      generalize t.data.toList.getD k 0 = c at hc
      have hc256 : c.toNat < 256 := c.toNat_lt
      clear hB
      by_cases hdig : 48 ≤ c.toNat ∧ c.toNat ≤ 57
      · obtain ⟨hd0, hd1⟩ := hdig
        by_cases hcut : 1844674407370955162 ≤ a
        · go_wp2
          go_ret2
          exact ⟨HW.out, 4611686018427387903, _, rfl, by decide, .inr (.inl rfl)⟩
        · by_cases hov : 4611686018427387903 < a * 10 + ((c.toNat : Int) - 48)
          · by_cases hov2 : 18446744073709551615 < a * 10 + ((c.toNat : Int) - 48)
            · have ew : IntKind.u64.wrap (a * 10 + ((c.toNat : Int) - 48)) = a * 10 + ((c.toNat : Int) - 48) - 18446744073709551616 := by rw [IntKind.wrap_u64]; omega
              have ew1 : a * 10 + ((c.toNat : Int) - 48) - 18446744073709551616 < a * 10 := by omega
              go_wp2
              go_ret2
              exact ⟨HW.out, 4611686018427387903, _, rfl, by decide, .inr (.inl rfl)⟩
            · go_wp2
              go_ret2
              exact ⟨HW.out, 4611686018427387903, _, rfl, by decide, .inr (.inl rfl)⟩
          · have iov : a * 10 + ((c.toNat : Int) - 48) ≤ 4611686018427387903 := by omega
            have hn0 : 0 ≤ a * 10 + ((c.toNat : Int) - 48) := by omega
            go_wp2
            refine ⟨⟨k + 1, a * 10 + ((c.toNat : Int) - 48), rfl, (by first | rfl | (congr 1; omega)), (by first | rfl | (congr 1; omega)), by omega, hn0, iov⟩, by simp [RowKit.intOf]; omega⟩
      · have hv0 := bits_lo_u8 .or (c.toNat : Int) 32
        have hv1 := bits_hi_u8 .or (c.toNat : Int) 32
        have hu0 := bits_lo_u8 .or 95 32
        have hu1 := bits_hi_u8 .or 95 32
        go_wp2_with (go_at_call 83; refine (Tryd.internal_strconv_lower _ _).mono ?_; rintro e w' ⟨rfl, rfl⟩)
        all_goals go_ret2
        all_goals exact ⟨HW.out, 0, _, rfl, by omega, .inr (.inr rfl)⟩
    · have hkk : k = t.size := by omega
      subst hkk
      obtain ⟨v, rfl⟩ : ∃ v : Nat, (v : Int) = a := ⟨a.toNat, by omega⟩
      have hv : v < 4611686018427387904 := by omega
      go_wp2
      go_ret2
      exact ⟨HW.out, v, _, rfl, by omega, .inl ⟨rfl, hv⟩⟩
/-- The library's two errors are what interfaces hold, whatever happens from block M on. -/
def ErrM (M : Nat) (w : World) : Prop := ∀ W, Below M w W → (∃ ev, W.cell? ⟨2, 0, none⟩ = some ev ∧ (ev = .nilIface ∨ ∃ te pe, ev = .iface te pe)) ∧ ∃ ev, W.cell? ⟨3, 0, none⟩ = some ev ∧ (ev = .nilIface ∨ ∃ te pe, ev = .iface te pe)
theorem ErrM.on {M N : Nat} {w w' : World} (h : ErrM M w) (hb : Below M w w') (hN : M ≤ N) : ErrM N w' := fun W hW => h W (hb.trans ⟨hW.os, hW.tape, hW.output, hW.size, fun k hk => hW.block k (Nat.lt_of_lt_of_le hk hN)⟩)
/-- What strconv.ParseUint tells: a number of so many bits, or an error. -/
def PuOut (bits : Nat) (w : World) (e : Ending) (w' : World) : Prop := Below w.heap.size w w' ∧ ∃ (v : Nat) (er : Value), e = .returned (.tuple #[.int .u64 v, er]) ∧ v < 18446744073709551616 ∧ ((er = .nilIface ∧ v < 2 ^ bits) ∨ ∃ T p, er = .iface T p)
theorem below_or {w w' : World} {t : ByteArray} (h : w' = w ∨ w' = bytesWorld w 5 t) : Below w.heap.size w w' := by
  rcases h with rfl | rfl
  · exact Below.refl _ _
  · exact bytesWorld_below _ _ _
set_option maxHeartbeats 6400000 in
set_option maxRecDepth 100000 in
theorem parse62_out (s : ByteArray) (hs : s.size ≤ 100000000) (w : World) (hE : ErrM w.heap.size w) :
    Calls Tryd.prog 61 #[.string s, .int .i64 10, .int .i64 62] w (PuOut 62 w) := by
  have HC := hid (show Calls Tryd.prog 71 #[.string s, .int .i64 10, .int .i64 62] w (PuIn w) from by
    by_cases hne : s.size = 0
    · have e : s = ⟨#[]⟩ := by
        apply ByteArray.ext
        exact Array.eq_empty_of_size_eq_zero hne
      subst e
      refine (Tryd.internal_strconv_ParseUint_empty 10 62 w).mono ?_
      rintro e w' ⟨rfl, rfl⟩
      exact ⟨Below.refl _ _, 0, _, rfl, by decide, .inr (.inr rfl)⟩
    · exact parse62_any s hne hs w)
  have HE := hid hE
  have hl : s.size ≤ 281474976710656 := by omega
  clear hE hs
  go_enter Tryd.func61, Tryd.ntmps61
  go_wp2_with fail
  refine HC.out.mono ?_
  rintro e w1 ⟨hb1, v, er, rfl, hv, her⟩
  have HB := hid hb1
  obtain ⟨⟨ev, hv1, hev1⟩, ev2, hv2, hev2⟩ := HE.out w1 hb1
  have HV := hid hv
  clear hb1 hv
  rcases her with ⟨rfl, hv62⟩ | rfl | rfl
  · have H62 := hid hv62
    clear hv62 hv1 hv2 hev1 hev2
    go_wp2
    go_ret2
    exact ⟨HB.out, v, _, rfl, HV.out, .inl ⟨rfl, Nat.lt_of_lt_of_le H62.out (by decide)⟩⟩
  · have HR := hid (Tryd.strconv_toError_range ⟨#[80, 97, 114, 115, 101, 85, 105, 110, 116]⟩ s 10 62 ev2 w1 hl hv2 hev2)
    clear hv1 hv2 hev1 hev2 hl
    go_wp2_with (go_at_call 72; refine HR.out.mono ?_; rintro e w' ⟨N, rfl, _, _, hb2⟩; have HB2 := hid hb2; clear hb2)
    go_ret2
    exact ⟨HB.out.trans (HB2.out.mono HB.out.size), v, _, rfl, HV.out, .inr ⟨_, _, rfl⟩⟩
  · have HR := hid (Tryd.strconv_toError_syntax ⟨#[80, 97, 114, 115, 101, 85, 105, 110, 116]⟩ s 10 62 ev w1 hl hv1 hev1)
    clear hv1 hv2 hev1 hev2 hl
    go_wp2_with (go_at_call 72; refine HR.out.mono ?_; rintro e w' ⟨N, rfl, _, _, hb2⟩; have HB2 := hid hb2; clear hb2)
    go_ret2
    exact ⟨HB.out.trans (HB2.out.mono HB.out.size), v, _, rfl, HV.out, .inr ⟨_, _, rfl⟩⟩
theorem parse_out {bits : Nat} (hb : bits = 8 ∨ bits = 32 ∨ bits = 62) (s : ByteArray) (hs : s.size ≤ 100000000) (w : World) (hE : ErrM w.heap.size w) :
    Calls Tryd.prog 61 #[.string s, .int .i64 10, .int .i64 bits] w (PuOut bits w) := by
  obtain ⟨⟨ev, hv1, hev1⟩, ev2, hv2, hev2⟩ := hE w (Below.refl _ _)
  rcases hb with rfl | rfl | rfl
  · cases hP : parseUintB 8 s.data.toList with
    | ok u =>
      have hu := parseUintB_le hP
      refine (Tryd.strconv_ParseUint_10_at8_ok s (by omega) u hP w).mono ?_
      rintro e w' ⟨rfl, h⟩
      have e2 : (2 : Nat) ^ 8 = 256 := by decide
      exact ⟨below_or h, u, _, rfl, by omega, .inl ⟨rfl, by omega⟩⟩
    | range =>
      refine (Tryd.strconv_ParseUint_10_at8_range s (by omega) hP ev2 w hv2 hev2).mono ?_
      rintro e w' ⟨N, rfl, _, _, h⟩
      exact ⟨h, 255, _, rfl, by decide, .inr ⟨_, _, rfl⟩⟩
    | _ =>
      refine (Any.strconv_ParseUint_10_at8_syntax Tryd.laysPu14 s (by omega) hP ev w hv1 hev1).mono ?_
      rintro e w' ⟨N, rfl, _, _, h⟩
      exact ⟨h, 0, _, rfl, by decide, .inr ⟨_, _, rfl⟩⟩
  · cases hP : parseUintB 32 s.data.toList with
    | ok u =>
      have hu := parseUintB_le hP
      refine (Tryd.strconv_ParseUint_10_at32_ok s (by omega) u hP w).mono ?_
      rintro e w' ⟨rfl, h⟩
      have e2 : (2 : Nat) ^ 32 = 4294967296 := by decide
      exact ⟨below_or h, u, _, rfl, by omega, .inl ⟨rfl, by omega⟩⟩
    | range =>
      refine (Tryd.strconv_ParseUint_10_at32_range s (by omega) hP ev2 w hv2 hev2).mono ?_
      rintro e w' ⟨N, rfl, _, _, h⟩
      exact ⟨h, 4294967295, _, rfl, by decide, .inr ⟨_, _, rfl⟩⟩
    | _ =>
      refine (Any.strconv_ParseUint_10_at32_syntax Tryd.laysPu14 s (by omega) hP ev w hv1 hev1).mono ?_
      rintro e w' ⟨N, rfl, _, _, h⟩
      exact ⟨h, 0, _, rfl, by decide, .inr ⟨_, _, rfl⟩⟩
  · exact parse62_out s hs w hE
/-- An error is thrown, and of the old blocks only g has changed. -/
def ZG (g : Nat) (W : World) (n : Int) (w' : World) : Prop := n = 20 ∧ Only g W w'
/-- l begins with a number of so many bits, and s behind it. -/
def NumAt (bits : Nat) (s : UInt8) (l : List UInt8) : Prop := ∃ n rest, n < 2 ^ bits ∧ l = decDigits n ++ s :: rest
theorem cut_is {s : UInt8} : ∀ {l : List UInt8}, (cut l [s]).2.2 = true → l = (cut l [s]).1 ++ s :: (cut l [s]).2.1 := by
  intro l
  unfold cut
  split
  · next h =>
    intro _
    have key : ∀ (l : List UInt8), 0 ≤ Lib.index l [s] → l = l.take (Lib.index l [s]).toNat ++ s :: l.drop ((Lib.index l [s]).toNat + 1) := by
      intro l
      induction l with
      | nil => intro h; exact absurd h (by unfold Lib.index; simp)
      | cons b l ih =>
        intro h
        unfold Lib.index at h ⊢
        by_cases hp : List.isPrefixOf [s] (b :: l) = true
        · have hb : s = b := by
            have hp2 : ((s == b) && List.isPrefixOf [] l) = true := hp
            simp at hp2
            exact hp2
          rw [if_pos hp]
          simp [hb]
        · rw [if_neg hp] at h ⊢
          by_cases h1 : (Lib.index l [s] == -1) = true
          · rw [if_pos h1] at h; exact absurd h (by decide)
          · rw [if_neg h1] at h ⊢
            have h2 := index_ge l [s]
            have h3 : ¬ Lib.index l [s] = -1 := fun e => h1 (by rw [e]; rfl)
            have h4 := ih (by omega)
            have h5 : (Lib.index l [s] + 1).toNat = (Lib.index l [s]).toNat + 1 := by omega
            rw [h5, List.take_succ_cons, List.cons_append, show (Lib.index l [s]).toNat + 1 + 1 = ((Lib.index l [s]).toNat + 1) + 1 from rfl, List.drop_succ_cons]
            exact congrArg (b :: ·) h4
    exact key l h
  · intro h; cases h
set_option maxRecDepth 100000 in
set_option maxHeartbeats 6400000 in
theorem number_bad {W : World} {g bits M : Nat} {s : UInt8} {l : List UInt8} {due : Int} (hb : bits = 8 ∨ bits = 32 ∨ bits = 62) (hno : ¬ NumAt bits s l) (hr : RdC W g l due) (hl : l.length ≤ 100000000) (hM : LibM M W) (hE : ErrM M W) (hMg : M ≤ g) :
    Calls Tryd.prog 45 #[.pointer (some ⟨g, 0, none⟩), .string ⟨#[s]⟩, .int .i64 bits] W (Thrown (ZG g W)) := by
  have hgW : g < W.heap.size := cell_lt hr.c0
  obtain ⟨m, hm⟩ := hM.1 W (Below.refl _ _)
  obtain ⟨ca, hca⟩ : ∃ ca, ca = (cut l [s]).1 := ⟨_, rfl⟩
  obtain ⟨cb, hcb⟩ : ∃ cb, cb = (cut l [s]).2.1 := ⟨_, rfl⟩
  obtain ⟨cf, hcf⟩ : ∃ cf, cf = (cut l [s]).2.2 := ⟨_, rfl⟩
  have HC := hid (show Calls Tryd.prog 60 #[.string ⟨l.toArray⟩, .string ⟨#[s]⟩] W fun e w' => e = .returned (.tuple #[.string ⟨ca.toArray⟩, .string ⟨cb.toArray⟩, .bool cf]) ∧ Below W.heap.size W w' from by
    refine (Tryd.strings_Cut ⟨l.toArray⟩ ⟨#[s]⟩ m W (by show l.toArray.size < _; rw [List.size_toArray]; omega) hm).mono ?_
    rintro e w' ⟨rfl, k, rfl⟩
    have e1 : (⟨l.toArray⟩ : ByteArray).data.toList = l := rfl
    have e2 : (⟨#[s]⟩ : ByteArray).data.toList = [s] := rfl
    rw [e1, e2, hca, hcb, hcf]
    exact ⟨rfl, below_drewN (Below.refl _ _) _⟩)
  have hcl : ca.length ≤ l.length := by
    rw [hca]
    unfold cut
    split
    · exact List.length_take_le' _ _
    · exact Nat.le_refl _
  have hcs : cf = true → l = ca ++ s :: cb := fun h => by rw [hca, hcb]; exact cut_is (by rw [← hcf]; exact h)
  have c0 : W.cell? ⟨g, 0, none⟩ = some (.string ⟨l.toArray⟩) := hr.c0
  obtain ⟨S, hS⟩ : ∃ S : ByteArray, S = ⟨l.toArray⟩ := ⟨_, rfl⟩
  rw [← hS] at HC c0
  obtain ⟨D, hD⟩ : ∃ D : ByteArray, D = ⟨ca.toArray⟩ := ⟨_, rfl⟩
  obtain ⟨R, hR⟩ : ∃ R : ByteArray, R = ⟨cb.toArray⟩ := ⟨_, rfl⟩
  rw [← hD, ← hR] at HC
  have hDs : D.size ≤ 100000000 := by rw [hD]; show ca.toArray.size ≤ _; rw [List.size_toArray]; omega
  have HH := hid (show _ ∧ _ ∧ _ ∧ _ ∧ _ ∧ _ ∧ _ ∧ _ ∧ _ from ⟨hno, hM, hE, hMg, hgW, hcs, hDs, hb, hD⟩)
  clear hb hno hr hl hM hE hMg hgW hm hca hcb hcf hcl hcs hS hD hR hDs
  go_enter Tryd.func45, Tryd.ntmps45
  go_wp2_with fail
  refine HC.out.mono ?_
  rintro e w1 ⟨rfl, b1⟩
  obtain ⟨hno, hM, hE, hMg, hgW, hcs, hDs, hb, hD⟩ := HH.out
  have HP := hid (parse_out hb D hDs w1 (hE.on (Below.mono b1 (by omega)) (by have := b1.size; omega)))
  have B1 := hid b1
  clear b1 HC c0 hno hM hE hMg hgW hcs hDs hb hD
  go_wp2_with fail
  refine HP.out.mono ?_
  rintro e w2 ⟨b2, v, er, rfl, hv, her⟩
  have B2 := hid (B1.out.trans (b2.mono B1.out.size))
  have HZ := hid (show ∀ w', Below W.heap.size W w' → Thrown (ZG g W) (.panicked [{ v := .iface 43 (.int .i64 20), recovered := false }]) w' from fun w' h => ⟨20, rfl, rfl, Only.of h⟩)
  clear b2 HP B1
  rcases her with ⟨rfl, hvb⟩ | ⟨T, p, rfl⟩
  · cases cf with
    | false =>
      clear hv hvb
      go_wp2
      exact ⟨rfl, HZ.out _ B2.out⟩
    | true =>
      have hVs := hid (show _ ∧ _ from ⟨hv, hvb⟩)
      have HF := hid (formatUint v hv w2 ((HH.out.2.1.on (N := M) (Below.mono B2.out (by have := HH.out; omega)) (Nat.le_refl _)).tab))
      obtain ⟨F, hF⟩ : ∃ F : ByteArray, F = ⟨(decDigits v).toArray⟩ := ⟨_, rfl⟩
      rw [← hF] at HF
      have HN := hid (show (F.toList == D.toList) = false from by
        refine beq_eq_false_iff_ne.2 fun e => HH.out.1 ?_
        have e2 : F = D := by
          rw [ByteArray.toList_eq, ByteArray.toList_eq] at e
          exact ByteArray.ext (Array.ext' e)
        rw [hF, HH.out.2.2.2.2.2.2.2.2] at e2
        have e3 : decDigits v = ca := by
          injection e2 with e2
          injection e2
        exact ⟨v, cb, hvb, by rw [e3]; exact HH.out.2.2.2.2.2.1 rfl⟩)
      have hne := HN.out
      clear hv hvb hF
      go_wp2_with fail
      refine HF.out.mono ?_
      rintro e w3 ⟨rfl, b3⟩
      have B3 := hid (B2.out.trans (b3.mono B2.out.size))
      clear b3 HF
      go_wp2
      exact ⟨rfl, HZ.out _ B3.out⟩
  · clear hv
    go_wp2
    all_goals exact ⟨rfl, HZ.out _ B2.out⟩
end Go.Proofs.YtdkgpnkcdnfniaaDoor

namespace Go.Proofs.YtdkgpnkcdnfniaaDoor
open Go.RowKit Go.Lib

set_option maxRecDepth 100000 in
set_option maxHeartbeats 6400000 in
theorem cut_bad {W : World} {g n : Nat} {l : List UInt8} {due : Int} (hn : l.length < n) (hn2 : n < 4611686018427387904) (hr : RdC W g l due) (hl : l.length ≤ 100000000) :
    Calls Tryd.prog 46 #[.pointer (some ⟨g, 0, none⟩), .int .u64 n] W (Thrown (ZG g W)) := by
  have c0 : W.cell? ⟨g, 0, none⟩ = some (.string ⟨l.toArray⟩) := hr.c0
  obtain ⟨S, hS⟩ : ∃ S : ByteArray, S = ⟨l.toArray⟩ := ⟨_, rfl⟩
  have hsz : S.size = l.length := by rw [hS]; exact List.size_toArray ..
  rw [← hS] at c0
  have h1 : (S.size : Int) < (n : Int) := by omega
  have h2 : S.size ≤ 100000000 := by omega
  have HZ := hid (show Thrown (ZG g W) (.panicked [{ v := .iface 43 (.int .i64 20), recovered := false }]) W from ⟨20, rfl, rfl, Only.refl _ _⟩)
  clear hr hl hS hn hsz
  go_enter Tryd.func46, Tryd.ntmps46
  go_wp2
  exact ⟨rfl, HZ.out⟩
theorem pre_no {c : UInt8} {l : List UInt8} (h : ¬ ∃ rest, l = c :: rest) : hasPrefix l [c] = false ∧ trimPrefix l [c] = l := by
  have e : hasPrefix l [c] = false := by
    cases l with
    | nil => rfl
    | cons b l =>
      show ((c == b) && List.isPrefixOf [] l) = false
      have hb : (c == b) = false := beq_eq_false_iff_ne.2 fun e => h ⟨l, by rw [e]⟩
      rw [hb]; rfl
  exact ⟨e, by unfold trimPrefix; rw [e]; rfl⟩
set_option maxRecDepth 100000 in
set_option maxHeartbeats 6400000 in
theorem skip_bad {W : World} {g : Nat} {c : UInt8} {l : List UInt8} {due : Int} (hno : ¬ ∃ rest, l = c :: rest) (hr : RdC W g l due) :
    Calls Tryd.prog 47 #[.pointer (some ⟨g, 0, none⟩), .string ⟨#[c]⟩] W (Thrown (ZG g W)) := by
  have c0 : W.cell? ⟨g, 0, none⟩ = some (.string ⟨l.toArray⟩) := hr.c0
  have HC := hid (Tryd.strings_CutPrefix ⟨l.toArray⟩ ⟨#[c]⟩ W)
  have e1 : (⟨l.toArray⟩ : ByteArray).data.toList = l := rfl
  have e2 : (⟨#[c]⟩ : ByteArray).data.toList = [c] := rfl
  rw [e1, e2, (pre_no hno).1, (pre_no hno).2] at HC
  obtain ⟨S, hS⟩ : ∃ S : ByteArray, S = ⟨l.toArray⟩ := ⟨_, rfl⟩
  rw [← hS] at HC c0
  have HZ := hid (show Thrown (ZG g W) (.panicked [{ v := .iface 43 (.int .i64 20), recovered := false }]) W from ⟨20, rfl, rfl, Only.refl _ _⟩)
  clear hr hS e1 e2 hno
  go_enter Tryd.func47, Tryd.ntmps47
  go_wp2_with fail
  refine HC.out.mono ?_
  rintro e w1 ⟨rfl, rfl⟩
  go_wp2
  exact ⟨rfl, HZ.out⟩
set_option maxRecDepth 100000 in
set_option maxHeartbeats 6400000 in
theorem end_bad {W : World} {g : Nat} {l : List UInt8} {due : Int} (hne : l ≠ []) (hr : RdC W g l due) :
    Calls Tryd.prog 25 #[.pointer (some ⟨g, 0, none⟩)] W (Thrown (ZG g W)) := by
  have c0 : W.cell? ⟨g, 0, none⟩ = some (.string ⟨l.toArray⟩) := hr.c0
  obtain ⟨S, hS⟩ : ∃ S : ByteArray, S = ⟨l.toArray⟩ := ⟨_, rfl⟩
  rw [← hS] at c0
  have hb : (S.toList == (⟨#[]⟩ : ByteArray).toList) = false := by
    refine beq_eq_false_iff_ne.2 fun e => hne ?_
    rw [ByteArray.toList_eq, ByteArray.toList_eq, hS] at e
    exact e
  have hb2 : S.toList.isEmpty = false := by
    rw [ByteArray.toList_eq, hS]
    cases l with
    | nil => exact absurd rfl hne
    | cons _ _ => rfl
  have HZ := hid (show Thrown (ZG g W) (.panicked [{ v := .iface 43 (.int .i64 20), recovered := false }]) W from ⟨20, rfl, rfl, Only.refl _ _⟩)
  clear hr hS hne
  go_enter Tryd.func25, Tryd.ntmps25
  go_wp2
  exact ⟨rfl, HZ.out⟩
/-- l begins with the digits of a number, and a blank behind them. -/
def DigsAt (l : List UInt8) : Prop := ∃ (ds : List Nat) (rest : List UInt8), small 4294967296 ds ∧ l = digsK ds ++ 32 :: rest
def SignAt (l : List UInt8) : Prop := ∃ (neg : Bool) (ds : List Nat) (rest : List UInt8), small 4294967296 ds ∧ l = (if neg then [45] else []) ++ (digsK ds ++ 32 :: rest)
/-- What has been read of the digits: n's own variable lies at N + 1, what is told at N. -/
structure DigG (W : World) (g : Nat) (neg : Bool) (L : List UInt8) (due : Int) (wr : World) (v : Value) (done : List Nat) : Prop where
  left : RdC wr g L due
  row : U32s wr (W.heap.size + 2) v done
  num : wr.heap[W.heap.size + 1]? = some (.cells #[.bool neg, v] 25 (0, 0))
  res : wr.heap[W.heap.size]? = some (.cells #[.bool false, .slice none 0 0] 25 (0, 0))
  only : Only g W wr
theorem digG_start {W : World} {g : Nat} {neg : Bool} {L l : List UInt8} {due : Int} (hr : RdC W g l due) {R : ByteArray} (hR : R = ⟨L.toArray⟩) :
    DigG W g neg L due (((W.setCell ⟨g, 0, none⟩ (.string R)).alloc (.cells #[.bool false, .slice none 0 0] 25)).alloc (.cells #[.bool neg, .slice none 0 0] 25)) (.slice none 0 0) [] := by
  subst hR
  have hgW : g < W.heap.size := cell_lt hr.c0
  obtain ⟨a0, a1, asz, ab⟩ := two_alloc (W.setCell ⟨g, 0, none⟩ (.string ⟨L.toArray⟩)) (.cells #[.bool false, .slice none 0 0] 25) (.cells #[.bool neg, .slice none 0 0] 25)
  have hsz : (W.setCell ⟨g, 0, none⟩ (.string ⟨L.toArray⟩)).heap.size = W.heap.size := by simp
  rw [hsz] at a0 a1
  exact ⟨(hr.set0 _).to ab, World.ownsRow_nil _ _ _ _, a1, a0, ((Only.refl g W).set 0 _).trans (Only.of ab)⟩
theorem digG_next {W : World} {g : Nat} {neg : Bool} {L L' : List UInt8} {due : Int} {wr w3 w4 : World} {v u : Value} {done : List Nat} {d : Nat} (h : DigG W g neg L due wr v done) (hgW : g < W.heap.size) (r : RdC w3 g L' due) (o : Only g wr w3) (hu : U32s w4 (W.heap.size + 2) u (done ++ [d])) (hg : (w3.alloc (.cells #[.int .u32 d] 42)).grownBy w4 v.ownBlock) :
    DigG W g neg L' due (w4.setCell ⟨W.heap.size + 1, 1, none⟩ u) u (done ++ [d]) := by
  have hown : ∀ k, v.ownBlock = some k → W.heap.size + 2 ≤ k := fun k hk => (World.ownsRow.lt h.row k hk).1
  have hlt : W.heap.size + 1 < wr.heap.size := cell_lt (cell_of_row wr (W.heap.size + 1) 0 _ _ _ h.num)
  have s3 := o.size
  have s4 : w3.heap.size + 1 ≤ w4.heap.size := by have := hg.size; rw [World.size_alloc] at this; exact this
  have keep : ∀ k, k < W.heap.size + 2 → k ≠ W.heap.size + 1 → (w4.setCell ⟨W.heap.size + 1, 1, none⟩ u).heap[k]? = w3.heap[k]? := fun k h1 h2 => (Below.heap_setCell _ _ _ _ h2).trans ((hg.block k (by rw [World.size_alloc]; omega) (fun e => by have := hown k e.symm; omega)).trans (Below.heap_alloc _ _ _ (by omega)))
  have n4 : w4.heap[W.heap.size + 1]? = some (.cells #[.bool neg, v] 25 (0, 0)) := (hg.block _ (by rw [World.size_alloc]; omega) (fun e => by have := hown _ e.symm; omega)).trans ((Below.heap_alloc _ _ _ (by omega)).trans ((o.block _ hlt (by omega)).trans h.num))
  refine ⟨(keep g (by omega) (by omega)).trans r, hu.kept fun k hk _ => Below.heap_setCell _ _ _ _ (by have := (World.ownsRow.lt hu k hk).1; show k ≠ W.heap.size + 1; omega), set_second n4, (keep _ (by omega) (by omega)).trans ((o.block _ (by omega) (by omega)).trans h.res), ?_⟩
  refine ⟨hg.os.trans (o.os.trans h.only.os), hg.tape.trans (o.tape.trans h.only.tape), hg.output.trans (o.output.trans h.only.output), ?_, fun k hk hne => ?_⟩
  · have := h.only.size
    simp; omega
  · exact (keep k (by omega) (by omega)).trans ((o.block k (by omega) hne).trans (h.only.block k hk hne))
theorem digs_more {d : Nat} {L L' : List UInt8} (h : ¬ DigsAt L) (e : L = decDigits d ++ 46 :: L') (hd : d < 4294967296) : ¬ DigsAt L' := fun ⟨ds, rest, hs, e2⟩ => h ⟨d :: ds, rest, fun x hx => by
  rcases List.mem_cons.1 hx with rfl | hx
  · exact hd
  · exact hs x hx, by rw [e, e2]; show _ = (decDigits d ++ 46 :: digsK ds) ++ _; simp⟩
theorem sign_more {l : List UInt8} (h : ¬ SignAt l) : ¬ DigsAt (trimPrefix l [45]) := fun ⟨ds, rest, hs, e⟩ => h (by
  by_cases hp : hasPrefix l [45] = true
  · refine ⟨true, ds, rest, hs, ?_⟩
    unfold trimPrefix at e
    rw [if_pos hp] at e
    cases l with
    | nil => exact absurd hp (by decide)
    | cons b l =>
      have hp2 : (((45 : UInt8) == b) && List.isPrefixOf [] l) = true := hp
      simp at hp2
      subst hp2
      simp at e
      rw [e]; rfl
  · refine ⟨false, ds, rest, hs, ?_⟩
    unfold trimPrefix at e
    rw [if_neg hp] at e
    simpa using e)
theorem trim_len (l : List UInt8) : (trimPrefix l [45]).length ≤ l.length := by
  unfold trimPrefix
  split
  · rw [List.length_drop]; omega
  · exact Nat.le_refl _
set_option maxRecDepth 100000 in
set_option maxHeartbeats 6400000 in
theorem digits_bad {W : World} {g M : Nat} {l : List UInt8} {due : Int} (hno : ¬ SignAt l) (hr : RdC W g l due) (hl : l.length ≤ 1000000) (hM : LibM M W) (hE : ErrM M W) (hMg : M ≤ g) :
    Calls Tryd.prog 48 #[.pointer (some ⟨g, 0, none⟩)] W (Thrown (ZG g W)) := by
  have hgW : g < W.heap.size := cell_lt hr.c0
  have c0 : W.cell? ⟨g, 0, none⟩ = some (.string ⟨l.toArray⟩) := hr.c0
  have f0 : W.frozen? ⟨g, 0, none⟩ = false := hr.f
  have HC := fun w => Tryd.strings_CutPrefix ⟨l.toArray⟩ ⟨#[45]⟩ w
  have e1 : (⟨l.toArray⟩ : ByteArray).data.toList = l := rfl
  have e2 : (⟨#[45]⟩ : ByteArray).data.toList = [45] := rfl
  simp only [e1, e2] at HC
  obtain ⟨L0, hL0⟩ : ∃ L0, L0 = trimPrefix l [45] := ⟨_, rfl⟩
  obtain ⟨neg, hneg⟩ : ∃ neg, neg = hasPrefix l [45] := ⟨_, rfl⟩
  rw [← hL0, ← hneg] at HC
  have HC := hid HC
  have hno0 : ¬ DigsAt L0 := by rw [hL0]; exact sign_more hno
  have hl0 : L0.length ≤ l.length := by rw [hL0]; exact trim_len l
  obtain ⟨S, hS⟩ : ∃ S : ByteArray, S = ⟨l.toArray⟩ := ⟨_, rfl⟩
  obtain ⟨R, hR⟩ : ∃ R : ByteArray, R = ⟨L0.toArray⟩ := ⟨_, rfl⟩
  rw [← hS, ← hR] at HC
  rw [← hS] at c0
  have HH := hid (show _ ∧ _ ∧ _ ∧ _ ∧ _ ∧ _ ∧ _ from ⟨hr, hno0, hl0, hl, hM, hMg, hR⟩)
  have HE := hid hE
  clear hr hl hM hMg hR hS e1 e2 hno hL0 hneg hno0 hl0 hE
  go_enter Tryd.func48, Tryd.ntmps48
  go_wp2_with fail
  refine (HC.out _).mono ?_
  rintro e w1 ⟨rfl, rfl⟩
  go_wp2_with fail
  obtain ⟨hr, hno0, hl0, hl, hM, hMg, hR⟩ := HH.out
  have HS0 := hid (digG_start (neg := neg) hr hR)
  have H2 := hid (show _ ∧ _ ∧ _ ∧ _ from ⟨hl, hM, hMg, hgW⟩)
  have HN0 := hid (show ¬ DigsAt L0 ∧ L0.length ≤ 1000000 from ⟨hno0, by omega⟩)
  clear hr hno0 hl0 hl hM hMg hR hgW c0 f0 HC HH
  go_loopg [19] L0.length (fun r _ wr => ∃ (v : Value) (done : List Nat) (L : List UInt8), Hid (L.length = r ∧ ¬ DigsAt L ∧ done.length + L.length ≤ 1000000 ∧ DigG W g neg L due wr v done))
  case atStart =>
    exact ⟨.slice none 0 0, [], L0, hid ⟨rfl, HN0.out.1, by have := HN0.out.2; simp; omega, HS0.out⟩⟩
  case round =>
    rename_i J KK hJ hKK
    obtain ⟨v, done, L, HI⟩ := hrel
    obtain ⟨hk, hnd, hdl, h⟩ := HI.out
    have gl : wr.cell? ⟨g, 0, none⟩ = some (.string ⟨L.toArray⟩) := h.left.c0
    have HP := fun w => Tryd.strings_HasPrefix ⟨L.toArray⟩ ⟨#[32]⟩ w
    have e1 : (⟨L.toArray⟩ : ByteArray).data.toList = L := rfl
    have e2 : (⟨#[32]⟩ : ByteArray).data.toList = [32] := rfl
    simp only [e1, e2, (pre_no (c := 32) (l := L) fun ⟨rest, e⟩ => hnd ⟨[], rest, small_nil _, by rw [e]; rfl⟩).1] at HP
    obtain ⟨S1, hS1⟩ : ∃ S1 : ByteArray, S1 = ⟨L.toArray⟩ := ⟨_, rfl⟩
    rw [← hS1] at gl HP
    have HP := hid HP
    obtain ⟨A, c, rfl⟩ := h.row.slice
    have hsz := h.only.size
    obtain ⟨hl, hM, hMg, hgW⟩ := H2.out
    have hMr : LibM M wr := hM.on (N := M) (h.only.below hMg (by omega)) (Nat.le_refl _)
    have hEr : ErrM M wr := HE.out.on (N := M) (h.only.below hMg (by omega)) (Nat.le_refl _)
    have hMd : LibM M wr.drew := hMr.on (N := M) ⟨rfl, rfl, rfl, Nat.le_refl _, fun _ _ => rfl⟩ (Nat.le_refl _)
    have hEd : ErrM M wr.drew := hEr.on (N := M) ⟨rfl, rfl, rfl, Nat.le_refl _, fun _ _ => rfl⟩ (Nat.le_refl _)
    by_cases hnum : NumAt 32 46 L
    · obtain ⟨d, L', hd, eL⟩ := hnum
      have e32 : (2 : Nat) ^ 32 = 4294967296 := by decide
      have hd32 : d < 4294967296 := by rw [← e32]; exact hd
      have hnd' := digs_more hnd eL hd32
      have hll : L.length = (decDigits d).length + 1 + L'.length := by rw [eL]; simp; omega
      have hdn0 : 0 < (decDigits d).length := List.length_pos_iff.2 (dec_ne d)
      have hrd := h.left
      rw [eL] at hrd
      have HN := hid (show Calls Tryd.prog 45 #[.pointer (some ⟨g, 0, none⟩), .string ⟨#[46]⟩, .int .i64 32] wr.drew _ from number_ok (W := wr.drew) (bits := 32) (n := d) (s := 46) (M := M) (.inr (.inl rfl)) hd (by unfold isDig; decide) hrd (by rw [← eL]; omega) hMd hMg)
      have HN2 := hid (show Calls Tryd.prog 45 #[.pointer (some ⟨g, 0, none⟩), .string ⟨#[46]⟩, .int .i64 32] wr _ from number_ok (W := wr) (bits := 32) (n := d) (s := 46) (M := M) (.inr (.inl rfl)) hd (by unfold isDig; decide) hrd (by rw [← eL]; omega) hMr hMg)
      have m1 : wr.cell? ⟨W.heap.size + 1, 1, none⟩ = some (.slice A done.length c) := cell_of_row wr _ 1 _ _ _ h.num
      have hdn : done.length ≤ 1000000 := by omega
      have HKK := hid (show L'.length < gk ∧ (done ++ [d]).length + L'.length ≤ 1000000 from by rw [List.length_append]; simp; omega)
      have HD := hid (show _ ∧ _ ∧ _ ∧ _ from ⟨h, hgW, hnd', hsz⟩)
      have hN2 : W.heap.size + 2 ≤ wr.heap.size := by have := cell_lt m1; exact this
      have H1 := hid (show _ ∧ _ ∧ _ ∧ _ from ⟨h.row, hN2, hdn, hd32⟩)
      have ewr : IntKind.u32.wrap (d : Int) = d := by rw [IntKind.wrap_u32]; omega
      clear h HI hS1 e1 e2 hk hnd hdl hrd hll hl hM hMg hgW hsz hd32 hdn hN2 hMr hEr hMd hEd hd eL hnd' hdn0 e32
      go_wp2_with fail
      refine (HP.out _).mono ?_
      rintro e w1 ⟨rfl, hw⟩
      have hw := hw.symm
      subst hw
      go_wp2_with fail
      have HG := hid (show _ ∧ _ ∧ _ ∧ _ ∧ _ ∧ _ from ⟨HD.out.2.1, H1, HD.out.1.num, ewr, m1, HN⟩)
      clear ewr m1 HN gl
      refine name_frame (G := fun a => Code.wp _ _ _ a _) ?_
      intro a0 ha0
      have hN : a0.tmps.size = 33 := by rw [ha0]; rfl
      have h00 : a0.eval (.tmp 0) = .pointer (some ⟨g, 0, none⟩) := by rw [ha0]; rfl
      have h03 : a0.eval (.tmp 3) = .pointer (some ⟨W.heap.size + 1, 0, none⟩) := by rw [ha0]; rfl
      refine wp_region_grow (by kernel_rfl) (DInv wr W.heap.size g d (.slice A done.length c) done L' due) (fun _ => true) [ [], [(0, some 22)], [], [(2, some 24)], [(3, some 25)], [(4, some 26)], [(1, some 23), (5, some 27)], [], [(7, some 29), (6, some 28)] ] [(0, some 22), (1, some 23), (2, some 24), (3, some 25), (4, some 26), (5, some 27), (6, some 28), (7, some 29), (8, none)] (by rw [hN]; kernel_rfl) ?_ ?_ ?_ ?_ ?_
      · exact fun W' h => DInv.start h
      · intro i o gg ho hgd
        exfalso
        rcases i with _ | _ | _ | _ | _ | _ | _ | _ | _ | i <;> first | (cases ho; cases hgd) | cases ho
      · intro i _ h
        cases h
      · intro i o ho _
        rcases i with _ | _ | _ | _ | _ | _ | _ | _ | _ | i
        · cases ho; exact g_addr (L := fun _ => true) (x := fun _ => undef) (.inl ⟨rfl, rfl⟩) hN h03
        · cases ho; exact g_load hN HG.out.1 HG.out.2.2.2.2.1
        · cases ho; exact g_move hN h00
        · cases ho; exact g_call hN (fun w hw => by
            rcases hw with rfl | rfl
            · exact HN2.out
            · exact HG.out.2.2.2.2.2.out)
        · cases ho; exact g_conv hN HG.out.2.1.out.2.2.2
        · cases ho; exact g_slice hN
        · cases ho; exact g_append hN HG.out.1 HG.out.2.1.out.1 HG.out.2.1.out.2.1 HG.out.2.1.out.2.2.1
        · cases ho; exact g_addr (L := fun _ => true) (x := fun _ => undef) (.inr ⟨rfl, rfl⟩) hN h03
        · cases ho; exact g_store hN HG.out.1 HG.out.2.1.out.1 HG.out.2.2.1
        · cases ho
      · intro L2 x w' hL hI
        obtain ⟨w3, w4, r3, o3, u4, g4, rfl⟩ := hI.f (hL 8 (by decide))
        have HE2 := hid (show L'.length = L'.length ∧ ¬ DigsAt L' ∧ (done ++ [d]).length + L'.length ≤ 1000000 ∧ DigG W g neg L' due (w4.setCell ⟨W.heap.size + 1, 1, none⟩ (x 6)) (x 6) (done ++ [d]) from ⟨rfl, HD.out.2.2.1, HKK.out.2, digG_next HD.out.1 HD.out.2.1 r3 o3 u4 g4⟩)
        have eP : putE x a0 [(0, some 22), (1, some 23), (2, some 24), (3, some 25), (4, some 26), (5, some 27), (6, some 28), (7, some 29), (8, none)] = { tmps := #[.pointer (some ⟨g, 0, none⟩), undef, .pointer (some ⟨W.heap.size, 0, none⟩), .pointer (some ⟨W.heap.size + 1, 0, none⟩), .tuple #[.string R, .bool neg], .pointer (some ⟨g, 0, none⟩), .pointer (some ⟨g, 0, none⟩), .pointer (some ⟨g, 0, none⟩), .pointer (some ⟨g, 0, none⟩), .string S, .tuple #[.string R, .bool neg], .string R, .bool neg, .pointer (some ⟨g, 0, none⟩), .pointer (some ⟨g, 0, none⟩), .pointer (some ⟨W.heap.size + 1, 0, none⟩), .pointer (some ⟨g, 0, none⟩), .pointer (some ⟨g, 0, none⟩), .pointer (some ⟨g, 0, none⟩), .string S1, .bool false, .bool true, x 0, x 1, x 2, x 3, x 4, x 5, x 6, x 7, undef, undef, undef], defers := [] } := by
          rw [ha0]; kernel_rfl
        rw [eP]
        clear ha0 hN h00 h03 hL hI r3 o3 u4 g4 eP
        show KK _ _
        refine hKK _ _ ?_
        go_roundg L'.length
        case rel => exact ⟨x 6, done ++ [d], L', HE2⟩
        case measure => exact HKK.out.1
    · have HNB := hid (number_bad (W := wr.drew) (bits := 32) (s := 46) (M := M) (.inr (.inl rfl)) hnum h.left (by omega) hMd hEd hMg)
      have m1 : wr.cell? ⟨W.heap.size + 1, 1, none⟩ = some (.slice A done.length c) := cell_of_row wr _ 1 _ _ _ h.num
      have HO := hid (show ∀ e w', Thrown (ZG g wr.drew) e w' → Thrown (ZG g W) e w' from fun e w' ⟨n, he, h1, h2⟩ => ⟨n, he, h1, h.only.trans ⟨h2.os, h2.tape, h2.output, h2.size, h2.block⟩⟩)
      clear h HI hS1 e1 e2 hk hnd hdl hl hM hMg hgW hsz hMr hEr hMd hEd hnum
      go_wp2_with fail
      refine (HP.out _).mono ?_
      rintro e w1 ⟨rfl, hw⟩
      have hw := hw.symm
      subst hw
      go_wp2_with fail
      go_region_dies
      all_goals refine HNB.out.mono ?_
      all_goals rintro e w' ⟨n, rfl, hz⟩
      all_goals have HT := hid (HO.out _ _ ⟨n, rfl, hz⟩)
      all_goals clear hz
      all_goals go_wp2
      all_goals exact ⟨rfl, HT.out⟩
end Go.Proofs.YtdkgpnkcdnfniaaDoor

namespace Go.Proofs.YtdkgpnkcdnfniaaDoor
open Go.RowKit Go.Lib

/-- l begins with what a part's Key has ahead of those of its kids, and these may follow. -/
def HeadAt (due : Int) (l : List UInt8) : Prop := ∃ (t : Tm) (rest : List UInt8), l = headK t ++ rest ∧ Good t ∧ t.ds.length ≤ 1000000 ∧ t.kids.length ≤ 1000000 ∧ due + t.kids.length - 1 ≤ ((rest.length / 8 : Nat) : Int)
def ZP (g p : Nat) (W : World) (n : Int) (w' : World) : Prop := n = 20 ∧ Only2 g p W w'
theorem RS.bad {W w w' : World} {g p : Nat} {l : List UInt8} {due : Int} {cs : Array Value} {n : Int} (h : RS W g p w l due cs) (z : ZG g w n w') : ZP g p W n w' := ⟨z.1, h.only.one z.2⟩
theorem digsK_lenB : ∀ (ds : List Nat), ds.length ≤ (digsK ds).length
  | [] => Nat.le_refl _
  | d :: ds => by
    have := digsK_lenB ds
    unfold digsK
    simp only [List.length_append, List.length_cons]
    omega
theorem head_of {due : Int} {l : List UInt8} (h : ¬ HeadAt due l) (hl : l.length ≤ 1000000) {kn n : Nat} {nm : ByteArray} {neg : Bool} {ds : List Nat} {k : Nat} {rest : List UInt8} (hkn : kn < 2 ^ 8) (hs : small 4294967296 ds) (hn : n = nm.size)
    (e : l = decDigits kn ++ 32 :: (decDigits n ++ 58 :: (nm.data.toList ++ 32 :: ((if neg then [45] else []) ++ (digsK ds ++ 32 :: (decDigits k ++ 59 :: rest)))))) (hd : 1 ≤ due) : ((rest.length / 8 : Nat) : Int) < due + k - 1 := by
  have e8 : (2 : Nat) ^ 8 = 256 := by decide
  refine Int.lt_of_not_ge fun hge => h ⟨.mk kn nm neg ds (List.replicate k (.mk 0 ⟨#[]⟩ false [] [])), rest, ?_, ⟨⟨by show (0 : Int) ≤ kn; omega, by show (kn : Int) < 256; omega⟩, ?_, hs, ?_, ?_⟩, ?_, ?_, ?_⟩
  · rw [e, hn]
    unfold headK
    simp only [Tm.kind, Tm.name, Tm.neg, Tm.ds, Tm.kids, List.length_replicate, Int.toNat_natCast]
    cases neg <;> simp
  · have h1 := congrArg List.length e
    have h2 : nm.data.toList.length = nm.size := Array.length_toList
    simp only [List.length_append, List.length_cons, h2] at h1
    show nm.size ≤ _
    omega
  · have h1 := congrArg List.length e
    have h2 := digsK_lenB ds
    simp only [List.length_append, List.length_cons] at h1
    show ds.length ≤ _
    omega
  · show (List.replicate k _).length ≤ _
    have h1 := congrArg List.length e
    simp only [List.length_append, List.length_cons] at h1
    rw [List.length_replicate]
    omega
  · have h1 := congrArg List.length e
    have h2 := digsK_lenB ds
    simp only [List.length_append, List.length_cons] at h1
    show ds.length ≤ _
    omega
  · show (List.replicate k _).length ≤ _
    have h1 := congrArg List.length e
    simp only [List.length_append, List.length_cons] at h1
    rw [List.length_replicate]
    omega
  · show due + ((List.replicate k _).length : Int) - 1 ≤ _
    rw [List.length_replicate]
    exact hge
set_option maxRecDepth 100000 in
set_option maxHeartbeats 6400000 in
theorem read_bad {W : World} {g p o M : Nat} {cs : Array Value} {l : List UInt8} {due : Int} (hno : ¬ HeadAt due l) (hr : RdC W g l due) (hb : W.heap[p]? = some (.cells cs 28 (0, 0))) (ho : o + 5 ≤ cs.size) (hp : p ≠ g) (hl : l.length ≤ 1000000)
    (hdue : 1 ≤ due ∧ due ≤ 1000000) (hM : LibM M W) (hE : ErrM M W) (hMg : M ≤ g) (hMp : M ≤ p) (hMs : M ≤ W.heap.size) :
    Calls Tryd.prog 24 #[.pointer (some ⟨g, 0, none⟩), .pointer (some ⟨p, o, none⟩)] W (Thrown (ZP g p W)) := by
  have R0 := hid (show RS W g p W l due cs from ⟨hr, hb, Only2.refl _ _ _⟩)
  have HP := hid (show _ ∧ _ ∧ _ ∧ _ ∧ _ ∧ _ from ⟨hp, hM, hMg, hMp, hMs, ho⟩)
  have HK := hid (show _ ∧ _ ∧ _ ∧ _ from ⟨hno, hl, hdue, hE⟩)
  have HL := hid (fun (w : World) (l' : List UInt8) (due' : Int) (cs' : Array Value) (h : RS W g p w l' due' cs') => (show LibM M w ∧ ErrM M w from ⟨h.lib hM hMg hMp hMs, hE.on (h.only.below hMg hMp hMs) (Nat.le_refl _)⟩))
  clear hno hr hb ho hp hl hdue hM hE hMg hMp hMs
  by_cases h1 : NumAt 8 32 l
  · obtain ⟨kn, l1, hkn, e1⟩ := h1
    have hl1 : l1.length ≤ 1000000 := by have := HK.out.2.1; rw [e1] at this; simp at this; omega
    have HC := hid (show Calls Tryd.prog 45 #[.pointer (some ⟨g, 0, none⟩), .string ⟨#[32]⟩, .int .i64 8] W _ from number_ok (bits := 8) (n := kn) (s := 32) (rest := l1) (M := M) (.inl rfl) hkn (by unfold isDig; decide) (by rw [← e1]; exact R0.out.left) (by rw [← e1]; have := HK.out.2.1; omega) HP.out.2.1 HP.out.2.2.1)
    have hkn8 : kn < 256 := hkn
    have ek : IntKind.u8.wrap (kn : Int) = kn := by rw [IntKind.wrap_u8]; omega
    have HE1 := hid (show _ ∧ _ ∧ _ from ⟨hkn, e1, hl1⟩)
    clear hkn e1 hl1
    go_enter Tryd.func24, Tryd.ntmps24
    go_wp2_with fail
    refine HC.out.mono ?_
    rintro e w1 ⟨rfl, r1, o1⟩
    have R1 := hid (R0.out.call HP.out.1 r1 o1)
    obtain ⟨y1, k1⟩ := R1.out.cell (j := o) (by have := HP.out; omega)
    have z1 := R1.out.fz o
    have S1 := hid (R1.out.put HP.out.1 o (.int .u8 kn))
    clear r1 o1 HC
    by_cases h2 : NumAt 62 58 l1
    · obtain ⟨n, l2, hn62, e2⟩ := h2
      have hl2 : l2.length ≤ 1000000 := by have := HE1.out.2.2; rw [e2] at this; simp at this; omega
      have HC := hid (show Calls Tryd.prog 45 #[.pointer (some ⟨g, 0, none⟩), .string ⟨#[58]⟩, .int .i64 62] (w1.setCell ⟨p, o, none⟩ (.int .u8 kn)) _ from number_ok (bits := 62) (n := n) (s := 58) (rest := l2) (M := M) (.inr (.inr rfl)) hn62 (by unfold isDig; decide) (by rw [← e2]; exact S1.out.left) (by rw [← e2]; have := HE1.out; omega) (HL.out _ _ _ _ S1.out).1 HP.out.2.2.1)
      have HE2 := hid (show _ ∧ _ ∧ _ from ⟨hn62, e2, hl2⟩)
      clear hn62 e2 hl2 R1
      go_wp2_with fail
      refine HC.out.mono ?_
      rintro e w2 ⟨rfl, r2, o2⟩
      have R2 := hid (S1.out.call HP.out.1 r2 o2)
      clear r2 o2 HC k1 z1
      by_cases h3 : n ≤ l2.length
      · obtain ⟨l3, hl3⟩ : ∃ l3, l3 = l2.drop n := ⟨_, rfl⟩
        obtain ⟨nm, hnm⟩ : ∃ nm : ByteArray, nm = ⟨(l2.take n).toArray⟩ := ⟨_, rfl⟩
        have hnl : (l2.take n).length = n := by rw [List.length_take]; omega
        have e3 : l2 = nm.data.toList ++ l3 := by rw [hnm, hl3]; exact (List.take_append_drop n l2).symm
        have hns : n = nm.size := by rw [hnm]; show n = (l2.take n).toArray.size; rw [List.size_toArray, hnl]
        have HC := hid (show Calls Tryd.prog 46 #[.pointer (some ⟨g, 0, none⟩), .int .u64 n] w2 _ from cut_ok (n := n) (a := nm.data.toList) (rest := l3) (by rw [hns, Array.length_toList]; rfl) (by rw [← e3]; exact R2.out.left) (by rw [← e3]; have := HE2.out; omega))
        have en : (⟨nm.data.toList.toArray⟩ : ByteArray) = nm := by cases nm; simp
        rw [en] at HC
        have HE3 := hid (show _ ∧ _ from ⟨e3, hns⟩)
        clear hl3 hnm hnl e3 hns en h3 S1
        go_wp2_with fail
        refine HC.out.mono ?_
        rintro e w3 ⟨rfl, r3, o3⟩
        have R3 := hid (R2.out.call HP.out.1 r3 o3)
        obtain ⟨y3, k3⟩ := R3.out.cell (j := o + 1) (by simp; have := HP.out; omega)
        have z3 := R3.out.fz (o + 1)
        have S3 := hid (R3.out.put HP.out.1 (o + 1) (.string nm))
        clear r3 o3 HC R2
        by_cases h4 : ∃ l4, l3 = 32 :: l4
        · obtain ⟨l4, e4⟩ := h4
          subst e4
          have HC := hid (skip_ok (c := 32) S3.out.left)
          clear R3
          go_wp2_with fail
          refine HC.out.mono ?_
          rintro e w4 ⟨⟨u4, rfl⟩, r4, o4⟩
          have R4 := hid (S3.out.call HP.out.1 r4 o4)
          clear r4 o4 HC k3 z3
          have hl4 : l4.length ≤ 1000000 := by have := HE2.out.2.2; rw [HE3.out.1] at this; simp at this; omega
          by_cases h5 : SignAt l4
          · obtain ⟨neg, ds, l5, hsm, e5⟩ := h5
            have hdl : ds.length ≤ 1000000 ∧ l5.length ≤ 1000000 := by
              have h1 := congrArg List.length e5
              have h2 := digsK_lenB ds
              simp only [List.length_append, List.length_cons] at h1
              omega
            have HC := hid (digits_ok (M := M) (neg := neg) (ds := ds) (rest := l5) (by rw [← e5]; exact R4.out.left) hsm (by rw [← e5]; omega) hdl.1 (HL.out _ _ _ _ R4.out).1 HP.out.2.2.1)
            have HE5 := hid (show _ ∧ _ ∧ _ from ⟨e5, hsm, hdl⟩)
            clear e5 hsm hdl hl4 S3
            go_wp2_with fail
            refine HC.out.mono ?_
            rintro e w5 ⟨A, cA, rfl, hrow, hAb, r5, o5⟩
            have R5 := hid (R4.out.call HP.out.1 r5 o5)
            obtain ⟨y5, k5⟩ := R5.out.cell (j := o + 2) (by simp; have := HP.out; omega)
            obtain ⟨y6, k6⟩ := R5.out.cell (j := o + 3) (by simp; have := HP.out; omega)
            have z5 := R5.out.fz (o + 2)
            have z6 := R5.out.fz (o + 3)
            have S5 := hid ((R5.out.put HP.out.1 (o + 2) (.bool neg)).put HP.out.1 (o + 3) (.slice A ds.length cA))
            clear r5 o5 hrow hAb HC R4
            by_cases h6 : NumAt 62 59 l5
            · obtain ⟨k, l6, hk62, e6⟩ := h6
              have HC := hid (show Calls Tryd.prog 45 #[.pointer (some ⟨g, 0, none⟩), .string ⟨#[59]⟩, .int .i64 62] ((w5.setCell ⟨p, o + 2, none⟩ (.bool neg)).setCell ⟨p, o + 2 + 1, none⟩ (.slice A ds.length cA)) _ from number_ok (bits := 62) (n := k) (s := 59) (rest := l6) (M := M) (.inr (.inr rfl)) hk62 (by unfold isDig; decide) (by rw [← e6]; exact S5.out.left) (by rw [← e6]; have := HE5.out.2.2.2; omega) (HL.out _ _ _ _ S5.out).1 HP.out.2.2.1)
              have hlast := head_of HK.out.1 HK.out.2.1 (nm := nm) (neg := neg) HE1.out.1 HE5.out.2.1 HE3.out.2 (by rw [HE1.out.2.1, HE2.out.2.1, HE3.out.1, HE5.out.1, e6]) HK.out.2.2.1.1
              have hl6 : l6.length ≤ 1000000 := by have := HE5.out.2.2.2; rw [e6] at this; simp at this; omega
              have hk62' : k < 4611686018427387904 := hk62
              have HE6 := hid (show _ ∧ _ ∧ _ from ⟨hlast, hl6, hk62'⟩)
              clear hk62 e6 hlast hl6 hk62' R5
              go_wp2_with fail
              refine HC.out.mono ?_
              rintro e w6 ⟨rfl, r6, o6⟩
              have R6 := hid (S5.out.call HP.out.1 r6 o6)
              have q0 := R6.out.left.c0
              have q1 := R6.out.left.c1
              have qf : w6.frozen? ⟨g, 1, none⟩ = false := R6.out.left.f
              obtain ⟨rl, hrl⟩ : ∃ rl : ByteArray, rl = ⟨l6.toArray⟩ := ⟨_, rfl⟩
              have hrs : rl.size = l6.length := by rw [hrl]; exact List.size_toArray ..
              rw [← hrl] at q0
              obtain ⟨hlast, hl6, hk62⟩ := HE6.out
              have hdu := HK.out.2.2.1
              have ew0 : IntKind.i64.wrap (k : Int) = k := by rw [IntKind.wrap_i64]; omega
              have ew1 : IntKind.i64.wrap ((k : Int) - 1) = (k : Int) - 1 := by rw [IntKind.wrap_i64]; omega
              have ew2 : IntKind.i64.wrap (due + ((k : Int) - 1)) = due + ((k : Int) - 1) := by rw [IntKind.wrap_i64]; omega
              have e9 : (rl.size : Int) / 8 < due + ((k : Int) - 1) := by rw [hrs]; omega
              have hrb : rl.size ≤ 1000000 := by omega
              have HZ := hid (show ∀ m, Thrown (ZP g p W) (.panicked [{ v := .iface 43 (.int .i64 20), recovered := false }]) ((w6.setCell ⟨g, 1, none⟩ (.int .i64 (due + ((k : Int) - 1)))).drewN m) from fun m => ⟨20, rfl, rfl, (R6.out.only.setG 1 _).one (Only.drewN _ m)⟩)
              clear r6 o6 S5 k5 k6 z5 z6 hrl hrs hlast hl6 HC R6
              go_wp2
              go_quiet (fail)
              go_wp2
              exact ⟨rfl, HZ.out nq⟩
            · have HC := hid (number_bad (M := M) (.inr (.inr rfl)) h6 S5.out.left (by have := HE5.out.2.2.2; omega) (HL.out _ _ _ _ S5.out).1 (HL.out _ _ _ _ S5.out).2 HP.out.2.2.1)
              clear h6 R5
              go_wp2_with fail
              refine HC.out.mono ?_
              rintro e w6 ⟨n', rfl, hz⟩
              have HZ := hid (S5.out.bad hz)
              clear hz HC
              go_wp2
              exact ⟨rfl, n', rfl, HZ.out⟩
          · have HC := hid (digits_bad (M := M) h5 R4.out.left hl4 (HL.out _ _ _ _ R4.out).1 (HL.out _ _ _ _ R4.out).2 HP.out.2.2.1)
            clear h5 hl4 S3
            go_wp2_with fail
            refine HC.out.mono ?_
            rintro e w6 ⟨n', rfl, hz⟩
            have HZ := hid (R4.out.bad hz)
            clear hz HC
            go_wp2
            exact ⟨rfl, n', rfl, HZ.out⟩
        · have HC := hid (skip_bad h4 S3.out.left)
          clear h4 R3
          go_wp2_with fail
          refine HC.out.mono ?_
          rintro e w6 ⟨n', rfl, hz⟩
          have HZ := hid (S3.out.bad hz)
          clear hz HC
          go_wp2
          exact ⟨rfl, n', rfl, HZ.out⟩
      · have HC := hid (cut_bad (by omega) HE2.out.1 R2.out.left (by have := HE2.out.2.2; omega))
        clear h3 S1
        go_wp2_with fail
        refine HC.out.mono ?_
        rintro e w6 ⟨n', rfl, hz⟩
        have HZ := hid (R2.out.bad hz)
        clear hz HC
        go_wp2
        exact ⟨rfl, n', rfl, HZ.out⟩
    · have HC := hid (number_bad (M := M) (.inr (.inr rfl)) h2 S1.out.left (by have := HE1.out.2.2; omega) (HL.out _ _ _ _ S1.out).1 (HL.out _ _ _ _ S1.out).2 HP.out.2.2.1)
      clear h2 R1
      go_wp2_with fail
      refine HC.out.mono ?_
      rintro e w6 ⟨n', rfl, hz⟩
      have HZ := hid (S1.out.bad hz)
      clear hz HC
      go_wp2
      exact ⟨rfl, n', rfl, HZ.out⟩
  · have HC := hid (number_bad (M := M) (.inl rfl) h1 R0.out.left (by have := HK.out.2.1; omega) HP.out.2.1 HK.out.2.2.2 HP.out.2.2.1)
    clear h1
    go_enter Tryd.func24, Tryd.ntmps24
    go_wp2_with fail
    refine HC.out.mono ?_
    rintro e w6 ⟨n', rfl, hz⟩
    have HZ := hid (R0.out.bad hz)
    clear hz HC
    go_wp2
    exact ⟨rfl, n', rfl, HZ.out⟩
end Go.Proofs.YtdkgpnkcdnfniaaDoor

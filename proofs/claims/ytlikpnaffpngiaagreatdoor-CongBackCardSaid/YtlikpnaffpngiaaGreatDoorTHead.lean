/- Package term's appendHead: what a part's Key has ahead of those of its kids. -/
import Derived.Test.YtlikpnaffpngiaaGreatDoorTAppend
import Derived.Test.YtlikpnaffpngiaaGreatDoorKeyP
import Derived.Lib.ItoaLen
import Derived.Lib.ItoaMem
import Derived.Lib.AppendStr
set_option linter.unusedVariables false
set_option linter.unusedSimpArgs false
namespace Go.Proofs.YtlikpnaffpngiaaGreatDoor
open Go.RowKit

/-- A row of bytes of the call's own, in blocks from B on. -/
def Bytes (W : World) (B : Nat) (v : Value) (n : Nat) (xs : List Value) : Prop := W.ownsRow B 5 1 v n xs
/-- From w to w' only blocks from B on have changed, and of the old ones such of bytes alone. -/
structure Wrote (B : Nat) (w w' : World) : Prop where
  below : Below B w w'
  others : Lib.OthersKept 5 none w w'
theorem Wrote.refl (B : Nat) (w : World) : Wrote B w w := ⟨Below.refl _ _, Lib.OthersKept.refl _ _ _⟩
theorem Wrote.trans {B : Nat} {a b c : World} (h : Wrote B a b) (k : Wrote B b c) : Wrote B a c := ⟨h.below.trans k.below, h.others.trans k.others⟩
theorem Wrote.alloc {B : Nat} {a b : World} (h : Wrote B a b) (hB : B ≤ b.heap.size) (o : Obj) : Wrote B a (b.alloc o) := ⟨h.below.alloc hB o, fun k x hk hb hx => (Below.heap_alloc _ _ _ (by
  have := h.others k x hk hb hx
  exact (Array.getElem?_eq_some_iff.1 this).1)).trans (h.others k x hk hb hx)⟩
/-- A row of bytes, written on: the blocks of others are kept. -/
theorem Wrote.grown {B n : Nat} {a b c : World} {v : Value} {xs : List Value} (hBb : B ≤ b.heap.size) (h : Wrote B a b) (hv : Bytes b B v n xs) (hg : b.grownBy c v.ownBlock) : Wrote B a c := by
  have hr : ∀ k, v.ownBlock = some k → ∃ cs fz, b.heap[k]? = some (.cells cs 5 fz) := fun k hk => by
    have hh : b.ownsRow B 5 1 v n xs := hv
    rcases hh.2 with ⟨e, _⟩ | ⟨g, cap, cur, e, _, hg, _⟩
    · rw [e] at hk; cases hk
    · rw [e] at hk
      injection hk with hk
      subst hk
      exact ⟨_, _, hg⟩
  refine ⟨h.below.trans ⟨hg.os, hg.tape, hg.output, hg.size, fun k hk => hg.block k (Nat.lt_of_lt_of_le hk ?_) fun e => ?_⟩, fun k o hk hb ho => ?_⟩
  · exact hBb
  · have := (World.ownsRow.lt hv k e.symm).1; omega
  · have hkb := h.others k o hk hb ho
    refine (hg.block k (Array.getElem?_eq_some_iff.1 hkb).1 fun e => ?_).trans hkb
    obtain ⟨cs, fz, e'⟩ := hr k e.symm
    rw [hkb] at e'
    exact ho cs fz (Option.some.inj e')
theorem info_byte : (Tryz.prog.info? 5).map (fun i => (i.zero, i.size, i.bytes)) = some (some (.int .u8 0), 1, 1) := by kernel_rfl
/-- 'append(text, c)' of one byte, at the operation: w0 is where the writing began, w where the byte was laid. -/
theorem wpList_byte {ops : Array Oper} {rest : List Oper} {o : Oper} {a : Act} {Q : Exit → Act → World → Prop} (w0 w1 : World) (hgd : o.guard = none) (s x : Operand) (u : Value)
    (ho : o.op = .call { callee := .builtin .append, args := #[s, x], argTypes := #[ 98, 98 ] }) {B n : Nat} {v : Value} {xs : List Value} (hs : a.eval s = v) (hown : Bytes w1 B v n xs) (hW : Wrote B w0 w1) (hB : B ≤ w1.heap.size)
    (hx : a.eval x = .slice (some ⟨w1.heap.size, 0, none⟩) 1 1) (h1 : u.oneCell' = true) (hn : n ≤ 140737488355000)
    (h : ∀ v' w', Bytes w' B v' (n + 1) (xs ++ [u]) → Wrote B w0 w' → B ≤ w'.heap.size → wpList Tryz.prog ops Q rest (a.put o.dst v') w') :
    wpList Tryz.prog ops Q (o :: rest) a (w1.alloc (.cells #[u] 5)) := by
  obtain ⟨i0, hi, hz0, hz1, hz2⟩ := info_parts info_byte
  have ha : Bytes (w1.alloc (.cells #[u] 5)) B v n xs := World.ownsRow.alloc hown _
  have hB1 : B ≤ (w1.alloc (.cells #[u] 5)).heap.size := by rw [World.size_alloc]; omega
  refine wpList_append_own_at _ hgd s x 98 ho B 5 i0 _ 1 1 Tryz.underlying98 hi hz0 hz1 hz2 rfl (by decide) v n xs hs ha ⟨w1.heap.size, 0, none⟩ 1 1 [u] hx rfl (cell_one_new _ _ _) ?_ ?_ ?_ hB1 ?_
  · intro u' hu
    rw [List.mem_singleton.1 hu]; exact h1
  · unfold maxLen; omega
  · omega
  · intro v' w' hr hg _ _
    exact h v' w' hr (Wrote.grown hB1 (hW.alloc hB _) ha hg) (Nat.le_trans hB1 hg.size)
/-- What is written so far, the writing having begun in w: l. -/
def Txt (B : Nat) (w w' : World) (v : Value) (l : List UInt8) : Prop := Bytes w' B v l.length (Lib.byteCells l) ∧ Wrote B w w' ∧ B ≤ w'.heap.size
theorem Txt.int {B : Nat} {w w' : World} {v : Value} {l : List UInt8} (h : Txt B w w' v l) (hl : l.length ≤ 140737488355000) (i : Nat) (hi : i ≤ 9223372036854775807) (htab : Lib.TabBelow Tryz.prog B w "internal/strconv.uint64pow10" .u64 Lib.pow10Tab) :
    Calls Tryz.prog 59 #[v, .int .i64 i, .int .i64 10] w' fun e w2 => ∃ v', e = .returned v' ∧ Txt B w w2 v' (l ++ Lib.decDigits i) := by
  refine (append_int B l.length i (by omega) (by omega) v _ w' h.1 h.2.2 (by omega) (fun W hW => htab W (h.2.1.below.trans hW))).mono ?_
  rintro e w2 ⟨v', rfl, r1, r2, r3⟩
  rw [Lib.itoa_nonneg] at r1
  refine ⟨v', rfl, ?_, h.2.1.trans ⟨r2, r3⟩, Nat.le_trans h.2.2 r2.size⟩
  rw [List.length_append, Lib.byteCells_append]; exact r1
theorem Txt.uint {B : Nat} {w w' : World} {v : Value} {l : List UInt8} (h : Txt B w w' v l) (hl : l.length ≤ 140737488355000) (i : Nat) (hi : i < 18446744073709551616) (htab : Lib.TabBelow Tryz.prog B w "internal/strconv.uint64pow10" .u64 Lib.pow10Tab) :
    Calls Tryz.prog 60 #[v, .int .u64 i, .int .i64 10] w' fun e w2 => ∃ v', e = .returned v' ∧ Txt B w w2 v' (l ++ Lib.decDigits i) := by
  refine (append_uint B l.length i hi v _ w' h.1 h.2.2 (by omega) (fun W hW => htab W (h.2.1.below.trans hW))).mono ?_
  rintro e w2 ⟨v', rfl, r1, r2, r3⟩
  refine ⟨v', rfl, ?_, h.2.1.trans ⟨r2, r3⟩, Nat.le_trans h.2.2 r2.size⟩
  rw [List.length_append, Lib.byteCells_append]; exact r1
theorem Txt.byte {ops : Array Oper} {rest : List Oper} {o : Oper} {a : Act} {Q : Exit → Act → World → Prop} {B : Nat} {w w1 : World} {v : Value} {l : List UInt8} (c : UInt8) (hgd : o.guard = none) (s x : Operand)
    (ho : o.op = .call { callee := .builtin .append, args := #[s, x], argTypes := #[ 98, 98 ] }) (h : Txt B w w1 v l) (hl : l.length ≤ 140737488355000) (hs : a.eval s = v)
    (hx : a.eval x = .slice (some ⟨w1.heap.size, 0, none⟩) 1 1)
    (k : ∀ v' w', Txt B w w' v' (l ++ [c]) → wpList Tryz.prog ops Q rest (a.put o.dst v') w') :
    wpList Tryz.prog ops Q (o :: rest) a (w1.alloc (.cells #[.int .u8 c.toNat] 5)) :=
  wpList_byte w w1 hgd s x _ ho hs h.1 h.2.1 h.2.2 hx rfl hl fun v' w' r1 r2 r3 => k v' w' ⟨by
    rw [List.length_append, Lib.byteCells_append]; exact r1, r2, r3⟩
theorem Txt.text {ops : Array Oper} {rest : List Oper} {o : Oper} {a : Act} {Q : Exit → Act → World → Prop} {B : Nat} {w w1 : World} {v : Value} {l : List UInt8} (t : ByteArray) (hgd : o.guard = none) (s x : Operand)
    (ho : o.op = .call { callee := .builtin .append, args := #[s, x], argTypes := #[ 98, 9 ] }) (h : Txt B w w1 v l) (hl : l.length + t.size ≤ 140737488355000) (hs : a.eval s = v) (hx : a.eval x = .string t)
    (k : ∀ v' w', Txt B w w' v' (l ++ t.data.toList) → wpList Tryz.prog ops Q rest (a.put o.dst v') w') :
    wpList Tryz.prog ops Q (o :: rest) a w1 := by
  obtain ⟨i0, hi, hz0, hz1, hz2⟩ := info_parts info_byte
  refine Lib.wpList_append_own_string w1 hgd s x 98 9 ho B 5 i0 Tryz.underlying98 Tryz.underlying9 hi hz0 hz1 hz2 v l.length _ hs h.1 t hx (by unfold maxLen; omega) (by omega) h.2.2 fun v' w' r1 r2 _ => k v' w' ⟨?_, h.2.1.grown h.2.2 h.1 r2, Nat.le_trans h.2.2 r2.size⟩
  rw [List.length_append, Lib.byteCells_append, Array.length_toList]; exact r1
set_option maxRecDepth 100000 in
set_option maxHeartbeats 6400000 in
theorem head_any {w : World} {B : Nat} {v : Value} {l : List UInt8} {ad : Addr} {kd : Nat} {nm : ByteArray} {ng : Bool} {D K : Option Addr} {ds : List Nat} {nk cd ck : Nat} (hv : Txt B w w v l) (hl : l.length ≤ 10000000) (hkd : kd < 256) (hnm : nm.size ≤ 10000000) (hdl : ds.length ≤ 10000000) (hnk : nk ≤ 10000000) (hs : small 4294967296 ds) (hD : Row w D (u32s ds)) (hDB : ∀ a, D = some a → ds ≠ [] → a.block < B)
    (c0 : w.cell? ad = some (.int .u8 (kd : Nat))) (c1 : w.cell? (ad.add 1) = some (.string nm)) (c2 : w.cell? (ad.add 2) = some (.bool ng)) (c3 : w.cell? (ad.add 3) = some (.slice D ds.length cd)) (c4 : w.cell? (ad.add 4) = some (.slice K nk ck)) (hAd : ad.block < B)
    (htab : Lib.TabBelow Tryz.prog B w "internal/strconv.uint64pow10" .u64 Lib.pow10Tab) :
    Calls Tryz.prog 48 #[v, .pointer (some ad)] w fun e w' => ∃ v', e = .returned v' ∧ Txt B w w' v' (l ++ (Lib.decDigits kd ++ 32 :: (Lib.decDigits nm.size ++ 58 :: (nm.data.toList ++ 32 :: ((if ng then [45] else []) ++ (digsK ds ++ 32 :: (Lib.decDigits nk ++ [59]))))))) := by
  have H0 := Lib.hid (show _ ∧ _ from ⟨hv, htab⟩)
  have HA := Lib.hid (show _ ∧ _ ∧ _ ∧ _ ∧ _ ∧ _ ∧ _ from ⟨c1, c2, c3, c4, hAd, hD, hDB⟩)
  have HS := Lib.hid hs
  have b0 := hl
  have T0 := Lib.hid hv
  obtain ⟨l0, E0⟩ : ∃ q, q = l := ⟨_, rfl⟩
  rw [← E0] at T0 b0
  have hw0 := T0.out.2.2
  clear hv htab c1 c2 c3 c4 hAd hD hDB hs hl hw0
  go_enter Tryz.func48, Tryz.ntmps48
  have HC := Lib.hid (T0.out.int (by omega) kd (by omega) H0.out.2)
  go_wp2_with fail
  refine HC.out.mono ?_
  rintro e w1 ⟨v1, rfl, r1⟩
  clear HC
  obtain ⟨l1, E1, b1, T1⟩ : ∃ q, Hid (q = l0 ++ Lib.decDigits kd) ∧ q.length ≤ 10000020 ∧ Hid (Txt B w w1 v1 q) := ⟨_, Lib.hid rfl, by have := dec_len (u := kd) (by omega); rw [List.length_append]; omega, Lib.hid r1⟩
  clear r1 T0
  go_wp2_with (at_builtin; refine T1.out.byte 32 rfl _ _ rfl (by omega) rfl rfl ?_)
  intro v2 w2 r1
  obtain ⟨l2, E2, b2, T2⟩ : ∃ q, Hid (q = l1 ++ [32]) ∧ q.length ≤ 10000021 ∧ Hid (Txt B w w2 v2 q) := ⟨_, Lib.hid rfl, by rw [List.length_append]; simp; omega, Lib.hid r1⟩
  clear r1 T1
  have c1 : w2.cell? { block := ad.block, off := ad.off + 1 } = some (.string nm) := (T2.out.2.1.below.cell (p := ad.add 1) HA.out.2.2.2.2.1).trans HA.out.1
  have HC := Lib.hid (T2.out.int (by omega) nm.size (by omega) H0.out.2)
  go_wp2_with fail
  refine HC.out.mono ?_
  rintro e w3 ⟨v3, rfl, r1⟩
  clear HC
  obtain ⟨l3, E3, b3, T3⟩ : ∃ q, Hid (q = l2 ++ Lib.decDigits nm.size) ∧ q.length ≤ 10000041 ∧ Hid (Txt B w w3 v3 q) := ⟨_, Lib.hid rfl, by have := dec_len (u := nm.size) (by omega); rw [List.length_append]; omega, Lib.hid r1⟩
  clear r1 T2
  go_wp2_with (at_builtin; refine T3.out.byte 58 rfl _ _ rfl (by omega) rfl rfl ?_)
  intro v4 w4 r1
  obtain ⟨l4, E4, b4, T4⟩ : ∃ q, Hid (q = l3 ++ [58]) ∧ q.length ≤ 10000042 ∧ Hid (Txt B w w4 v4 q) := ⟨_, Lib.hid rfl, by rw [List.length_append]; simp; omega, Lib.hid r1⟩
  clear r1 T3
  clear c1
  have c1 : w4.cell? { block := ad.block, off := ad.off + 1 } = some (.string nm) := (T4.out.2.1.below.cell (p := ad.add 1) HA.out.2.2.2.2.1).trans HA.out.1
  go_wp2_with (at_builtin; refine T4.out.text nm rfl _ _ rfl (by omega) rfl rfl ?_)
  intro v5 w5 r1
  obtain ⟨l5, E5, b5, T5⟩ : ∃ q, Hid (q = l4 ++ nm.data.toList) ∧ q.length ≤ 20000042 ∧ Hid (Txt B w w5 v5 q) := ⟨_, Lib.hid rfl, by have e1 : nm.data.toList.length = nm.size := Array.length_toList; rw [List.length_append]; omega, Lib.hid r1⟩
  clear r1 T4
  go_wp2_with (at_builtin; refine T5.out.byte 32 rfl _ _ rfl (by omega) rfl rfl ?_)
  intro v6 w6 r1
  obtain ⟨l6, E6, b6, T6⟩ : ∃ q, Hid (q = l5 ++ [32]) ∧ q.length ≤ 20000043 ∧ Hid (Txt B w w6 v6 q) := ⟨_, Lib.hid rfl, by rw [List.length_append]; simp; omega, Lib.hid r1⟩
  clear r1 T5
  clear c1
  have c2 : w6.cell? { block := ad.block, off := ad.off + 2 } = some (.bool ng) := (T6.out.2.1.below.cell (p := ad.add 2) HA.out.2.2.2.2.1).trans HA.out.2.1
  rcases ng with _ | _
  · skip
    obtain ⟨l7, E7, b7⟩ : ∃ q, Hid (q = l6 ++ []) ∧ q.length ≤ 20000044 := ⟨_, Lib.hid rfl, by rw [List.append_nil]; omega⟩
    have T7 : Hid (Txt B w w6 v6 l7) := Lib.hid (by rw [E7.out, List.append_nil]; exact T6.out)
    clear T6
    have c3 : w6.cell? { block := ad.block, off := ad.off + 3 } = some (.slice D ds.length cd) := (T7.out.2.1.below.cell (p := ad.add 3) HA.out.2.2.2.2.1).trans HA.out.2.2.1
    go_wp2
    clear c2
    go_loopw [0, 50] (fun tv iv wr => ∃ (k : Nat) (v' : Value) (q : List UInt8), k ≤ ds.length ∧ v' = tv ∧ iv = .int .i64 k ∧ q.length ≤ 20000044 + 21 * k ∧ Hid (q = l7 ++ digsK (ds.take k)) ∧ Hid (Txt B w wr v' q)) (fun _ iv _ => ds.length - (intOf iv).toNat)
    case atStart => exact ⟨0, _, l7, Nat.zero_le _, rfl, rfl, by omega, Lib.hid (by rw [List.take_zero]; exact (List.append_nil _).symm), T7⟩
    case round =>
      obtain ⟨k, v', q, hk, rfl, rfl, hq, HQ, T⟩ := hrel
      clear c3 T7
      by_cases hlt : k < ds.length
      · have hrow : Row wr D (u32s ds) := fun j u hj => by
          obtain ⟨a, ha, hc⟩ := HA.out.2.2.2.2.2.1 j u hj
          refine ⟨a, ha, (T.out.2.1.below.cell ?_).trans hc⟩
          rw [add_block]
          exact HA.out.2.2.2.2.2.2 a ha fun e => by rw [e] at hlt; exact absurd hlt (by simp)
        obtain ⟨a, x, hDa, hc1, hx1, hx2⟩ := hrow.dig hlt
        have hx3 : x < 4294967296 := HS.out x hx2
        have hi1 : (k : Int) < ds.length := by omega
        have hi0 : 0 ≤ (k : Int) := by omega
        have HC := Lib.hid (T.out.uint (by omega) x (by omega) H0.out.2)
        clear hrow
        subst hDa
        go_wp2_with fail
        refine HC.out.mono ?_
        rintro e wa ⟨va, rfl, r1⟩
        obtain ⟨qa, Ea, ba, Ta⟩ : ∃ qa, Hid (qa = q ++ Lib.decDigits x) ∧ qa.length ≤ 20000044 + 21 * k + 20 ∧ Hid (Txt B w wa va qa) := ⟨_, Lib.hid rfl, by have : (Lib.decDigits x).length ≤ 20 := dec_len (by omega); rw [List.length_append]; omega, Lib.hid r1⟩
        clear r1 HC T
        go_wp2_with (at_builtin; refine Ta.out.byte 46 rfl _ _ rfl (by omega) rfl rfl ?_)
        intro vb wb r1
        have Tb := Lib.hid r1
        have HQ' : Hid (qa ++ [46] = l7 ++ digsK (ds.take (k + 1))) := Lib.hid (by
          rw [Ea.out, HQ.out, List.take_add_one, List.getElem?_eq_getElem hlt, digsK_append]
          have e1 : ds[k] = x := by
            have := hx1.out
            rw [List.getD_eq_getElem?_getD, List.getElem?_eq_getElem hlt] at this
            exact this
          rw [e1]
          simp [digsK])
        clear r1 Ta
        go_wp2
        go_roundw
        case rel => exact ⟨k + 1, vb, _, by omega, rfl, by go_num, by rw [List.length_append]; simp; omega, HQ', Tb⟩
        case measure => first | (simp [intOf]; done) | (simp [intOf]; omega)
      · have hk1 : k = ds.length := by omega
        subst hk1
        obtain ⟨l8, E8, b8, T8⟩ : ∃ q', Hid (q' = l7 ++ digsK ds) ∧ q'.length ≤ 230000044 ∧ Hid (Txt B w wr v' q') := ⟨q, Lib.hid (by rw [HQ.out, List.take_length]), by omega, T⟩
        clear HQ T hq
        go_wp2_with (at_builtin; refine T8.out.byte 32 rfl _ _ rfl (by omega) rfl rfl ?_)
        intro v9 w9 r1
        obtain ⟨l9, E9, b9, T9⟩ : ∃ q, Hid (q = l8 ++ [32]) ∧ q.length ≤ 230000045 ∧ Hid (Txt B w w9 v9 q) := ⟨_, Lib.hid rfl, by rw [List.length_append]; simp; omega, Lib.hid r1⟩
        clear r1 T8
        have c4 : w9.cell? { block := ad.block, off := ad.off + 4 } = some (.slice K nk ck) := (T9.out.2.1.below.cell (p := ad.add 4) HA.out.2.2.2.2.1).trans HA.out.2.2.2.1
        have HC := Lib.hid (T9.out.int (by omega) nk (by omega) H0.out.2)
        go_wp2_with fail
        refine HC.out.mono ?_
        rintro e w10 ⟨v10, rfl, r1⟩
        clear HC
        obtain ⟨l10, E10, b10, T10⟩ : ∃ q, Hid (q = l9 ++ Lib.decDigits nk) ∧ q.length ≤ 230000065 ∧ Hid (Txt B w w10 v10 q) := ⟨_, Lib.hid rfl, by have := dec_len (u := nk) (by omega); rw [List.length_append]; omega, Lib.hid r1⟩
        clear r1 T9
        go_wp2_with (at_builtin; refine T10.out.byte 59 rfl _ _ rfl (by omega) rfl rfl ?_)
        intro v11 w11 r1
        obtain ⟨l11, E11, b11, T11⟩ : ∃ q, Hid (q = l10 ++ [59]) ∧ q.length ≤ 230000066 ∧ Hid (Txt B w w11 v11 q) := ⟨_, Lib.hid rfl, by rw [List.length_append]; simp; omega, Lib.hid r1⟩
        clear r1 T10
        have HE := Lib.hid (show Txt B w w11 v11 (l ++ (Lib.decDigits kd ++ 32 :: (Lib.decDigits nm.size ++ 58 :: (nm.data.toList ++ 32 :: ((if false then [45] else []) ++ (digsK ds ++ 32 :: (Lib.decDigits nk ++ [59]))))))) from by
          have e := T11.out
          rw [E11.out, E10.out, E9.out, E8.out, E7.out, E6.out, E5.out, E4.out, E3.out, E2.out, E1.out, E0] at e
          simpa using e)
        clear T11
        go_wp2
        go_returns
        exact ⟨_, rfl, HE.out⟩
  · skip
    go_wp2_with (at_builtin; refine T6.out.byte 45 rfl _ _ rfl (by omega) rfl rfl ?_)
    intro v7 w7 r1
    obtain ⟨l7, E7, b7, T7⟩ : ∃ q, Hid (q = l6 ++ [45]) ∧ q.length ≤ 20000044 ∧ Hid (Txt B w w7 v7 q) := ⟨_, Lib.hid rfl, by rw [List.length_append]; simp; omega, Lib.hid r1⟩
    clear r1 T6
    have c3 : w7.cell? { block := ad.block, off := ad.off + 3 } = some (.slice D ds.length cd) := (T7.out.2.1.below.cell (p := ad.add 3) HA.out.2.2.2.2.1).trans HA.out.2.2.1
    go_wp2
    clear c2
    go_loopw [0, 50] (fun tv iv wr => ∃ (k : Nat) (v' : Value) (q : List UInt8), k ≤ ds.length ∧ v' = tv ∧ iv = .int .i64 k ∧ q.length ≤ 20000044 + 21 * k ∧ Hid (q = l7 ++ digsK (ds.take k)) ∧ Hid (Txt B w wr v' q)) (fun _ iv _ => ds.length - (intOf iv).toNat)
    case atStart => exact ⟨0, _, l7, Nat.zero_le _, rfl, rfl, by omega, Lib.hid (by rw [List.take_zero]; exact (List.append_nil _).symm), T7⟩
    case round =>
      obtain ⟨k, v', q, hk, rfl, rfl, hq, HQ, T⟩ := hrel
      clear c3 T7
      by_cases hlt : k < ds.length
      · have hrow : Row wr D (u32s ds) := fun j u hj => by
          obtain ⟨a, ha, hc⟩ := HA.out.2.2.2.2.2.1 j u hj
          refine ⟨a, ha, (T.out.2.1.below.cell ?_).trans hc⟩
          rw [add_block]
          exact HA.out.2.2.2.2.2.2 a ha fun e => by rw [e] at hlt; exact absurd hlt (by simp)
        obtain ⟨a, x, hDa, hc1, hx1, hx2⟩ := hrow.dig hlt
        have hx3 : x < 4294967296 := HS.out x hx2
        have hi1 : (k : Int) < ds.length := by omega
        have hi0 : 0 ≤ (k : Int) := by omega
        have HC := Lib.hid (T.out.uint (by omega) x (by omega) H0.out.2)
        clear hrow
        subst hDa
        go_wp2_with fail
        refine HC.out.mono ?_
        rintro e wa ⟨va, rfl, r1⟩
        obtain ⟨qa, Ea, ba, Ta⟩ : ∃ qa, Hid (qa = q ++ Lib.decDigits x) ∧ qa.length ≤ 20000044 + 21 * k + 20 ∧ Hid (Txt B w wa va qa) := ⟨_, Lib.hid rfl, by have : (Lib.decDigits x).length ≤ 20 := dec_len (by omega); rw [List.length_append]; omega, Lib.hid r1⟩
        clear r1 HC T
        go_wp2_with (at_builtin; refine Ta.out.byte 46 rfl _ _ rfl (by omega) rfl rfl ?_)
        intro vb wb r1
        have Tb := Lib.hid r1
        have HQ' : Hid (qa ++ [46] = l7 ++ digsK (ds.take (k + 1))) := Lib.hid (by
          rw [Ea.out, HQ.out, List.take_add_one, List.getElem?_eq_getElem hlt, digsK_append]
          have e1 : ds[k] = x := by
            have := hx1.out
            rw [List.getD_eq_getElem?_getD, List.getElem?_eq_getElem hlt] at this
            exact this
          rw [e1]
          simp [digsK])
        clear r1 Ta
        go_wp2
        go_roundw
        case rel => exact ⟨k + 1, vb, _, by omega, rfl, by go_num, by rw [List.length_append]; simp; omega, HQ', Tb⟩
        case measure => first | (simp [intOf]; done) | (simp [intOf]; omega)
      · have hk1 : k = ds.length := by omega
        subst hk1
        obtain ⟨l8, E8, b8, T8⟩ : ∃ q', Hid (q' = l7 ++ digsK ds) ∧ q'.length ≤ 230000044 ∧ Hid (Txt B w wr v' q') := ⟨q, Lib.hid (by rw [HQ.out, List.take_length]), by omega, T⟩
        clear HQ T hq
        go_wp2_with (at_builtin; refine T8.out.byte 32 rfl _ _ rfl (by omega) rfl rfl ?_)
        intro v9 w9 r1
        obtain ⟨l9, E9, b9, T9⟩ : ∃ q, Hid (q = l8 ++ [32]) ∧ q.length ≤ 230000045 ∧ Hid (Txt B w w9 v9 q) := ⟨_, Lib.hid rfl, by rw [List.length_append]; simp; omega, Lib.hid r1⟩
        clear r1 T8
        have c4 : w9.cell? { block := ad.block, off := ad.off + 4 } = some (.slice K nk ck) := (T9.out.2.1.below.cell (p := ad.add 4) HA.out.2.2.2.2.1).trans HA.out.2.2.2.1
        have HC := Lib.hid (T9.out.int (by omega) nk (by omega) H0.out.2)
        go_wp2_with fail
        refine HC.out.mono ?_
        rintro e w10 ⟨v10, rfl, r1⟩
        clear HC
        obtain ⟨l10, E10, b10, T10⟩ : ∃ q, Hid (q = l9 ++ Lib.decDigits nk) ∧ q.length ≤ 230000065 ∧ Hid (Txt B w w10 v10 q) := ⟨_, Lib.hid rfl, by have := dec_len (u := nk) (by omega); rw [List.length_append]; omega, Lib.hid r1⟩
        clear r1 T9
        go_wp2_with (at_builtin; refine T10.out.byte 59 rfl _ _ rfl (by omega) rfl rfl ?_)
        intro v11 w11 r1
        obtain ⟨l11, E11, b11, T11⟩ : ∃ q, Hid (q = l10 ++ [59]) ∧ q.length ≤ 230000066 ∧ Hid (Txt B w w11 v11 q) := ⟨_, Lib.hid rfl, by rw [List.length_append]; simp; omega, Lib.hid r1⟩
        clear r1 T10
        have HE := Lib.hid (show Txt B w w11 v11 (l ++ (Lib.decDigits kd ++ 32 :: (Lib.decDigits nm.size ++ 58 :: (nm.data.toList ++ 32 :: ((if true then [45] else []) ++ (digsK ds ++ 32 :: (Lib.decDigits nk ++ [59]))))))) from by
          have e := T11.out
          rw [E11.out, E10.out, E9.out, E8.out, E7.out, E6.out, E5.out, E4.out, E3.out, E2.out, E1.out, E0] at e
          simpa using e)
        clear T11
        go_wp2
        go_returns
        exact ⟨_, rfl, HE.out⟩
end Go.Proofs.YtlikpnaffpngiaaGreatDoor

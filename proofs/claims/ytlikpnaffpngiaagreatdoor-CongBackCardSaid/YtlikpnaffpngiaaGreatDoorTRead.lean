/- Package term's reader: what it reads of the Key of a term (number, cut, skip, digits, end). -/
import Derived.Test.YtlikpnaffpngiaaGreatDoorTFmt
set_option linter.unusedVariables false
set_option linter.unusedSimpArgs false
namespace Go.Proofs.YtlikpnaffpngiaaGreatDoor
open Go.RowKit Go.Lib

theorem index_at {l r : List UInt8} {c : UInt8} (h : c ∉ l) : Lib.index (l ++ c :: r) [c] = l.length := by
  induction l with
  | nil =>
    show Lib.index (c :: r) [c] = _
    unfold Lib.index
    simp
  | cons b l ih =>
    have hb : (c == b) = false := beq_eq_false_iff_ne.2 fun e => h (e ▸ List.mem_cons_self)
    have hp : List.isPrefixOf [c] (b :: (l ++ c :: r)) = false := by show ((c == b) && List.isPrefixOf [] (l ++ c :: r)) = false; rw [hb]; rfl
    have := ih fun h' => h (List.mem_cons_of_mem _ h')
    show Lib.index (b :: (l ++ c :: r)) [c] = _
    unfold Lib.index
    rw [hp, this]
    have hn : (((l.length : Int)) == -1) = false := beq_eq_false_iff_ne.2 (by omega)
    rw [hn]
    simp
theorem cut_at {l r : List UInt8} {c : UInt8} (h : c ∉ l) : Lib.cut (l ++ c :: r) [c] = (l, r, true) := by
  unfold Lib.cut
  rw [index_at h, if_pos (by omega)]
  simp
/-- Of the old blocks only g has changed. -/
structure Only (g : Nat) (W W' : World) : Prop where
  os : W'.os = W.os
  tape : W'.tape = W.tape
  output : W'.output = W.output
  size : W.heap.size ≤ W'.heap.size
  block : ∀ k, k < W.heap.size → k ≠ g → W'.heap[k]? = W.heap[k]?
theorem Only.refl (g : Nat) (W : World) : Only g W W := ⟨rfl, rfl, rfl, Nat.le_refl _, fun _ _ _ => rfl⟩
theorem Only.trans {g : Nat} {a b c : World} (h : Only g a b) (k : Only g b c) : Only g a c := ⟨k.os.trans h.os, k.tape.trans h.tape, k.output.trans h.output, Nat.le_trans h.size k.size, fun i hi hg => (k.block i (Nat.lt_of_lt_of_le hi h.size) hg).trans (h.block i hi hg)⟩
theorem Only.of {g : Nat} {a b : World} (h : Below a.heap.size a b) : Only g a b := ⟨h.os, h.tape, h.output, h.size, fun k hk _ => h.block k hk⟩
theorem Only.set {g : Nat} {a b : World} (h : Only g a b) (o : Nat) (v : Value) : Only g a (b.setCell ⟨g, o, none⟩ v) := ⟨h.os, h.tape, h.output, by simpa using h.size, fun k hk hg => (Below.heap_setCell _ _ _ _ hg).trans (h.block k hk hg)⟩
theorem Only.below {g M : Nat} {a b : World} (h : Only g a b) (hM : M ≤ g) (hs : M ≤ a.heap.size) : Below M a b := ⟨h.os, h.tape, h.output, h.size, fun k hk => h.block k (Nat.lt_of_lt_of_le hk hs) (by omega)⟩
theorem Only.drewN {g : Nat} (a : World) (n : Nat) : Only g a (a.drewN n) := .of (below_drewN (Below.refl _ _) _)
/-- The reader's variable: what is left, and how many Keys are due. -/
def RdC (W : World) (g : Nat) (l : List UInt8) (due : Int) : Prop := W.heap[g]? = some (.cells #[.string ⟨l.toArray⟩, .int .i64 due] 94 (0, 0))
theorem RdC.c0 {W : World} {g : Nat} {l : List UInt8} {due : Int} (h : RdC W g l due) : W.cell? ⟨g, 0, none⟩ = some (.string ⟨l.toArray⟩) := cell_of_row W g 0 _ _ _ h
theorem RdC.c1 {W : World} {g : Nat} {l : List UInt8} {due : Int} (h : RdC W g l due) : W.cell? ⟨g, 1, none⟩ = some (.int .i64 due) := cell_of_row W g 1 _ _ _ h
theorem RdC.f {W : World} {g o : Nat} {l : List UInt8} {due : Int} (h : RdC W g l due) : W.frozen? ⟨g, o, none⟩ = false := by
  unfold RdC at h; simp [World.frozen?, h]
theorem RdC.to {W W' : World} {g : Nat} {l : List UInt8} {due : Int} (h : RdC W g l due) (hb : Below W.heap.size W W') : RdC W' g l due := (hb.block g (cell_lt h.c0)).trans h
theorem RdC.set0 {W : World} {g : Nat} {l : List UInt8} {due : Int} (h : RdC W g l due) (m : List UInt8) : RdC (W.setCell ⟨g, 0, none⟩ (.string ⟨m.toArray⟩)) g m due := by
  unfold RdC at h ⊢
  simp [World.setCell, Array.getElem?_modify, h]
theorem RdC.set1 {W : World} {g : Nat} {l : List UInt8} {due : Int} (h : RdC W g l due) (d : Int) : RdC (W.setCell ⟨g, 1, none⟩ (.int .i64 d)) g l d := by
  unfold RdC at h ⊢
  simp [World.setCell, Array.getElem?_modify, h]
/-- The library's cell internal/bytealg.MaxLen holds a number, whatever happens from block M on; and its table of powers of ten reads as it is laid. -/
def LibM (M : Nat) (w : World) : Prop := (∀ W, Below M w W → ∃ m : Int, W.cell? ⟨1, 0, none⟩ = some (.int .i64 m)) ∧ TabM M w
theorem LibM.on {M N : Nat} {w w' : World} (h : LibM M w) (hb : Below M w w') (hN : M ≤ N) : LibM N w' := ⟨fun W hW => h.1 W (hb.trans ⟨hW.os, hW.tape, hW.output, hW.size, fun k hk => hW.block k (Nat.lt_of_lt_of_le hk hN)⟩), h.2.on hb hN⟩
theorem LibM.tab {M : Nat} {w : World} (h : LibM M w) : Tab w := h.2 w (Below.refl _ _)
theorem str_eq (a : ByteArray) : (a.toList == a.toList) = true := by simp
theorem str_ne (a : ByteArray) : (!(a.toList == a.toList)) = false := by simp
set_option maxRecDepth 100000 in
set_option maxHeartbeats 6400000 in
theorem number_ok {W : World} {g n bits M : Nat} {s : UInt8} {rest : List UInt8} {due : Int} (hb : bits = 8 ∨ bits = 32 ∨ bits = 62) (hn : n < 2 ^ bits) (hs : ¬ isDig s) (hr : RdC W g (decDigits n ++ s :: rest) due) (hl : (decDigits n ++ s :: rest).length ≤ 100000000) (hM : LibM M W) (hMg : M ≤ g) :
    Calls Tryz.prog 55 #[.pointer (some ⟨g, 0, none⟩), .string ⟨#[s]⟩, .int .i64 bits] W fun e w' => e = .returned (.int .u64 n) ∧ RdC w' g rest due ∧ Only g W w' := by
  have hgW : g < W.heap.size := cell_lt hr.c0
  have hn64 : n < 18446744073709551616 := Nat.lt_of_lt_of_le hn (by rcases hb with rfl | rfl | rfl <;> decide)
  have hcut : cut (decDigits n ++ s :: rest) [s] = (decDigits n, rest, true) := cut_at fun h => hs (decDigits_dig n s h)
  obtain ⟨m, hm⟩ := hM.1 W (Below.refl _ _)
  have hC : Calls Tryz.prog 65 #[.string ⟨(decDigits n ++ s :: rest).toArray⟩, .string ⟨#[s]⟩] W fun e w' => e = .returned (.tuple #[.string ⟨(decDigits n).toArray⟩, .string ⟨rest.toArray⟩, .bool true]) ∧ Below W.heap.size W w' := by
    refine (Tryz.strings_Cut ⟨(decDigits n ++ s :: rest).toArray⟩ ⟨#[s]⟩ m W (by show (decDigits n ++ s :: rest).toArray.size < _; rw [List.size_toArray]; omega) hm).mono ?_
    rintro e w' ⟨rfl, k, rfl⟩
    have e1 : (⟨(decDigits n ++ s :: rest).toArray⟩ : ByteArray).data.toList = decDigits n ++ s :: rest := rfl
    have e2 : (⟨#[s]⟩ : ByteArray).data.toList = [s] := rfl
    rw [e1, e2, hcut]
    exact ⟨rfl, below_drewN (Below.refl _ _) _⟩
  have c0 : W.cell? ⟨g, 0, none⟩ = some (.string ⟨(decDigits n ++ s :: rest).toArray⟩) := hr.c0
  have HC := hid hC
  have HR := hid (show _ ∧ _ ∧ _ ∧ _ from ⟨hr, hM, hMg, hgW⟩)
  have HN := hid (show _ ∧ _ ∧ _ from ⟨hb, hn, hn64⟩)
  obtain ⟨S, hS⟩ : ∃ S : ByteArray, S = ⟨(decDigits n ++ s :: rest).toArray⟩ := ⟨_, rfl⟩
  rw [← hS] at HC c0
  obtain ⟨D, hD⟩ : ∃ D : ByteArray, D = ⟨(decDigits n).toArray⟩ := ⟨_, rfl⟩
  rw [← hD] at HC
  obtain ⟨R, hR⟩ : ∃ R : ByteArray, R = ⟨rest.toArray⟩ := ⟨_, rfl⟩
  rw [← hR] at HC
  have hne := str_eq D
  have HS := hid (show _ ∧ _ ∧ _ from ⟨hS, hD, hR⟩)
  clear hb hn hs hr hl hM hMg hgW hn64 hcut hm hC hS hD hR
  go_enter Tryz.func55, Tryz.ntmps55
  go_wp2_with fail
  refine HC.out.mono ?_
  rintro e w1 ⟨rfl, b1⟩
  have HP := hid (parse_ok HN.out.1 n HN.out.2.1 w1)
  rw [← HS.out.2.1] at HP
  have B1 := hid b1
  clear b1 HC c0
  go_wp2_with fail
  refine HP.out.mono ?_
  rintro e w2 ⟨rfl, b2⟩
  have B2 := hid (B1.out.trans (b2.mono B1.out.size))
  have HF := hid (formatUint n HN.out.2.2 w2 (HR.out.2.1.on (N := M) (Below.mono B2.out (by have := HR.out; omega)) (Nat.le_refl _)).tab)
  rw [← HS.out.2.1] at HF
  clear b2 HP B1
  go_wp2_with fail
  refine HF.out.mono ?_
  rintro e w3 ⟨rfl, b3⟩
  have B3 : Below W.heap.size W w3 := B2.out.trans (b3.mono B2.out.size)
  have r3 := HR.out.1.to B3
  have c3 : w3.cell? ⟨g, 0, none⟩ = some (.string S) := by rw [HS.out.1]; exact r3.c0
  have f3 : w3.frozen? ⟨g, 0, none⟩ = false := r3.f
  have HE := hid (show RdC (w3.setCell ⟨g, 0, none⟩ (.string R)) g rest due ∧ Only g W (w3.setCell ⟨g, 0, none⟩ (.string R)) from by
    rw [HS.out.2.2]
    exact ⟨r3.set0 rest, (Only.of B3).set 0 _⟩)
  clear b3 B3 r3 HF B2
  go_wp2
  go_returns
  exact ⟨rfl, HE.out⟩
theorem ext_front (a b : List UInt8) : (⟨(a ++ b).toArray⟩ : ByteArray).extract 0 a.length = ⟨a.toArray⟩ := by
  apply ByteArray.ext
  rw [ByteArray.data_extract]
  apply Array.ext'
  simp
theorem ext_back (a b : List UInt8) : (⟨(a ++ b).toArray⟩ : ByteArray).extract a.length (a ++ b).length = ⟨b.toArray⟩ := by
  apply ByteArray.ext
  rw [ByteArray.data_extract]
  apply Array.ext'
  simp
set_option maxRecDepth 100000 in
set_option maxHeartbeats 6400000 in
theorem cut_ok {W : World} {g n : Nat} {a rest : List UInt8} {due : Int} (hn : n = a.length) (hr : RdC W g (a ++ rest) due) (hl : (a ++ rest).length ≤ 100000000) :
    Calls Tryz.prog 56 #[.pointer (some ⟨g, 0, none⟩), .int .u64 n] W fun e w' => e = .returned (.string ⟨a.toArray⟩) ∧ RdC w' g rest due ∧ Only g W w' := by
  have c0 : W.cell? ⟨g, 0, none⟩ = some (.string ⟨(a ++ rest).toArray⟩) := hr.c0
  have f0 : W.frozen? ⟨g, 0, none⟩ = false := hr.f
  have e1 := ext_front a rest
  have e2 := ext_back a rest
  have hsz : (⟨(a ++ rest).toArray⟩ : ByteArray).size = (a ++ rest).length := List.size_toArray
  obtain ⟨S, hS⟩ : ∃ S : ByteArray, S = ⟨(a ++ rest).toArray⟩ := ⟨_, rfl⟩
  rw [← hn, ← hS] at e1
  rw [← hn, ← hS, ← hsz, ← hS] at e2
  rw [← hS] at c0 hsz
  have hle : n ≤ S.size := by rw [hsz, List.length_append]; omega
  have hS1 : S.size ≤ 100000000 := by rw [hsz]; exact hl
  have HE := hid (show RdC (W.setCell ⟨g, 0, none⟩ (.string (S.extract n S.size))) g rest due ∧ Only g W (W.setCell ⟨g, 0, none⟩ (.string (S.extract n S.size))) from by
    rw [e2]
    exact ⟨hr.set0 rest, (Only.refl g W).set 0 _⟩)
  have HA := hid e1
  clear hr hl hS e1 e2 hsz hn
  go_enter Tryz.func56, Tryz.ntmps56
  go_wp2
  go_returns
  exact ⟨by rw [HA.out]; rfl, HE.out⟩
theorem pre_cut (c : UInt8) (rest : List UInt8) : hasPrefix (c :: rest) [c] = true ∧ trimPrefix (c :: rest) [c] = rest := by
  constructor
  · simp [hasPrefix]
  · simp [trimPrefix, hasPrefix]
set_option maxRecDepth 100000 in
set_option maxHeartbeats 6400000 in
theorem skip_ok {W : World} {g : Nat} {c : UInt8} {rest : List UInt8} {due : Int} (hr : RdC W g (c :: rest) due) :
    Calls Tryz.prog 57 #[.pointer (some ⟨g, 0, none⟩), .string ⟨#[c]⟩] W fun e w' => (∃ u, e = .returned u) ∧ RdC w' g rest due ∧ Only g W w' := by
  have c0 : W.cell? ⟨g, 0, none⟩ = some (.string ⟨(c :: rest).toArray⟩) := hr.c0
  have f0 : W.frozen? ⟨g, 0, none⟩ = false := hr.f
  have HC := hid (Tryz.strings_CutPrefix ⟨(c :: rest).toArray⟩ ⟨#[c]⟩ W)
  have e1 : (⟨(c :: rest).toArray⟩ : ByteArray).data.toList = c :: rest := rfl
  have e2 : (⟨#[c]⟩ : ByteArray).data.toList = [c] := rfl
  rw [e1, e2, (pre_cut c rest).1, (pre_cut c rest).2] at HC
  obtain ⟨S, hS⟩ : ∃ S : ByteArray, S = ⟨(c :: rest).toArray⟩ := ⟨_, rfl⟩
  obtain ⟨R, hR⟩ : ∃ R : ByteArray, R = ⟨rest.toArray⟩ := ⟨_, rfl⟩
  rw [← hS, ← hR] at HC
  rw [← hS] at c0
  have HE := hid (show RdC (W.setCell ⟨g, 0, none⟩ (.string R)) g rest due ∧ Only g W (W.setCell ⟨g, 0, none⟩ (.string R)) from by
    rw [hR]
    exact ⟨hr.set0 rest, (Only.refl g W).set 0 _⟩)
  clear hr hS hR e1 e2
  go_enter Tryz.func57, Tryz.ntmps57
  go_wp2_with fail
  refine HC.out.mono ?_
  rintro e w1 ⟨rfl, rfl⟩
  go_wp2
  go_returns
  exact ⟨⟨_, rfl⟩, HE.out⟩
set_option maxRecDepth 100000 in
set_option maxHeartbeats 6400000 in
theorem end_ok {W : World} {g : Nat} {due : Int} (hr : RdC W g [] due) :
    Calls Tryz.prog 46 #[.pointer (some ⟨g, 0, none⟩)] W fun e w' => (∃ u, e = .returned u) ∧ w' = W := by
  have c0 : W.cell? ⟨g, 0, none⟩ = some (.string ⟨#[]⟩) := hr.c0
  clear hr
  go_enter Tryz.func46, Tryz.ntmps46
  go_wp2
  go_returns
  exact ⟨⟨_, rfl⟩, rfl⟩
end Go.Proofs.YtlikpnaffpngiaaGreatDoor

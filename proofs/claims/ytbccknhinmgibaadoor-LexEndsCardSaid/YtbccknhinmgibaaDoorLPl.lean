/- Package lex's place: over, here, onward, need; the closure of word: which bytes are signs. Premise: the place lies in a block, and the text has at most 2^47 bytes. -/
import Derived.Test.YtbccknhinmgibaaDoorLRd
import Derived.Test.YtbccknhinmgibaaDoorShelf
import Derived.BigRegion
set_option linter.unusedVariables false
set_option linter.unusedSimpArgs false
namespace Go.Proofs.YtbccknhinmgibaaDoor
open Go.RowKit

/-- A place in memory: its text, and where it stands. -/
def PlaceAt (W : World) (gr : Nat) (S : ByteArray) (i : Nat) : Prop := W.cell? ⟨gr, 0, none⟩ = some (.string S) ∧ W.cell? ⟨gr, 1, none⟩ = some (.int .i64 (i : Int))
theorem RdS.place {B : Nat} {T TR : TypeId} {S : ByteArray} {gr N : Nat} {W : World} {i : Nat} {ov : Value} {st : List (Value × Fo × Nat)} (h : RdS B T TR S gr N W i ov st) : PlaceAt W gr S i := ⟨(cell_of_row _ _ 0 _ _ _ h.rd).trans rfl, (cell_of_row _ _ 1 _ _ _ h.rd).trans rfl⟩
set_option maxRecDepth 100000 in
theorem over_ok {w : World} {gr i : Nat} {S : ByteArray} (h : PlaceAt w gr S i) (hS : S.size ≤ 140737488355328) (r : Bool) (hr : ((i : Int) == (S.size : Int)) = r) :
    Calls Tryd.prog 49 #[.pointer (some ⟨gr, 0, none⟩)] w fun e w' => e = .returned (.bool r) ∧ Drawn w w' := by
  obtain ⟨h0, h1⟩ := h
  go_enter Tryd.func49, Tryd.ntmps49
  go_wp2
  go_quiet (fail)
  go_wp2
  go_ret
  exact ⟨rfl, ⟨_, rfl⟩⟩
set_option maxRecDepth 100000 in
theorem here_ok {w : World} {gr i : Nat} {S : ByteArray} (h : PlaceAt w gr S i) (hS : S.size ≤ 140737488355328) (hi : i < S.size) :
    Calls Tryd.prog 50 #[.pointer (some ⟨gr, 0, none⟩)] w fun e w' => e = .returned (.int .u8 (S[i].toNat : Int)) ∧ Drawn w w' := by
  obtain ⟨h0, h1⟩ := h
  have hi0 : (0 : Int) ≤ (i : Int) := by omega
  have hi1 : (i : Int) < (S.size : Int) := by omega
  go_enter Tryd.func50, Tryd.ntmps50
  go_wp2
  go_quiet (fail)
  go_wp2
  go_ret
  exact ⟨rfl, ⟨_, rfl⟩⟩
set_option maxRecDepth 100000 in
theorem onward_ok {w : World} {gr i : Nat} (h1 : w.cell? ⟨gr, 1, none⟩ = some (.int .i64 (i : Int))) (hf : w.frozen? ⟨gr, 1, none⟩ = false) (hi : i ≤ 140737488355328) :
    Calls Tryd.prog 51 #[.pointer (some ⟨gr, 0, none⟩)] w fun e w' => e = .returned (.tuple #[]) ∧ w' = w.setCell ⟨gr, 1, none⟩ (.int .i64 ((i + 1 : Nat) : Int)) := by
  go_enter Tryd.func51, Tryd.ntmps51
  go_wp2
  go_returns
  exact ⟨rfl, by rw [show ((i + 1 : Nat) : Int) = (i : Int) + 1 by omega]⟩
set_option maxRecDepth 100000 in
theorem need_yes {w : World} {gr : Nat} {n : Int} : Calls Tryd.prog 55 #[.pointer (some ⟨gr, 0, none⟩), .bool true, .int .i64 n] w fun e w' => e = .returned (.tuple #[]) ∧ w' = w := by
  go_enter Tryd.func55, Tryd.ntmps55
  go_wp2
  go_returns
  exact ⟨rfl, rfl⟩
/-- What is thrown: a place, and an error. -/
def faultP (p n : Int) : Ending := .panicked [{ v := .iface 59 (.agg #[.int .i64 p, .int .i64 n]), recovered := false }]
set_option maxRecDepth 100000 in
theorem need_no {w : World} {gr : Nat} {i n : Int} (h1 : w.cell? ⟨gr, 1, none⟩ = some (.int .i64 i)) : Calls Tryd.prog 55 #[.pointer (some ⟨gr, 0, none⟩), .bool false, .int .i64 n] w fun e w' => e = faultP i n ∧ w' = w := by
  go_enter Tryd.func55, Tryd.ntmps55
  go_wp2
  exact ⟨rfl, rfl, rfl⟩
theorem idx_has : ∀ (l : List UInt8) (c : UInt8), decide ((0 : Int) ≤ Lib.indexByte l c) = l.contains c
  | [], c => rfl
  | b :: l, c => by
    have ih := idx_has l c
    have hge := Lib.indexByte_ge l c
    rw [List.contains_cons, ← ih]
    rw [show Lib.indexByte (b :: l) c = if b == c then 0 else if Lib.indexByte l c == -1 then -1 else Lib.indexByte l c + 1 from rfl]
    by_cases h : b = c
    · subst h; simp
    · have h2 : (c == b) = false := beq_eq_false_iff_ne.2 fun e => h e.symm
      have h3 : (b == c) = false := beq_eq_false_iff_ne.2 h
      rw [h2, h3, Bool.false_or]
      by_cases h4 : Lib.indexByte l c = -1
      · rw [h4]; rfl
      · have h5 : (Lib.indexByte l c == -1) = false := beq_eq_false_iff_ne.2 h4
        rw [h5]
        simp only [Bool.false_eq_true, if_false]
        rw [decide_eq_decide]
        omega
set_option maxRecDepth 100000 in
set_option maxHeartbeats 1600000 in
theorem sign_ok (c : UInt8) (w : World) :
    Calls Tryd.prog 65 #[.int .u8 (c.toNat : Int)] w fun e w' => e = .returned (.bool (signB c)) ∧ w' = w := by
  obtain ⟨n, hn⟩ : ∃ n : Nat, n = c.toNat := ⟨_, rfl⟩
  have hI := idx_has [95, 45, 46, 43, 42, 47, 61, 60, 62] c
  have hc : ((n : Int).toNat).toUInt8 = c := by rw [hn]; simp
  have hs : signB c = ((decide (97 ≤ n) && decide (n ≤ 122)) || (decide (48 ≤ n) && decide (n ≤ 57)) || ([95, 45, 46, 43, 42, 47, 61, 60, 62] : List UInt8).contains c) := by rw [hn]; rfl
  rw [← hn]
  have HX : Hid (Calls Tryd.prog 66 #[.string ⟨#[95, 45, 46, 43, 42, 47, 61, 60, 62]⟩, .int .u8 (n : Int)] w fun e w' => ∃ k : Int, e = .returned (.int .i64 k) ∧ decide ((0 : Int) ≤ k) = ([95, 45, 46, 43, 42, 47, 61, 60, 62] : List UInt8).contains c ∧ w' = w) := by
    refine (Tryd.strings_IndexByte _ _ _).mono ?_
    rintro e w' ⟨rfl, rfl⟩
    refine ⟨_, rfl, ?_, rfl⟩
    rw [hc]; exact hI
  clear hI hc
  by_cases a1 : 97 ≤ n
  · by_cases a2 : n ≤ 122
    · have r : signB c = true := by rw [hs]; simp [a1, a2]
      rw [r]
      have b1 : decide ((97 : Int) ≤ (n : Int)) = true := decide_eq_true (by omega)
      have b2 : decide ((n : Int) ≤ 122) = true := decide_eq_true (by omega)
      clear hs r a1 a2 hn HX
      go_enter Tryd.func65, Tryd.ntmps65
      go_wp2
      go_ret
      exact ⟨rfl, rfl⟩
    · have a4 : ¬ n ≤ 57 := by omega
      have r : signB c = ([95, 45, 46, 43, 42, 47, 61, 60, 62] : List UInt8).contains c := by rw [hs]; simp [a2, a4]
      rw [r]
      have b1 : decide ((97 : Int) ≤ (n : Int)) = true := decide_eq_true (by omega)
      have b2 : decide ((n : Int) ≤ 122) = false := decide_eq_false (by omega)
      have b3 : decide ((48 : Int) ≤ (n : Int)) = true := decide_eq_true (by omega)
      have b4 : decide ((n : Int) ≤ 57) = false := decide_eq_false (by omega)
      clear hs r a1 a2 hn a4
      go_enter Tryd.func65, Tryd.ntmps65
      go_wp2_with fail
      refine HX.out.mono ?_
      rintro e w' ⟨k, rfl, hk, rfl⟩
      have HK := Lib.hid hk
      clear hk
      go_wp2
      go_ret
      exact ⟨by rw [HK.out]; rfl, rfl⟩
  · by_cases a3 : 48 ≤ n
    · by_cases a4 : n ≤ 57
      · have r : signB c = true := by rw [hs]; simp [a3, a4]
        rw [r]
        have b1 : decide ((97 : Int) ≤ (n : Int)) = false := decide_eq_false (by omega)
        have b3 : decide ((48 : Int) ≤ (n : Int)) = true := decide_eq_true (by omega)
        have b4 : decide ((n : Int) ≤ 57) = true := decide_eq_true (by omega)
        clear hs r a1 a3 a4 hn HX
        go_enter Tryd.func65, Tryd.ntmps65
        go_wp2
        go_ret
        exact ⟨rfl, rfl⟩
      · have r : signB c = ([95, 45, 46, 43, 42, 47, 61, 60, 62] : List UInt8).contains c := by rw [hs]; simp [a1, a4]
        rw [r]
        have b1 : decide ((97 : Int) ≤ (n : Int)) = false := decide_eq_false (by omega)
        have b3 : decide ((48 : Int) ≤ (n : Int)) = true := decide_eq_true (by omega)
        have b4 : decide ((n : Int) ≤ 57) = false := decide_eq_false (by omega)
        clear hs r a1 a3 a4 hn
        go_enter Tryd.func65, Tryd.ntmps65
        go_wp2_with fail
        refine HX.out.mono ?_
        rintro e w' ⟨k, rfl, hk, rfl⟩
        have HK := Lib.hid hk
        clear hk
        go_wp2
        go_ret
        exact ⟨by rw [HK.out]; rfl, rfl⟩
    · have r : signB c = ([95, 45, 46, 43, 42, 47, 61, 60, 62] : List UInt8).contains c := by rw [hs]; simp [a1, a3]
      rw [r]
      have b1 : decide ((97 : Int) ≤ (n : Int)) = false := decide_eq_false (by omega)
      have b3 : decide ((48 : Int) ≤ (n : Int)) = false := decide_eq_false (by omega)
      clear hs r a1 a3 hn
      go_enter Tryd.func65, Tryd.ntmps65
      go_wp2_with fail
      refine HX.out.mono ?_
      rintro e w' ⟨k, rfl, hk, rfl⟩
      have HK := Lib.hid hk
      clear hk
      go_wp2
      go_ret
      exact ⟨by rw [HK.out]; rfl, rfl⟩
end Go.Proofs.YtbccknhinmgibaaDoor

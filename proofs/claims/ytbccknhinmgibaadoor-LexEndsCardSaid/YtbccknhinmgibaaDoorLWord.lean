/- Package lex's word: a word more in the innermost row, or the fault. Premise: what stands while the reader reads. -/
import Derived.Test.YtbccknhinmgibaaDoorLPut
set_option linter.unusedVariables false
set_option linter.unusedSimpArgs false
namespace Go.Proofs.YtbccknhinmgibaaDoor
open Go.RowKit

theorem clone_ok {s : ByteArray} {w : World} (h : s.size ≤ 140737488355328) : Calls Tryd.prog 67 #[.string s] w fun e w' => e = .returned (.string s) ∧ Below w.heap.size w w' := by
  have HC := Lib.hid (Tryd.stringslite_Clone s w (by omega))
  clear h
  go_enter Tryd.func67, Tryd.ntmps67
  go_wp2_with fail
  refine HC.out.mono ?_
  rintro e w' ⟨rfl, hb⟩
  have HB := Lib.hid hb
  clear hb
  go_wp2
  go_ret
  exact ⟨rfl, HB.out⟩
variable {B : Nat} {T TR : TypeId} {S : ByteArray} {gr N : Nat} {w w1 : World} {i : Nat} {ov : Value} {st : List (Value × Fo × Nat)}
theorem RdS.past {m : Nat} (h : RdS B T TR S gr N w i ov st) (hp : PastAt S gr i ov TR w w1 m) : RdS B T TR S gr N w1 (i + m) ov st ∧ Below B w w1 := by
  obtain ⟨h1, h2, h3, h4⟩ := hp
  refine ⟨h.set h1 fun m hm hne => h2.block m hm fun e => hne (by injection e), h2.os, h2.tape, h2.output, h2.size, fun m hm => h2.block m ?_ fun e => ?_⟩
  · have := blk_lt h.rd; have := h.low; omega
  · injection e with e; have := h.low; omega
/-- The word at i. -/
def wordAt (S : ByteArray) (i : Nat) : List UInt8 := (S.data.toList.drop i).takeWhile signB
set_option maxRecDepth 100000 in
set_option maxHeartbeats 3200000 in
theorem word_ok {v : Value} {f : Fo} {a : Nat} (h : RdS B 35 92 S gr N w i ov ((v, f, a) :: st)) (hS : S.size ≤ 262144) (hN : N ≤ 1000000) (hst : st.length ≤ 1000) (hi : i < S.size) (hs : signB S[i] = true) :
    Calls Tryd.prog 54 #[.pointer (some ⟨gr, 0, none⟩)] w fun e w' => e = .returned (.tuple #[]) ∧ Below B w w' ∧ ∃ v', RdS B 35 92 S gr (N + 1) w' (i + (wordAt S i).length) ov ((v', f.app (.one ⟨(wordAt S i).toArray⟩ .nil false i), a) :: st) := by
  have hp := past_ok h.rd (by omega) (Nat.le_of_lt hi)
  have m1 := h.place.2
  obtain ⟨D, hD⟩ : ∃ D : ByteArray, D = ⟨(wordAt S i).toArray⟩ := ⟨_, rfl⟩
  have hDl : D.data.toList = S[i] :: (S.data.toList.drop (i + 1)).takeWhile signB := by
    rw [hD]
    show wordAt S i = _
    rw [wordAt, drop_byte hi, List.takeWhile_cons, hs]
    rfl
  have hDs : D.size ≤ 262144 := by
    have h1 : D.size = (wordAt S i).length := by rw [hD]; rfl
    have h2 := split_len signB (S.data.toList.drop i)
    rw [h1, wordAt]
    rw [List.length_drop] at h2
    have : S.data.toList.length = S.size := by simp
    omega
  have hne : (!D.toList.isEmpty) = true := by
    rw [ByteArray.toList_eq, hDl]; rfl
  have HP := Lib.hid (show Calls Tryd.prog 64 #[.pointer (some ⟨gr, 0, none⟩), .func (.func 65) #[] #[]] w (fun e w1 => e = .returned (.string D) ∧ RdS B 35 92 S gr N w1 (i + (wordAt S i).length) ov ((v, f, a) :: st) ∧ Below B w w1) from hp.mono fun e w1 hh => ⟨by rw [hh.1, hD]; rfl, h.past hh.2⟩)
  have HH := Lib.hid (show _ ∧ _ ∧ _ ∧ _ from ⟨hN, hst, hDs, hD⟩)
  have HE := Lib.hid hne
  clear hp h hD hDl hs hN hst hne
  go_enter Tryd.func54, Tryd.ntmps54
  go_wp2_with fail
  refine HP.out.mono ?_
  rintro e w1 ⟨rfl, hr1, hb1⟩
  have HR1 := Lib.hid (show _ ∧ _ from ⟨hr1, hb1⟩)
  clear hr1 hb1 HP m1
  go_wp2_with fail
  rw [HE.out]
  refine need_yes.mono ?_
  rintro e w2 ⟨rfl, rfl⟩
  have HC := Lib.hid (clone_ok (s := D) (w := w2) (by have := HH.out.2.2.1; omega))
  go_wp2_with fail
  refine HC.out.mono ?_
  rintro e w3 ⟨rfl, hb3⟩
  have HB3 := Lib.hid hb3
  clear hb3 HC
  go_wp2_with fail
  obtain ⟨hr1, hb1⟩ := HR1.out
  have hb4 := HB3.out.alloc HB3.out.size (Obj.cells #[Value.string D, Value.slice none 0 0, Value.bool false, Value.int IntKind.i64 (i : Int)] 35)
  have hr4 := hr1.bel hb4
  have hB2 : B ≤ w2.heap.size := Nat.le_trans hr1.low (Nat.le_of_lt (blk_lt hr1.rd))
  have hbb := hb1.trans (hb4.mono hB2)
  refine (put_ok (k := .nil) (K := none) (c := 0) (s := D) (b := false) (p := (i : Int)) hr4 ⟨by have := HH.out.2.2.1; omega, Nat.le_refl _, Nat.zero_le _, Nat.zero_le _⟩ (.nil _ _ _) (heap_alloc_new _ _) HH.out.1 HH.out.2.1).mono ?_
  rintro e w5 ⟨rfl, hb5, v', hr5⟩
  rw [HH.out.2.2.2] at hr5
  have HF := Lib.hid (show _ ∧ _ from ⟨hbb.trans hb5, hr5⟩)
  clear hr1 hb1 hb4 hr4 hB2 hbb hb5 hr5
  go_wp2
  go_returns
  exact ⟨rfl, HF.out.1, _, HF.out.2⟩
set_option maxRecDepth 100000 in
set_option maxHeartbeats 3200000 in
theorem word_no (h : RdS B 35 92 S gr N w i ov st) (hS : S.size ≤ 262144) (hi : i < S.size) (hs : signB S[i] = false) :
    Calls Tryd.prog 54 #[.pointer (some ⟨gr, 0, none⟩)] w fun e w' => e = faultP i 20 ∧ Below B w w' := by
  have hp := past_ok h.rd (by omega) (Nat.le_of_lt hi)
  have m1 := h.place.2
  have hw : (S.data.toList.drop i).takeWhile signB = [] := by
    rw [drop_byte hi, List.takeWhile_cons, hs]; rfl
  obtain ⟨D, hD⟩ : ∃ D : ByteArray, D = ⟨#[]⟩ := ⟨_, rfl⟩
  have HE := Lib.hid (show (!D.toList.isEmpty) = false by rw [hD, ByteArray.toList_eq]; rfl)
  have HP := Lib.hid (show Calls Tryd.prog 64 #[.pointer (some ⟨gr, 0, none⟩), .func (.func 65) #[] #[]] w (fun e w1 => e = .returned (.string D) ∧ w1.cell? ⟨gr, 1, none⟩ = some (.int .i64 (i : Int)) ∧ Below B w w1) from hp.mono fun e w1 hh => by
    obtain ⟨h1, h2⟩ := hh
    rw [hw] at h1 h2
    exact ⟨by rw [h1, hD], (h.past h2).1.place.2, (h.past h2).2⟩)
  clear hp h hw hs hD
  go_enter Tryd.func54, Tryd.ntmps54
  go_wp2_with fail
  refine HP.out.mono ?_
  rintro e w1 ⟨rfl, n1, hb1⟩
  have HB1 := Lib.hid hb1
  clear hb1 HP m1
  go_wp2_with fail
  rw [HE.out]
  refine (need_no n1).mono ?_
  rintro e w2 ⟨rfl, rfl⟩
  exact ⟨rfl, rfl, HB1.out⟩
end Go.Proofs.YtbccknhinmgibaaDoor

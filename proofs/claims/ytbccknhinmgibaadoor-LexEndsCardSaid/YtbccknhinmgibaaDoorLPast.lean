/- Package lex's past: goes past the bytes that are signs. Premise: the place lies in a block of three cells, and the text has at most 2^47 bytes. -/
import Derived.Test.YtbccknhinmgibaaDoorLPl
import Derived.Deep.LoopGhost
import Derived.Maps.AppendAt
import Derived.Lib.IndexBytes
import Derived.Deep.DeepFit
import Derived.Outline
set_option linter.unusedVariables false
set_option linter.unusedSimpArgs false
namespace Go.Proofs.YtbccknhinmgibaaDoor
open Go.RowKit

theorem bytes_is {a b : ByteArray} (h : a.data.toList = b.data.toList) : a = b := by
  obtain ⟨⟨x⟩⟩ := a
  obtain ⟨⟨y⟩⟩ := b
  simp at h
  rw [h]
theorem bytes_back (a : ByteArray) : (⟨a.data.toList.toArray⟩ : ByteArray) = a := rfl
theorem drop_byte {S : ByteArray} {i : Nat} (h : i < S.size) : S.data.toList.drop i = S[i] :: S.data.toList.drop (i + 1) := by
  have hl : i < S.data.toList.length := by simpa using h
  rw [List.drop_eq_getElem_cons hl]
  rfl
theorem drop_over {S : ByteArray} {i : Nat} (h : S.size ≤ i) : S.data.toList.drop i = [] := List.drop_eq_nil_of_le (by simpa using h)
theorem piece_is {S : ByteArray} {i m : Nat} {d : List UInt8} (h : (S.data.toList.drop i).take m = d) : S.extract i (i + m) = ⟨d.toArray⟩ := by
  refine bytes_is ?_
  rw [Lib.extract_data, Nat.add_sub_cancel_left, h]
theorem grown_drawn {w w' : World} (h : Drawn w w') (row : Option Nat) : w.grownBy w' row := by
  obtain ⟨m, rfl⟩ := h
  exact ⟨rfl, rfl, rfl, Nat.le_refl _, fun _ _ _ => rfl⟩
theorem grown_set (w : World) (g o : Nat) (v : Value) : w.grownBy (w.setCell ⟨g, o, none⟩ v) (some g) := ⟨rfl, rfl, rfl, by simp, fun k _ hk => Below.heap_setCell _ _ _ _ fun e => hk (by rw [e])⟩
/-- Past m signs. -/
def PastAt (S : ByteArray) (gr i : Nat) (ov : Value) (TR : TypeId) (w wr : World) (m : Nat) : Prop :=
  wr.heap[gr]? = some (.cells #[.string S, .int .i64 ((i + m : Nat) : Int), ov] TR (0, 0)) ∧ w.grownBy wr (some gr) ∧ i + m ≤ S.size ∧ (S.data.toList.drop i).takeWhile signB = (S.data.toList.drop i).take m ++ (S.data.toList.drop (i + m)).takeWhile signB
theorem PastAt.more {S : ByteArray} {gr i m : Nat} {ov : Value} {TR : TypeId} {w wr w' : World} (h : PastAt S gr i ov TR w wr m) (hl : i + m < S.size) (hs : signB S[i + m] = true) (hd : Drawn wr w') : PastAt S gr i ov TR w (w'.setCell ⟨gr, 1, none⟩ (.int .i64 ((i + m + 1 : Nat) : Int))) (m + 1) := by
  obtain ⟨h1, h2, h3, h4⟩ := h
  have h5 : w'.heap[gr]? = wr.heap[gr]? := by obtain ⟨n, rfl⟩ := hd; rfl
  refine ⟨three_set1 (h5.trans h1), (h2.trans (grown_drawn hd _)).trans (grown_set _ _ _ _), hl, ?_⟩
  rw [h4, drop_byte hl, List.takeWhile_cons, hs, List.take_add_one]
  have h6 : (S.data.toList.drop i)[m]? = some S[i + m] := by
    rw [List.getElem?_drop, List.getElem?_eq_getElem (by simpa using hl)]; rfl
  rw [h6]
  simp [Nat.add_assoc]
theorem PastAt.end {S : ByteArray} {gr i m : Nat} {ov : Value} {TR : TypeId} {w wr : World} (h : PastAt S gr i ov TR w wr m) (he : i + m = S.size ∨ ∃ hl : i + m < S.size, signB S[i + m] = false) : (S.data.toList.drop i).takeWhile signB = (S.data.toList.drop i).take m ∧ ((S.data.toList.drop i).takeWhile signB).length = m := by
  obtain ⟨h1, h2, h3, h4⟩ := h
  have h5 : (S.data.toList.drop (i + m)).takeWhile signB = [] := by
    rcases he with he | ⟨hl, hs⟩
    · rw [drop_over (by omega)]; rfl
    · rw [drop_byte hl, List.takeWhile_cons, hs]; rfl
  rw [h5, List.append_nil] at h4
  refine ⟨h4, ?_⟩
  rw [h4, List.length_take, List.length_drop]
  have : S.data.toList.length = S.size := by simp
  omega
/-- What past tells. -/
def PastE (S : ByteArray) (gr i : Nat) (ov : Value) (TR : TypeId) (w : World) (e : Ending) (w' : World) : Prop :=
  e = .returned (.string ⟨((S.data.toList.drop i).takeWhile signB).toArray⟩) ∧ PastAt S gr i ov TR w w' ((S.data.toList.drop i).takeWhile signB).length
set_option maxRecDepth 100000 in
set_option maxHeartbeats 3200000 in
theorem past_ok {w : World} {gr i : Nat} {S : ByteArray} {ov : Value} {TR : TypeId} (hr : w.heap[gr]? = some (.cells #[.string S, .int .i64 (i : Int), ov] TR (0, 0))) (hS : S.size ≤ 140737488355328) (hi : i ≤ S.size) :
    Calls Tryd.prog 64 #[.pointer (some ⟨gr, 0, none⟩), .func (.func 65) #[] #[]] w (PastE S gr i ov TR w) := by
  have m1 : w.cell? ⟨gr, 1, none⟩ = some (.int .i64 (i : Int)) := (cell_of_row _ _ 1 _ _ _ hr).trans rfl
  have HP := Lib.hid (show PastAt S gr i ov TR w w 0 from ⟨hr, World.grownBy.refl _ _, hi, by simp⟩)
  have HS := Lib.hid hS
  have HI := Lib.hid hi
  clear hr hi hS
  go_enter Tryd.func64, Tryd.ntmps64
  go_wp2
  obtain ⟨w0, hw0⟩ : ∃ w0, w0 = w := ⟨_, rfl⟩
  have HW := Lib.hid hw0
  rw [← hw0]
  clear hw0 m1
  go_loopg [10] (S.size - i) (fun k _ wr => ∃ m : Nat, Hid (k = S.size - (i + m) ∧ PastAt S gr i ov TR w wr m))
  case atStart => exact ⟨0, Lib.hid ⟨rfl, by have := HP.out; rw [HW.out]; exact this⟩⟩
  case round =>
    obtain ⟨m, HR⟩ := hrel
    have hp : PlaceAt wr gr S (i + m) := by
      have h := HR.out.2.1
      exact ⟨(cell_of_row _ _ 0 _ _ _ h).trans rfl, (cell_of_row _ _ 1 _ _ _ h).trans rfl⟩
    have HPl := Lib.hid hp
    have hle := HR.out.2.2.2.1
    by_cases hlt : i + m < S.size
    · have HO := Lib.hid (over_ok hp HS.out false (beq_eq_false_iff_ne.2 (by omega)))
      clear hp
      go_wp2_with fail
      refine HO.out.mono ?_
      rintro e w1 ⟨rfl, hd1⟩
      have HD1 := Lib.hid hd1
      have hp1 : PlaceAt w1 gr S (i + m) := by
        obtain ⟨n1, rfl⟩ := hd1
        exact HPl.out
      have HH := Lib.hid (here_ok hp1 HS.out hlt)
      clear hd1 hp1
      go_wp2_with fail
      refine HH.out.mono ?_
      rintro e w2 ⟨rfl, hd2⟩
      have HD2 := Lib.hid (HD1.out.trans hd2)
      clear hd2
      have HSG := Lib.hid (sign_ok S[i + m] w2)
      go_wp2_with fail
      refine HSG.out.mono ?_
      rintro e w3 ⟨rfl, rfl⟩
      have m1 : w3.cell? ⟨gr, 1, none⟩ = some (.int .i64 ((i + m : Nat) : Int)) := by
        obtain ⟨n1, rfl⟩ := HD2.out
        exact HPl.out.2
      have f1 : w3.frozen? ⟨gr, 1, none⟩ = false := by
        obtain ⟨n1, rfl⟩ := HD2.out
        have h := HR.out.2.1
        show wr.frozen? _ = _
        simp [World.frozen?, h]
      have HOn := Lib.hid (onward_ok m1 f1 (by have := HS.out; omega))
      clear m1 f1
      obtain ⟨r, hr⟩ : ∃ r, r = signB S[i + m] := ⟨_, rfl⟩
      rw [← hr]
      have HRr := Lib.hid hr
      clear hr
      cases r with
      | true =>
        go_wp2_with fail
        refine HOn.out.mono ?_
        rintro e w4 ⟨rfl, rfl⟩
        have HE := Lib.hid (HR.out.2.more hlt HRr.out.symm HD2.out)
        go_wp2
        go_roundg (S.size - (i + (m + 1)))
        case rel => exact ⟨m + 1, Lib.hid ⟨rfl, HE.out⟩⟩
        case measure => have := HR.out.1; omega
      | false =>
        have hend := HR.out.2.end (.inr ⟨hlt, HRr.out.symm⟩)
        have HE2 := Lib.hid (show ∀ n, PastE S gr i ov TR w (.returned (.string (S.extract i (i + m)))) (w3.drewN n) from fun n => ⟨by rw [piece_is hend.1.symm], by rw [hend.2]; exact ⟨by obtain ⟨n1, rfl⟩ := HD2.out; exact HR.out.2.1, HR.out.2.2.1.trans (grown_drawn (HD2.out.trans ⟨n, rfl⟩) _), HR.out.2.2.2.1, HR.out.2.2.2.2⟩⟩)
        obtain ⟨q0, q1⟩ : PlaceAt w3 gr S (i + m) := by
          obtain ⟨n1, rfl⟩ := HD2.out
          exact HPl.out
        clear hend HOn HSG HH HD1 HD2 HO
        have b1 : i ≤ i + m := by omega
        have HS2 := HS.out
        obtain ⟨j, hj⟩ : ∃ j, j = i + m := ⟨_, rfl⟩
        rw [← hj] at b1 hle HE2 q1
        clear hj
        go_wp2
        go_quiet (fail)
        go_wp2
        go_ret
        exact HE2.out _
    · have hend := HR.out.2.end (.inl (by omega))
      have HO := Lib.hid (over_ok hp HS.out true (beq_iff_eq.2 (by omega)))
      clear hp
      go_wp2_with fail
      refine HO.out.mono ?_
      rintro e w3 ⟨rfl, hd1⟩
      have HD2 := Lib.hid hd1
      have HE2 := Lib.hid (show ∀ n, PastE S gr i ov TR w (.returned (.string (S.extract i (i + m)))) (w3.drewN n) from fun n => ⟨by rw [piece_is hend.1.symm], by rw [hend.2]; exact ⟨by obtain ⟨n1, rfl⟩ := HD2.out; exact HR.out.2.1, HR.out.2.2.1.trans (grown_drawn (HD2.out.trans ⟨n, rfl⟩) _), HR.out.2.2.2.1, HR.out.2.2.2.2⟩⟩)
      obtain ⟨q0, q1⟩ : PlaceAt w3 gr S (i + m) := by
        obtain ⟨n1, rfl⟩ := HD2.out
        exact HPl.out
      clear hend HD2 HO hd1
      have b1 : i ≤ i + m := by omega
      have HS2 := HS.out
      obtain ⟨j, hj⟩ : ∃ j, j = i + m := ⟨_, rfl⟩
      rw [← hj] at b1 hle HE2 q1
      clear hj
      go_wp2
      go_quiet (fail)
      go_wp2
      go_ret
      exact HE2.out _
end Go.Proofs.YtbccknhinmgibaaDoor

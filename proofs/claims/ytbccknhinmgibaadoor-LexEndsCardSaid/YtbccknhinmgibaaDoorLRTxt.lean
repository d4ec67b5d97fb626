/- The document's Text of trees. Premises: trees in memory; their text has at most 10^9 bytes. -/
import Derived.Test.YtbccknhinmgibaaDoorLTxt
import Derived.Deep.LoopGhost
import Derived.BigQuiet
set_option linter.unusedVariables false
set_option linter.unusedSimpArgs false
namespace Go.Proofs.YtbccknhinmgibaaDoor
open Go.RowKit

theorem size_list (a : ByteArray) : a.data.toList.length = a.size := by simp
set_option maxRecDepth 100000 in
set_option maxHeartbeats 6400000 in
theorem rtext_step (N : Nat) (ih : ∀ (f : Fo) (W : World) (A : Option Addr) (c : Nat), f.nodes < N → FoAt W A 0 f → f.len ≤ 140737488355328 → (txt false f).length ≤ 1000000000 → Calls Tryd.prog 34 #[.slice A f.len c] W fun e w' => e = .returned (.string ⟨(txt false f).toArray⟩) ∧ Drawn W w')
    (f : Fo) (W : World) (A : Option Addr) (c : Nat) (hN : f.nodes ≤ N) (hf : FoAt W A 0 f) (hl : f.len ≤ 140737488355328) (ht : (txt false f).length ≤ 1000000000) :
    Calls Tryd.prog 34 #[.slice A f.len c] W fun e w' => e = .returned (.string ⟨(txt false f).toArray⟩) ∧ Drawn W w' := by
  obtain ⟨n, hn⟩ : ∃ n, n = f.len := ⟨_, rfl⟩
  obtain ⟨R, hR⟩ : ∃ R : ByteArray, R = ⟨(txt false f).toArray⟩ := ⟨_, rfl⟩
  have HH := Lib.hid (show _ ∧ _ ∧ _ ∧ R.data.toList = txt false f from ⟨hN, hf, ht, by rw [hR]⟩)
  rw [← hn, ← hR]
  have HN := Lib.hid hn
  have hn0 : n ≤ 140737488355328 := by omega
  have HI := Lib.hid ih
  clear hN hf hl hn ih ht hR
  go_enter Tryd.func34, Tryd.ntmps34
  go_wp2
  go_loopw [3, 4] (fun nv iv wr => ∃ (i : Nat) (g : Fo) (T : ByteArray), i ≤ n ∧ iv = .int .i64 (i : Int) ∧ nv = .string T ∧ Hid (Drawn W wr ∧ i + g.len = n ∧ FoAt wr A i g ∧ g.nodes ≤ N ∧ T.data.toList ++ txt (decide (0 < i)) g = txt false f)) (fun _ iv _ => n - (intOf iv).toNat)
  case atStart => exact ⟨0, f, ⟨#[]⟩, Nat.zero_le _, rfl, rfl, Lib.hid ⟨Drawn.refl _, by rw [HN.out]; omega, HH.out.2.1, HH.out.1, rfl⟩⟩
  case round =>
    obtain ⟨i, g, T, hin, rfl, rfl, HR⟩ := hrel
    obtain ⟨hd, hgl, hg, hgn, htx⟩ := HR.out
    cases g with
    | nil =>
      have hie : i = n := by simpa [Fo.len] using hgl
      have hlt : decide (i < n) = false := decide_eq_false (by omega)
      have HE := Lib.hid (show T = R ∧ _ from ⟨bytes_is (by rw [HH.out.2.2.2, ← htx]; simp [txt]), hd⟩)
      clear hd hgl hg hgn htx HR hie HI HH
      go_wp2
      go_ret
      exact ⟨by rw [← HE.out.1]; rfl, HE.out.2⟩
    | cons s k b p r =>
      have hil : i < n := by simp [Fo.len] at hgl; omega
      have hlt : decide (i < n) = true := decide_eq_true (by omega)
      obtain ⟨⟨ga, oa, A1, cA, rfl, q0, q1, q2, q3, hb1, hk1⟩, hr1⟩ := hg
      have x1 : (i : Int) < (n : Int) := by omega
      have x0 : (0 : Int) ≤ (i : Int) := by omega
      simp only [Fo.nodes, Fo.len] at hgn hgl
      obtain ⟨T1, hT1⟩ : ∃ T1 : ByteArray, T1.data.toList = T.data.toList ++ (if decide (0 < i) then [32] else []) ∧ (T1 = if decide (0 < i) then T ++ ⟨#[32]⟩ else T) := by
        by_cases h : 0 < i
        · exact ⟨T ++ ⟨#[32]⟩, by simp [h], by simp [h]⟩
        · exact ⟨T, by simp [h], by simp [h]⟩
      have hlen := congrArg List.length htx
      simp only [txt] at htx hlen
      have hmost := HH.out.2.2.1
      rw [← htx] at hmost
      have e1 : T1.data.toList ++ ((if b then 40 :: (txt false k ++ [41]) else s.data.toList) ++ txt true r) = txt false f := by rw [hT1.1, ← htx]; simp
      have hT1s := congrArg List.length e1
      have hT1f := HH.out.2.2.1
      rw [← e1] at hT1f
      have z1 := size_list T1
      have zT := size_list T
      have zs := size_list s
      have hTT : T.size ≤ T1.size := by
        have := congrArg List.length hT1.1
        rw [List.length_append] at this
        omega
      have hdp : decide (0 < i + 1) = true := decide_eq_true (by omega)
      cases b with
      | false =>
        simp only [Bool.false_eq_true, if_false, List.length_append] at e1 hT1f
        have hsum : T1.size + s.size ≤ 1000000000 := by omega
        have HG := Lib.hid (show _ ∧ _ ∧ _ ∧ _ ∧ (T1 ++ s).data.toList ++ txt true r = txt false f from ⟨hd, hgl, hr1, hgn, by rw [← e1]; simp⟩)
        have c2 : ¬ 9223372036854775807 < T1.size + s.size := by omega
        by_cases h0 : 0 < i
        · have y0 : decide (0 < i) = true := decide_eq_true h0
          have e2 : T1 = T ++ ⟨#[32]⟩ := by rw [hT1.2]; simp [h0]
          have c1 : ¬ 9223372036854775807 < T.size + 1 := by omega
          clear hd hgl hr1 hgn htx HR HI hk1 hb1 hlen hmost e1 hT1s hT1f hT1 z1 zT zs hTT hsum h0
          subst e2
          go_wp2
          go_roundw
          case rel => exact ⟨i + 1, r, _, by omega, by go_num, rfl, Lib.hid ⟨HG.out.1, by have := HG.out.2.1; omega, HG.out.2.2.1, by have := HG.out.2.2.2.1; omega, by rw [hdp]; exact HG.out.2.2.2.2⟩⟩
          case measure => simp [intOf]; omega
        · have y0 : decide (0 < i) = false := decide_eq_false h0
          have e2 : T1 = T := by rw [hT1.2]; simp [h0]
          clear hd hgl hr1 hgn htx HR HI hk1 hb1 hlen hmost e1 hT1s hT1f hT1 z1 zT zs hTT hsum h0
          subst e2
          go_wp2
          go_roundw
          case rel => exact ⟨i + 1, r, _, by omega, by go_num, rfl, Lib.hid ⟨HG.out.1, by have := HG.out.2.1; omega, HG.out.2.2.1, by have := HG.out.2.2.2.1; omega, by rw [hdp]; exact HG.out.2.2.2.2⟩⟩
          case measure => simp [intOf]; omega
      | true =>
        simp only [if_true, List.length_append, List.length_cons, List.length_nil] at e1 hT1f
        obtain ⟨S, hS⟩ : ∃ S : ByteArray, S = ⟨(txt false k).toArray⟩ := ⟨_, rfl⟩
        have hSd : S.data.toList = txt false k := by rw [hS]
        have zS := size_list S
        rw [hSd] at zS
        have HC := Lib.hid (HI.out k wr A1 cA (by omega) hk1 hb1.2.2.2 (by omega))
        rw [← hS] at HC
        have HG := Lib.hid (show _ ∧ _ ∧ _ ∧ _ ∧ (T1 ++ ⟨#[40]⟩ ++ S ++ ⟨#[41]⟩).data.toList ++ txt true r = txt false f from ⟨hd, hgl, hr1, hgn, by rw [← e1]; simp [hSd]⟩)
        have c2 : ¬ 9223372036854775807 < T1.size + 1 := by omega
        have c3 : ¬ 9223372036854775807 < T1.size + 1 + S.size := by omega
        have c4 : ¬ 9223372036854775807 < T1.size + 1 + S.size + 1 := by omega
        by_cases h0 : 0 < i
        · have y0 : decide (0 < i) = true := decide_eq_true h0
          have e2 : T1 = T ++ ⟨#[32]⟩ := by rw [hT1.2]; simp [h0]
          have c1 : ¬ 9223372036854775807 < T.size + 1 := by omega
          have z2 : T1.size = T.size + 1 := by rw [e2, ByteArray.size_append]; rfl
          rw [z2] at c2 c3 c4
          clear hd hgl hr1 hgn htx HR HI hk1 hb1 hlen hmost e1 hT1s hT1f hT1 z1 zT zs zS hTT h0 hS hSd z2
          subst e2
          go_wp2_with fail
          refine HC.out.mono ?_
          rintro e w2 ⟨rfl, hd2⟩
          have HD := Lib.hid (show Drawn W w2 ∧ FoAt w2 (some ⟨ga, oa, none⟩) (i + 1) r from ⟨HG.out.1.trans hd2, HG.out.2.2.1.drawn hd2⟩)
          clear hd2 HC
          go_wp2
          go_roundw
          case rel => exact ⟨i + 1, r, _, by omega, by go_num, rfl, Lib.hid ⟨HD.out.1, by have := HG.out.2.1; omega, HD.out.2, by have := HG.out.2.2.2.1; omega, by rw [hdp]; exact HG.out.2.2.2.2⟩⟩
          case measure => simp [intOf]; omega
        · have y0 : decide (0 < i) = false := decide_eq_false h0
          have e2 : T1 = T := by rw [hT1.2]; simp [h0]
          clear hd hgl hr1 hgn htx HR HI hk1 hb1 hlen hmost e1 hT1s hT1f hT1 z1 zT zs zS hTT h0 hS hSd
          subst e2
          go_wp2_with fail
          refine HC.out.mono ?_
          rintro e w2 ⟨rfl, hd2⟩
          have HD := Lib.hid (show Drawn W w2 ∧ FoAt w2 (some ⟨ga, oa, none⟩) (i + 1) r from ⟨HG.out.1.trans hd2, HG.out.2.2.1.drawn hd2⟩)
          clear hd2 HC
          go_wp2
          go_roundw
          case rel => exact ⟨i + 1, r, _, by omega, by go_num, rfl, Lib.hid ⟨HD.out.1, by have := HG.out.2.1; omega, HD.out.2, by have := HG.out.2.2.2.1; omega, by rw [hdp]; exact HG.out.2.2.2.2⟩⟩
          case measure => simp [intOf]; omega
theorem rtext_ok : ∀ (N : Nat) (f : Fo) (W : World) (A : Option Addr) (c : Nat), f.nodes < N → FoAt W A 0 f → f.len ≤ 140737488355328 → (txt false f).length ≤ 1000000000 → Calls Tryd.prog 34 #[.slice A f.len c] W fun e w' => e = .returned (.string ⟨(txt false f).toArray⟩) ∧ Drawn W w'
  | 0, _, _, _, _, h, _, _, _ => absurd h (Nat.not_lt_zero _)
  | N + 1, f, W, A, c, h, h1, h2, h3 => rtext_step N (rtext_ok N) f W A c (by omega) h1 h2 h3
end Go.Proofs.YtbccknhinmgibaaDoor

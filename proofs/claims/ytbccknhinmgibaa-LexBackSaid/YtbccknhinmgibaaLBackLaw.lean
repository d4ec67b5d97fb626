/- The law LexBack over any text of at most 2^47 bytes. -/
import Derived.Test.YtbccknhinmgibaaLPlc
import Derived.Test.YtbccknhinmgibaaLText
set_option linter.unusedVariables false
set_option linter.unusedSimpArgs false
namespace Go.Proofs.Ytbccknhinmgibaa
open Go.RowKit

theorem parse_bad {l : List UInt8} {f : Fo} {p : Nat} {n : Int} (hl : l.length ≤ 5000) (h : parseP l = (f, p, n)) (hn : n ≠ 0) : f = .nil ∧ p ≤ l.length ∧ (n = 20 ∨ n = 3) := by
  have hp := parse_place h
  rw [parse_short (by omega)] at h
  cases hg : go l 0 [] .nil with
  | bad q e =>
    have he := go_err _ _ _ _ _ _ _ (Nat.le_refl _) hg
    rw [hg] at h
    simp only [fin, Prod.mk.injEq] at h
    obtain ⟨rfl, rfl, rfl⟩ := h
    exact ⟨rfl, hp, he.symm⟩
  | fine U K =>
    rw [hg] at h
    cases U with
    | nil =>
      simp only [fin, Prod.mk.injEq] at h
      exact absurd h.2.2.symm hn
    | cons x U =>
      simp only [fin, Prod.mk.injEq] at h
      obtain ⟨rfl, rfl, rfl⟩ := h
      exact ⟨rfl, hp, .inl rfl⟩
set_option maxRecDepth 100000 in
set_option maxHeartbeats 6400000 in
theorem lexBack_ok {S : ByteArray} {w : World} (hS : S.size ≤ 140737488355328) : Calls Try.prog 5 #[.string S] w fun e w' => e = .returned (.bool true) ∧ Below w.heap.size w w' := by
  have HA := Lib.hid (awake_ok w)
  by_cases hl : 5000 < S.size
  · have b1 : decide ((5000 : Int) < (S.size : Int)) = true := decide_eq_true (by omega)
    clear hl
    go_enter Try.func5, Try.ntmps5
    go_wp2_with fail
    refine HA.out.mono ?_
    rintro e w1 ⟨rfl, hb1⟩
    have HB := Lib.hid hb1
    clear hb1
    go_wp2
    go_ret
    exact ⟨rfl, HB.out⟩
  · have b1 : decide ((5000 : Int) < (S.size : Int)) = false := decide_eq_false (by omega)
    obtain ⟨f, p, n, e1, d1, q1, h1⟩ := parse_any (S := S) hS
    have hS5 : S.size ≤ 5000 := by omega
    have H1 := Lib.hid h1
    have HE := Lib.hid e1
    have HD := Lib.hid d1
    clear h1 e1 d1 hl hS
    go_enter Try.func5, Try.ntmps5
    go_wp2_with fail
    refine HA.out.mono ?_
    rintro e w1 ⟨rfl, hb1⟩
    have HB1 := Lib.hid hb1
    clear hb1 HA
    go_wp2_with fail
    refine (H1.out _).mono ?_
    rintro e w2 ⟨hb2, K, c, rfl, hf2⟩
    have HB2 := Lib.hid (show _ ∧ _ from ⟨HB1.out.trans (hb2.mono HB1.out.size), hf2⟩)
    clear hb2 hf2 HB1 H1
    by_cases hn : n = 0
    · have x1 : (n != 0) = false := by rw [hn]; rfl
      have x0 : (n == 0) = true := by rw [hn]; rfl
      have hlen : S.data.toList.length = S.size := by simp
      obtain ⟨hp0, hgood, hdeep, hpl, htl, f', hpf, hbare, htx, hdp⟩ := back_pure (l := S.data.toList) (f := f) (p := p) (by omega) (by rw [← hn]; exact HE.out)
      rw [hlen] at hpl htl
      obtain ⟨T, hT⟩ : ∃ T : ByteArray, T = ⟨(txt false f).toArray⟩ := ⟨_, rfl⟩
      have hTd : T.data.toList = txt false f := by rw [hT]
      have hTs : T.size ≤ 2 * S.size := by
        have : T.data.toList.length = T.size := by simp
        rw [← this, hTd]; exact htl
      obtain ⟨f2, p2, n2, e2, d2, q2, h2⟩ := parse_any (S := T) (by omega)
      rw [hTd, hpf] at e2
      simp only [Prod.mk.injEq] at e2
      obtain ⟨rfl, rfl, rfl⟩ := e2
      have HX := Lib.hid (Text_ok HB2.out.2 (by have := HD.out; omega) (by omega))
      rw [← hT] at HX
      have HT2 := Lib.hid (show txt false f' = txt false f ∧ (txt false f').length ≤ 900000 from ⟨htx, by rw [htx]; omega⟩)
      have HTe := Lib.hid hT
      have H2 := Lib.hid h2
      have HP := Lib.hid (show _ ∧ _ ∧ _ ∧ _ ∧ _ from ⟨hbare, hdp, hpl, d2, hdeep⟩)
      have y0 : ((p : Int) == 0) = true := by rw [hp0]; rfl
      have yT : decide ((T.size : Int) ≤ 2 * (S.size : Int)) = true := decide_eq_true (by omega)
      have yd : decide ((f.deep : Int) ≤ 400) = true := decide_eq_true (by omega)
      have ye : ((f'.deep : Int) == (f.deep : Int)) = true := by rw [hdp]; simp
      have ys : (T.toList == T.toList) = true := beq_self_eq_true _
      have wm : IntKind.i64.wrap (2 * (S.size : Int)) = 2 * (S.size : Int) := by rw [IntKind.wrap_i64]; omega
      clear hp0 hgood hdeep hpl htl hpf hbare htx hdp hTd hTs d2 q2 h2 hT hlen hn q1
      go_wp2_with fail
      refine HX.out.mono ?_
      rintro e w3 ⟨rfl, hb3⟩
      have HB3 := Lib.hid (show _ ∧ _ from ⟨HB2.out.1.trans (hb3.mono HB2.out.1.size), HB2.out.2.below hb3⟩)
      clear hb3 HX HB2
      go_wp2_with fail
      refine (H2.out _).mono ?_
      rintro e w4 ⟨hb4, K4, c4, rfl, hf4⟩
      have HB4 := Lib.hid (show _ ∧ _ ∧ _ from ⟨HB3.out.1.trans (hb4.mono HB3.out.1.size), HB3.out.2.below hb4, hf4⟩)
      clear hb4 hf4 HB3 H2
      have HSh : Hid (Calls Try.prog 16 #[.slice K f.len c, .slice K4 f'.len c4] w4 (SaysD w4 true)) := Lib.hid (by
        obtain ⟨_, ⟨K', c', ee, _, _, hl1, hf1⟩, ⟨K5, c5, ee2, _, _, hl2, hf5⟩⟩ := HB4.out
        simp only [Value.slice.injEq, true_and] at ee ee2
        obtain ⟨rfl, rfl⟩ := ee
        obtain ⟨rfl, rfl⟩ := ee2
        exact shape_ok (f.nodes + 1) f f' w4 K K4 c c4 (Nat.lt_succ_self _) hf1 hf5 hl1 hl2 true ⟨fun _ => HP.out.1.symm, fun _ => rfl⟩)
      go_wp2_with fail
      refine HSh.out.mono ?_
      rintro e w5 ⟨rfl, hd5⟩
      have HB5 := Lib.hid (show _ ∧ _ ∧ _ from ⟨HB4.out.1.trans (hd5.below.mono HB4.out.1.size), HB4.out.2.1.below hd5.below, HB4.out.2.2.below hd5.below⟩)
      clear hd5 HB4 HSh
      have HX := Lib.hid (Text_ok HB5.out.2.2 (by have := HP.out.2.2.2.1; omega) HT2.out.2)
      rw [HT2.out.1, ← HTe.out] at HX
      go_wp2_with fail
      refine HX.out.mono ?_
      rintro e w6 ⟨rfl, hb6⟩
      have HB6 := Lib.hid (show _ ∧ _ ∧ _ from ⟨HB5.out.1.trans (hb6.mono HB5.out.1.size), HB5.out.2.1.below hb6, HB5.out.2.2.below hb6⟩)
      clear hb6 HB5 HX
      have HDp := Lib.hid (Deep_ok HB6.out.2.1 (by have := HD.out; omega))
      go_wp2_with fail
      refine HDp.out.mono ?_
      rintro e w7 ⟨rfl, hb7⟩
      have HB7 := Lib.hid (show _ ∧ _ ∧ _ from ⟨HB6.out.1.trans (hb7.mono HB6.out.1.size), HB6.out.2.1.below hb7, HB6.out.2.2.below hb7⟩)
      clear hb7 HB6 HDp
      have HDp := Lib.hid (Deep_ok HB7.out.2.2 (by have := HP.out.2.2.2.1; omega))
      go_wp2_with fail
      refine HDp.out.mono ?_
      rintro e w8 ⟨rfl, hb8⟩
      have HB8 := Lib.hid (show _ ∧ _ ∧ _ from ⟨HB7.out.1.trans (hb8.mono HB7.out.1.size), HB7.out.2.1.below hb8, HB7.out.2.2.below hb8⟩)
      clear hb8 HB7 HDp
      have HDp := Lib.hid (Deep_ok HB8.out.2.1 (by have := HD.out; omega))
      go_wp2_with fail
      refine HDp.out.mono ?_
      rintro e w9 ⟨rfl, hb9⟩
      have HB9 := Lib.hid (show _ ∧ _ from ⟨HB8.out.1.trans (hb9.mono HB8.out.1.size), HB8.out.2.1.below hb9⟩)
      clear hb9 HB8 HDp
      have HPl : Hid (Calls Try.prog 17 #[.string S, .slice K f.len c, .int .i64 0, .int .i64 (S.size : Int)] w9 fun e w' => e = .returned (.bool true) ∧ Below w9.heap.size w9 w') := Lib.hid (by
        obtain ⟨_, ⟨K', c', ee, _, _, hl1, hf1⟩⟩ := HB9.out
        simp only [Value.slice.injEq, true_and] at ee
        obtain ⟨rfl, rfl⟩ := ee
        exact places_ok S hS5 (f.nodes + 1) f w9 K c 0 S.size (Nat.lt_succ_self _) hf1 hl1 HP.out.2.2.1 (by omega) (by omega) (by omega) (by omega))
      go_wp2_with fail
      refine HPl.out.mono ?_
      rintro e wa ⟨rfl, hba⟩
      have HE2 := Lib.hid (HB9.out.1.trans (hba.mono HB9.out.1.size))
      clear hba HB9 HPl
      go_wp2
      go_ret
      exact ⟨rfl, HE2.out⟩
    · have x1 : (n != 0) = true := by simpa using hn
      obtain ⟨rfl, hp, h20⟩ := parse_bad (by simpa using hS5) HE.out hn
      have w0 : ((Fo.nil.len : Int) == 0) = true := rfl
      have y1 : decide ((0 : Int) ≤ (p : Int)) = true := decide_eq_true (by omega)
      have y2 : decide ((p : Int) ≤ (S.size : Int)) = true := decide_eq_true (by omega)
      have HE2 := Lib.hid HB2.out.1
      clear hp hn HB2 HE HD
      rcases h20 with rfl | rfl
      · go_wp2
        go_ret
        exact ⟨rfl, HE2.out⟩
      · go_wp2
        go_ret
        exact ⟨rfl, HE2.out⟩
end Go.Proofs.Ytbccknhinmgibaa

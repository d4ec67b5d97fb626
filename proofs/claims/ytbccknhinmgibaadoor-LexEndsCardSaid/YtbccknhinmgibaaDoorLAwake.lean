/- The laws' awake of layer 13: the chapter's examples. No condition. -/
import Derived.Test.YtbccknhinmgibaaDoorLParseB
set_option linter.unusedVariables false
set_option linter.unusedSimpArgs false
namespace Go.Proofs.YtbccknhinmgibaaDoor
open Go.RowKit

/-- The chapter's first example. -/
def treeOne : Fo := .one ⟨#[]⟩ (.cons ⟨#[97, 100, 100]⟩ .nil false 1 (.cons ⟨#[120]⟩ .nil false 5 (.one ⟨#[49]⟩ .nil false 7))) true 0
theorem aw1 : parseP [40, 97, 100, 100, 32, 120, 32, 49, 41] = (treeOne, 0, 0) := by
  simp [parseP, go, fin, signB, Fo.app, Fo.one, treeOne, List.takeWhile, List.dropWhile]
theorem aw2 : parseP [40, 97] = (.nil, 2, 20) := by
  simp [parseP, go, fin, signB, Fo.app, Fo.one, List.takeWhile, List.dropWhile]
theorem aw3 : parseP [97, 41] = (.nil, 1, 20) := by
  simp [parseP, go, fin, signB, Fo.app, Fo.one, List.takeWhile, List.dropWhile]
theorem aw4 : parseP [65] = (.nil, 0, 20) := by
  simp [parseP, go, fin, signB, Fo.app, Fo.one, List.takeWhile, List.dropWhile]
/-- Parse of a text whose trees are known. -/
theorem parse_at {S : ByteArray} {w : World} {f : Fo} {p : Nat} {n : Int} (hS : S.size ≤ 140737488355328) (h : parseP S.data.toList = (f, p, n)) : Calls Tryd.prog 7 #[.string S] w fun e w' => Below w.heap.size w w' ∧ ∃ K c, e = .returned (.tuple #[.slice K f.len c, .int .i64 (p : Int), .int .i64 n]) ∧ (f.len ≤ c ∧ c ≤ maxLen ∧ f.len ≤ 262144) ∧ FoAt w' K 0 f :=
  (parse_ok hS).mono fun e w' ⟨hb, f', p', n', K, c, h1, h2, h3, h4⟩ => by
    rw [h] at h1
    obtain ⟨rfl, rfl, rfl⟩ : f = f' ∧ p = p' ∧ n = n' := by simpa using h1
    exact ⟨hb, K, c, h2, h3, h4⟩
set_option maxRecDepth 100000 in
set_option maxHeartbeats 6400000 in
theorem awake_ok (w : World) : Calls Tryd.prog 11 #[] w fun e w' => e = .returned (.bool true) ∧ Below w.heap.size w w' := by
  have H1 := Lib.hid (fun w => parse_at (w := w) (S := ⟨#[40, 97, 100, 100, 32, 120, 32, 49, 41]⟩) (show 9 ≤ 140737488355328 by omega) aw1)
  have H2 := Lib.hid (fun w => parse_at (w := w) (S := ⟨#[40, 97]⟩) (show 2 ≤ 140737488355328 by omega) aw2)
  have H3 := Lib.hid (fun w => parse_at (w := w) (S := ⟨#[97, 41]⟩) (show 2 ≤ 140737488355328 by omega) aw3)
  have H4 := Lib.hid (fun w => parse_at (w := w) (S := ⟨#[65]⟩) (show 1 ≤ 140737488355328 by omega) aw4)
  go_enter Tryd.func11, Tryd.ntmps11
  go_wp2_with fail
  refine (H1.out _).mono ?_
  rintro e w1 ⟨hb1, K, c, rfl, hc, hf⟩
  have HF1 := Lib.hid (show _ ∧ _ from ⟨hb1, hf⟩)
  clear hb1 hc hf
  go_wp2_with fail
  refine (H2.out _).mono ?_
  rintro e w2 ⟨hb2, K2, c2, rfl, hc, hf⟩
  have HF2 := Lib.hid (show _ ∧ _ from ⟨HF1.out.1.trans (hb2.mono HF1.out.1.size), HF1.out.2.bel hb2⟩)
  clear hb2 hc hf HF1
  go_wp2_with fail
  refine (H3.out _).mono ?_
  rintro e w3 ⟨hb2, K3, c3, rfl, hc, hf⟩
  have HF3 := Lib.hid (show _ ∧ _ from ⟨HF2.out.1.trans (hb2.mono HF2.out.1.size), HF2.out.2.bel hb2⟩)
  clear hb2 hc hf HF2
  go_wp2_with fail
  refine (H4.out _).mono ?_
  rintro e w4 ⟨hb2, K4, c4, rfl, hc, hf⟩
  have HF4 := Lib.hid (HF3.out.1.trans (hb2.mono HF3.out.1.size))
  obtain ⟨⟨g, o, A, cA, rfl, q0, q1, q2, q3, _, ⟨g1, o1, A1, cA1, rfl, r0, r1, r2, r3, _, _⟩, ⟨g2, o2, A2, cA2, e2, s0, s1, s2, s3, _, _⟩, ⟨g3, o3, A3, cA3, e3, t0, t1, t2, t3, _, _⟩, _⟩, _⟩ := HF3.out.2.bel hb2
  simp only [Option.some.injEq, Addr.mk.injEq, and_true] at e2 e3
  obtain ⟨rfl, rfl⟩ := e2
  obtain ⟨rfl, rfl⟩ := e3
  clear hb2 hc hf HF3 H1 H2 H3 H4
  go_wp2
  go_ret
  exact ⟨rfl, HF4.out⟩
end Go.Proofs.YtbccknhinmgibaaDoor

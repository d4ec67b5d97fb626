/- The law LexParses, walked: for every text it is true. -/
import Derived.Test.YtbccknhinmgibaaDoorLRefP
import Derived.Test.YtbccknhinmgibaaDoorLRowLaw
import Derived.Test.YtbccknhinmgibaaDoorLSame
set_option linter.unusedVariables false
set_option linter.unusedSimpArgs false
namespace Go.Proofs.YtbccknhinmgibaaDoor
open Go.RowKit

theorem rparse_at {S : ByteArray} {w : World} {f : Fo} {p : Nat} {n : Int} (hS : S.size ≤ 140737488355328) (h : parseP S.data.toList = (f, p, n)) : Calls Tryd.prog 12 #[.string S] w fun e w' => Below w.heap.size w w' ∧ ∃ K c, e = .returned (.tuple #[.slice K f.len c, .int .i64 (p : Int), .int .i64 n]) ∧ FoAt w' K 0 f := by
  refine (rparse_ok hS).mono ?_
  rintro e w' ⟨hb, f', p', n', K, c, he, rfl, hc, hf⟩
  rw [h] at he
  obtain ⟨rfl, rfl, rfl⟩ : f = f' ∧ p = p' ∧ n = n' := by
    injection he with e1 e2
    injection e2 with e2 e3
    exact ⟨e1, e2, e3⟩
  exact ⟨hb, K, c, rfl, hf⟩
set_option maxRecDepth 100000 in
set_option maxHeartbeats 3200000 in
theorem parses_ok {S : ByteArray} {w : World} (hS : S.size ≤ 140737488355328) : Calls Tryd.prog 4 #[.string S] w fun e w' => e = .returned (.bool true) ∧ Below w.heap.size w w' := by
  obtain ⟨f, p, n, he, hn, hp, h1⟩ := parse_any hS
  have H1 := Lib.hid h1
  have H2 := Lib.hid (fun w => rparse_at (w := w) hS he)
  have HN := Lib.hid (show f.nodes < 262145 ∧ f.len ≤ 140737488355328 from ⟨by omega, by have := len_nodes f; omega⟩)
  have q1 : ((p : Int) == (p : Int)) = true := beq_self_eq_true _
  have q2 : (n == n) = true := beq_self_eq_true _
  clear hS he hn hp h1
  go_enter Tryd.func4, Tryd.ntmps4
  go_wp2_with fail
  refine (H1.out _).mono ?_
  rintro e w1 ⟨hb1, K1, c1, rfl, hf1⟩
  have HB1 := Lib.hid (show _ ∧ _ from ⟨hb1, hf1⟩)
  clear hb1 hf1
  go_wp2_with fail
  refine (H2.out _).mono ?_
  rintro e w2 ⟨hb2, K2, c2, rfl, hf2⟩
  have HB2 := Lib.hid (show _ ∧ _ ∧ _ from ⟨HB1.out.1.trans (hb2.mono HB1.out.1.size), HB1.out.2.below hb2, hf2⟩)
  clear hb2 hf2 HB1 H1 H2
  have hf1 : FoAt w2 K1 0 f := by
    obtain ⟨K', c', e, _, _, _, hf⟩ := HB2.out.2.1
    injection e with e1 e2 e3
    rw [e1]; exact hf
  have HSm := Lib.hid (same_ok 262145 f f w2 K1 K2 c1 c2 HN.out.1 hf1 HB2.out.2.2 HN.out.2 HN.out.2 true ⟨fun _ => rfl, fun _ => rfl⟩)
  clear hf1
  go_wp2_with fail
  refine HSm.out.mono ?_
  rintro e w3 ⟨rfl, n3, rfl⟩
  have HE := Lib.hid (show Below w.heap.size w (w2.drewN n3) from HB2.out.1.trans ⟨rfl, rfl, rfl, Nat.le_refl _, fun _ _ => rfl⟩)
  clear HB2 HSm HN
  go_wp2
  go_ret
  exact ⟨rfl, HE.out⟩
end Go.Proofs.YtbccknhinmgibaaDoor

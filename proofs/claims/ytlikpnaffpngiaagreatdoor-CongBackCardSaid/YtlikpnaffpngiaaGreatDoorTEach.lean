/- Package term's each: what its closure does at a part's turn. -/
import Derived.Test.YtlikpnaffpngiaaGreatDoorTRun
import Derived.Deep.RegionWith
set_option linter.unusedVariables false
set_option linter.unusedSimpArgs false
namespace Go.Proofs.YtlikpnaffpngiaaGreatDoor
open Go.RowKit

set_option maxRecDepth 100000 in
set_option maxHeartbeats 3200000 in
theorem do_any {T : TypeId} {x : List Value} {w : World} {ad : Addr} {b1 gw b3 B m n : Nat} {v : Value} {E : List Value} {FV F : FuncId} {fv cv fs cs : Array Value} {Q1 : Option Addr → Nat → World → Prop}
    (hb1 : w.cell? ⟨b1, 0, none⟩ = some (.func (.func FV) fv cv)) (hen : ∀ args w, (callFunc FV args).run Tryz.prog w = .ok (.enter FV args) w)
    (hcall : Calls Tryz.prog FV (fv ++ #[.pointer (some ad)] ++ cv) w fun e w2 => (∃ u, e = .returned u) ∧ ∃ K c, Q1 K c w2)
    (h2 : ∀ w2 K c, Q1 K c w2 → w2.cell? ⟨b3, 0, none⟩ = some (.func (.func F) fs cs) ∧ w2.cell? (ad.add 4) = some (.slice K n c) ∧ TRow w2 B v m E ∧ WK w2 gw v T x ∧ B ≤ w2.heap.size ∧ (n ≠ 0 → ∃ ad, K = some ad)) (hgB : gw < B) (hn : m + n ≤ 100000000) :
    Calls Tryz.prog 52 #[.pointer (some ad), .pointer (some ⟨b1, 0, none⟩), .pointer (some ⟨gw, 0, none⟩), .pointer (some ⟨b3, 0, none⟩)] w fun e w' => (∃ u, e = .returned u) ∧ ∃ w2 v' K c, Q1 K c w2 ∧ TRow w' B v' (m + n) (E ++ rowTurns (.func (.func F) fs cs) K n) ∧ WK w' gw v' T x ∧ Turned gw v v' w2 w' := by
  have HC := Lib.hid hcall
  have H2 := Lib.hid h2
  have HB := Lib.hid (show _ ∧ _ from ⟨hgB, hn⟩)
  clear hcall h2 hgB hn
  go_enter Tryz.func52, Tryz.ntmps52
  go_wp2_with fail
  refine HC.out.mono ?_
  rintro e w2 ⟨⟨u, rfl⟩, K, c, hq⟩
  obtain ⟨m1, m2, h3, h4, h5, hK⟩ := H2.out _ _ _ hq
  have m4 : w2.cell? { block := ad.block, off := ad.off + 4 } = some (.slice K n c) := m2
  have HN := Lib.hid (into_any (w := w2.drew) (F := F) (fs := fs) (cs := cs) (c := c) (show TRow w2.drew B v m E from h3) (show WK w2.drew gw v T x from h4) HB.out.1 h5 HB.out.2 hK)
  have HQ := Lib.hid hq
  clear hq h3 h4 h5 hK H2 HC HB
  go_wp2_with fail
  go_region_with (go_at_call 53; refine HN.out.mono ?_; rintro e w' ⟨⟨u, rfl⟩, HE⟩; have HE' := Lib.hid HE; clear HE)
  all_goals go_wp2
  all_goals go_returns
  all_goals (obtain ⟨v', r1, r2, r3⟩ := HE'.out; exact ⟨⟨_, rfl⟩, w2, v', K, c, HQ.out, r1, r2, ⟨r3.os, r3.tape, r3.output, r3.size, r3.block, r3.own⟩⟩)
end Go.Proofs.YtlikpnaffpngiaaGreatDoor

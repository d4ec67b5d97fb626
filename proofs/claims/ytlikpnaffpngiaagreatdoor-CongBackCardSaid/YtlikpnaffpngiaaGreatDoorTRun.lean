/- Package term's walker: run: what is ahead, one after the other. -/
import Derived.Test.YtlikpnaffpngiaaGreatDoorTWalk
import Derived.Deep.LoopGhost
import Derived.WalkSmall
import Derived.Laws.EntriesVeiled
set_option linter.unusedVariables false
set_option linter.unusedSimpArgs false
namespace Go.Proofs.YtlikpnaffpngiaaGreatDoor
open Go.RowKit

theorem TRow.pop {W : World} {B n g cap : Nat} {E : List Value} {p f : Value} (h : TRow W B (.slice (some ⟨g, 0, none⟩) (n + 1) cap) (n + 1) (E ++ [p, f])) :
    TRow W B (.slice (some ⟨g, 0, none⟩) n cap) n E ∧ W.cell? ⟨g, n * 2, none⟩ = some p ∧ W.cell? ⟨g, n * 2 + 1, none⟩ = some f := by
  have hl : (E ++ [p, f]).length = (n + 1) * 2 := h.1
  have he : E.length = n * 2 := by simp at hl; omega
  refine ⟨ownsRow_pop he h, ?_, ?_⟩
  · rw [World.ownsRow.cellAt h _ (by omega), List.getElem?_append_right (by omega), he, Nat.sub_self]; rfl
  · rw [World.ownsRow.cellAt h _ (by omega), List.getElem?_append_right (by omega), he, show n * 2 + 1 - n * 2 = 1 by omega]; rfl
theorem TRow.form {W : World} {B n : Nat} {v : Value} {E : List Value} (h : TRow W B v (n + 1) E) : ∃ g cap, v = .slice (some ⟨g, 0, none⟩) (n + 1) cap ∧ B ≤ g ∧ g < W.heap.size ∧ n + 1 ≤ cap := by
  rcases h.2 with ⟨_, h0⟩ | ⟨g, cap, cur, e, hB, hg, hn, _⟩
  · exact absurd h0 (by omega)
  · exact ⟨g, cap, e, hB, Own.lt.cell_lt' hg, hn⟩
/-- What is done when what is ahead is done: R tells what holds with k steps at most to come. -/
structure Runs (gw B : Nat) (T : TypeId) (R : Nat → Value → Nat → List Value → World → Prop) : Prop where
  row : ∀ {k v n E W}, R k v n E W → TRow W B v n E ∧ B ≤ W.heap.size ∧ (∃ x, WK W gw v T x) ∧ n ≤ 100000000
  step : ∀ {k v n E W}, R k v (n + 1) E W → ∃ (ad : Addr) (F : FuncId) (fs cs : Array Value) (E' : List Value), E = E' ++ [.pointer (some ad), .func (.func F) fs cs] ∧ (∀ args w, (callFunc F args).run Tryz.prog w = .ok (.enter F args) w) ∧ ∀ g cap x, v = .slice (some ⟨g, 0, none⟩) (n + 1) cap → WK W gw v T x →
    ∀ W', TRow W' B (.slice (some ⟨g, 0, none⟩) n cap) n E' → WK W' gw (.slice (some ⟨g, 0, none⟩) n cap) T x → Turned gw (.slice none 0 0) (.slice none 0 0) W W' →
      Calls Tryz.prog F (fs ++ #[.pointer (some ad)] ++ cs) W' fun e w' => (∃ u, e = .returned u) ∧ ∃ k' v' n' E'', k' < k ∧ R k' v' n' E'' w'
set_option maxRecDepth 100000 in
set_option maxHeartbeats 3200000 in
theorem run_any {T : TypeId} {w : World} {B gw k0 n0 : Nat} {v0 : Value} {E0 : List Value} {R : Nat → Value → Nat → List Value → World → Prop} (hR : Runs gw B T R) (hgB : gw < B) (h0 : R k0 v0 n0 E0 w) :
    Calls Tryz.prog 54 #[.pointer (some ⟨gw, 0, none⟩)] w fun e w' => (∃ u, e = .returned u) ∧ ∃ k v, R k v 0 [] w' := by
  have H0 := Lib.hid h0
  have HR := Lib.hid hR
  have HB := Lib.hid hgB
  clear h0 hR hgB
  go_enter Tryz.func54, Tryz.ntmps54
  go_wp2
  go_loopg [2] k0 (fun k _ wr => ∃ (v : Value) (n : Nat) (E : List Value), Hid (R k v n E wr))
  case atStart => exact ⟨_, _, _, H0⟩
  case round =>
    obtain ⟨v, n, E, HI⟩ := hrel
    rcases n with _ | n
    · obtain ⟨h1, h2, ⟨x, h3⟩, h4⟩ := HR.out.row HI.out
      have m0 : wr.cell? ⟨gw, 0, none⟩ = some v := h3.cell
      have e0 : E = [] := List.length_eq_zero_iff.1 (by have : E.length = 0 * 2 := h1.1; omega)
      subst e0
      obtain ⟨K, c, rfl⟩ : ∃ K c, v = .slice K 0 c := by
        rcases h1.2 with ⟨e, _⟩ | ⟨g, cap, cur, e, _⟩
        · exact ⟨_, _, e⟩
        · exact ⟨_, _, e⟩
      have HE := Lib.hid (show ∃ k v, R k v 0 [] wr from ⟨_, _, HI.out⟩)
      clear HI h1 h2 h3 h4 H0
      go_wp2
      go_returns
      exact ⟨⟨_, rfl⟩, HE.out⟩
    · obtain ⟨h1, h2, ⟨x, h3⟩, h4⟩ := HR.out.row HI.out
      obtain ⟨g, cap, rfl, hgB', hgl, hcap⟩ := h1.form
      obtain ⟨ad, F, fs, cs, E', rfl, hen, hst⟩ := HR.out.step HI.out
      obtain ⟨hp, c0, c1⟩ := h1.pop
      have m0 : wr.cell? ⟨gw, 0, none⟩ = some (.slice (some ⟨g, 0, none⟩) (n + 1) cap) := h3.cell
      have f0 : wr.frozen? ⟨gw, 0, none⟩ = false := h3.frozen
      have hgw : gw < wr.heap.size := by have := HB.out; omega
      have HS := Lib.hid (hst _ _ _ rfl h3)
      have HP := Lib.hid (show _ ∧ _ ∧ _ from ⟨hp, h3, h2⟩)
      clear hst hp h1 h2 h3
      go_wp2_with fail
      obtain ⟨hp, h3, h2⟩ := HP.out
      have hb : Turned gw (.slice none 0 0) (.slice none 0 0) wr ((wr.setCell ⟨gw, 0, none⟩ (.slice (some ⟨g, 0, none⟩) n cap)).alloc (.cells #[.pointer (some ad), .func (.func F) fs cs] 123)) :=
        ⟨rfl, rfl, rfl, by simp, fun k hk hne _ => (Below.heap_alloc _ _ _ (by simpa using hk)).trans (Below.heap_setCell _ _ _ _ hne), fun _ h => .inl h⟩
      have HC := Lib.hid (HS.out _ ((ownsRow_setCell_below hp HB.out _).alloc _) (h3.set.to (Below.heap_alloc _ _ _ (by simpa using hgw))) hb)
      clear hp h3 h2 hb HP HS
      refine HC.out.mono ?_
      rintro e w' ⟨⟨u, rfl⟩, k', v', n', E'', hk, hr⟩
      have HE := Lib.hid hr
      clear hr HC
      go_wp2
      go_roundg k'
      case rel => exact ⟨_, _, _, HE⟩
      case measure => exact hk
/-- An error is thrown, its number n; Z tells what holds then. -/
def Thrown (Z : Int → World → Prop) (e : Ending) (w : World) : Prop := ∃ n : Int, e = .panicked [{ v := .iface 32 (.int .i64 n), recovered := false }] ∧ Z n w
/-- As Runs, where a turn may throw. -/
structure RunsT (gw B : Nat) (T : TypeId) (R : Nat → Value → Nat → List Value → World → Prop) (Z : Int → World → Prop) : Prop where
  row : ∀ {k v n E W}, R k v n E W → TRow W B v n E ∧ B ≤ W.heap.size ∧ (∃ x, WK W gw v T x) ∧ n ≤ 100000000
  step : ∀ {k v n E W}, R k v (n + 1) E W → ∃ (ad : Addr) (F : FuncId) (fs cs : Array Value) (E' : List Value), E = E' ++ [.pointer (some ad), .func (.func F) fs cs] ∧ (∀ args w, (callFunc F args).run Tryz.prog w = .ok (.enter F args) w) ∧ ∀ g cap x, v = .slice (some ⟨g, 0, none⟩) (n + 1) cap → WK W gw v T x →
    ∀ W', TRow W' B (.slice (some ⟨g, 0, none⟩) n cap) n E' → WK W' gw (.slice (some ⟨g, 0, none⟩) n cap) T x → Turned gw (.slice none 0 0) (.slice none 0 0) W W' →
      Calls Tryz.prog F (fs ++ #[.pointer (some ad)] ++ cs) W' fun e w' => Thrown Z e w' ∨ ((∃ u, e = .returned u) ∧ ∃ k' v' n' E'', k' < k ∧ R k' v' n' E'' w')
set_option maxRecDepth 100000 in
set_option maxHeartbeats 3200000 in
theorem run_anyT {Z : Int → World → Prop} {T : TypeId} {w : World} {B gw k0 n0 : Nat} {v0 : Value} {E0 : List Value} {R : Nat → Value → Nat → List Value → World → Prop} (hR : RunsT gw B T R Z) (hgB : gw < B) (h0 : R k0 v0 n0 E0 w) :
    Calls Tryz.prog 54 #[.pointer (some ⟨gw, 0, none⟩)] w fun e w' => Thrown Z e w' ∨ ((∃ u, e = .returned u) ∧ ∃ k v, R k v 0 [] w') := by
  have H0 := Lib.hid h0
  have HR := Lib.hid hR
  have HB := Lib.hid hgB
  clear h0 hR hgB
  go_enter Tryz.func54, Tryz.ntmps54
  go_wp2
  go_loopg [2] k0 (fun k _ wr => ∃ (v : Value) (n : Nat) (E : List Value), Hid (R k v n E wr))
  case atStart => exact ⟨_, _, _, H0⟩
  case round =>
    obtain ⟨v, n, E, HI⟩ := hrel
    rcases n with _ | n
    · obtain ⟨h1, h2, ⟨x, h3⟩, h4⟩ := HR.out.row HI.out
      have m0 : wr.cell? ⟨gw, 0, none⟩ = some v := h3.cell
      have e0 : E = [] := List.length_eq_zero_iff.1 (by have : E.length = 0 * 2 := h1.1; omega)
      subst e0
      obtain ⟨K, c, rfl⟩ : ∃ K c, v = .slice K 0 c := by
        rcases h1.2 with ⟨e, _⟩ | ⟨g, cap, cur, e, _⟩
        · exact ⟨_, _, e⟩
        · exact ⟨_, _, e⟩
      have HE := Lib.hid (show ∃ k v, R k v 0 [] wr from ⟨_, _, HI.out⟩)
      clear HI h1 h2 h3 h4 H0
      go_wp2
      go_returns
      exact .inr ⟨⟨_, rfl⟩, HE.out⟩
    · obtain ⟨h1, h2, ⟨x, h3⟩, h4⟩ := HR.out.row HI.out
      obtain ⟨g, cap, rfl, hgB', hgl, hcap⟩ := h1.form
      obtain ⟨ad, F, fs, cs, E', rfl, hen, hst⟩ := HR.out.step HI.out
      obtain ⟨hp, c0, c1⟩ := h1.pop
      have m0 : wr.cell? ⟨gw, 0, none⟩ = some (.slice (some ⟨g, 0, none⟩) (n + 1) cap) := h3.cell
      have f0 : wr.frozen? ⟨gw, 0, none⟩ = false := h3.frozen
      have hgw : gw < wr.heap.size := by have := HB.out; omega
      have HS := Lib.hid (hst _ _ _ rfl h3)
      have HP := Lib.hid (show _ ∧ _ ∧ _ from ⟨hp, h3, h2⟩)
      clear hst hp h1 h2 h3
      go_wp2_with fail
      obtain ⟨hp, h3, h2⟩ := HP.out
      have hb : Turned gw (.slice none 0 0) (.slice none 0 0) wr ((wr.setCell ⟨gw, 0, none⟩ (.slice (some ⟨g, 0, none⟩) n cap)).alloc (.cells #[.pointer (some ad), .func (.func F) fs cs] 123)) :=
        ⟨rfl, rfl, rfl, by simp, fun k hk hne _ => (Below.heap_alloc _ _ _ (by simpa using hk)).trans (Below.heap_setCell _ _ _ _ hne), fun _ h => .inl h⟩
      have HC := Lib.hid (HS.out _ ((ownsRow_setCell_below hp HB.out _).alloc _) (h3.set.to (Below.heap_alloc _ _ _ (by simpa using hgw))) hb)
      clear hp h3 h2 hb HP HS
      refine HC.out.mono ?_
      rintro e w' (⟨m, rfl, hz⟩ | ⟨⟨u, rfl⟩, k', v', n', E'', hk, hr⟩)
      · have HE := Lib.hid hz
        clear hz HC
        go_wp2
        exact ⟨rfl, Or.inl ⟨m, rfl, HE.out⟩⟩
      have HE := Lib.hid hr
      clear hr HC
      go_wp2
      go_roundg k'
      case rel => exact ⟨_, _, _, HE⟩
      case measure => exact hk
end Go.Proofs.YtlikpnaffpngiaaGreatDoor

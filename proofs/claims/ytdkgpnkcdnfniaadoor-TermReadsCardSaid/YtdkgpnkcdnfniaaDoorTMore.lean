/- count.more of one number, where nothing is thrown. -/
import Derived.Test.YtdkgpnkcdnfniaaDoorTree
import Derived.Test.YtdkgpnkcdnfniaaDoorTRun
import Derived.WalkLawsBesides
set_option linter.unusedVariables false
set_option linter.unusedSimpArgs false
namespace Go.Proofs.YtdkgpnkcdnfniaaDoor
open Go.RowKit

set_option maxRecDepth 100000 in
set_option maxHeartbeats 3200000 in
theorem more_ok {w : World} {B j R i c : Nat} {p n : Nat} (h : w.cell? ⟨B, j, none⟩ = some (.int .i64 (p : Int))) (hn : w.cell? ⟨R, i, none⟩ = some (.int .i64 (n : Int))) (hz : w.frozen? ⟨B, j, none⟩ = false) (hle : p + n ≤ 20000) :
    Calls Tryd.prog 54 #[.pointer (some ⟨B, j, none⟩), .slice (some ⟨R, i, none⟩) 1 c] w fun e w' => (∃ u, e = .returned u) ∧ w' = w.setCell ⟨B, j, none⟩ (.int .i64 ((p : Int) + (n : Int))) := by
  have hs : (w.setCell ⟨B, j, none⟩ (.int .i64 ((p : Int) + (n : Int)))).cell? ⟨B, j, none⟩ = some (.int .i64 ((p : Int) + (n : Int))) := by
    first | exact World.cell?_setCell_same _ _ _ h | exact World.cell?_setCell_same _ _ h | exact World.cell?_setCell_same _ h
  go_enter Tryd.func54, Tryd.ntmps54
  go_wp2
  go_loopw [8] (fun a W => (a = .int .i64 0 ∧ W = w) ∨ (a = .int .i64 1 ∧ W = w.setCell ⟨B, j, none⟩ (.int .i64 ((p : Int) + (n : Int))))) (fun a _ => 1 - (intOf a).toNat)
  case atStart => exact .inl ⟨rfl, rfl⟩
  case round =>
    rcases hrel with ⟨rfl, rfl⟩ | ⟨rfl, rfl⟩
    · clear hs
      have hle' : (p : Int) + (n : Int) ≤ 20000 := by omega
      have hp : 0 ≤ (p : Int) := by omega
      have hq : 0 ≤ (n : Int) := by omega
      go_wp2
      exact ⟨.inr ⟨rfl, trivial⟩, by simp [intOf]⟩
    · clear h hn
      obtain ⟨W2, hW⟩ : ∃ W2, W2 = w.setCell ⟨B, j, none⟩ (.int .i64 ((p : Int) + (n : Int))) := ⟨_, rfl⟩
      rw [← hW] at hs ⊢
      have hW2 := Lib.hid hW
      clear hW
      have hle' : (p : Int) + (n : Int) ≤ 20000 := by omega
      go_wp2
      go_returns
      exact ⟨⟨_, rfl⟩, hW2.out⟩
set_option maxRecDepth 100000 in
set_option maxHeartbeats 3200000 in
/-- What is thrown, where too many were made. -/
theorem more_grown {w : World} {B j R i c : Nat} {p n : Nat} (h : w.cell? ⟨B, j, none⟩ = some (.int .i64 (p : Int))) (hn : w.cell? ⟨R, i, none⟩ = some (.int .i64 (n : Int))) (hz : w.frozen? ⟨B, j, none⟩ = false) (hle : 20000 < p + n) (hup : p + n ≤ 100000000) :
    Calls Tryd.prog 54 #[.pointer (some ⟨B, j, none⟩), .slice (some ⟨R, i, none⟩) 1 c] w fun e w' => e = .panicked [{ v := .iface 43 (.int .i64 34), recovered := false }] ∧ w' = w.setCell ⟨B, j, none⟩ (.int .i64 ((p : Int) + (n : Int))) := by
  have hs : (w.setCell ⟨B, j, none⟩ (.int .i64 ((p : Int) + (n : Int)))).cell? ⟨B, j, none⟩ = some (.int .i64 ((p : Int) + (n : Int))) := by
    first | exact World.cell?_setCell_same _ _ _ h | exact World.cell?_setCell_same _ _ h | exact World.cell?_setCell_same _ h
  go_enter Tryd.func54, Tryd.ntmps54
  go_wp2
  go_loopw [8] (fun a W => (a = .int .i64 0 ∧ W = w) ∨ (a = .int .i64 1 ∧ W = w.setCell ⟨B, j, none⟩ (.int .i64 ((p : Int) + (n : Int))))) (fun a _ => 1 - (intOf a).toNat)
  case atStart => exact .inl ⟨rfl, rfl⟩
  case round =>
    rcases hrel with ⟨rfl, rfl⟩ | ⟨rfl, rfl⟩
    · clear hs
      have hle' : 20000 < (p : Int) + (n : Int) := by omega
      have hup' : (p : Int) + (n : Int) ≤ 100000000 := by omega
      have hp : 0 ≤ (p : Int) := by omega
      have hq : 0 ≤ (n : Int) := by omega
      go_wp2
      exact ⟨.inr ⟨rfl, trivial⟩, by simp [intOf]⟩
    · clear h hn
      obtain ⟨W2, hW⟩ : ∃ W2, W2 = w.setCell ⟨B, j, none⟩ (.int .i64 ((p : Int) + (n : Int))) := ⟨_, rfl⟩
      rw [← hW] at hs ⊢
      have hW2 := Lib.hid hW
      clear hW
      have hle' : 20000 < (p : Int) + (n : Int) := by omega
      have hup' : (p : Int) + (n : Int) ≤ 100000000 := by omega
      go_wp2
      exact ⟨rfl, rfl, hW2.out⟩
end Go.Proofs.YtdkgpnkcdnfniaaDoor

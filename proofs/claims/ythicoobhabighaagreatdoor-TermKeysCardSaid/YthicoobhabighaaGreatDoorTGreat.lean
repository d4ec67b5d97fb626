/- Layer 4's great where no data are given: it is that the terms weigh more than 3000. -/
import Derived.Test.YthicoobhabighaaGreatDoorTSize
import Derived.Test.YthicoobhabighaaGreatDoorCountL
set_option linter.unusedVariables false
set_option linter.unusedSimpArgs false
namespace Go.Proofs.YthicoobhabighaaGreatDoor
open Go.RowKit

set_option maxRecDepth 100000 in
set_option maxHeartbeats 3200000 in
theorem datas_nil {w : World} {K : Option Addr} {c : Nat} {m : Int} (hm : 0 ≤ m) :
    Calls Tryz.prog 22 #[.slice K 0 c, .int .i64 m] w fun e w' => e = .returned (.int .i64 0) ∧ w' = w := by
  go_enter Tryz.func22, Tryz.ntmps22
  go_wp2
  go_loopw [5, 6] (fun a b wr => a = .int .i64 0 ∧ b = .int .i64 0 ∧ wr = w) (fun _ _ _ => 0)
  case atStart => exact ⟨rfl, rfl, rfl⟩
  case round =>
    obtain ⟨rfl, rfl, rfl⟩ := hrel
    go_wp2
    go_returns
    exact ⟨rfl, rfl⟩
set_option maxRecDepth 100000 in
set_option maxHeartbeats 3200000 in
theorem great_any {w : World} {Kd K : Option Addr} {cd c : Nat} {l : List Tm} (hl : TmsAt w K l) (hll : l.length ≤ 140737488355328) :
    Calls Tryz.prog 6 #[.slice Kd 0 cd, .slice K l.length c] w fun e w' => e = .returned (.bool (decide (3000 < wtL l))) ∧ Below w.heap.size w w' := by
  obtain ⟨k, hk, hC⟩ := terms_great (c := c) hl hll
  have HC := Lib.hid (hC w (Below.refl _ _))
  have ek : decide (k > (3000 : Int)) = decide (3000 < wtL l) := decide_eq_decide.2 hk
  have ek' : decide ((3000 : Int) < k) = decide (3000 < wtL l) := decide_eq_decide.2 hk
  have HK := Lib.hid hk
  clear hl hll hC hk
  go_enter Tryz.func6, Tryz.ntmps6
  go_wp2_with fail
  refine Calls.mono (datas_nil (by decide)) ?_
  rintro e w' ⟨rfl, rfl⟩
  go_wp2_with fail
  refine HC.out.mono ?_
  rintro e w2 ⟨rfl, hb⟩
  have HB := Lib.hid hb
  clear hb HC
  go_wp2
  go_returns
  exact ⟨by first | rfl | rw [← ek] | rw [← ek'] | simp [ek, ek'], HB.out⟩
end Go.Proofs.YthicoobhabighaaGreatDoor

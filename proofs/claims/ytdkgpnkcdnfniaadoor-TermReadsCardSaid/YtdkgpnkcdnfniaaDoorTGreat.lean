/- Package term's Size: how many parts terms have. Layer 4's great where no data are given: it is that the terms weigh more than 3000. -/
import Derived.Test.YtdkgpnkcdnfniaaDoorTEachW
import Derived.Lib.QuoteBits
import Derived.Test.YtdkgpnkcdnfniaaDoorCountL
set_option linter.unusedVariables false
set_option linter.unusedSimpArgs false
namespace Go.Proofs.YtdkgpnkcdnfniaaDoor
open Go.RowKit

def SizeS (b : Nat) (d : List Tm) (X : Nat → Prop) (W : World) : Prop := (∀ k, X k ↔ k = b) ∧ W.heap[b]? = some (.cells #[.int .i64 d.length] 3 (0, 0))
set_option maxRecDepth 100000 in
set_option maxHeartbeats 3200000 in
theorem size_visit {W : World} {b m : Nat} {ad : Addr} (hb : W.heap[b]? = some (.cells #[.int .i64 m] 3 (0, 0))) (hm : m ≤ 1000000) :
    Calls Tryd.prog 38 #[.pointer (some ad), .pointer (some ⟨b, 0, none⟩)] W fun e w' => (∃ u, e = .returned u) ∧ w' = W.setCell ⟨b, 0, none⟩ (.int .i64 ((m + 1 : Nat) : Int)) := by
  have m0 : W.cell? ⟨b, 0, none⟩ = some (.int .i64 m) := by simp [World.cell?, hb]
  have f0 : W.frozen? ⟨b, 0, none⟩ = false := by simp [World.frozen?, hb]
  have e1 : IntKind.i64.wrap ((m : Int) + 1) = (m : Int) + 1 := by have := Go.Lib.wrap_i64_small (m + 1) (by omega); rw [show ((m + 1 : Nat) : Int) = (m : Int) + 1 by omega] at this; exact this
  clear hb
  go_enter Tryd.func38, Tryd.ntmps38
  go_wp2
  go_returns
  exact ⟨⟨_, rfl⟩, by rw [show ((m + 1 : Nat) : Int) = (m : Int) + 1 by omega]⟩
theorem size_visits {w1 : World} {N b : Nat} {all : List Tm} (hw1 : w1.heap.size ≤ N) (hb : w1.heap.size ≤ b) (hall : all.length ≤ 1000000) : Visits N w1.heap.size 38 #[] #[.pointer (some ⟨b, 0, none⟩)] all (SS w1 (SizeS b)) := by
  refine Visits.static hw1 (enters_of Tryd.func38 (by kernel_rfl) rfl) (fun h k hk => ?_) (fun h hk hs => ⟨h.1, (hk b ((h.1 b).2 rfl)).trans h.2⟩) (fun {d X W ad t r} h hd hp hbl => ?_)
  · have e := (h.1 k).1 hk
    subst e
    exact Own.lt.cell_lt' h.2
  · have hl := congrArg List.length hd
    simp at hl
    refine Calls.mono (size_visit (ad := ad) h.2 (by omega)) ?_
    rintro e w' ⟨hu, rfl⟩
    refine ⟨hu, X, ⟨h.1, ?_⟩, ⟨rfl, rfl, rfl, by simp, fun k hk hx _ => Below.heap_setCell _ _ _ _ fun e => hx ((h.1 k).2 e), fun _ hk => .inl hk⟩, ⟨rfl, rfl, rfl, by simp, fun k hk => Below.heap_setCell _ _ _ _ (show k ≠ b by omega)⟩, hbl.kept fun k hk => Below.heap_setCell _ _ _ _ (show k ≠ b by omega)⟩
    rw [List.length_append]
    exact one_set h.2
set_option maxRecDepth 100000 in
set_option maxHeartbeats 3200000 in
theorem size_any {w : World} {l : List Tm} {K : Option Addr} {c : Nat} (hall : (preL l).length ≤ 1000000) (hK : TmsAt w K l) :
    Calls Tryd.prog 18 #[.slice K l.length c] w fun e w' => e = .returned (.int .i64 (preL l).length) ∧ Below w.heap.size w w' := by
  have HH := Lib.hid (show _ ∧ _ from ⟨hall, hK⟩)
  clear hall hK
  go_enter Tryd.func18, Tryd.ntmps18
  go_wp2_with fail
  have h0 : (w.alloc (.cells #[.int .i64 ((0 : Nat) : Int)] 3)).heap[w.heap.size]? = some (.cells #[.int .i64 ((0 : Nat) : Int)] 3 (0, 0)) := heap_alloc_new w _
  have hb : Below w.heap.size w (w.alloc (.cells #[.int .i64 ((0 : Nat) : Int)] 3)) := (Below.refl _ _).alloc (Nat.le_refl _) _
  have HE := Lib.hid (each_any (c := c) (size_visits (b := w.heap.size) hb.size (Nat.le_refl _) HH.out.1) HH.out.1 hb.size (X0 := fun k => k = w.heap.size) ⟨⟨fun k => Iff.rfl, h0⟩, sub_below hb, kidsOf_ptr HH.out.2⟩ HH.out.2.some)
  refine HE.out.mono ?_
  rintro e w' ⟨⟨u, rfl⟩, X', ⟨hS, _, _⟩, _, hT⟩
  have m0 : w'.cell? ⟨w.heap.size, 0, none⟩ = some (.int .i64 (preL l).length) := by simp [World.cell?, hS.2]
  have HF := Lib.hid (hb.trans hT)
  clear h0 hb HE hS hT HH
  go_wp2
  go_returns
  exact ⟨rfl, HF.out⟩
end Go.Proofs.YtdkgpnkcdnfniaaDoor

namespace Go.Proofs.YtdkgpnkcdnfniaaDoor
open Go.RowKit

set_option maxRecDepth 100000 in
set_option maxHeartbeats 3200000 in
theorem datas_nil {w : World} {K : Option Addr} {c : Nat} {m : Int} (hm : 0 ≤ m) :
    Calls Tryd.prog 11 #[.slice K 0 c, .int .i64 m] w fun e w' => e = .returned (.int .i64 0) ∧ w' = w := by
  go_enter Tryd.func11, Tryd.ntmps11
  go_wp2
  go_loopw [5, 6] (fun a b wr => a = .int .i64 0 ∧ b = .int .i64 0 ∧ wr = w) (fun _ _ _ => 0)
  case atStart => exact ⟨rfl, rfl, rfl⟩
  case round =>
    obtain ⟨rfl, rfl, rfl⟩ := hrel
    go_wp2
    go_returns
    exact ⟨rfl, rfl⟩
set_option maxRecDepth 100000 in
set_option maxHeartbeats 3200000 in
theorem great_any {w : World} {Kd K : Option Addr} {cd c : Nat} {l : List Tm} (hl : TmsAt w K l) (hll : l.length ≤ 140737488355328) :
    Calls Tryd.prog 4 #[.slice Kd 0 cd, .slice K l.length c] w fun e w' => e = .returned (.bool (decide (3000 < wtL l))) ∧ Below w.heap.size w w' := by
  obtain ⟨k, hk, hC⟩ := terms_great (c := c) hl hll
  have HC := Lib.hid (hC w (Below.refl _ _))
  have ek : decide (k > (3000 : Int)) = decide (3000 < wtL l) := decide_eq_decide.2 hk
  have ek' : decide ((3000 : Int) < k) = decide (3000 < wtL l) := decide_eq_decide.2 hk
  have HK := Lib.hid hk
  clear hl hll hC hk
  go_enter Tryd.func4, Tryd.ntmps4
  go_wp2_with fail
  refine Calls.mono (datas_nil (by decide)) ?_
  rintro e w' ⟨rfl, rfl⟩
  go_wp2_with fail
  refine HC.out.mono ?_
  rintro e w2 ⟨rfl, hb⟩
  have HB := Lib.hid hb
  clear hb HC
  go_wp2
  go_returns
  exact ⟨by first | rfl | rw [← ek] | rw [← ek'] | simp [ek, ek'], HB.out⟩
end Go.Proofs.YtdkgpnkcdnfniaaDoor

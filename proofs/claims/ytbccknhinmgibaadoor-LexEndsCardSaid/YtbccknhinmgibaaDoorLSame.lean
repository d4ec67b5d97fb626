/- The law's same: whether trees of the program are those of the document. Premise: both lie in memory. -/
import Derived.Test.YtbccknhinmgibaaDoorLSays
import Derived.Deep.LoopGhost
import Derived.BigQuiet
set_option linter.unusedVariables false
set_option linter.unusedSimpArgs false
namespace Go.Proofs.YtbccknhinmgibaaDoor
open Go.RowKit

set_option maxRecDepth 100000 in
set_option maxHeartbeats 6400000 in
theorem same_step (N : Nat) (ih : ∀ (f1 f2 : Fo) (W : World) (A B : Option Addr) (c d : Nat), f1.nodes < N → FoAt W A 0 f1 → FoAt W B 0 f2 → f1.len ≤ 140737488355328 → f2.len ≤ 140737488355328 → ∀ r : Bool, (r = true ↔ f1 = f2) → Calls Tryd.prog 13 #[.slice A f1.len c, .slice B f2.len d] W (SaysD W r))
    (f1 f2 : Fo) (W : World) (A B : Option Addr) (c d : Nat) (hN : f1.nodes ≤ N) (h1 : FoAt W A 0 f1) (h2 : FoAt W B 0 f2) (hl1 : f1.len ≤ 140737488355328) (hl2 : f2.len ≤ 140737488355328) (r : Bool) (hr : r = true ↔ f1 = f2) :
    Calls Tryd.prog 13 #[.slice A f1.len c, .slice B f2.len d] W (SaysD W r) := by
  by_cases hl : f1.len = f2.len
  · obtain ⟨n, hn⟩ : ∃ n, n = f1.len := ⟨_, rfl⟩
    have HH := Lib.hid (show _ ∧ _ ∧ _ ∧ _ ∧ _ from ⟨hN, h1, h2, hl, hr⟩)
    have HL := Lib.hid (show f2.len = n by omega)
    rw [HL.out, ← hn]
    have HN := Lib.hid hn
    have hn0 : n ≤ 140737488355328 := by omega
    have HI := Lib.hid ih
    clear hN h1 h2 hl hr hl1 hl2 hn ih
    go_enter Tryd.func13, Tryd.ntmps13
    go_wp2
    go_loopw [5] (fun iv wr => ∃ (i : Nat) (g1 g2 : Fo), i ≤ n ∧ iv = .int .i64 (i : Int) ∧ Hid (Drawn W wr ∧ i + g1.len = n ∧ i + g2.len = n ∧ FoAt wr A i g1 ∧ FoAt wr B i g2 ∧ g1.nodes ≤ N ∧ (g1 = g2 ↔ f1 = f2))) (fun iv _ => n - (intOf iv).toNat)
    case atStart => exact ⟨0, f1, f2, Nat.zero_le _, rfl, Lib.hid ⟨Drawn.refl _, by rw [HN.out]; omega, by rw [HL.out]; omega, HH.out.2.1, HH.out.2.2.1, HH.out.1, Iff.rfl⟩⟩
    case round =>
      obtain ⟨i, g1, g2, hin, rfl, HR⟩ := hrel
      obtain ⟨hd, hg1, hg2, ha1, ha2, hgn, hiff⟩ := HR.out
      cases g1 with
      | nil =>
        have hie : i = n := by simpa [Fo.len] using hg1
        have hg2e : g2 = .nil := Fo.len_nil (by omega)
        have hlt : decide (i < n) = false := decide_eq_false (by omega)
        have hrt : r = true := HH.out.2.2.2.2.2 (hiff.1 (by rw [hg2e]))
        have HE := Lib.hid hd
        clear hd hg1 hg2 ha1 ha2 hgn hiff HR hg2e hie HI HH
        subst hrt
        go_wp2
        go_ret
        exact ⟨rfl, HE.out⟩
      | cons s1 k1 b1 p1 r1 =>
        cases g2 with
        | nil => simp [Fo.len] at hg1 hg2; omega
        | cons s2 k2 b2 p2 r2 =>
          have hil : i < n := by simp [Fo.len] at hg1; omega
          obtain ⟨⟨ga, oa, A1, cA, rfl, q0, q1, q2, q3, hb1, hk1⟩, hr1⟩ := ha1
          obtain ⟨⟨gb, ob, A2, cB, rfl, u0, u1, u2, u3, hb2, hk2⟩, hr2⟩ := ha2
          have hlt : decide (i < n) = true := decide_eq_true (by omega)
          have x1 : (i : Int) < (n : Int) := by omega
          have x0 : (0 : Int) ≤ (i : Int) := by omega
          have HG := Lib.hid (show _ ∧ _ ∧ _ ∧ _ ∧ _ ∧ _ ∧ _ from ⟨hd, hg1, hg2, hr1, hr2, hgn, hiff⟩)
          have HC := Lib.hid (fun (W' : World) (h : Drawn wr W') (q : Bool) (hq : q = true ↔ k1 = k2) => HI.out k1 k2 W' A1 A2 cA cB (by simp [Fo.nodes] at hgn; omega) (hk1.drawn h) (hk2.drawn h) hb1.2.2.2 hb2.2.2.2 q hq)
          clear hg1 hg2 hr1 hr2 hgn hiff hk1 hk2 hb1 hb2 HI hd HR
          by_cases hs : s1 = s2
          · have es := str_is hs
            by_cases hb : b1 = b2
            · have eb : (b1 == b2) = true := beq_iff_eq.2 hb
              by_cases hp : p1 = p2
              · have ep : (p1 != p2) = false := by rw [hp]; simp
                obtain ⟨q, hq⟩ : ∃ q : Bool, q = true ↔ k1 = k2 := by
                  by_cases h : k1 = k2
                  · exact ⟨true, fun _ => h, fun _ => rfl⟩
                  · exact ⟨false, (by simp), fun h' => absurd h' h⟩
                have HQ := Lib.hid hq
                have HE := Lib.hid (show _ ∧ _ ∧ _ from ⟨hs, hb, hp⟩)
                clear hs hb hp hq
                cases q with
                | true =>
                  have HF := Lib.hid (show r1 = r2 ↔ f1 = f2 by
                    have hs := HE.out.1
                    have hb := HE.out.2.1
                    have hp := HE.out.2.2
                    have hk := HQ.out.1 rfl
                    refine Iff.trans ⟨fun h => ?_, fun h => ?_⟩ HG.out.2.2.2.2.2.2
                    rw [hs, hb, hp, hk, h]
                    injection h)
                  have HK := Lib.hid (fun W1 h1 => HC.out W1 h1 true HQ.out)
                  go_wp2
                  go_quiet ((go_at_call 13; exact Calls.quiet_of (HK.out _ ⟨_, rfl⟩)))
                  go_wp2
                  go_roundw
                  case rel => exact ⟨i + 1, r1, r2, by omega, by go_num, Lib.hid ⟨HG.out.1.trans ⟨_, rfl⟩, by have := HG.out.2.1; simp only [Fo.len] at this; omega, by have := HG.out.2.2.1; simp only [Fo.len] at this; omega, HG.out.2.2.2.1.drawn ⟨_, rfl⟩, HG.out.2.2.2.2.1.drawn ⟨_, rfl⟩, by have := HG.out.2.2.2.2.2.1; simp only [Fo.nodes] at this; omega, HF.out⟩⟩
                  case measure => simp [intOf]; omega
                | false =>
                  have hrf : r = false := by
                    refine Bool.eq_false_iff.2 fun h => ?_
                    have h2 := HG.out.2.2.2.2.2.2.2 (HH.out.2.2.2.2.1 h)
                    injection h2 with e1 e2 e3 e4 e5
                    exact absurd (HQ.out.2 e2) (by simp)
                  have HK := Lib.hid (fun W1 h1 => HC.out W1 h1 false HQ.out)
                  have HE2 := Lib.hid HG.out.1
                  clear HH
                  subst hrf
                  go_wp2
                  go_quiet ((go_at_call 13; exact Calls.quiet_of (HK.out _ ⟨_, rfl⟩)))
                  go_wp2
                  go_ret
                  exact ⟨rfl, HE2.out.trans ⟨_, rfl⟩⟩
              · have ep : (p1 != p2) = true := by simp [hp]
                have hrf : r = false := by
                  refine Bool.eq_false_iff.2 fun h => ?_
                  have h2 := HG.out.2.2.2.2.2.2.2 (HH.out.2.2.2.2.1 h)
                  injection h2 with e1 e2 e3 e4 e5
                  exact hp e4
                have HE := Lib.hid HG.out.1
                clear HG HH HC hs hb hp
                subst hrf
                go_wp2
                go_quiet (fail)
                go_wp2
                go_ret
                exact ⟨rfl, HE.out.trans ⟨_, rfl⟩⟩
            · have eb : (b1 == b2) = false := beq_eq_false_iff_ne.2 hb
              have hrf : r = false := by
                refine Bool.eq_false_iff.2 fun h => ?_
                have h2 := HG.out.2.2.2.2.2.2.2 (HH.out.2.2.2.2.1 h)
                injection h2 with e1 e2 e3 e4 e5
                exact hb e3
              have HE := Lib.hid HG.out.1
              clear HG HH HC hs hb
              subst hrf
              go_wp2
              go_quiet (fail)
              go_wp2
              go_ret
              exact ⟨rfl, HE.out.trans ⟨_, rfl⟩⟩
          · have es := str_no hs
            have hrf : r = false := by
              refine Bool.eq_false_iff.2 fun h => ?_
              have h2 := HG.out.2.2.2.2.2.2.2 (HH.out.2.2.2.2.1 h)
              injection h2 with e1 e2 e3 e4 e5
              exact hs e1
            have HE := Lib.hid HG.out.1
            clear HG HH HC hs
            subst hrf
            go_wp2
            go_quiet (fail)
            go_wp2
            go_ret
            exact ⟨rfl, HE.out.trans ⟨_, rfl⟩⟩
  · have hnn : ¬ (f1.len : Int) = (f2.len : Int) := by omega
    have hnf : ((f1.len : Int) == (f2.len : Int)) = false := beq_eq_false_iff_ne.2 hnn
    have hn2 : (f1.len == f2.len) = false := beq_eq_false_iff_ne.2 hl
    have hn3 : ((f1.len : Int) != (f2.len : Int)) = true := by simp; omega
    have hrf : r = false := Bool.eq_false_iff.2 fun h => hl (by
      have := hr.1 h
      rw [this])
    clear h1 h2 hr hl ih hN
    subst hrf
    go_enter Tryd.func13, Tryd.ntmps13
    go_wp2
    go_ret
    exact ⟨rfl, Drawn.refl _⟩
theorem same_ok : ∀ (N : Nat) (f1 f2 : Fo) (W : World) (A B : Option Addr) (c d : Nat), f1.nodes < N → FoAt W A 0 f1 → FoAt W B 0 f2 → f1.len ≤ 140737488355328 → f2.len ≤ 140737488355328 → ∀ r : Bool, (r = true ↔ f1 = f2) → Calls Tryd.prog 13 #[.slice A f1.len c, .slice B f2.len d] W (SaysD W r)
  | 0, _, _, _, _, _, _, _, h, _, _, _, _, _, _ => absurd h (Nat.not_lt_zero _)
  | N + 1, f1, f2, W, A, B, c, d, h, h1, h2, h3, h4, r, hr => same_step N (same_ok N) f1 f2 W A B c d (by omega) h1 h2 h3 h4 r hr
end Go.Proofs.YtbccknhinmgibaaDoor

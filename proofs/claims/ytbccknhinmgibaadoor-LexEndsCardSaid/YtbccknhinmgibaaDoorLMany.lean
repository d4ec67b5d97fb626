/- The law's many, the document's Deep. Premises: trees in memory, not too many. -/
import Derived.Test.YtbccknhinmgibaaDoorLTxt
import Derived.Deep.LoopGhost
import Derived.BigQuiet
set_option linter.unusedVariables false
set_option linter.unusedSimpArgs false
namespace Go.Proofs.YtbccknhinmgibaaDoor
open Go.RowKit

/-- How many, as far as is asked. -/
def Fo.many : Fo → Int → Int → Int
  | .nil, n, _ => n
  | .cons s k _ _ r, n, m => if n ≤ m then r.many (n + 1 + (s.size / 8 : Nat) + k.many 0 (m - n)) m else n
/-- How many, all of them. -/
def Fo.tot : Fo → Nat
  | .nil => 0
  | .cons s k _ _ r => 1 + s.size / 8 + k.tot + r.tot
theorem many_le : ∀ (f : Fo) (n m : Int), n ≤ f.many n m ∧ f.many n m ≤ n + f.tot ∧ (f.many n m ≤ m → f.many n m = n + f.tot)
  | .nil, n, m => by simp [Fo.many, Fo.tot]
  | .cons s k b p r, n, m => by
    by_cases h : n ≤ m
    · have hk := many_le k 0 (m - n)
      obtain ⟨x, hx⟩ : ∃ x, x = k.many 0 (m - n) := ⟨_, rfl⟩
      have hr := many_le r (n + 1 + (s.size / 8 : Nat) + x) m
      simp only [Fo.many, if_pos h, Fo.tot]
      rw [← hx] at hk ⊢
      obtain ⟨k1, k2, k3⟩ := hk
      obtain ⟨r1, r2, r3⟩ := hr
      refine ⟨by omega, by omega, fun h' => ?_⟩
      have := r3 h'
      have := k3 (by omega)
      omega
    · simp only [Fo.many, if_neg h]
      exact ⟨by omega, by omega, fun h' => absurd h' h⟩
set_option maxRecDepth 100000 in
set_option maxHeartbeats 6400000 in
theorem many_step (N : Nat) (ih : ∀ (f : Fo) (W : World) (A : Option Addr) (c : Nat) (m : Int), f.nodes < N → FoAt W A 0 f → f.len ≤ 140737488355328 → f.tot ≤ 1000000000 → -1000000000 ≤ m → m ≤ 1000000000 → Calls Tryd.prog 33 #[.slice A f.len c, .int .i64 m] W fun e w' => e = .returned (.int .i64 (f.many 0 m)) ∧ Drawn W w')
    (f : Fo) (W : World) (A : Option Addr) (c : Nat) (m : Int) (hN : f.nodes ≤ N) (hf : FoAt W A 0 f) (hl : f.len ≤ 140737488355328) (ht : f.tot ≤ 1000000000) (h0 : -1000000000 ≤ m) (h1 : m ≤ 1000000000) :
    Calls Tryd.prog 33 #[.slice A f.len c, .int .i64 m] W fun e w' => e = .returned (.int .i64 (f.many 0 m)) ∧ Drawn W w' := by
  obtain ⟨n, hn⟩ : ∃ n, n = f.len := ⟨_, rfl⟩
  obtain ⟨R, hR⟩ : ∃ R, R = f.many 0 m := ⟨_, rfl⟩
  have HH := Lib.hid (show _ ∧ _ ∧ _ ∧ _ from ⟨hN, hf, ht, hR⟩)
  rw [← hn, ← hR]
  have HN := Lib.hid hn
  have hn0 : n ≤ 140737488355328 := by omega
  have HI := Lib.hid ih
  clear hN hf hl hn ih ht hR
  go_enter Tryd.func33, Tryd.ntmps33
  go_wp2
  go_loopw [5, 6] (fun nv iv wr => ∃ (i : Nat) (g : Fo) (q : Int), i ≤ n ∧ iv = .int .i64 (i : Int) ∧ nv = .int .i64 q ∧ Hid (0 ≤ q ∧ q + g.tot ≤ 1000000000 ∧ Drawn W wr ∧ i + g.len = n ∧ FoAt wr A i g ∧ g.nodes ≤ N ∧ g.many q m = R)) (fun _ iv _ => n - (intOf iv).toNat)
  case atStart => exact ⟨0, f, 0, Nat.zero_le _, rfl, rfl, Lib.hid ⟨Int.le_refl _, by have := HH.out.2.2.1; omega, Drawn.refl _, by rw [HN.out]; omega, HH.out.2.1, HH.out.1, HH.out.2.2.2.symm⟩⟩
  case round =>
    obtain ⟨i, g, q, hin, rfl, rfl, HR⟩ := hrel
    obtain ⟨hq0, hqt, hd, hgl, hg, hgn, hgm⟩ := HR.out
    cases g with
    | nil =>
      have hie : i = n := by simpa [Fo.len] using hgl
      have hlt : decide (i < n) = false := decide_eq_false (by omega)
      have HE := Lib.hid (show q = R ∧ _ from ⟨hgm, hd⟩)
      clear hq0 hqt hd hgl hg hgn hgm HR hie HI HH
      go_wp2
      go_ret
      exact ⟨ret_of HE.out.1, HE.out.2⟩
    | cons s k b p r =>
      have hil : i < n := by simp [Fo.len] at hgl; omega
      have hlt : decide (i < n) = true := decide_eq_true (by omega)
      by_cases hqm : q ≤ m
      · have y1 : decide (q ≤ m) = true := decide_eq_true hqm
        obtain ⟨⟨ga, oa, A1, cA, rfl, q0, q1, q2, q3, hb1, hk1⟩, hr1⟩ := hg
        have x1 : (i : Int) < (n : Int) := by omega
        have x0 : (0 : Int) ≤ (i : Int) := by omega
        simp only [Fo.tot, Fo.nodes, Fo.len] at hqt hgn hgl
        simp only [Fo.many, if_pos hqm] at hgm
        obtain ⟨x, hx⟩ : ∃ x, x = k.many 0 (m - q) := ⟨_, rfl⟩
        have hxb := many_le k 0 (m - q)
        rw [← hx] at hxb hgm
        obtain ⟨z, hz⟩ : ∃ z : Nat, z = s.size / 8 := ⟨_, rfl⟩
        rw [← hz] at hqt hgm
        have v1 : (s.size : Int).tdiv 8 = (z : Int) := by rw [hz]; rfl
        have v2 : IntKind.i64.wrap (q + 1) = q + 1 := by rw [IntKind.wrap_i64]; omega
        have v3 : IntKind.i64.wrap (q + 1 + (z : Int)) = q + 1 + (z : Int) := by rw [IntKind.wrap_i64]; omega
        have v4 : IntKind.i64.wrap (m - q) = m - q := by rw [IntKind.wrap_i64]; omega
        have v5 : IntKind.i64.wrap (q + 1 + (z : Int) + x) = q + 1 + (z : Int) + x := by rw [IntKind.wrap_i64]; omega
        have v6 : IntKind.i64.wrap (z : Int) = (z : Int) := by rw [IntKind.wrap_i64]; omega
        have HC := Lib.hid (fun (W' : World) (h : Drawn wr W') => show Calls Tryd.prog 33 #[.slice A1 k.len cA, .int .i64 (m - q)] W' fun e w' => e = .returned (.int .i64 x) ∧ Drawn W' w' by rw [hx]; exact HI.out k W' A1 cA (m - q) (by omega) (hk1.drawn h) hb1.2.2.2 (by omega) (by omega) (by omega))
        have HG := Lib.hid (show _ ∧ (_ ∧ _) ∧ _ ∧ _ ∧ _ ∧ _ ∧ _ from ⟨hqt, ⟨hxb, hq0⟩, hd, hgl, hr1, hgn, hgm⟩)
        clear hq0 hqt hd hgl hr1 hgn hgm HR HI hk1 hxb hx hz hb1
        go_wp2
        go_quiet ((go_at_call 33; exact Calls.quiet_of (HC.out _ ⟨_, rfl⟩)))
        go_wp2
        go_roundw
        case rel => exact ⟨i + 1, r, q + 1 + (z : Int) + x, by omega, by go_num, rfl, Lib.hid ⟨by have := HG.out.2.1; omega, by have := HG.out.1; have := HG.out.2.1; omega, HG.out.2.2.1.trans ⟨_, rfl⟩, by have := HG.out.2.2.2.1; omega, HG.out.2.2.2.2.1.drawn ⟨_, rfl⟩, by have := HG.out.2.2.2.2.2.1; omega, HG.out.2.2.2.2.2.2⟩⟩
        case measure => simp [intOf]; omega
      · have y1 : decide (q ≤ m) = false := decide_eq_false hqm
        simp only [Fo.many, if_neg hqm] at hgm
        have HE := Lib.hid (show q = R ∧ _ from ⟨hgm, hd⟩)
        clear hq0 hqt hd hgl hg hgn hgm HR HI HH hqm
        go_wp2
        go_ret
        exact ⟨ret_of HE.out.1, HE.out.2⟩
theorem many_ok : ∀ (N : Nat) (f : Fo) (W : World) (A : Option Addr) (c : Nat) (m : Int), f.nodes < N → FoAt W A 0 f → f.len ≤ 140737488355328 → f.tot ≤ 1000000000 → -1000000000 ≤ m → m ≤ 1000000000 → Calls Tryd.prog 33 #[.slice A f.len c, .int .i64 m] W fun e w' => e = .returned (.int .i64 (f.many 0 m)) ∧ Drawn W w'
  | 0, _, _, _, _, _, h, _, _, _, _, _ => absurd h (Nat.not_lt_zero _)
  | N + 1, f, W, A, c, m, h, h1, h2, h3, h4, h5 => many_step N (many_ok N) f W A c m (by omega) h1 h2 h3 h4 h5
set_option maxRecDepth 100000 in
set_option maxHeartbeats 6400000 in
theorem rdeep_step (N : Nat) (ih : ∀ (f : Fo) (W : World) (A : Option Addr) (c : Nat), f.nodes < N → FoAt W A 0 f → f.len ≤ 140737488355328 → f.deep ≤ 1000000000 → Calls Tryd.prog 36 #[.slice A f.len c] W fun e w' => e = .returned (.int .i64 (f.deep : Int)) ∧ Drawn W w')
    (f : Fo) (W : World) (A : Option Addr) (c : Nat) (hN : f.nodes ≤ N) (hf : FoAt W A 0 f) (hl : f.len ≤ 140737488355328) (ht : f.deep ≤ 1000000000) :
    Calls Tryd.prog 36 #[.slice A f.len c] W fun e w' => e = .returned (.int .i64 (f.deep : Int)) ∧ Drawn W w' := by
  obtain ⟨n, hn⟩ : ∃ n, n = f.len := ⟨_, rfl⟩
  obtain ⟨R, hR⟩ : ∃ R, R = f.deep := ⟨_, rfl⟩
  have HH := Lib.hid (show _ ∧ _ ∧ _ from ⟨hN, hf, hR⟩)
  rw [← hn, ← hR]
  have HN := Lib.hid hn
  have hn0 : n ≤ 140737488355328 := by omega
  have hR9 : R ≤ 1000000000 := by omega
  have HI := Lib.hid ih
  clear hN hf hl hn ih ht hR
  go_enter Tryd.func36, Tryd.ntmps36
  go_wp2
  go_loopw [3, 4] (fun nv iv wr => ∃ (i : Nat) (g : Fo) (q : Nat), i ≤ n ∧ iv = .int .i64 (i : Int) ∧ nv = .int .i64 (q : Int) ∧ Hid (Drawn W wr ∧ i + g.len = n ∧ FoAt wr A i g ∧ g.nodes ≤ N ∧ max q g.deep = R)) (fun _ iv _ => n - (intOf iv).toNat)
  case atStart => exact ⟨0, f, 0, Nat.zero_le _, rfl, rfl, Lib.hid ⟨Drawn.refl _, by rw [HN.out]; omega, HH.out.2.1, HH.out.1, by rw [HH.out.2.2]; omega⟩⟩
  case round =>
    obtain ⟨i, g, q, hin, rfl, rfl, HR⟩ := hrel
    obtain ⟨hd, hgl, hg, hgn, hgm⟩ := HR.out
    cases g with
    | nil =>
      have hie : i = n := by simpa [Fo.len] using hgl
      have hlt : decide (i < n) = false := decide_eq_false (by omega)
      have HE := Lib.hid (show q = R ∧ _ from ⟨by simp [Fo.deep] at hgm; omega, hd⟩)
      clear hd hgl hg hgn hgm HR hie HI HH
      go_wp2
      go_ret
      exact ⟨ret_of (by rw [HE.out.1]), HE.out.2⟩
    | cons s k b p r =>
      have hil : i < n := by simp [Fo.len] at hgl; omega
      have hlt : decide (i < n) = true := decide_eq_true (by omega)
      obtain ⟨⟨ga, oa, A1, cA, rfl, q0, q1, q2, q3, hb1, hk1⟩, hr1⟩ := hg
      have x1 : (i : Int) < (n : Int) := by omega
      have x0 : (0 : Int) ≤ (i : Int) := by omega
      simp only [Fo.deep, Fo.nodes, Fo.len] at hgm hgn hgl
      cases b with
      | false =>
        simp only [Bool.false_eq_true, if_false] at hgm
        have HG := Lib.hid (show _ ∧ _ ∧ _ ∧ _ ∧ max q r.deep = R from ⟨hd, hgl, hr1, hgn, by omega⟩)
        clear hd hgl hr1 hgn hgm HR HI hk1 hb1
        go_wp2
        go_roundw
        case rel => exact ⟨i + 1, r, q, by omega, by go_num, rfl, Lib.hid ⟨HG.out.1, by have := HG.out.2.1; omega, HG.out.2.2.1, by have := HG.out.2.2.2.1; omega, HG.out.2.2.2.2⟩⟩
        case measure => simp [intOf]; omega
      | true =>
        simp only [if_true] at hgm
        obtain ⟨x, hx⟩ : ∃ x, x = k.deep := ⟨_, rfl⟩
        rw [← hx] at hgm
        have HC := Lib.hid (show Calls Tryd.prog 36 #[.slice A1 k.len cA] wr fun e w' => e = .returned (.int .i64 (x : Int)) ∧ Drawn wr w' by rw [hx]; exact HI.out k wr A1 cA (by omega) hk1 hb1.2.2.2 (by omega))
        have hx9 : x ≤ 1000000000 := by omega
        have hq9 : q ≤ 1000000000 := by omega
        have HG := Lib.hid (show _ ∧ _ ∧ _ ∧ _ ∧ max (max q (1 + x)) r.deep = R from ⟨hd, hgl, hr1, hgn, by omega⟩)
        clear hd hgl hr1 hgn hgm HR HI hk1 hb1 hx
        go_wp2_with fail
        refine HC.out.mono ?_
        rintro e w2 ⟨rfl, hd2⟩
        have HD := Lib.hid (show Drawn W w2 ∧ FoAt w2 (some ⟨ga, oa, none⟩) (i + 1) r from ⟨HG.out.1.trans hd2, HG.out.2.2.1.drawn hd2⟩)
        clear hd2 HC
        go_wp2
        go_roundw
        case rel => exact ⟨i + 1, r, max q (1 + x), by omega, by go_num, by congr 1; omega, Lib.hid ⟨HD.out.1, by have := HG.out.2.1; omega, HD.out.2, by have := HG.out.2.2.2.1; omega, HG.out.2.2.2.2⟩⟩
        case measure => simp [intOf]; omega
theorem rdeep_ok : ∀ (N : Nat) (f : Fo) (W : World) (A : Option Addr) (c : Nat), f.nodes < N → FoAt W A 0 f → f.len ≤ 140737488355328 → f.deep ≤ 1000000000 → Calls Tryd.prog 36 #[.slice A f.len c] W fun e w' => e = .returned (.int .i64 (f.deep : Int)) ∧ Drawn W w'
  | 0, _, _, _, _, h, _, _, _ => absurd h (Nat.not_lt_zero _)
  | N + 1, f, W, A, c, h, h1, h2, h3 => rdeep_step N (rdeep_ok N) f W A c (by omega) h1 h2 h3
end Go.Proofs.YtbccknhinmgibaaDoor

/- The law's places: each tree stands at its place in the text. Premises: trees in memory; they do stand there. -/
import Derived.Test.YtbccknhinmgibaaLTxt
import Derived.Test.YtbccknhinmgibaaLRowLaw
import Derived.Deep.LoopGhost
import Derived.BigQuiet
set_option linter.unusedVariables false
set_option linter.unusedSimpArgs false
namespace Go.Proofs.Ytbccknhinmgibaa
open Go.RowKit

set_option maxRecDepth 100000 in
set_option maxHeartbeats 6400000 in
theorem places_step (S : ByteArray) (hS : S.size ≤ 5000) (N : Nat) (ih : ∀ (f : Fo) (W : World) (A : Option Addr) (c : Nat) (lo hi : Int), f.nodes < N → FoAt W A 0 f → f.len ≤ 140737488355328 → Pl S.data.toList f lo hi → 0 ≤ lo → lo ≤ 6000 → hi ≤ S.size → -6000 ≤ hi → Calls Try.prog 17 #[.string S, .slice A f.len c, .int .i64 lo, .int .i64 hi] W fun e w' => e = .returned (.bool true) ∧ Below W.heap.size W w')
    (f : Fo) (W : World) (A : Option Addr) (c : Nat) (lo hi : Int) (hN : f.nodes ≤ N) (hf : FoAt W A 0 f) (hl : f.len ≤ 140737488355328) (hp : Pl S.data.toList f lo hi) (h0 : 0 ≤ lo) (h1 : lo ≤ 6000) (h2 : hi ≤ S.size) (h3 : -6000 ≤ hi) :
    Calls Try.prog 17 #[.string S, .slice A f.len c, .int .i64 lo, .int .i64 hi] W fun e w' => e = .returned (.bool true) ∧ Below W.heap.size W w' := by
  obtain ⟨n, hn⟩ : ∃ n, n = f.len := ⟨_, rfl⟩
  have HH := Lib.hid (show _ ∧ _ ∧ _ from ⟨hN, hf, hp⟩)
  rw [← hn]
  have HN := Lib.hid hn
  have hn0 : n ≤ 140737488355328 := by omega
  have HI := Lib.hid ih
  have HL := Lib.hid (show _ ∧ _ from ⟨h0, h1⟩)
  clear hN hf hl hp hn ih h0 h1
  go_enter Try.func17, Try.ntmps17
  go_wp2
  go_loopw [2, 9] (fun fv iv wr => ∃ (i : Nat) (g : Fo) (l : Int), i ≤ n ∧ iv = .int .i64 (i : Int) ∧ fv = .int .i64 l ∧ Hid ((0 ≤ l ∧ l ≤ 6000) ∧ Below W.heap.size W wr ∧ i + g.len = n ∧ FoAt wr A i g ∧ g.nodes ≤ N ∧ Pl S.data.toList g l hi)) (fun _ iv _ => n - (intOf iv).toNat)
  case atStart => exact ⟨0, f, lo, Nat.zero_le _, rfl, rfl, Lib.hid ⟨HL.out, Below.refl _ _, by rw [HN.out]; omega, HH.out.2.1, HH.out.1, HH.out.2.2⟩⟩
  case round =>
    obtain ⟨i, g, l, hin, rfl, rfl, HR⟩ := hrel
    obtain ⟨hl, hb, hgl, hg, hgn, hpl⟩ := HR.out
    cases g with
    | nil =>
      have hie : i = n := by simpa [Fo.len] using hgl
      have hlt : decide (i < n) = false := decide_eq_false (by omega)
      have HE := Lib.hid hb
      clear hl hb hgl hg hgn hpl HR hie HI HH
      go_wp2
      go_ret
      exact ⟨rfl, HE.out⟩
    | cons s k b p r =>
      have hil : i < n := by simp [Fo.len] at hgl; omega
      obtain ⟨⟨ga, oa, A1, cA, rfl, q0, q1, q2, q3, hb1, hk1⟩, hr1⟩ := hg
      have hlt : decide (i < n) = true := decide_eq_true (by omega)
      have x1 : (i : Int) < (n : Int) := by omega
      have x0 : (0 : Int) ≤ (i : Int) := by omega
      obtain ⟨hp1, hp2, hp3⟩ := hpl
      have y1 : decide (p < l) = false := decide_eq_false (by omega)
      have y2 : decide (hi ≤ p) = false := decide_eq_false (by omega)
      obtain ⟨P, rfl⟩ : ∃ P : Nat, p = (P : Int) := ⟨p.toNat, by omega⟩
      obtain ⟨o, ho⟩ : ∃ o, o = Obj.cells #[.string s, .slice A1 k.len cA, .bool b, .int .i64 (P : Int)] 39 (0, 0) := ⟨_, rfl⟩
      have HB := Lib.hid (show ∀ W' : World, Below (wr.alloc o).heap.size (wr.alloc o) W' → Below W.heap.size W W' ∧ FoAt W' (some ⟨ga, oa, none⟩) (i + 1) r ∧ FoAt W' A1 0 k from fun W' hw => by
        have ha : Below wr.heap.size wr (wr.alloc o) := (Below.refl _ _).alloc (Nat.le_refl _) _
        have hw2 : Below wr.heap.size wr W' := ha.trans (hw.mono ha.size)
        exact ⟨hb.trans (hw2.mono hb.size), hr1.bel hw2, hk1.bel hw2⟩)
      have z1 : (wr.alloc o).cell? ⟨wr.heap.size, 0, none⟩ = some (.string s) := by rw [ho]; exact (cell_of_row _ _ 0 _ _ _ (heap_alloc_new _ _)).trans rfl
      have z2 : (wr.alloc o).cell? ⟨wr.heap.size, 1, none⟩ = some (.slice A1 k.len cA) := by rw [ho]; exact (cell_of_row _ _ 1 _ _ _ (heap_alloc_new _ _)).trans rfl
      have z3 : (wr.alloc o).cell? ⟨wr.heap.size, 2, none⟩ = some (.bool b) := by rw [ho]; exact (cell_of_row _ _ 2 _ _ _ (heap_alloc_new _ _)).trans rfl
      have z4 : (wr.alloc o).cell? ⟨wr.heap.size, 3, none⟩ = some (.int .i64 (P : Int)) := by rw [ho]; exact (cell_of_row _ _ 3 _ _ _ (heap_alloc_new _ _)).trans rfl
      have HG := Lib.hid (show _ ∧ _ ∧ _ from ⟨hl, hgl, hgn⟩)
      rw [ho] at z1 z2 z3 z4 HB
      clear hr1 hk1 hb hgn hgl ho hl HR
      cases b with
      | false =>
        simp only [Bool.false_eq_true, if_false] at hp3
        obtain ⟨rfl, hs0, hs1, ⟨_, hs2⟩, hpr⟩ := hp3
        have hE : (S.data.toList.drop P).take s.size = s.data.toList := by simpa using hs2
        have hsx : S.extract P (P + s.size) = s := by rw [piece_is hE, bytes_back]
        obtain ⟨E, hEe⟩ : ∃ E, E = P + s.size := ⟨_, rfl⟩
        rw [← hEe] at hsx
        have es := str_is hsx
        have wv : IntKind.i64.wrap (hi - (P : Int)) = hi - (P : Int) := by rw [IntKind.wrap_i64]; omega
        have w0 : ((Fo.nil.len : Int) != 0) = false := rfl
        have v0 : ((s.size : Int) == 0) = false := beq_eq_false_iff_ne.2 (by omega)
        have v1 : decide (hi - (P : Int) < (s.size : Int)) = false := decide_eq_false (by omega)
        have v2 : (P : Int) + (s.size : Int) = (E : Int) := by omega
        have wv2 : IntKind.i64.wrap ((P : Int) + (s.size : Int)) = (E : Int) := by rw [IntKind.wrap_i64]; omega
        have wv3 : IntKind.i64.wrap (E : Int) = (E : Int) := by rw [IntKind.wrap_i64]; omega
        have v3 : P ≤ E := by omega
        have v4 : E ≤ S.size := by omega
        have HPr := Lib.hid (show Pl S.data.toList r (E : Int) hi by rw [← v2]; exact hpr)
        clear hpr hE hs2 hb1 hs0 hsx hs1 hEe
        go_wp2
        go_quiet (fail)
        go_wp2
        go_roundw
        case rel => exact ⟨i + 1, r, (E : Int), by omega, by go_num, by first | rfl | (congr 1; omega), Lib.hid ⟨by omega, (HB.out _ (Drawn.below ⟨_, rfl⟩)).1, by have := HG.out.2.1; simp only [Fo.len] at this; omega, (HB.out _ (Drawn.below ⟨_, rfl⟩)).2.1, by have := HG.out.2.2; simp only [Fo.nodes] at this; omega, HPr.out⟩⟩
        case measure => simp [intOf]; omega
      | true =>
        simp only [if_true] at hp3
        obtain ⟨⟨_, hs2⟩, rfl, hpk, hpr⟩ := hp3
        rw [show ((P : Int)).toNat = P by omega] at hs2
        have hPS : P < S.size := by omega
        have hcn : S[P].toNat = 40 := by
          have e : S.data.toList[P]? = some S[P] := by simp [hPS]; rfl
          rw [e] at hs2
          injection hs2 with hs2
          rw [hs2]; rfl
        have es0 : ((⟨#[]⟩ : ByteArray).toList == (⟨#[]⟩ : ByteArray).toList) = true := beq_self_eq_true _
        have HPr := Lib.hid hpr
        cases r with
        | nil =>
          have e1 : decide (i + 1 < n) = false := decide_eq_false (by have := HG.out.2.1; simp [Fo.len] at this; omega)
          have e2 : ¬ (i : Int) + 1 < (n : Int) := by have := HG.out.2.1; simp [Fo.len] at this; omega
          have e3 : decide (hi < hi) = false := decide_eq_false (by omega)
          have HC := Lib.hid (fun (W' : World) hw => HI.out k W' A1 cA ((P : Int) + 1) hi (by have := HG.out.2.2; simp only [Fo.nodes] at this; omega) (HB.out W' hw).2.2 hb1.2.2.2 hpk (by omega) (by omega) h2 h3)
          clear hs2 hpk hpr hb1
          go_wp2_with first | rw [hcn] | fail
          refine (HC.out _ (Below.refl _ _)).mono ?_
          rintro e w2 ⟨rfl, hw2⟩
          have c1 : w2.cell? ⟨wr.heap.size, 3, none⟩ = some (.int .i64 (P : Int)) := (hw2.cell (cell_lt z4)).trans z4
          have HW2 := Lib.hid hw2
          clear hw2 HC
          go_wp2
          go_roundw
          case rel => exact ⟨i + 1, .nil, (P : Int) + 1, by omega, by go_num, by first | rfl | (congr 1; omega), Lib.hid ⟨by omega, (HB.out _ HW2.out).1, by have := HG.out.2.1; simp only [Fo.len] at this ⊢; omega, (HB.out _ HW2.out).2.1, by have := HG.out.2.2; simp only [Fo.nodes] at this ⊢; omega, HPr.out⟩⟩
          case measure => simp [intOf]; omega
        | cons w2 k2 b2 p2 r2 =>
          have e1 : decide (i + 1 < n) = true := decide_eq_true (by have := HG.out.2.1; simp [Fo.len] at this; omega)
          have e2 : (i : Int) + 1 < (n : Int) := by have := HG.out.2.1; simp [Fo.len] at this; omega
          have e3 : decide (hi < p2) = false := decide_eq_false (by have := hpr.2.1; omega)
          have HC := Lib.hid (fun (W' : World) hw => HI.out k W' A1 cA ((P : Int) + 1) p2 (by have := HG.out.2.2; simp only [Fo.nodes] at this; omega) (HB.out W' hw).2.2 hb1.2.2.2 hpk (by omega) (by omega) (by have := hpr.2.1; omega) (by have := hpr.1; omega))
          obtain ⟨⟨ga', oa', _, _, ee, _, _, _, z5, _⟩, _⟩ := (HB.out _ (Below.refl _ _)).2.1
          injection ee with ee
          simp only [Addr.mk.injEq, and_true] at ee
          obtain ⟨rfl, rfl⟩ := ee
          clear hs2 hpk hpr hb1
          go_wp2_with first | rw [hcn] | fail
          refine (HC.out _ (Below.refl _ _)).mono ?_
          rintro e wz ⟨rfl, hw2⟩
          have c1 : wz.cell? ⟨wr.heap.size, 3, none⟩ = some (.int .i64 (P : Int)) := (hw2.cell (cell_lt z4)).trans z4
          have HW2 := Lib.hid hw2
          clear hw2 HC
          go_wp2
          go_roundw
          case rel => exact ⟨i + 1, .cons w2 k2 b2 p2 r2, (P : Int) + 1, by omega, by go_num, by first | rfl | (congr 1; omega), Lib.hid ⟨by omega, (HB.out _ HW2.out).1, by have := HG.out.2.1; simp only [Fo.len] at this ⊢; omega, (HB.out _ HW2.out).2.1, by have := HG.out.2.2; simp only [Fo.nodes] at this ⊢; omega, HPr.out⟩⟩
          case measure => simp [intOf]; omega
theorem places_ok (S : ByteArray) (hS : S.size ≤ 5000) : ∀ (N : Nat) (f : Fo) (W : World) (A : Option Addr) (c : Nat) (lo hi : Int), f.nodes < N → FoAt W A 0 f → f.len ≤ 140737488355328 → Pl S.data.toList f lo hi → 0 ≤ lo → lo ≤ 6000 → hi ≤ S.size → -6000 ≤ hi → Calls Try.prog 17 #[.string S, .slice A f.len c, .int .i64 lo, .int .i64 hi] W fun e w' => e = .returned (.bool true) ∧ Below W.heap.size W w'
  | 0, _, _, _, _, _, _, h, _, _, _, _, _, _, _ => absurd h (Nat.not_lt_zero _)
  | N + 1, f, W, A, c, lo, hi, h, h1, h2, h3, h4, h5, h6, h7 => places_step S hS N (places_ok S hS N) f W A c lo hi (by omega) h1 h2 h3 h4 h5 h6 h7
end Go.Proofs.Ytbccknhinmgibaa

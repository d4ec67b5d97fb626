/- The law LexRow over any two texts of at most 2^47 bytes each. -/
import Derived.Test.YtbccknhinmgibaaLAwake
import Derived.Test.YtbccknhinmgibaaLShape
import Derived.Test.YtbccknhinmgibaaLDeep
import Derived.Test.YtbccknhinmgibaaLRowP
import Derived.Test.YtbccknhinmgibaaLFoApp
import Derived.WalkSpells
set_option linter.unusedVariables false
set_option linter.unusedSimpArgs false
namespace Go.Proofs.Ytbccknhinmgibaa
open Go.RowKit

theorem go_place : ∀ (n : Nat) (l : List UInt8) (i : Nat) (u : Up) (ks : Fo) (p : Nat) (e : Int), l.length ≤ n → go l i u ks = .bad p e → i ≤ p ∧ p ≤ i + l.length := by
  intro n
  induction n with
  | zero =>
    intro l i u ks p e hl hg
    obtain rfl : l = [] := List.eq_nil_of_length_eq_zero (by omega)
    rw [go_nil] at hg; cases hg
  | succ n ih =>
    intro l i u ks p e hl hg
    cases l with
    | nil => rw [go_nil] at hg; cases hg
    | cons c l =>
      have hl' : l.length ≤ n := by simpa using hl
      simp only [List.length_cons]
      by_cases h1 : c = 32 ∨ c = 10
      · rw [go_blank h1] at hg
        have := ih _ _ _ _ _ _ hl' hg; omega
      by_cases h2 : c = 40
      · subst h2
        by_cases hu : u.length < 400
        · rw [go_open _ _ _ _ hu] at hg
          have := ih _ _ _ _ _ _ hl' hg; omega
        · rw [go_deep _ _ _ _ hu] at hg; injection hg with h _; omega
      by_cases h3 : c = 41
      · subst h3
        cases u with
        | nil => rw [go_none] at hg; injection hg with h _; omega
        | cons x u =>
          obtain ⟨a, js⟩ := x
          rw [go_close] at hg
          have := ih _ _ _ _ _ _ hl' hg; omega
      cases h4 : signB c with
      | true =>
        rw [go_word h4] at hg
        have := ih _ _ _ _ _ _ (Nat.le_trans (dropWhile_le _ _) hl') hg
        have := split_len signB l
        omega
      | false => rw [go_not h1 h2 h3 h4] at hg; injection hg with h _; omega
theorem parse_place {l : List UInt8} {f : Fo} {p : Nat} {n : Int} (h : parseP l = (f, p, n)) : p ≤ l.length := by
  rw [parseP] at h
  split at h
  · simp only [Prod.mk.injEq] at h; omega
  · cases hg : go l 0 [] .nil with
    | bad q e =>
      have := go_place _ _ _ _ _ _ _ (Nat.le_refl _) hg
      rw [hg] at h
      simp only [fin, Prod.mk.injEq] at h; omega
    | fine U K =>
      rw [hg] at h
      cases U <;> simp only [fin, Prod.mk.injEq] at h <;> omega
theorem app_bytes (a b : ByteArray) : (a ++ b).data.toList = a.data.toList ++ b.data.toList := by simp
/-- Trees are few: not more than signs. -/
theorem go_nodes : ∀ (n : Nat) (l : List UInt8) (i : Nat) (u : Up) (ks : Fo) (U : Up) (K : Fo), l.length ≤ n → go l i u ks = .fine U K → K.nodes + (U.map fun q => q.2.nodes + 1).sum ≤ ks.nodes + (u.map fun q => q.2.nodes + 1).sum + l.length := by
  have happ : ∀ f g : Fo, (f.app g).nodes = f.nodes + g.nodes := fun f g => by
    induction f with
    | nil => simp [Fo.app, Fo.nodes]
    | cons s k b p r ihk ihr => simp only [Fo.app, Fo.nodes, ihr]; omega
  intro n
  induction n with
  | zero =>
    intro l i u ks U K hl hg
    obtain rfl : l = [] := List.eq_nil_of_length_eq_zero (by omega)
    rw [go_nil] at hg
    injection hg with h1 h2; subst h1; subst h2
    exact Nat.le_refl _
  | succ n ih =>
    intro l i u ks U K hl hg
    cases l with
    | nil =>
      rw [go_nil] at hg
      injection hg with h1 h2; subst h1; subst h2
      exact Nat.le_refl _
    | cons c l =>
      have hl' : l.length ≤ n := by simpa using hl
      simp only [List.length_cons]
      by_cases h1 : c = 32 ∨ c = 10
      · rw [go_blank h1] at hg
        have := ih _ _ _ _ _ _ hl' hg; omega
      by_cases h2 : c = 40
      · subst h2
        by_cases hu : u.length < 400
        · rw [go_open _ _ _ _ hu] at hg
          have := ih _ _ _ _ _ _ hl' hg
          simp only [List.map_cons, List.sum_cons, Fo.nodes] at this
          omega
        · rw [go_deep _ _ _ _ hu] at hg; cases hg
      by_cases h3 : c = 41
      · subst h3
        cases u with
        | nil => rw [go_none] at hg; cases hg
        | cons x u =>
          obtain ⟨a, js⟩ := x
          rw [go_close] at hg
          have := ih _ _ _ _ _ _ hl' hg
          rw [happ] at this
          simp only [List.map_cons, List.sum_cons, Fo.one, Fo.nodes] at this ⊢
          omega
      cases h4 : signB c with
      | true =>
        rw [go_word h4] at hg
        have := ih _ _ _ _ _ _ (Nat.le_trans (dropWhile_le _ _) hl') hg
        have hs := split_len signB l
        rw [happ] at this
        simp only [Fo.one, Fo.nodes] at this
        omega
      | false => rw [go_not h1 h2 h3 h4] at hg; cases hg
theorem parse_nodes {l : List UInt8} {f : Fo} {p : Nat} {n : Int} (h : parseP l = (f, p, n)) : f.nodes ≤ 262144 := by
  rw [parseP] at h
  split at h
  · simp only [Prod.mk.injEq] at h; rw [← h.1]; exact Nat.zero_le _
  · rename_i hl
    cases hg : go l 0 [] .nil with
    | bad q e =>
      rw [hg] at h
      simp only [fin, Prod.mk.injEq] at h; rw [← h.1]; exact Nat.zero_le _
    | fine U K =>
      have := go_nodes _ _ _ _ _ _ _ (Nat.le_refl _) hg
      rw [hg] at h
      cases U with
      | nil =>
        simp only [fin, Prod.mk.injEq] at h
        rw [← h.1]
        simp [Fo.nodes] at this
        omega
      | cons x U => simp only [fin, Prod.mk.injEq] at h; rw [← h.1]; exact Nat.zero_le _
theorem parse_any {S : ByteArray} (hS : S.size ≤ 140737488355328) : ∃ f p n, parseP S.data.toList = (f, p, n) ∧ f.nodes ≤ 262144 ∧ p ≤ S.size ∧ ∀ w : World, Calls Try.prog 15 #[.string S] w fun e w' => Below w.heap.size w w' ∧ ∃ K c, e = .returned (.tuple #[.slice K f.len c, .int .i64 (p : Int), .int .i64 n]) ∧ IsFo w' (.slice K f.len c) f := by
  rcases h : parseP S.data.toList with ⟨f, p, n⟩
  refine ⟨f, p, n, rfl, parse_nodes h, by have := parse_place h; simpa using this, fun w => (parse_at hS h).mono fun e w' ⟨hb, K, c, he, hc, hf⟩ => ⟨hb, K, c, he, K, c, rfl, hc.1, hc.2.1, by omega, hf⟩⟩
/-- Two lists of trees, one behind the other, in a row of the call's own. -/
theorem two_appended {w : World} {K1 K2 : Option Addr} {c1 c2 : Nat} {f1 f2 : Fo} (h1 : IsFo w (.slice K1 f1.len c1) f1) (h2 : IsFo w (.slice K2 f2.len c2) f2) (hl1 : f1.len ≤ 300000) (hl2 : f2.len ≤ 300000) :
    ∃ v1 w7 K c w8, (Builtin.append_ #[ 24, 24 ] 24 #[.slice (some ⟨w.heap.size, 0, none⟩) 0 0, .slice K1 f1.len c1]).run Try.prog (w.alloc (.cells #[] 39)) = .ok v1 w7 ∧ (Builtin.append_ #[ 24, 24 ] 24 #[v1, .slice K2 f2.len c2]).run Try.prog w7 = .ok (.slice K (f1.app f2).len c) w8 ∧ Below w.heap.size w w8 ∧ FoAt w8 K 0 (f1.app f2) := by
  obtain ⟨i0, hi, hz0, hz1, hz2⟩ := info_parts info_tree
  have hb1 : Below w.heap.size w (w.alloc (.cells #[] 39)) := (Below.refl _ _).alloc (Nat.le_refl _) _
  have key : ∀ (W : World) (hW : Below w.heap.size w W) (K : Option Addr) (c : Nat) (f : Fo), IsFo w (.slice K f.len c) f → ∃ C, KidsC (fun m => m < w.heap.size) W C f ∧ (∀ u ∈ C, u.oneCell' = true) ∧ ∀ i u, C[i]? = some u → ∃ ad, K = some ad ∧ W.cell? (ad.add i) = some u := fun W hW K c f ⟨K', c', e, _, _, _, hf⟩ => by
    simp only [Value.slice.injEq, true_and] at e
    obtain ⟨rfl, rfl⟩ := e
    obtain ⟨C, hC, hone, hc⟩ := FoAt.cells (Nat.le_refl _) f hf
    refine ⟨C, KidsC.to (fun a u hu hD => ⟨(hW.cell (cell_lt hu)).trans hu, hD⟩) f hC, hone, fun i u hu => ?_⟩
    obtain ⟨g, o, hK, h⟩ := hc i u hu
    refine ⟨_, hK, ?_⟩
    rw [add_eq1]
    rw [Nat.zero_mul, Nat.add_zero] at h
    exact (hW.cell (cell_lt h)).trans h
  obtain ⟨v1, w7, r1, hv1, hb7⟩ := run_append_fo (P := Try.prog) (w := w.alloc (.cells #[] 39)) 24 24 w.heap.size 39 i0 _ 56 Try.underlying24 hi hz0 hz1 hz2 rfl (.slice (some ⟨w.heap.size, 0, none⟩) 0 0) .nil ⟨[], World.ownsRow_lit w #[] 0 (Nat.le_refl _) (by unfold maxLen; omega) rfl, rfl⟩ K1 c1 f1 (key _ hb1 K1 c1 f1 h1) (by simp only [Fo.len]; omega) (by omega) hb1.size
  have hb7' : Below w.heap.size w w7 := hb1.trans hb7
  obtain ⟨v2, w8, r2, hv2, hb8⟩ := run_append_fo (P := Try.prog) (w := w7) 24 24 w.heap.size 39 i0 _ 56 Try.underlying24 hi hz0 hz1 hz2 rfl v1 f1 hv1 K2 c2 f2 (key _ hb7' K2 c2 f2 h2) (by omega) (by omega) hb7'.size
  obtain ⟨K, c, rfl, _, _, hd⟩ := hv2.dep (D' := fun _ => True) (fun _ _ => trivial) fun _ _ => trivial
  exact ⟨v1, w7, K, c, w8, r1, r2, hb7'.trans hb8, hd.at⟩
theorem len_nodes : ∀ f : Fo, f.len ≤ f.nodes
  | .nil => Nat.le_refl _
  | .cons s k b p r => by have := len_nodes r; simp only [Fo.len, Fo.nodes]; omega
set_option maxRecDepth 100000 in
set_option maxHeartbeats 6400000 in
theorem lexRow_ok {a b : ByteArray} {w : World} (ha : a.size ≤ 140737488355328) (hb : b.size ≤ 140737488355328) : Calls Try.prog 6 #[.string a, .string b] w fun e w' => e = .returned (.bool true) ∧ Below w.heap.size w w' := by
  have HA := Lib.hid (awake_ok w)
  by_cases hl : 5000 < a.size + b.size
  · have b1 : decide ((5000 : Int) < (a.size : Int) + (b.size : Int)) = true := decide_eq_true (by omega)
    clear hl
    go_enter Try.func6, Try.ntmps6
    go_wp2_with fail
    refine HA.out.mono ?_
    rintro e w1 ⟨rfl, hb1⟩
    have HB := Lib.hid hb1
    clear hb1
    go_wp2
    go_ret
    exact ⟨rfl, HB.out⟩
  · obtain ⟨f1, p1, n1, e1, d1, q1, h1⟩ := parse_any (S := a) ha
    obtain ⟨f2, p2, n2, e2, d2, q2, h2⟩ := parse_any (S := b) hb
    have z3 : (a ++ ⟨#[32]⟩ ++ b).size = a.size + 1 + b.size := by rw [ByteArray.size_append, ByteArray.size_append]; rfl
    have z4 : (⟨#[40]⟩ ++ a ++ ⟨#[41]⟩ : ByteArray).size = 1 + a.size + 1 := by rw [ByteArray.size_append, ByteArray.size_append]; rfl
    obtain ⟨f3, p3, n3, e3, d3, q3, h3⟩ := parse_any (S := a ++ ⟨#[32]⟩ ++ b) (by omega)
    obtain ⟨f4, p4, n4, e4, d4, q4, h4⟩ := parse_any (S := ⟨#[40]⟩ ++ a ++ ⟨#[41]⟩) (by omega)
    have hp := row_pure (la := a.data.toList) (lb := b.data.toList) (by simp; omega) e1 e2 (by rw [← e3]; first | rfl | (congr 1; simp; done) | congr 1) (by rw [← e4]; first | rfl | (congr 1; simp; done) | congr 1)
    have b1 : decide ((5000 : Int) < (a.size : Int) + (b.size : Int)) = false := decide_eq_false (by omega)
    have c1 : ¬ 9223372036854775807 < a.size + 1 := by omega
    have c2 : ¬ 9223372036854775807 < a.size + 1 + b.size := by omega
    have c3 : ¬ 9223372036854775807 < 1 + a.size := by omega
    have c4 : ¬ 9223372036854775807 < 1 + a.size + 1 := by omega
    have hal : a.size ≤ 5000 := by omega
    have hbl : b.size ≤ 5000 := by omega
    have H1 := Lib.hid h1
    have H2 := Lib.hid h2
    have H3 := Lib.hid h3
    have H4 := Lib.hid h4
    have HP := Lib.hid hp
    have HD := Lib.hid (show _ ∧ _ ∧ _ ∧ _ from ⟨d1, d2, d3, d4⟩)
    clear h1 h2 h3 h4 hp d1 d2 d3 d4 e1 e2 e3 e4 z3 z4 hl ha hb
    go_enter Try.func6, Try.ntmps6
    go_wp2_with fail
    refine HA.out.mono ?_
    rintro e w1 ⟨rfl, hb1⟩
    have HB1 := Lib.hid hb1
    clear hb1
    go_wp2_with fail
    refine (H1.out _).mono ?_
    rintro e w2 ⟨hb2, K1, k1, rfl, hf1⟩
    have HB2 := Lib.hid (show _ ∧ _ from ⟨HB1.out.trans (hb2.mono HB1.out.size), hf1⟩)
    clear hb2 hf1
    go_wp2_with fail
    refine (H2.out _).mono ?_
    rintro e w3 ⟨hb3, K2, k2, rfl, hf2⟩
    have HB3 := Lib.hid (show _ ∧ _ ∧ _ from ⟨HB2.out.1.trans (hb3.mono HB2.out.1.size), HB2.out.2.below hb3, hf2⟩)
    clear hb3 hf2 HB2
    go_wp2_with fail
    refine (H3.out _).mono ?_
    rintro e w4 ⟨hb4, K3, k3, rfl, hf3⟩
    have HB4 := Lib.hid (show _ ∧ _ ∧ _ ∧ _ from ⟨HB3.out.1.trans (hb4.mono HB3.out.1.size), HB3.out.2.1.below hb4, HB3.out.2.2.below hb4, hf3⟩)
    clear hb4 hf3 HB3
    go_wp2_with fail
    refine (H4.out _).mono ?_
    rintro e w5 ⟨hb5, K4, k4, rfl, hf4⟩
    have HB5 := Lib.hid (show _ ∧ _ ∧ _ ∧ _ ∧ _ from ⟨HB4.out.1.trans (hb5.mono HB4.out.1.size), HB4.out.2.1.below hb5, HB4.out.2.2.1.below hb5, HB4.out.2.2.2.below hb5, hf4⟩)
    clear hb5 hf4 HB4 H1 H2 H3 H4 HA HB1
    by_cases g1 : n1 = 0
    · have x1 : (n1 != 0) = false := by rw [g1]; rfl
      have HQ := Lib.hid (HP.out g1)
      by_cases g2 : n2 = 0
      · have x2 : (n2 != 0) = false := by rw [g2]; rfl
        obtain ⟨g3, hba, hor⟩ := HQ.out.2 g2
        have x3 : (n3 != 0) = false := by rw [g3]; rfl
        obtain ⟨hbw, i1, i2, i3, i4⟩ := HB5.out
        obtain ⟨v1, w7, K, c, w8, r1, r2, hb8, hf8⟩ := two_appended i1 i2 (by have := HD.out.1; have := len_nodes f1; omega) (by have := HD.out.2.1; have := len_nodes f2; omega)
        have hl12 : (f1.app f2).len ≤ 140737488355328 := by rw [Fo.len_app]; have := HD.out.1; have := HD.out.2.1; have := len_nodes f1; have := len_nodes f2; omega
        obtain ⟨K3', k3', ee, _, _, hl3, hf3⟩ := i3.below hb8
        simp only [Value.slice.injEq, true_and] at ee
        obtain ⟨rfl, rfl⟩ := ee
        have HS := Lib.hid (shape_ok (f3.nodes + 1) f3 (f1.app f2) w8 K3 K k3 c (Nat.lt_succ_self _) hf3 hf8 hl3 hl12 true ⟨fun _ => hba, fun _ => rfl⟩)
        have HJ := Lib.hid (show _ ∧ _ ∧ _ from ⟨hbw.trans (hb8.mono hbw.size), i1.below hb8, i4.below hb8⟩)
        have HOr := Lib.hid hor
        have R1 := Lib.hid r1
        have R2 := Lib.hid r2
        clear r1 r2
        clear HB5 HP HQ g1 g2 g3 hba hor hbw i1 i2 i3 i4 hb8 hf8 hl12 hl3 hf3
        go_wp2_with (at_builtin; first | (refine wpList_ran (by kernel_rfl) rfl rfl rfl R1.out ?_) | (refine wpList_ran (by kernel_rfl) rfl rfl rfl R2.out ?_))
        refine HS.out.mono ?_
        rintro e w9 ⟨rfl, hd9⟩
        obtain ⟨j1, j2, j3⟩ := HJ.out
        have HJ2 := Lib.hid (show _ ∧ _ ∧ _ from ⟨j1.trans (hd9.below.mono j1.size), j2.below hd9.below, j3.below hd9.below⟩)
        have HDp := Lib.hid (Deep_ok (j2.below hd9.below) (by have := HD.out.1; omega))
        clear hd9 j1 j2 j3 HJ HS R1 R2
        go_wp2_with fail
        refine HDp.out.mono ?_
        rintro e w10 ⟨rfl, hb10⟩
        obtain ⟨j1, j2, j3⟩ := HJ2.out
        have HJ3 := Lib.hid (show _ ∧ _ ∧ _ from ⟨j1.trans (hb10.mono j1.size), j2.below hb10, j3.below hb10⟩)
        clear hb10 j1 j2 j3 HJ2 HDp
        rcases HOr.out with ⟨hd, hn4⟩ | ⟨hn4, p, k, hf4, hkb⟩
        · have y1 : ((f1.deep : Int) == 400) = true := beq_iff_eq.2 (by omega)
          subst hn4
          have HE := Lib.hid HJ3.out.1
          clear HOr hd HJ3
          go_wp2
          go_ret
          exact ⟨rfl, HE.out⟩
        · subst hn4
          subst hf4
          obtain ⟨g, o, cc, A4, cA4, hv4, _, _, _, _, hh4⟩ := IsFo.head HJ3.out.2.2
          have hv4 : Value.slice K4 1 k4 = .slice (some ⟨g, o, none⟩) 1 cc := hv4
          simp only [Value.slice.injEq, true_and] at hv4
          obtain ⟨rfl, rfl⟩ := hv4
          have t1 := hh4.c1
          have t2 := hh4.c2
          obtain ⟨Kx, kx, ex, _, _, hlx, hfx⟩ := hh4.kids
          simp only [Value.slice.injEq, true_and] at ex
          obtain ⟨rfl, rfl⟩ := ex
          obtain ⟨Ky, ky, ey, _, _, hly, hfy⟩ := HJ3.out.2.1
          simp only [Value.slice.injEq, true_and] at ey
          obtain ⟨rfl, rfl⟩ := ey
          have HS2 := Lib.hid (shape_ok (k.nodes + 1) k f1 w10 A4 K1 cA4 k1 (Nat.lt_succ_self _) hfx hfy hlx hly true ⟨fun _ => hkb, fun _ => rfl⟩)
          have HE := Lib.hid HJ3.out.1
          clear HOr hkb hh4 hlx hfx hly hfy HJ3
          by_cases hd : f1.deep = 400
          · have y1 : ((f1.deep : Int) == 400) = true := beq_iff_eq.2 (by omega)
            clear hd
            go_wp2_with fail
            refine HS2.out.mono ?_
            rintro e w11 ⟨rfl, hd11⟩
            have HE2 := Lib.hid (HE.out.trans (hd11.below.mono HE.out.size))
            clear hd11 HE HS2
            go_wp2
            go_ret
            exact ⟨rfl, HE2.out⟩
          · have y1 : ((f1.deep : Int) == 400) = false := beq_eq_false_iff_ne.2 (by omega)
            clear hd
            go_wp2_with fail
            refine HS2.out.mono ?_
            rintro e w11 ⟨rfl, hd11⟩
            have HE2 := Lib.hid (HE.out.trans (hd11.below.mono HE.out.size))
            clear hd11 HE HS2
            go_wp2
            go_ret
            exact ⟨rfl, HE2.out⟩
      · have x2 : (n2 != 0) = true := by simp [g2]
        obtain ⟨rfl, rfl, rfl⟩ := HQ.out.1 g2
        have x3 : ((((p2 + a.data.toList.length + 1 : Nat) : Int)) == (p2 : Int) + (a.size : Int) + 1) = true := by rw [beq_iff_eq]; simp
        have HE := Lib.hid HB5.out.1
        have hla : a.data.toList.length = a.size := by simp
        rw [hla] at x3
        clear HQ HB5 HP g2 g1
        go_wp2
        go_ret
        exact ⟨rfl, HE.out⟩
    · have x1 : (n1 != 0) = true := by simp [g1]
      have HE := Lib.hid HB5.out.1
      clear HB5 HP g1
      go_wp2
      go_ret
      exact ⟨rfl, HE.out⟩
end Go.Proofs.Ytbccknhinmgibaa

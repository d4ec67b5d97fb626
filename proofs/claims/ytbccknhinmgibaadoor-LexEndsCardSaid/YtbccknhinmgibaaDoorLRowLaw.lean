/- The law LexRow over any two texts of at most 2^47 bytes each. -/
import Derived.Test.YtbccknhinmgibaaDoorLAwake
import Derived.Test.YtbccknhinmgibaaDoorLSays
import Derived.Test.YtbccknhinmgibaaDoorLDeep
import Derived.Test.YtbccknhinmgibaaDoorLRowP
import Derived.Test.YtbccknhinmgibaaDoorLFoApp
import Derived.WalkSpells
set_option linter.unusedVariables false
set_option linter.unusedSimpArgs false
namespace Go.Proofs.YtbccknhinmgibaaDoor
open Go.RowKit

theorem go_place : ∀ (n : Nat) (l : List UInt8) (i : Nat) (u : Up) (ks : Fo) (p : Nat) (e : Int), l.length ≤ n → go l i u ks = .bad p e → i ≤ p ∧ p ≤ i + l.length := by
  intro n
  induction n with
  | zero =>
    intro l i u ks p e hl hg
    obtain rfl : l = [] := List.eq_nil_of_length_eq_zero (by omega)
    rw [go_nil] at hg; cases hg
  | succ n ih =>
    intro l i u ks p e hl hg
    cases l with
    | nil => rw [go_nil] at hg; cases hg
    | cons c l =>
      have hl' : l.length ≤ n := by simpa using hl
      simp only [List.length_cons]
      by_cases h1 : c = 32 ∨ c = 10
      · rw [go_blank h1] at hg
        have := ih _ _ _ _ _ _ hl' hg; omega
      by_cases h2 : c = 40
      · subst h2
        by_cases hu : u.length < 400
        · rw [go_open _ _ _ _ hu] at hg
          have := ih _ _ _ _ _ _ hl' hg; omega
        · rw [go_deep _ _ _ _ hu] at hg; injection hg with h _; omega
      by_cases h3 : c = 41
      · subst h3
        cases u with
        | nil => rw [go_none] at hg; injection hg with h _; omega
        | cons x u =>
          obtain ⟨a, js⟩ := x
          rw [go_close] at hg
          have := ih _ _ _ _ _ _ hl' hg; omega
      cases h4 : signB c with
      | true =>
        rw [go_word h4] at hg
        have := ih _ _ _ _ _ _ (Nat.le_trans (dropWhile_le _ _) hl') hg
        have := split_len signB l
        omega
      | false => rw [go_not h1 h2 h3 h4] at hg; injection hg with h _; omega
theorem parse_place {l : List UInt8} {f : Fo} {p : Nat} {n : Int} (h : parseP l = (f, p, n)) : p ≤ l.length := by
  rw [parseP] at h
  split at h
  · simp only [Prod.mk.injEq] at h; omega
  · cases hg : go l 0 [] .nil with
    | bad q e =>
      have := go_place _ _ _ _ _ _ _ (Nat.le_refl _) hg
      rw [hg] at h
      simp only [fin, Prod.mk.injEq] at h; omega
    | fine U K =>
      rw [hg] at h
      cases U <;> simp only [fin, Prod.mk.injEq] at h <;> omega
theorem app_bytes (a b : ByteArray) : (a ++ b).data.toList = a.data.toList ++ b.data.toList := by simp
/-- Trees are few: not more than signs. -/
theorem go_nodes : ∀ (n : Nat) (l : List UInt8) (i : Nat) (u : Up) (ks : Fo) (U : Up) (K : Fo), l.length ≤ n → go l i u ks = .fine U K → K.nodes + (U.map fun q => q.2.nodes + 1).sum ≤ ks.nodes + (u.map fun q => q.2.nodes + 1).sum + l.length := by
  have happ : ∀ f g : Fo, (f.app g).nodes = f.nodes + g.nodes := fun f g => by
    induction f with
    | nil => simp [Fo.app, Fo.nodes]
    | cons s k b p r ihk ihr => simp only [Fo.app, Fo.nodes, ihr]; omega
  intro n
  induction n with
  | zero =>
    intro l i u ks U K hl hg
    obtain rfl : l = [] := List.eq_nil_of_length_eq_zero (by omega)
    rw [go_nil] at hg
    injection hg with h1 h2; subst h1; subst h2
    exact Nat.le_refl _
  | succ n ih =>
    intro l i u ks U K hl hg
    cases l with
    | nil =>
      rw [go_nil] at hg
      injection hg with h1 h2; subst h1; subst h2
      exact Nat.le_refl _
    | cons c l =>
      have hl' : l.length ≤ n := by simpa using hl
      simp only [List.length_cons]
      by_cases h1 : c = 32 ∨ c = 10
      · rw [go_blank h1] at hg
        have := ih _ _ _ _ _ _ hl' hg; omega
      by_cases h2 : c = 40
      · subst h2
        by_cases hu : u.length < 400
        · rw [go_open _ _ _ _ hu] at hg
          have := ih _ _ _ _ _ _ hl' hg
          simp only [List.map_cons, List.sum_cons, Fo.nodes] at this
          omega
        · rw [go_deep _ _ _ _ hu] at hg; cases hg
      by_cases h3 : c = 41
      · subst h3
        cases u with
        | nil => rw [go_none] at hg; cases hg
        | cons x u =>
          obtain ⟨a, js⟩ := x
          rw [go_close] at hg
          have := ih _ _ _ _ _ _ hl' hg
          rw [happ] at this
          simp only [List.map_cons, List.sum_cons, Fo.one, Fo.nodes] at this ⊢
          omega
      cases h4 : signB c with
      | true =>
        rw [go_word h4] at hg
        have := ih _ _ _ _ _ _ (Nat.le_trans (dropWhile_le _ _) hl') hg
        have hs := split_len signB l
        rw [happ] at this
        simp only [Fo.one, Fo.nodes] at this
        omega
      | false => rw [go_not h1 h2 h3 h4] at hg; cases hg
theorem parse_nodes {l : List UInt8} {f : Fo} {p : Nat} {n : Int} (h : parseP l = (f, p, n)) : f.nodes ≤ 262144 := by
  rw [parseP] at h
  split at h
  · simp only [Prod.mk.injEq] at h; rw [← h.1]; exact Nat.zero_le _
  · rename_i hl
    cases hg : go l 0 [] .nil with
    | bad q e =>
      rw [hg] at h
      simp only [fin, Prod.mk.injEq] at h; rw [← h.1]; exact Nat.zero_le _
    | fine U K =>
      have := go_nodes _ _ _ _ _ _ _ (Nat.le_refl _) hg
      rw [hg] at h
      cases U with
      | nil =>
        simp only [fin, Prod.mk.injEq] at h
        rw [← h.1]
        simp [Fo.nodes] at this
        omega
      | cons x U => simp only [fin, Prod.mk.injEq] at h; rw [← h.1]; exact Nat.zero_le _
theorem parse_any {S : ByteArray} (hS : S.size ≤ 140737488355328) : ∃ f p n, parseP S.data.toList = (f, p, n) ∧ f.nodes ≤ 262144 ∧ p ≤ S.size ∧ ∀ w : World, Calls Tryd.prog 7 #[.string S] w fun e w' => Below w.heap.size w w' ∧ ∃ K c, e = .returned (.tuple #[.slice K f.len c, .int .i64 (p : Int), .int .i64 n]) ∧ IsFo w' (.slice K f.len c) f := by
  rcases h : parseP S.data.toList with ⟨f, p, n⟩
  refine ⟨f, p, n, rfl, parse_nodes h, by have := parse_place h; simpa using this, fun w => (parse_at hS h).mono fun e w' ⟨hb, K, c, he, hc, hf⟩ => ⟨hb, K, c, he, K, c, rfl, hc.1, hc.2.1, by omega, hf⟩⟩
/-- Two lists of trees, one behind the other, in a row of the call's own. -/
theorem two_appended {w : World} {K1 K2 : Option Addr} {c1 c2 : Nat} {f1 f2 : Fo} (h1 : IsFo w (.slice K1 f1.len c1) f1) (h2 : IsFo w (.slice K2 f2.len c2) f2) (hl1 : f1.len ≤ 300000) (hl2 : f2.len ≤ 300000) :
    ∃ v1 w7 K c w8, (Builtin.append_ #[ 27, 27 ] 27 #[.slice (some ⟨w.heap.size, 0, none⟩) 0 0, .slice K1 f1.len c1]).run Tryd.prog (w.alloc (.cells #[] 35)) = .ok v1 w7 ∧ (Builtin.append_ #[ 27, 27 ] 27 #[v1, .slice K2 f2.len c2]).run Tryd.prog w7 = .ok (.slice K (f1.app f2).len c) w8 ∧ Below w.heap.size w w8 ∧ FoAt w8 K 0 (f1.app f2) := by
  obtain ⟨i0, hi, hz0, hz1, hz2⟩ := info_parts info_tree
  have hb1 : Below w.heap.size w (w.alloc (.cells #[] 35)) := (Below.refl _ _).alloc (Nat.le_refl _) _
  have key : ∀ (W : World) (hW : Below w.heap.size w W) (K : Option Addr) (c : Nat) (f : Fo), IsFo w (.slice K f.len c) f → ∃ C, KidsC (fun m => m < w.heap.size) W C f ∧ (∀ u ∈ C, u.oneCell' = true) ∧ ∀ i u, C[i]? = some u → ∃ ad, K = some ad ∧ W.cell? (ad.add i) = some u := fun W hW K c f ⟨K', c', e, _, _, _, hf⟩ => by
    simp only [Value.slice.injEq, true_and] at e
    obtain ⟨rfl, rfl⟩ := e
    obtain ⟨C, hC, hone, hc⟩ := FoAt.cells (Nat.le_refl _) f hf
    refine ⟨C, KidsC.to (fun a u hu hD => ⟨(hW.cell (cell_lt hu)).trans hu, hD⟩) f hC, hone, fun i u hu => ?_⟩
    obtain ⟨g, o, hK, h⟩ := hc i u hu
    refine ⟨_, hK, ?_⟩
    rw [add_eq1]
    rw [Nat.zero_mul, Nat.add_zero] at h
    exact (hW.cell (cell_lt h)).trans h
  obtain ⟨v1, w7, r1, hv1, hb7⟩ := run_append_fo (P := Tryd.prog) (w := w.alloc (.cells #[] 35)) 27 27 w.heap.size 35 i0 _ 56 Tryd.underlying27 hi hz0 hz1 hz2 rfl (.slice (some ⟨w.heap.size, 0, none⟩) 0 0) .nil ⟨[], World.ownsRow_lit w #[] 0 (Nat.le_refl _) (by unfold maxLen; omega) rfl, rfl⟩ K1 c1 f1 (key _ hb1 K1 c1 f1 h1) (by simp only [Fo.len]; omega) (by omega) hb1.size
  have hb7' : Below w.heap.size w w7 := hb1.trans hb7
  obtain ⟨v2, w8, r2, hv2, hb8⟩ := run_append_fo (P := Tryd.prog) (w := w7) 27 27 w.heap.size 35 i0 _ 56 Tryd.underlying27 hi hz0 hz1 hz2 rfl v1 f1 hv1 K2 c2 f2 (key _ hb7' K2 c2 f2 h2) (by omega) (by omega) hb7'.size
  obtain ⟨K, c, rfl, _, _, hd⟩ := hv2.dep (D' := fun _ => True) (fun _ _ => trivial) fun _ _ => trivial
  exact ⟨v1, w7, K, c, w8, r1, r2, hb7'.trans hb8, hd.at⟩
theorem len_nodes : ∀ f : Fo, f.len ≤ f.nodes
  | .nil => Nat.le_refl _
  | .cons s k b p r => by have := len_nodes r; simp only [Fo.len, Fo.nodes]; omega
end Go.Proofs.YtbccknhinmgibaaDoor

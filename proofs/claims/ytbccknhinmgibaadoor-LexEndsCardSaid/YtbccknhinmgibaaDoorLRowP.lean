/- Two texts, one behind the other; a text in brackets: what their trees are, plain. No program, no condition. -/
import Derived.Test.YtbccknhinmgibaaDoorLP
set_option linter.unusedVariables false
set_option linter.unusedSimpArgs false
namespace Go.Proofs.YtbccknhinmgibaaDoor

/-- No row that is open, or closed, stands deeper than 400. -/
def okS : Up → Fo → Prop
  | [], ks => ks.deep ≤ 400
  | (_, js) :: u, ks => ks.deep + (u.length + 1) ≤ 400 ∧ okS u js
theorem okS_head : ∀ (u : Up) (ks : Fo), okS u ks → ks.deep + u.length ≤ 400
  | [], ks, h => h
  | (a, js) :: u, ks, h => h.1
theorem okS_app (u : Up) {ks t : Fo} (h : okS u ks) (ht : t.deep + u.length ≤ 400) : okS u (ks.app t) := by
  cases u with
  | nil =>
    have h : ks.deep ≤ 400 := h
    show (ks.app t).deep ≤ 400
    rw [Fo.deep_app]; simp at ht; omega
  | cons x u =>
    obtain ⟨a, js⟩ := x
    have h1 := h.1
    refine ⟨?_, h.2⟩
    rw [Fo.deep_app]; simp at ht; omega
theorem go_deepL : ∀ (n : Nat) (l : List UInt8) (i : Nat) (u : Up) (ks : Fo) (U : Up) (K : Fo), l.length ≤ n → okS u ks → go l i u ks = .fine U K → okS U K := by
  intro n
  induction n with
  | zero =>
    intro l i u ks U K hl h hg
    obtain rfl : l = [] := List.eq_nil_of_length_eq_zero (by omega)
    rw [go_nil] at hg
    injection hg with h1 h2; subst h1; subst h2
    exact h
  | succ n ih =>
    intro l i u ks U K hl h hg
    cases l with
    | nil =>
      rw [go_nil] at hg
      injection hg with h1 h2; subst h1; subst h2
      exact h
    | cons c l =>
      have hl' : l.length ≤ n := by simpa using hl
      by_cases h1 : c = 32 ∨ c = 10
      · rw [go_blank h1] at hg
        exact ih _ _ _ _ _ _ hl' h hg
      by_cases h2 : c = 40
      · subst h2
        by_cases hu : u.length < 400
        · rw [go_open _ _ _ _ hu] at hg
          exact ih _ _ _ _ _ _ hl' (show okS ((i, ks) :: u) .nil from ⟨by simp only [Fo.deep]; omega, h⟩) hg
        · rw [go_deep _ _ _ _ hu] at hg; cases hg
      by_cases h3 : c = 41
      · subst h3
        cases u with
        | nil => rw [go_none] at hg; cases hg
        | cons x u =>
          obtain ⟨a, js⟩ := x
          rw [go_close] at hg
          refine ih _ _ _ _ _ _ hl' (okS_app u h.2 ?_) hg
          have := h.1
          simp only [Fo.one, Fo.deep, if_true]
          omega
      cases h4 : signB c with
      | true =>
        rw [go_word h4] at hg
        refine ih _ _ _ _ _ _ (Nat.le_trans (dropWhile_le _ _) hl') (okS_app u h ?_) hg
        have := okS_head u ks h
        simp only [Fo.one, Fo.deep]
        simp
        omega
      | false => rw [go_not h1 h2 h3 h4] at hg; cases hg
theorem go_err : ∀ (n : Nat) (l : List UInt8) (i : Nat) (u : Up) (ks : Fo) (p : Nat) (e : Int), l.length ≤ n → go l i u ks = .bad p e → e = 3 ∨ e = 20 := by
  intro n
  induction n with
  | zero =>
    intro l i u ks p e hl hg
    obtain rfl : l = [] := List.eq_nil_of_length_eq_zero (by omega)
    rw [go_nil] at hg; cases hg
  | succ n ih =>
    intro l i u ks p e hl hg
    cases l with
    | nil => rw [go_nil] at hg; cases hg
    | cons c l =>
      have hl' : l.length ≤ n := by simpa using hl
      by_cases h1 : c = 32 ∨ c = 10
      · rw [go_blank h1] at hg
        exact ih _ _ _ _ _ _ hl' hg
      by_cases h2 : c = 40
      · subst h2
        by_cases hu : u.length < 400
        · rw [go_open _ _ _ _ hu] at hg
          exact ih _ _ _ _ _ _ hl' hg
        · rw [go_deep _ _ _ _ hu] at hg; injection hg with _ h; exact .inl h.symm
      by_cases h3 : c = 41
      · subst h3
        cases u with
        | nil => rw [go_none] at hg; injection hg with _ h; exact .inr h.symm
        | cons x u =>
          obtain ⟨a, js⟩ := x
          rw [go_close] at hg
          exact ih _ _ _ _ _ _ hl' hg
      cases h4 : signB c with
      | true =>
        rw [go_word h4] at hg
        exact ih _ _ _ _ _ _ (Nat.le_trans (dropWhile_le _ _) hl') hg
      | false => rw [go_not h1 h2 h3 h4] at hg; injection hg with _ h; exact .inr h.symm
theorem fin_ok {n : Nat} {o : Out} {f : Fo} {p : Nat} (h : fin n o = (f, p, 0)) (ho : ∀ q e, o = .bad q e → e = 3 ∨ e = 20) : o = .fine [] f ∧ p = 0 := by
  cases o with
  | bad q e =>
    have := ho q e rfl
    simp only [fin, Prod.mk.injEq] at h
    omega
  | fine U K =>
    cases U with
    | nil =>
      simp only [fin, Prod.mk.injEq] at h
      exact ⟨by rw [h.1], h.2.1.symm⟩
    | cons x U => simp [fin] at h
theorem parse_short {l : List UInt8} (h : l.length ≤ 262144) : parseP l = fin l.length (go l 0 [] .nil) := by rw [parseP, if_neg (by omega)]
theorem row_pure {la lb : List UInt8} {f1 f2 f3 f4 : Fo} {p1 p2 p3 p4 : Nat} {n1 n2 n3 n4 : Int} (hl : la.length + lb.length ≤ 5000) (h1 : parseP la = (f1, p1, n1)) (h2 : parseP lb = (f2, p2, n2)) (h3 : parseP (la ++ 32 :: lb) = (f3, p3, n3)) (h4 : parseP (40 :: (la ++ [41])) = (f4, p4, n4)) (hn : n1 = 0) :
    (n2 ≠ 0 → n3 = n2 ∧ p3 = p2 + la.length + 1 ∧ f3 = .nil) ∧ (n2 = 0 → n3 = 0 ∧ f3.bare = (f1.app f2).bare ∧ ((f1.deep = 400 ∧ n4 = 3) ∨ (n4 = 0 ∧ ∃ p k, f4 = .one ⟨#[]⟩ k true p ∧ k.bare = f1.bare))) := by
  subst hn
  rw [parse_short (by omega)] at h1 h2
  rw [parse_short (by simp; omega)] at h3 h4
  obtain ⟨ha, hp1⟩ := fin_ok h1 fun q e => go_err _ _ _ _ _ _ _ (Nat.le_refl _)
  have h32 : signB 32 = false := by decide
  have h41 : signB 41 = false := by decide
  rw [go_split h32 lb _ la 0 [] .nil (Nat.le_refl _), ha] at h3
  simp only [Out.on, Nat.zero_add] at h3
  rw [go_blank (.inl rfl)] at h3
  obtain ⟨s1, s2⟩ := go_sim (d := la.length + 1) (pre := f1) _ lb 0 [] [] .nil f1 (Nat.le_refl _) (by have := Sim.base (d := la.length + 1) (pre := f1) (bot := []) Fo.nil; rwa [Fo.sh, Fo.app_nil] at this)
  rw [Nat.zero_add] at s1 s2
  cases hb : go lb 0 [] .nil with
  | bad q e =>
    have he := go_err _ _ _ _ _ _ _ (Nat.le_refl _) hb
    rw [s1 q e hb] at h3
    rw [hb] at h2
    simp only [fin, Prod.mk.injEq] at h2 h3
    obtain ⟨rfl, rfl, rfl⟩ := h2
    obtain ⟨rfl, rfl, rfl⟩ := h3
    exact ⟨fun _ => ⟨rfl, by omega, rfl⟩, fun h => by omega⟩
  | fine U K =>
    obtain ⟨U', K', hg, hsim⟩ := s2 U K hb
    rw [hg] at h3
    rw [hb] at h2
    cases hsim with
    | up a ks h =>
      simp only [fin, Prod.mk.injEq, List.length_append, List.length_cons] at h2 h3
      obtain ⟨rfl, rfl, rfl⟩ := h2
      obtain ⟨rfl, rfl, rfl⟩ := h3
      exact ⟨fun _ => ⟨rfl, by omega, rfl⟩, fun h => by omega⟩
    | base ks =>
      simp only [fin, Prod.mk.injEq] at h2 h3
      obtain ⟨rfl, rfl, rfl⟩ := h2
      obtain ⟨rfl, rfl, rfl⟩ := h3
      refine ⟨fun h => absurd rfl h, fun _ => ⟨rfl, by rw [Fo.bare_app, Fo.bare_app, Fo.bare_sh], ?_⟩⟩
      rw [go_open _ _ _ _ (by decide), go_split h41 [] _ la _ _ _ (Nat.le_refl _)] at h4
      have hw := go_within (d := 1) (pre := .nil) (b := 0) (bs := .nil) _ la 0 [] [(0, .nil)] .nil .nil [] f1 (Nat.le_refl _) (Sim.base (d := 1) (pre := .nil) (bot := [(0, .nil)]) Fo.nil) ha
      obtain ⟨_, ⟨U', K', hg, hsim⟩ | ⟨h400, q, hg⟩⟩ := hw
      · right
        rw [hg] at h4
        cases hsim with
        | base ks =>
          simp only [Out.on] at h4
          rw [go_close, go_nil] at h4
          simp only [fin, Prod.mk.injEq] at h4
          obtain ⟨rfl, rfl, rfl⟩ := h4
          exact ⟨rfl, _, _, rfl, by rw [Fo.app, Fo.bare_sh]⟩
      · left
        rw [hg] at h4
        simp only [Out.on, fin, Prod.mk.injEq] at h4
        obtain ⟨rfl, rfl, rfl⟩ := h4
        have hle := go_deepL _ _ _ _ _ _ _ (Nat.le_refl _) (show okS [] .nil from Nat.zero_le _) ha
        have hle : f1.deep ≤ 400 := hle
        have h400 : 400 ≤ f1.deep := h400
        exact ⟨by omega, rfl⟩
end Go.Proofs.YtbccknhinmgibaaDoor

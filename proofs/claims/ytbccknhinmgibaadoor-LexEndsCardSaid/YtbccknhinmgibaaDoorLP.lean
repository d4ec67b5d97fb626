/- Texts as trees, plain: trees and rows of trees, what a text's trees are, byte by byte. No program, no condition. -/
import Derived.WalkKit
set_option linter.unusedVariables false
set_option linter.unusedSimpArgs false
namespace Go.Proofs.YtbccknhinmgibaaDoor

/-- Trees, one behind the other: of the first one its word, its kids, whether it is a row, its place; then what is behind it. -/
inductive Fo where
  | nil
  | cons (word : ByteArray) (kids : Fo) (row : Bool) (pos : Int) (rest : Fo)
namespace Fo
def len : Fo → Nat
  | nil => 0
  | cons _ _ _ _ r => r.len + 1
def app : Fo → Fo → Fo
  | nil, g => g
  | cons s k b p r, g => cons s k b p (r.app g)
/-- One tree. -/
def one (s : ByteArray) (k : Fo) (b : Bool) (p : Int) : Fo := cons s k b p nil
theorem len_app : ∀ f g : Fo, (f.app g).len = f.len + g.len
  | nil, g => by simp [app, len]
  | cons s k b p r, g => by simp [app, len, len_app r g]; omega
theorem app_nil : ∀ f : Fo, f.app nil = f
  | nil => rfl
  | cons s k b p r => by rw [app, app_nil r]
theorem app_assoc : ∀ f g h : Fo, (f.app g).app h = f.app (g.app h)
  | nil, g, h => rfl
  | cons s k b p r, g, h => by simp [app, app_assoc r g h]
theorem len_nil {f : Fo} (h : f.len = 0) : f = nil := by
  cases f with
  | nil => rfl
  | cons => simp [len] at h
end Fo

/-- The signs of words. -/
def signB (c : UInt8) : Bool := (97 ≤ c.toNat && c.toNat ≤ 122) || (48 ≤ c.toNat && c.toNat ≤ 57) || ([95, 45, 46, 43, 42, 47, 61, 60, 62] : List UInt8).contains c

/-- What is open: of each row the place where it was opened, and the trees that stood ahead of it. -/
abbrev Up := List (Nat × Fo)
inductive Out where
  | bad (pos : Nat) (e : Int)
  | fine (up : Up) (ks : Fo)
theorem dropWhile_le (p : UInt8 → Bool) (l : List UInt8) : (l.dropWhile p).length ≤ l.length := by
  induction l with
  | nil => simp
  | cons a l ih => rw [List.dropWhile_cons]; split <;> simp; omega
/-- What l comes to, from the place i on, with these rows open, of the last of which ks are read. -/
def go (l : List UInt8) (i : Nat) (up : Up) (ks : Fo) : Out :=
  match l with
  | [] => .fine up ks
  | c :: l =>
    if c = 32 ∨ c = 10 then go l (i + 1) up ks
    else if c = 40 then (if up.length < 400 then go l (i + 1) ((i, ks) :: up) .nil else .bad i 3)
    else if c = 41 then (match up with
      | [] => .bad i 20
      | (a, js) :: r => go l (i + 1) r (js.app (.one ⟨#[]⟩ ks true a)))
    else if signB c then go (l.dropWhile signB) (i + 1 + (l.takeWhile signB).length) up (ks.app (.one ⟨(c :: l.takeWhile signB).toArray⟩ .nil false i))
    else .bad i 20
  termination_by l.length
  decreasing_by
    all_goals (have := dropWhile_le signB l; simp only [List.length_cons]; omega)

theorem go_nil (i : Nat) (up : Up) (ks : Fo) : go [] i up ks = .fine up ks := by rw [go]
theorem go_blank {c : UInt8} (h : c = 32 ∨ c = 10) (l : List UInt8) (i : Nat) (up : Up) (ks : Fo) : go (c :: l) i up ks = go l (i + 1) up ks := by rw [go.eq_def]; simp [h]
theorem go_open (l : List UInt8) (i : Nat) (up : Up) (ks : Fo) (h : up.length < 400) : go (40 :: l) i up ks = go l (i + 1) ((i, ks) :: up) .nil := by rw [go.eq_def]; simp [h]
theorem go_deep (l : List UInt8) (i : Nat) (up : Up) (ks : Fo) (h : ¬ up.length < 400) : go (40 :: l) i up ks = .bad i 3 := by rw [go.eq_def]; simp [h]
theorem go_none (l : List UInt8) (i : Nat) (ks : Fo) : go (41 :: l) i [] ks = .bad i 20 := by rw [go.eq_def]; simp
theorem go_close (l : List UInt8) (i a : Nat) (js : Fo) (r : Up) (ks : Fo) : go (41 :: l) i ((a, js) :: r) ks = go l (i + 1) r (js.app (.one ⟨#[]⟩ ks true a)) := by rw [go.eq_def]; simp
theorem sign_not {c : UInt8} (h : signB c = true) : ¬ (c = 32 ∨ c = 10) ∧ c ≠ 40 ∧ c ≠ 41 := by
  refine ⟨?_, ?_, ?_⟩
  · rintro (rfl | rfl) <;> revert h <;> decide
  · rintro rfl; revert h; decide
  · rintro rfl; revert h; decide
theorem go_word {c : UInt8} (h : signB c = true) (l : List UInt8) (i : Nat) (up : Up) (ks : Fo) : go (c :: l) i up ks = go (l.dropWhile signB) (i + 1 + (l.takeWhile signB).length) up (ks.app (.one ⟨(c :: l.takeWhile signB).toArray⟩ .nil false i)) := by
  obtain ⟨h1, h2, h3⟩ := sign_not h
  rw [go.eq_def]; simp [h1, h2, h3, h]
theorem go_not {c : UInt8} (h1 : ¬ (c = 32 ∨ c = 10)) (h2 : c ≠ 40) (h3 : c ≠ 41) (h : signB c = false) (l : List UInt8) (i : Nat) (up : Up) (ks : Fo) : go (c :: l) i up ks = .bad i 20 := by
  rw [go.eq_def]; simp [h1, h2, h3, h]
/-- What is told of a text: its trees, a place, an error. -/
def fin (n : Nat) : Out → Fo × Nat × Int
  | .bad p e => (.nil, p, e)
  | .fine [] ks => (ks, 0, 0)
  | .fine (_ :: _) _ => (.nil, n, 20)
def parseP (l : List UInt8) : Fo × Nat × Int := if 262144 < l.length then (.nil, 0, 3) else fin l.length (go l 0 [] .nil)
end Go.Proofs.YtbccknhinmgibaaDoor
namespace Go.Proofs.YtbccknhinmgibaaDoor
open Fo

theorem takeWhile_cut {p : UInt8 → Bool} {x : UInt8} (hx : p x = false) : ∀ (l r : List UInt8), (l ++ x :: r).takeWhile p = l.takeWhile p
  | [], r => by simp [List.takeWhile_cons, hx]
  | a :: l, r => by simp only [List.cons_append, List.takeWhile_cons, takeWhile_cut hx l r]
theorem dropWhile_cut {p : UInt8 → Bool} {x : UInt8} (hx : p x = false) : ∀ (l r : List UInt8), (l ++ x :: r).dropWhile p = l.dropWhile p ++ x :: r
  | [], r => by simp [List.dropWhile_cons, hx]
  | a :: l, r => by
    simp only [List.cons_append, List.dropWhile_cons]
    split
    · exact dropWhile_cut hx l r
    · rfl
theorem split_len (p : UInt8 → Bool) (l : List UInt8) : (l.takeWhile p).length + (l.dropWhile p).length = l.length := by
  rw [← List.length_append, List.takeWhile_append_dropWhile]
/-- What follows a text whose next byte is no sign. -/
def Out.on (o : Out) (f : Up → Fo → Out) : Out := match o with
  | .bad p e => .bad p e
  | .fine up ks => f up ks
theorem go_split {x : UInt8} (hx : signB x = false) (r : List UInt8) : ∀ (n : Nat) (l : List UInt8) (i : Nat) (up : Up) (ks : Fo), l.length ≤ n → go (l ++ x :: r) i up ks = (go l i up ks).on fun up' ks' => go (x :: r) (i + l.length) up' ks' := by
  intro n
  induction n with
  | zero =>
    intro l i up ks hl
    obtain rfl : l = [] := List.eq_nil_of_length_eq_zero (by omega)
    rw [go_nil]; rfl
  | succ n ih =>
    intro l i up ks hl
    cases l with
    | nil => rw [go_nil]; rfl
    | cons c l =>
      have hl' : l.length ≤ n := by simpa using hl
      have hlen : i + (c :: l).length = i + 1 + l.length := by simp; omega
      rw [List.cons_append, hlen]
      by_cases h1 : c = 32 ∨ c = 10
      · rw [go_blank h1, go_blank h1, ih l _ _ _ hl']
      by_cases h2 : c = 40
      · subst h2
        by_cases h : up.length < 400
        · rw [go_open _ _ _ _ h, go_open _ _ _ _ h, ih l _ _ _ hl']
        · rw [go_deep _ _ _ _ h, go_deep _ _ _ _ h]; rfl
      by_cases h3 : c = 41
      · subst h3
        cases up with
        | nil => rw [go_none, go_none]; rfl
        | cons a up => obtain ⟨a, js⟩ := a; rw [go_close, go_close, ih l _ _ _ hl']
      cases h4 : signB c with
      | true =>
        rw [go_word h4, go_word h4, takeWhile_cut hx, dropWhile_cut hx, ih _ _ _ _ (Nat.le_trans (dropWhile_le _ _) hl')]
        have := split_len signB l
        rw [show i + 1 + (l.takeWhile signB).length + (l.dropWhile signB).length = i + 1 + l.length by omega]
      | false => rw [go_not h1 h2 h3 h4, go_not h1 h2 h3 h4]; rfl

/-- Trees elsewhere: each place so much further on. -/
def Fo.sh (d : Int) : Fo → Fo
  | nil => nil
  | cons s k b p r => cons s (k.sh d) b (p + d) (r.sh d)
/-- Trees but for their places. -/
def Fo.bare : Fo → Fo
  | nil => nil
  | cons s k b _ r => cons s k.bare b 0 r.bare
theorem Fo.sh_app (d : Int) : ∀ f g : Fo, (f.app g).sh d = (f.sh d).app (g.sh d)
  | nil, g => rfl
  | cons s k b p r, g => by simp [app, sh, sh_app d r g]
theorem Fo.bare_app : ∀ f g : Fo, (f.app g).bare = f.bare.app g.bare
  | nil, g => rfl
  | cons s k b p r, g => by simp [app, bare, bare_app r g]
theorem Fo.bare_sh (d : Int) : ∀ f : Fo, (f.sh d).bare = f.bare
  | nil => rfl
  | cons s k b p r => by simp [sh, bare, bare_sh d k, bare_sh d r]
theorem Fo.len_bare : ∀ f : Fo, f.bare.len = f.len
  | nil => rfl
  | cons s k b p r => by simp [bare, len, len_bare r]
theorem Fo.len_sh (d : Int) : ∀ f : Fo, (f.sh d).len = f.len
  | nil => rfl
  | cons s k b p r => by simp [sh, len, len_sh d r]
/-- How many rows stand within each other. -/
def Fo.deep : Fo → Nat
  | nil => 0
  | cons _ k b _ r => max (if b then 1 + k.deep else 0) r.deep
theorem Fo.deep_app : ∀ f g : Fo, (f.app g).deep = max f.deep g.deep
  | nil, g => by simp [app, deep]
  | cons s k b p r, g => by simp only [app, deep, deep_app r g]; omega
theorem Fo.deep_bare : ∀ f : Fo, f.bare.deep = f.deep
  | nil => rfl
  | cons s k b p r => by simp only [bare, deep, deep_bare k, deep_bare r]

/-- One reading beside another one: elsewhere, behind other trees, and within other rows. -/
inductive Sim (d : Nat) (pre : Fo) (bot : Up) : Up → Fo → Up → Fo → Prop where
  | base (ks : Fo) : Sim d pre bot [] ks bot (pre.app (ks.sh d))
  | up {u u' : Up} {js js' : Fo} (a : Nat) (ks : Fo) (h : Sim d pre bot u js u' js') : Sim d pre bot ((a, js) :: u) ks ((a + d, js') :: u') (ks.sh d)
theorem Sim.snoc {d : Nat} {pre : Fo} {bot : Up} {u u' : Up} {ks ks' : Fo} (h : Sim d pre bot u ks u' ks') (t : Fo) : Sim d pre bot u (ks.app t) u' (ks'.app (t.sh d)) := by
  cases h with
  | base ks => rw [app_assoc, ← sh_app]; exact .base _
  | up a ks h => rw [← sh_app]; exact .up a _ h
theorem Sim.length {d : Nat} {pre : Fo} {bot : Up} {u u' : Up} {ks ks' : Fo} (h : Sim d pre bot u ks u' ks') : u'.length = u.length + bot.length := by
  induction h with
  | base ks => simp
  | up a ks h ih => simp [ih]; omega
/-- Behind other trees, elsewhere: the same. -/
theorem go_sim {d : Nat} {pre : Fo} : ∀ (n : Nat) (l : List UInt8) (i : Nat) (u u' : Up) (ks ks' : Fo), l.length ≤ n → Sim d pre [] u ks u' ks' →
    (∀ p e, go l i u ks = .bad p e → go l (i + d) u' ks' = .bad (p + d) e) ∧ (∀ U K, go l i u ks = .fine U K → ∃ U' K', go l (i + d) u' ks' = .fine U' K' ∧ Sim d pre [] U K U' K') := by
  intro n
  induction n with
  | zero =>
    intro l i u u' ks ks' hl h
    obtain rfl : l = [] := List.eq_nil_of_length_eq_zero (by omega)
    rw [go_nil, go_nil]
    refine ⟨fun p e h' => (by cases h'), fun U K h' => ?_⟩
    injection h' with h1 h2; subst h1; subst h2
    exact ⟨_, _, rfl, h⟩
  | succ n ih =>
    intro l i u u' ks ks' hl h
    cases l with
    | nil =>
      rw [go_nil, go_nil]
      refine ⟨fun p e h' => (by cases h'), fun U K h' => ?_⟩
      injection h' with h1 h2; subst h1; subst h2
      exact ⟨_, _, rfl, h⟩
    | cons c l =>
      have hl' : l.length ≤ n := by simpa using hl
      have hlen := h.length
      simp only [List.length_nil, Nat.add_zero] at hlen
      have bads : ∀ (p : Nat) (e : Int), (∀ p' e', Out.bad p e = .bad p' e' → Out.bad (p + d) e = .bad (p' + d) e') ∧ (∀ U K, Out.bad p e = .fine U K → ∃ U' K', Out.bad (p + d) e = .fine U' K' ∧ Sim d pre [] U K U' K') := fun p e => ⟨fun p' e' h' => by (injection h' with h1 h2; rw [h1, h2]), fun U K h' => (by cases h')⟩
      by_cases h1 : c = 32 ∨ c = 10
      · rw [go_blank h1, go_blank h1, show i + d + 1 = i + 1 + d by omega]
        exact ih l _ _ _ _ _ hl' h
      by_cases h2 : c = 40
      · subst h2
        by_cases hu : u.length < 400
        · rw [go_open _ _ _ _ hu, go_open _ _ _ _ (by omega), show i + d + 1 = i + 1 + d by omega]
          exact ih l _ _ _ _ _ hl' (.up i .nil h)
        · rw [go_deep _ _ _ _ hu, go_deep _ _ _ _ (by omega)]
          exact bads i 3
      by_cases h3 : c = 41
      · subst h3
        cases h with
        | base ks =>
          rw [go_none, go_none]
          exact bads i 20
        | up a ks h =>
          rename_i u u' js js'
          rw [go_close, go_close, show i + d + 1 = i + 1 + d by omega]
          refine ih l _ _ _ _ _ hl' ?_
          have := h.snoc (.one ⟨#[]⟩ ks true a)
          rwa [show (Fo.one ⟨#[]⟩ ks true (a : Int)).sh d = .one ⟨#[]⟩ (ks.sh d) true ((a + d : Nat) : Int) by simp [Fo.one, Fo.sh]] at this
      cases h4 : signB c with
      | true =>
        rw [go_word h4, go_word h4, show i + d + 1 + (l.takeWhile signB).length = i + 1 + (l.takeWhile signB).length + d by omega]
        refine ih _ _ _ _ _ _ (Nat.le_trans (dropWhile_le _ _) hl') ?_
        have := h.snoc (.one ⟨(c :: l.takeWhile signB).toArray⟩ .nil false i)
        rwa [show (Fo.one ⟨(c :: l.takeWhile signB).toArray⟩ .nil false (i : Int)).sh d = .one ⟨(c :: l.takeWhile signB).toArray⟩ .nil false ((i + d : Nat) : Int) by simp [Fo.one, Fo.sh]] at this
      | false =>
        rw [go_not h1 h2 h3 h4, go_not h1 h2 h3 h4]
        exact bads i 20
/-- What would stand there if all rows were closed: how deep. -/
def dS : Up → Fo → Nat
  | [], ks => ks.deep
  | (a, js) :: u, ks => dS u (js.app (.one ⟨#[]⟩ ks true a))
theorem dS_mono : ∀ (u : Up) {f g : Fo}, f.deep ≤ g.deep → dS u f ≤ dS u g
  | [], f, g, h => h
  | (a, js) :: u, f, g, h => dS_mono u (by simp only [deep_app, Fo.one, Fo.deep, if_true]; omega)
theorem dS_len : ∀ (u : Up) (f : Fo), u.length + f.deep ≤ dS u f
  | [], f => by simp [dS]
  | (a, js) :: u, f => by
    have := dS_len u (js.app (.one ⟨#[]⟩ f true a))
    rw [deep_app] at this
    have h1 : (Fo.one ⟨#[]⟩ f true a).deep = 1 + f.deep := by simp [Fo.one, Fo.deep]
    rw [h1] at this
    simp only [dS, List.length_cons]
    omega
theorem dS_open (u : Up) (a : Nat) (ks : Fo) : dS u ks ≤ dS ((a, ks) :: u) .nil := dS_mono u (by rw [deep_app]; omega)
theorem dS_app (u : Up) (f g : Fo) : dS u f ≤ dS u (f.app g) := dS_mono u (by rw [deep_app]; omega)
theorem dS_go : ∀ (n : Nat) (l : List UInt8) (i : Nat) (u : Up) (ks : Fo) (U : Up) (K : Fo), l.length ≤ n → go l i u ks = .fine U K → dS u ks ≤ dS U K := by
  intro n
  induction n with
  | zero =>
    intro l i u ks U K hl hg
    obtain rfl : l = [] := List.eq_nil_of_length_eq_zero (by omega)
    rw [go_nil] at hg
    injection hg with h1 h2; subst h1; subst h2
    exact Nat.le_refl _
  | succ n ih =>
    intro l i u ks U K hl hg
    cases l with
    | nil =>
      rw [go_nil] at hg
      injection hg with h1 h2; subst h1; subst h2
      exact Nat.le_refl _
    | cons c l =>
      have hl' : l.length ≤ n := by simpa using hl
      by_cases h1 : c = 32 ∨ c = 10
      · rw [go_blank h1] at hg
        exact ih _ _ _ _ _ _ hl' hg
      by_cases h2 : c = 40
      · subst h2
        by_cases hu : u.length < 400
        · rw [go_open _ _ _ _ hu] at hg
          exact Nat.le_trans (dS_open u i ks) (ih _ _ _ _ _ _ hl' hg)
        · rw [go_deep _ _ _ _ hu] at hg; cases hg
      by_cases h3 : c = 41
      · subst h3
        cases u with
        | nil => rw [go_none] at hg; cases hg
        | cons a u => obtain ⟨a, js⟩ := a; rw [go_close] at hg; exact ih l (i + 1) u _ U K hl' hg
      cases h4 : signB c with
      | true =>
        rw [go_word h4] at hg
        exact Nat.le_trans (dS_app u ks _) (ih _ _ _ _ _ _ (Nat.le_trans (dropWhile_le _ _) hl') hg)
      | false => rw [go_not h1 h2 h3 h4] at hg; cases hg
/-- Within one row more: the same, or it grows too deep. -/
theorem go_within {d : Nat} {pre : Fo} {b : Nat} {bs : Fo} : ∀ (n : Nat) (l : List UInt8) (i : Nat) (u u' : Up) (ks ks' U K : _), l.length ≤ n → Sim d pre [(b, bs)] u ks u' ks' → go l i u ks = .fine U K →
    dS u ks ≤ dS U K ∧ ((∃ U' K', go l (i + d) u' ks' = .fine U' K' ∧ Sim d pre [(b, bs)] U K U' K') ∨ (400 ≤ dS U K ∧ ∃ p, go l (i + d) u' ks' = .bad p 3)) := by
  intro n
  induction n with
  | zero =>
    intro l i u u' ks ks' U K hl h hg
    obtain rfl : l = [] := List.eq_nil_of_length_eq_zero (by omega)
    rw [go_nil] at hg ⊢
    injection hg with h1 h2; subst h1; subst h2
    exact ⟨Nat.le_refl _, .inl ⟨_, _, rfl, h⟩⟩
  | succ n ih =>
    intro l i u u' ks ks' U K hl h hg
    cases l with
    | nil =>
      rw [go_nil] at hg ⊢
      injection hg with h1 h2; subst h1; subst h2
      exact ⟨Nat.le_refl _, .inl ⟨_, _, rfl, h⟩⟩
    | cons c l =>
      have hl' : l.length ≤ n := by simpa using hl
      have hlen := h.length
      simp only [List.length_cons, List.length_nil] at hlen
      by_cases h1 : c = 32 ∨ c = 10
      · rw [go_blank h1] at hg ⊢
        rw [show i + d + 1 = i + 1 + d by omega]
        exact ih l _ _ _ _ _ _ _ hl' h hg
      by_cases h2 : c = 40
      · subst h2
        by_cases hu : u.length < 400
        · rw [go_open _ _ _ _ hu] at hg
          have hm := dS_open u i ks
          have hmn := dS_len ((i, ks) :: u) .nil
          by_cases hu2 : u'.length < 400
          · rw [go_open _ _ _ _ hu2, show i + d + 1 = i + 1 + d by omega]
            obtain ⟨h5, h6⟩ := ih l _ _ _ _ _ _ _ hl' (.up i .nil h) hg
            exact ⟨Nat.le_trans hm h5, h6⟩
          · rw [go_deep _ _ _ _ hu2]
            have h5 := dS_go _ _ _ _ _ _ _ (Nat.le_refl _) hg
            simp only [List.length_cons] at hmn
            exact ⟨Nat.le_trans hm h5, .inr ⟨by omega, _, rfl⟩⟩
        · rw [go_deep _ _ _ _ hu] at hg; cases hg
      by_cases h3 : c = 41
      · subst h3
        cases h with
        | base ks => rw [go_none] at hg; cases hg
        | up a ks h =>
          rename_i u u' js js'
          rw [go_close] at hg ⊢
          rw [show i + d + 1 = i + 1 + d by omega]
          refine ih l (i + 1) u u' (js.app (.one ⟨#[]⟩ ks true a)) _ U K hl' ?_ hg
          have := h.snoc (.one ⟨#[]⟩ ks true a)
          rwa [show (Fo.one ⟨#[]⟩ ks true (a : Int)).sh d = .one ⟨#[]⟩ (ks.sh d) true ((a + d : Nat) : Int) by simp [Fo.one, Fo.sh]] at this
      cases h4 : signB c with
      | true =>
        rw [go_word h4] at hg ⊢
        rw [show i + d + 1 + (l.takeWhile signB).length = i + 1 + (l.takeWhile signB).length + d by omega]
        have h7 := h.snoc (.one ⟨(c :: l.takeWhile signB).toArray⟩ .nil false i)
        rw [show (Fo.one ⟨(c :: l.takeWhile signB).toArray⟩ .nil false (i : Int)).sh d = .one ⟨(c :: l.takeWhile signB).toArray⟩ .nil false ((i + d : Nat) : Int) by simp [Fo.one, Fo.sh]] at h7
        obtain ⟨h5, h6⟩ := ih _ _ _ _ _ _ _ _ (Nat.le_trans (dropWhile_le _ _) hl') h7 hg
        exact ⟨Nat.le_trans (dS_app u ks _) h5, h6⟩
      | false => rw [go_not h1 h2 h3 h4] at hg; cases hg
end Go.Proofs.YtbccknhinmgibaaDoor

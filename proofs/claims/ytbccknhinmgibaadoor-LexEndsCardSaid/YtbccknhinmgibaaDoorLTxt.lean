/- Trees as a text, and that text's trees, plain: they are the same but for their places; how long the text is; where each tree stands. No program, no condition. -/
import Derived.Test.YtbccknhinmgibaaDoorLThr
import Derived.Test.YtbccknhinmgibaaDoorLRowP
set_option linter.unusedVariables false
set_option linter.unusedSimpArgs false
namespace Go.Proofs.YtbccknhinmgibaaDoor

/-- The text of trees, behind another one or not. -/
def txt : Bool → Fo → List UInt8
  | _, .nil => []
  | b, .cons s k row _ r => (if b then [32] else []) ++ ((if row then 40 :: (txt false k ++ [41]) else s.data.toList) ++ txt true r)
/-- What is written, and whether a tree stands last. -/
def stepT (q : List UInt8 × Bool) : Ev → List UInt8 × Bool
  | .opens => (q.1 ++ ((if q.2 then [32] else []) ++ [40]), false)
  | .word s => (q.1 ++ ((if q.2 then [32] else []) ++ s.data.toList), true)
  | .closes => (q.1 ++ [41], true)
def stT (d : List Ev) : List UInt8 × Bool := d.foldl stepT ([], false)
theorem stT_snoc (d : List Ev) (ev : Ev) : stT (d ++ [ev]) = stepT (stT d) ev := by simp [stT]
theorem foldT : ∀ (f : Fo) (C : List UInt8) (b : Bool), (evs f).foldl stepT (C, b) = (C ++ txt b f, if f.len = 0 then b else true)
  | .nil, C, b => by simp [evs, txt, Fo.len]
  | .cons s k row p r, C, b => by
    cases row with
    | false =>
      simp only [evs, Bool.false_eq_true, if_false, List.foldl_append, List.foldl_cons, List.foldl_nil, stepT, txt, Fo.len]
      rw [foldT r]
      simp
    | true =>
      simp only [evs, if_true, List.foldl_append, List.foldl_cons, List.foldl_nil, stepT, txt, Fo.len]
      rw [foldT k]
      simp only [stepT]
      rw [foldT r]
      simp
theorem textT (f : Fo) : (stT (evs f)).1 = txt false f := by
  rw [stT, foldT f [] false]; rfl
/-- A text in the making is not longer than the whole one. -/
theorem stT_le (d r : List Ev) : (stT d).1.length ≤ (stT (d ++ r)).1.length := by
  have h : ∀ (l : List Ev) (q : List UInt8 × Bool), q.1.length ≤ (l.foldl stepT q).1.length := by
    intro l
    induction l with
    | nil => intro q; exact Nat.le_refl _
    | cons ev l ih =>
      intro q
      refine Nat.le_trans ?_ (ih (stepT q ev))
      cases ev <;> simp [stepT]
  rw [stT, stT, List.foldl_append]
  exact h r _
theorem txt_bare : ∀ (f : Fo) (b : Bool), txt b f.bare = txt b f
  | .nil, b => rfl
  | .cons s k row p r, b => by simp only [Fo.bare, txt, txt_bare k, txt_bare r]
/-- What trees of a text are: words of signs without kids, rows without words. -/
def Good : Fo → Prop
  | .nil => True
  | .cons s k row _ r => (if row then s = ⟨#[]⟩ ∧ Good k else k = .nil ∧ s.data.toList ≠ [] ∧ ∀ c ∈ s.data.toList, signB c = true) ∧ Good r
theorem Good.app : ∀ {f g : Fo}, Good f → Good g → Good (f.app g)
  | .nil, g, _, h => h
  | .cons s k row p r, g, h1, h2 => ⟨h1.1, Good.app h1.2 h2⟩
theorem takeWhile_all (p : UInt8 → Bool) (l : List UInt8) : ∀ c ∈ l.takeWhile p, p c = true := by
  induction l with
  | nil => simp
  | cons a l ih =>
    rw [List.takeWhile_cons]
    split
    · next h =>
      intro c hc
      rcases List.mem_cons.1 hc with rfl | hc
      · exact h
      · exact ih c hc
    · simp
/-- The bytes that trees take at least. -/
def Fo.need : Fo → Nat
  | .nil => 0
  | .cons s k row _ r => (if row then 2 + k.need else s.data.toList.length) + r.need
theorem Fo.need_app : ∀ f g : Fo, (f.app g).need = f.need + g.need
  | .nil, g => by simp [app, need]
  | .cons s k b p r, g => by simp only [app, need, need_app r g]; omega
theorem txt_len : ∀ (f : Fo) (b : Bool), Good f → (txt b f).length ≤ f.need + f.nodes
  | .nil, b, _ => Nat.zero_le _
  | .cons s k row p r, b, h => by
    have hr := txt_len r true h.2
    cases row with
    | false =>
      have hb : (if b then [32] else [] : List UInt8).length ≤ 1 := by cases b <;> simp
      simp only [txt, Fo.need, Fo.nodes, Bool.false_eq_true, if_false, List.length_append]
      omega
    | true =>
      have hk := txt_len k false h.1.2
      have hb : (if b then [32] else [] : List UInt8).length ≤ 1 := by cases b <;> simp
      simp only [txt, Fo.need, Fo.nodes, if_true, List.length_append, List.length_cons, List.length_nil]
      omega
theorem nodes_need : ∀ f : Fo, Good f → f.nodes ≤ f.need
  | .nil, _ => Nat.le_refl _
  | .cons s k row p r, h => by
    have hr := nodes_need r h.2
    cases row with
    | false =>
      obtain ⟨⟨h1, h2, _⟩, _⟩ := h
      subst h1
      have : 0 < s.data.toList.length := List.length_pos_iff.2 h2
      simp only [Fo.need, Fo.nodes, Bool.false_eq_true, if_false]
      omega
    | true =>
      have hk := nodes_need k h.1.2
      simp only [Fo.need, Fo.nodes, if_true]
      omega
/-- The text's trees. -/
theorem go_txt : ∀ (f : Fo) (b : Bool) (rest : List UInt8) (i : Nat) (up : Up) (ks : Fo), Good f → up.length + f.deep ≤ 400 → (rest = [] ∨ ∃ x r, rest = x :: r ∧ signB x = false) →
    ∃ f', f'.bare = f.bare ∧ go (txt b f ++ rest) i up ks = go rest (i + (txt b f).length) up (ks.app f')
  | .nil, b, rest, i, up, ks, _, _, _ => ⟨.nil, rfl, by rw [Fo.app_nil]; rfl⟩
  | .cons s k row p r, b, rest, i, up, ks, hg, hd, hx => by
    have hb : ∀ l : List UInt8, go ((if b then [32] else []) ++ l) i up ks = go l (i + (if b then [32] else [] : List UInt8).length) up ks := by
      intro l
      cases b with
      | false => rfl
      | true => exact go_blank (.inl rfl) l i up ks
    simp only [Fo.deep] at hd
    have hx2 : (txt true r ++ rest) = [] ∨ ∃ x r', (txt true r ++ rest) = x :: r' ∧ signB x = false := by
      cases r with
      | nil => exact hx
      | cons => exact .inr ⟨32, _, rfl, by decide⟩
    cases row with
    | false =>
      obtain ⟨⟨rfl, hs, hall⟩, hgr⟩ := hg
      cases hsl : s.data.toList with
      | nil => exact absurd hsl hs
      | cons c cs =>
        rw [hsl] at hall
        have hcs : ∀ x ∈ cs, signB x = true := fun x hx => hall x (List.mem_cons_of_mem _ hx)
        have htw : (cs ++ (txt true r ++ rest)).takeWhile signB = cs ∧ (cs ++ (txt true r ++ rest)).dropWhile signB = txt true r ++ rest := by
          rw [List.takeWhile_append_of_pos hcs, List.dropWhile_append_of_pos hcs]
          rcases hx2 with h0 | ⟨x, r', h0, h1⟩
          · rw [h0]; simp
          · rw [h0, List.takeWhile_cons, List.dropWhile_cons]; simp [h1]
        obtain ⟨f', hf, hgo⟩ := go_txt r true rest (i + (if b then [32] else [] : List UInt8).length + 1 + cs.length) up (ks.app (.one s .nil false ((i + (if b then [32] else [] : List UInt8).length : Nat) : Int))) hgr (by omega) hx
        have hse : (⟨(c :: cs).toArray⟩ : ByteArray) = s := by rw [← hsl]
        refine ⟨(Fo.one s .nil false ((i + (if b then [32] else [] : List UInt8).length : Nat) : Int)).app f', by simp only [Fo.one, Fo.app, Fo.bare, hf], ?_⟩
        have e : txt b (.cons s .nil false p r) ++ rest = (if b then [32] else []) ++ (c :: (cs ++ (txt true r ++ rest))) := by
          simp only [txt, Bool.false_eq_true, if_false, hsl, List.append_assoc, List.cons_append]
        have el : (txt b (.cons s .nil false p r)).length = (if b then [32] else [] : List UInt8).length + 1 + cs.length + (txt true r).length := by
          simp only [txt, Bool.false_eq_true, if_false, hsl, List.length_append, List.length_cons]; omega
        rw [e, hb, go_word (hall c (List.mem_cons_self ..)), htw.1, htw.2, hse, hgo, el, Fo.app_assoc]
        congr 1
        omega
    | true =>
      obtain ⟨⟨rfl, hgk⟩, hgr⟩ := hg
      simp only [if_true] at hd
      obtain ⟨j, hj⟩ : ∃ j, j = i + (if b then [32] else [] : List UInt8).length := ⟨_, rfl⟩
      obtain ⟨k', hk, hgo1⟩ := go_txt k false (41 :: (txt true r ++ rest)) (j + 1) ((j, ks) :: up) .nil hgk (by simp only [List.length_cons]; omega) (.inr ⟨41, _, rfl, by decide⟩)
      obtain ⟨f', hf, hgo2⟩ := go_txt r true rest (j + 1 + (txt false k).length + 1) up (ks.app (.one ⟨#[]⟩ k' true (j : Int))) hgr (by omega) hx
      refine ⟨(Fo.one ⟨#[]⟩ k' true (j : Int)).app f', by simp only [Fo.one, Fo.app, Fo.bare, hf, hk], ?_⟩
      have e : txt b (.cons ⟨#[]⟩ k true p r) ++ rest = (if b then [32] else []) ++ (40 :: (txt false k ++ (41 :: (txt true r ++ rest)))) := by
        simp only [txt, if_true, List.append_assoc, List.cons_append, List.nil_append]
      have el : (txt b (.cons ⟨#[]⟩ k true p r)).length = (if b then [32] else [] : List UInt8).length + 1 + (txt false k).length + 1 + (txt true r).length := by
        simp only [txt, if_true, List.length_append, List.length_cons, List.length_nil]; omega
      rw [e, hb, ← hj, go_open _ _ _ _ (by omega), hgo1, Fo.app, go_close, hgo2, el, Fo.app_assoc]
      congr 1
      omega
/-- What a reading keeps: good trees, whose bytes were read. -/
theorem go_good : ∀ (n : Nat) (l : List UInt8) (i : Nat) (u : Up) (ks : Fo) (U : Up) (K : Fo), l.length ≤ n → (Good ks ∧ ∀ q ∈ u, Good q.2) → go l i u ks = .fine U K → (Good K ∧ ∀ q ∈ U, Good q.2) ∧ K.need + (U.map fun q => q.2.need + 1).sum ≤ ks.need + (u.map fun q => q.2.need + 1).sum + l.length := by
  intro n
  induction n with
  | zero =>
    intro l i u ks U K hl h hg
    obtain rfl : l = [] := List.eq_nil_of_length_eq_zero (by omega)
    rw [go_nil] at hg
    injection hg with h1 h2; subst h1; subst h2
    exact ⟨h, Nat.le_refl _⟩
  | succ n ih =>
    intro l i u ks U K hl h hg
    cases l with
    | nil =>
      rw [go_nil] at hg
      injection hg with h1 h2; subst h1; subst h2
      exact ⟨h, Nat.le_refl _⟩
    | cons c l =>
      have hl' : l.length ≤ n := by simpa using hl
      simp only [List.length_cons]
      by_cases h1 : c = 32 ∨ c = 10
      · rw [go_blank h1] at hg
        have := ih _ _ _ _ _ _ hl' h hg
        exact ⟨this.1, by have := this.2; omega⟩
      by_cases h2 : c = 40
      · subst h2
        by_cases hu : u.length < 400
        · rw [go_open _ _ _ _ hu] at hg
          have := ih l (i + 1) ((i, ks) :: u) .nil U K hl' ⟨trivial, fun q hq => by
            rcases List.mem_cons.1 hq with rfl | hq
            · exact h.1
            · exact h.2 q hq⟩ hg
          refine ⟨this.1, ?_⟩
          have := this.2
          simp only [List.map_cons, List.sum_cons, Fo.need] at this
          omega
        · rw [go_deep _ _ _ _ hu] at hg; cases hg
      by_cases h3 : c = 41
      · subst h3
        cases u with
        | nil => rw [go_none] at hg; cases hg
        | cons x u =>
          obtain ⟨a, js⟩ := x
          rw [go_close] at hg
          have := ih l (i + 1) u (js.app (.one ⟨#[]⟩ ks true a)) U K hl' ⟨(h.2 (a, js) (List.mem_cons_self ..)).app ⟨⟨rfl, h.1⟩, trivial⟩, fun q hq => h.2 q (List.mem_cons_of_mem _ hq)⟩ hg
          refine ⟨this.1, ?_⟩
          have := this.2
          rw [Fo.need_app] at this
          simp only [List.map_cons, List.sum_cons, Fo.one, Fo.need, if_true] at this ⊢
          omega
      cases h4 : signB c with
      | true =>
        rw [go_word h4] at hg
        have := ih (l.dropWhile signB) (i + 1 + (l.takeWhile signB).length) u (ks.app (.one ⟨(c :: l.takeWhile signB).toArray⟩ .nil false i)) U K (Nat.le_trans (dropWhile_le _ _) hl') ⟨h.1.app ⟨⟨rfl, by simp, fun x hx => by
          rcases List.mem_cons.1 (by simpa using hx) with rfl | hx
          · exact h4
          · exact takeWhile_all _ _ _ hx⟩, trivial⟩, h.2⟩ hg
        refine ⟨this.1, ?_⟩
        have := this.2
        have hs := split_len signB l
        rw [Fo.need_app] at this
        simp [Fo.one, Fo.need] at this
        omega
      | false => rw [go_not h1 h2 h3 h4] at hg; cases hg
/-- Where each tree stands, from a place on, ahead of another one. -/
def Pl (S : List UInt8) : Fo → Int → Int → Prop
  | .nil, _, _ => True
  | .cons w k row p r, lo, hi => lo ≤ p ∧ p < hi ∧ (if row then (0 ≤ p ∧ S[p.toNat]? = some 40) ∧ w = ⟨#[]⟩ ∧ Pl S k (p + 1) (match r with | .nil => hi | .cons _ _ _ p' _ => p') ∧ Pl S r (p + 1) hi
      else k = .nil ∧ 0 < w.size ∧ (w.size : Int) ≤ hi - p ∧ (0 ≤ p ∧ (S.drop p.toNat).take w.size = w.data.toList) ∧ Pl S r (p + w.size) hi)
theorem Pl.mono {S : List UInt8} : ∀ {f : Fo} {lo hi hi' : Int}, Pl S f lo hi → hi ≤ hi' → Pl S f lo hi'
  | .nil, _, _, _, _, _ => trivial
  | .cons w k row p r, lo, hi, hi', ⟨h1, h2, h3⟩, h => by
    refine ⟨h1, by omega, ?_⟩
    cases row with
    | false =>
      simp only [Bool.false_eq_true, if_false] at h3 ⊢
      exact ⟨h3.1, h3.2.1, by omega, h3.2.2.2.1, h3.2.2.2.2.mono h⟩
    | true =>
      simp only [if_true] at h3 ⊢
      refine ⟨h3.1, h3.2.1, ?_, h3.2.2.2.mono h⟩
      cases r with
      | nil => exact h3.2.2.1.mono h
      | cons => exact h3.2.2.1
theorem Pl.snoc {S : List UInt8} {w : ByteArray} {k : Fo} {row : Bool} {p hi' : Int} : ∀ {f : Fo} {lo hi : Int}, Pl S f lo hi → lo ≤ hi → hi ≤ p → (∀ lo', lo' ≤ hi → Pl S (.one w k row p) lo' hi') → Pl S (f.app (.one w k row p)) lo hi'
  | .nil, lo, hi, _, hlo, hp, h => h lo hlo
  | .cons w0 k0 row0 p0 r, lo, hi, ⟨h1, h2, h3⟩, hlo, hp, h => by
    have hph : p < hi' := (h hi (Int.le_refl _)).2.1
    refine ⟨h1, by omega, ?_⟩
    cases row0 with
    | false =>
      simp only [Bool.false_eq_true, if_false] at h3 ⊢
      exact ⟨h3.1, h3.2.1, by omega, h3.2.2.2.1, h3.2.2.2.2.snoc (by omega) hp h⟩
    | true =>
      simp only [if_true] at h3 ⊢
      refine ⟨h3.1, h3.2.1, ?_, h3.2.2.2.snoc (by omega) hp h⟩
      cases r with
      | nil => exact h3.2.2.1.mono hp
      | cons => exact h3.2.2.1
/-- What is read so far stands at its places. -/
def PlU (S : List UInt8) : Up → Fo → Nat → Prop
  | [], ks, i => Pl S ks 0 i
  | (a, js) :: u, ks, i => Pl S ks (a + 1) i ∧ S[a]? = some 40 ∧ a < i ∧ PlU S u js a
theorem PlU.ks {S : List UInt8} {u : Up} {f g : Fo} {i j : Nat} (h : PlU S u f i) (hij : i ≤ j) (hp : ∀ lo : Int, lo ≤ i → Pl S f lo i → Pl S g lo j) : PlU S u g j := by
  cases u with
  | nil => exact hp _ (by omega) h
  | cons x u =>
    obtain ⟨a, js⟩ := x
    obtain ⟨h1, h2, h3, h4⟩ := h
    exact ⟨hp _ (by omega) h1, h2, by omega, h4⟩
theorem drop_tw (p : UInt8 → Bool) : ∀ l : List UInt8, l.drop (l.takeWhile p).length = l.dropWhile p
  | [] => rfl
  | a :: l => by
    rw [List.takeWhile_cons, List.dropWhile_cons]
    split
    · simpa using drop_tw p l
    · rfl
theorem take_tw (p : UInt8 → Bool) : ∀ l : List UInt8, l.take (l.takeWhile p).length = l.takeWhile p
  | [] => rfl
  | a :: l => by
    rw [List.takeWhile_cons]
    split
    · simpa using take_tw p l
    · rfl
theorem go_pl (S : List UInt8) : ∀ (n : Nat) (l : List UInt8) (i : Nat) (u : Up) (ks : Fo) (U : Up) (K : Fo), l.length ≤ n → S.drop i = l → PlU S u ks i → go l i u ks = .fine U K → PlU S U K (i + l.length) := by
  intro n
  induction n with
  | zero =>
    intro l i u ks U K hl hS h hg
    obtain rfl : l = [] := List.eq_nil_of_length_eq_zero (by omega)
    rw [go_nil] at hg
    injection hg with h1 h2; subst h1; subst h2
    exact h
  | succ n ih =>
    intro l i u ks U K hl hS h hg
    cases l with
    | nil =>
      rw [go_nil] at hg
      injection hg with h1 h2; subst h1; subst h2
      exact h
    | cons c l =>
      have hl' : l.length ≤ n := by simpa using hl
      have hS1 : S.drop (i + 1) = l := by rw [← List.drop_drop, hS]; rfl
      have hSi : S[i]? = some c := by
        have := congrArg (·[0]?) hS
        simpa using this
      have hlen : i + (c :: l).length = i + 1 + l.length := by simp; omega
      rw [hlen]
      by_cases h1 : c = 32 ∨ c = 10
      · rw [go_blank h1] at hg
        exact ih _ _ _ _ _ _ hl' hS1 (h.ks (Nat.le_succ _) fun lo _ hp => hp.mono (by omega)) hg
      by_cases h2 : c = 40
      · subst h2
        by_cases hu : u.length < 400
        · rw [go_open _ _ _ _ hu] at hg
          exact ih l (i + 1) ((i, ks) :: u) .nil U K hl' hS1 ⟨trivial, hSi, by omega, h⟩ hg
        · rw [go_deep _ _ _ _ hu] at hg; cases hg
      by_cases h3 : c = 41
      · subst h3
        cases u with
        | nil => rw [go_none] at hg; cases hg
        | cons x u =>
          obtain ⟨a, js⟩ := x
          rw [go_close] at hg
          obtain ⟨p1, p2, p3, p4⟩ := h
          refine ih _ _ _ _ _ _ hl' hS1 (p4.ks (by omega) fun lo hlo hp => hp.snoc hlo (Int.le_refl _) fun lo' hlo' => ⟨hlo', by omega, ?_⟩) hg
          simp only [if_true]
          exact ⟨⟨by omega, by simpa using p2⟩, trivial, p1.mono (by omega), trivial⟩
      cases h4 : signB c with
      | true =>
        rw [go_word h4] at hg
        have hs := split_len signB l
        have e : i + 1 + l.length = i + 1 + (l.takeWhile signB).length + (l.dropWhile signB).length := by omega
        rw [e]
        have hsz : (⟨(c :: l.takeWhile signB).toArray⟩ : ByteArray).size = (l.takeWhile signB).length + 1 := by show (c :: l.takeWhile signB).toArray.size = _; simp
        refine ih _ _ _ _ _ _ (Nat.le_trans (dropWhile_le _ _) hl') ?_ (h.ks (by omega) fun lo hlo hp => hp.snoc hlo (Int.le_refl _) fun lo' hlo' => ⟨hlo', by omega, ?_⟩) hg
        · rw [← List.drop_drop, hS1]
          exact drop_tw signB l
        · simp only [Bool.false_eq_true, if_false]
          refine ⟨trivial, by rw [hsz]; omega, by rw [hsz]; omega, ⟨by omega, ?_⟩, trivial⟩
          rw [hsz, show ((i : Int)).toNat = i by omega, hS, List.take_succ_cons]
          rw [take_tw]
      | false => rw [go_not h1 h2 h3 h4] at hg; cases hg
/-- A text that is parsed: its trees, their text, the trees of that. -/
theorem back_pure {l : List UInt8} {f : Fo} {p : Nat} (hl : l.length ≤ 5000) (h : parseP l = (f, p, 0)) :
    p = 0 ∧ Good f ∧ f.deep ≤ 400 ∧ Pl l f 0 l.length ∧ (txt false f).length ≤ 2 * l.length ∧ ∃ f', parseP (txt false f) = (f', 0, 0) ∧ f'.bare = f.bare ∧ txt false f' = txt false f ∧ f'.deep = f.deep := by
  rw [parse_short (by omega)] at h
  obtain ⟨hgo, hp⟩ := fin_ok h fun q e => go_err _ _ _ _ _ _ _ (Nat.le_refl _)
  obtain ⟨⟨hg, _⟩, hn⟩ := go_good _ _ _ _ _ _ _ (Nat.le_refl _) (show Good .nil ∧ ∀ q ∈ ([] : Up), Good q.2 from ⟨trivial, fun q hq => by cases hq⟩) hgo
  have hd : f.deep ≤ 400 := go_deepL _ _ _ _ _ _ _ (Nat.le_refl _) (show okS [] .nil from Nat.zero_le _) hgo
  have hpl : Pl l f 0 ((0 + l.length : Nat) : Int) := go_pl l _ _ _ _ _ _ _ (Nat.le_refl _) rfl (show PlU l [] .nil 0 from trivial) hgo
  rw [Nat.zero_add] at hpl
  have ht := txt_len f false hg
  have hnn := nodes_need f hg
  simp [Fo.need] at hn
  obtain ⟨f', hb, hg'⟩ := go_txt f false [] 0 [] .nil hg (by simpa using hd) (.inl rfl)
  rw [List.append_nil, go_nil, Fo.app] at hg'
  refine ⟨hp, hg, hd, hpl, by omega, f', ?_, hb, ?_, ?_⟩
  · rw [parse_short (by omega), hg']; rfl
  · rw [← txt_bare, hb, txt_bare]
  · rw [← Fo.deep_bare, hb, Fo.deep_bare]
end Go.Proofs.YtbccknhinmgibaaDoor

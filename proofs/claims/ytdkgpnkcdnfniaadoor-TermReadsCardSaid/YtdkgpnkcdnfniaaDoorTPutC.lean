/- Terms put for names: one state, one step that keeps a part. Terms put for names: the run. -/
import Derived.Test.YtdkgpnkcdnfniaaDoorTPutB
import Derived.Shelf.Abstract
set_option linter.unusedVariables false
set_option linter.unusedSimpArgs false
namespace Go.Proofs.YtdkgpnkcdnfniaaDoor
open Go.RowKit

/-- Where everything lies. -/
structure Cfg where
  (gm fb B b5 b4 b10 b9 b6 b7 mb nt ct ct2 : Nat)
  Kt : Option Addr
  mo : Obj
  s : ByteArray → Option Tm
  ts : List Tm
  root : Addr
  T0 : Tm
  w1 : World
def Cfg.df (c : Cfg) : Value := .func (.func 56) #[] #[.pointer (some ⟨c.b5, 0, none⟩), .pointer (some ⟨c.b4, 0, none⟩), .pointer (some ⟨c.b10, 0, none⟩), .pointer (some ⟨c.b9, 0, none⟩), .pointer (some ⟨c.b6, 0, none⟩), .pointer (some ⟨c.b7, 0, none⟩)]
def Cfg.cf (c : Cfg) : Value := .func (.func 35) #[.pointer (some ⟨c.gm, 0, none⟩)] #[]
def Cfg.isE (c : Cfg) (k : Nat) : Prop := k = c.b5 ∨ k = c.b4 ∨ k = c.b10 ∨ k = c.b9 ∨ k = c.b6 ∨ k = c.b7 ∨ k = c.mb
structure Cfg.Env (c : Cfg) (W : World) : Prop where
  e5 : W.heap[c.b5]? = some (.cells #[.map (some c.mb)] 80 (0, 0))
  e4 : W.heap[c.b4]? = some (.cells #[.pointer (some ⟨c.gm, 0, none⟩)] 99 (0, 0))
  e10 : W.heap[c.b10]? = some (.cells #[c.df] 55 (0, 0))
  e9 : W.heap[c.b9]? = some (.cells #[.slice (some ⟨c.fb, 0, none⟩) c.nt c.ct] 102 (0, 0))
  e6 : W.heap[c.b6]? = some (.cells #[.slice c.Kt c.nt c.ct2] 26 (0, 0))
  e7 : W.heap[c.b7]? = some (.cells #[c.cf] 55 (0, 0))
  em : W.heap[c.mb]? = some c.mo
theorem Cfg.Env.to {c : Cfg} {W W' : World} (h : c.Env W) (hk : ∀ k, c.isE k → W'.heap[k]? = W.heap[k]?) : c.Env W' :=
  ⟨(hk _ (.inl rfl)).trans h.e5, (hk _ (.inr (.inl rfl))).trans h.e4, (hk _ (.inr (.inr (.inl rfl)))).trans h.e10, (hk _ (.inr (.inr (.inr (.inl rfl))))).trans h.e9, (hk _ (.inr (.inr (.inr (.inr (.inl rfl)))))).trans h.e6, (hk _ (.inr (.inr (.inr (.inr (.inr (.inl rfl))))))).trans h.e7, (hk _ (.inr (.inr (.inr (.inr (.inr (.inr rfl))))))).trans h.em⟩
theorem Cfg.Env.boxes {c : Cfg} {W : World} (h : c.Env W) : Boxes W c.b5 c.b4 c.b10 c.b9 c.b6 c.b7 c.mb c.gm c.fb c.nt c.ct c.ct2 c.Kt c.df c.cf :=
  ⟨cell_one0 h.e5, cell_one0 h.e4, cell_one0 h.e10, cell_one0 h.e9, cell_one0 h.e6, cell_one0 h.e7⟩
/-- What never turns. -/
structure Cfg.OK (c : Cfg) (w0 : World) : Prop where
  lo : w0.heap.size ≤ c.gm ∧ w0.heap.size ≤ c.fb ∧ ∀ k, c.isE k → w0.heap.size ≤ k
  hi : c.gm < c.B ∧ c.fb < c.B ∧ ∀ k, c.isE k → k < c.B
  ne : c.gm ≠ c.fb ∧ ∀ k, c.isE k → k ≠ c.gm ∧ k ≠ c.fb
  look : ∀ (W : World) (name : ByteArray), W.heap[c.mb]? = some c.mo → name.size ≤ 140737488355328 → (∃ (i : Nat) (t : Tm), c.ts[i]? = some t ∧ c.s name = some t ∧ (Instr.lookup 80 (.map (some c.mb)) (.string name) true).run Tryd.prog W = .ok (.tuple #[.int .i64 (i : Int), .bool true]) W) ∨ (c.s name = none ∧ ∃ k : Int, (Instr.lookup 80 (.map (some c.mb)) (.string name) true).run Tryd.prog W = .ok (.tuple #[.int .i64 k, .bool false]) W)
  terms : TmsC (fun a => w0.cell? a) c.Kt c.ts
  nts : c.nt = c.ts.length
  size : (preT c.T0).length ≤ 20000000
  good : ∀ t ∈ c.ts, ∀ u ∈ preT t, u.ds.length ≤ 1000000
  root : c.w1.heap.size ≤ c.B ∧ c.root.block < c.B
/-- The state: p is to come, of which the row holds the turns of e. -/
structure PutM (c : Cfg) (w0 : World) (p e : List Pd) (X : Nat → Prop) (parts : Nat) (v : Value) (W : World) : Prop where
  st : PutS w0.heap.size c.fb c.s c.ts c.root c.T0 p X parts W
  ahead : TRow W c.B v e.length (turnsP c.df c.cf e)
  walker : WK W c.gm v 77 [.int .i64 (parts : Int)]
  env : c.Env W
  fblk : ∃ fcs, W.heap[c.fb]? = some (.cells fcs 53 (0, 0))
  apart : ∀ k, X k → k ≠ c.gm ∧ k ≠ c.fb ∧ ¬ c.isE k ∧ v.ownBlock ≠ some k
  below : Below w0.heap.size w0 W
  size : c.B ≤ W.heap.size
  good : ∀ q ∈ p, ∀ u ∈ preT q.src, u.ds.length ≤ 1000000
  few : turnsLeft c.s p ≤ 40000000
  newX : ∀ k, X k → k = c.root.block ∨ c.B ≤ k
  old : ∀ k, k < c.w1.heap.size → k ≠ c.gm → k ≠ c.fb → k ≠ c.root.block → W.heap[k]? = c.w1.heap[k]?
  fits : parts ≤ 20000
theorem PutM.xw {c : Cfg} {w0 W : World} {p e : List Pd} {X : Nat → Prop} {parts : Nat} {v : Value} (h : PutM c w0 p e X parts v W) (hc : c.OK w0) {k : Nat} (hk : X k) : k = c.root.block ∨ c.w1.heap.size ≤ k := by
  have := hc.root
  rcases h.newX k hk with h | h
  · exact .inl h
  · exact .inr (by omega)
theorem TmC.ones {cl : Addr → Option Value} {u0 u1 u2 u3 u4 : Value} {t : Tm} (h : TmC cl (.agg #[u0, u1, u2, u3, u4]) t) : u0.oneCell' = true ∧ u1.oneCell' = true ∧ u2.oneCell' = true ∧ u3.oneCell' = true ∧ u4.oneCell' = true := by
  obtain ⟨A, K, p, p', e, _⟩ := h.parts
  simp only [Value.agg.injEq, Array.mk.injEq, List.cons.injEq, and_true] at e
  obtain ⟨rfl, rfl, rfl, rfl, rfl⟩ := e
  exact ⟨rfl, rfl, rfl, rfl, rfl⟩
/-- The cells of terms that lie one behind the other. -/
theorem tms_row {cl : Addr → Option Value} {K : Option Addr} {l : List Tm} (h : TmsC cl K l) : ∃ E : List Value, E.length = l.length * 5 ∧ RowC cl K E ∧ ∀ u ∈ E, u.oneCell' = true := by
  have hex : ∀ i, i < l.length * 5 → ∃ u : Value, (∃ ad, K = some ad ∧ cl (ad.add i) = some u) ∧ u.oneCell' = true := fun i hi => by
    have hj : i / 5 < l.length := by omega
    obtain ⟨ad, e, u0, u1, u2, u3, u4, ⟨h0, h1, h2, h3, h4⟩, ht⟩ := h (i / 5) _ (List.getElem?_eq_getElem hj)
    obtain ⟨o0, o1, o2, o3, o4⟩ := ht.ones
    rw [add_add] at h1 h2 h3 h4
    have hm : i = i / 5 * 5 ∨ i = i / 5 * 5 + 1 ∨ i = i / 5 * 5 + 2 ∨ i = i / 5 * 5 + 3 ∨ i = i / 5 * 5 + 4 := by omega
    rcases hm with e1 | e1 | e1 | e1 | e1
    · exact ⟨u0, ⟨ad, e, by rw [e1]; exact h0⟩, o0⟩
    · exact ⟨u1, ⟨ad, e, by rw [e1]; exact h1⟩, o1⟩
    · exact ⟨u2, ⟨ad, e, by rw [e1]; exact h2⟩, o2⟩
    · exact ⟨u3, ⟨ad, e, by rw [e1]; exact h3⟩, o3⟩
    · exact ⟨u4, ⟨ad, e, by rw [e1]; exact h4⟩, o4⟩
  obtain ⟨E, hl, hp⟩ := list_of (p := fun i (u : Value) => (∃ ad, K = some ad ∧ cl (ad.add i) = some u) ∧ u.oneCell' = true) (l.length * 5) hex
  refine ⟨E, hl, fun j v hj => (hp j v hj).1, fun u hu => ?_⟩
  obtain ⟨j, hj⟩ := List.mem_iff_getElem?.1 hu
  exact (hp j u hj).2
theorem pre_kids {t : Tm} {k : Tm} (hk : k ∈ t.kids) : ∀ u ∈ preT k, u ∈ preT t := by
  have hl : ∀ (l : List Tm), k ∈ l → ∀ u ∈ preT k, u ∈ preL l := fun l => by
    induction l with
    | nil => intro h; exact nomatch h
    | cons x l ih =>
      intro h u hu
      rw [preL_cons, ← List.cons_append, ← preT_eq]
      rcases List.mem_cons.1 h with rfl | h
      · exact List.mem_append_left _ hu
      · exact List.mem_append_right _ (ih h u hu)
  intro u hu
  rw [preT_eq]
  exact List.mem_cons_of_mem _ (hl _ hk u hu)
theorem len_left (s : ByteArray → Option Tm) : ∀ p : List Pd, p.length ≤ turnsLeft s p
  | [] => Nat.le_refl _
  | q :: l => by
    have := len_left s l
    have h1 : 1 ≤ (preT (q.tgt s)).length := by rw [preT_len]; omega
    rw [turnsLeft, List.length_cons]
    split
    · omega
    · omega
/-- What holds where too many were made. -/
def PutZ (c : Cfg) (w0 : World) (n : Int) (w' : World) : Prop := n = 34 ∧ 20000 < (preT c.T0).length ∧ Below w0.heap.size w0 w' ∧ ∀ k, k < c.w1.heap.size → k ≠ c.gm → k ≠ c.fb → k ≠ c.root.block → w'.heap[k]? = c.w1.heap[k]?
theorem keep_thrown {c : Cfg} {w0 W : World} {q : Pd} {r : List Pd} {X : Nat → Prop} {parts : Nat} {v : Value} {F : FuncId} {fs cf : Array Value} (hc : c.OK w0) (h : PutM c w0 (q :: r) r X parts v W) (hq : q.put = true → hit c.s q.src = none) (hfit : 20000 < parts + q.src.kids.length) :
    Calls Tryd.prog 57 #[.pointer (some ⟨c.gm, 0, none⟩), .pointer (some q.at_), .func (.func F) fs cf] W fun e w' => e = .panicked [{ v := .iface 43 (.int .i64 34), recovered := false }] ∧ PutZ c w0 34 w' := by
  obtain ⟨hXp, pb, o, cs, u0, u1, u2, u3, u4, hat, hcs, ho, ⟨c0, c1, c2, c3, c4⟩, hT⟩ := h.st.pend q (List.mem_cons_self ..)
  rw [hat]
  obtain ⟨A0, K0, p0, p0', ev, _⟩ := hT.parts
  simp only [Value.agg.injEq, Array.mk.injEq, List.cons.injEq, and_true] at ev
  obtain ⟨rfl, rfl, rfl, rfl, rfl⟩ := ev
  have hlen : q.src.kids.length ≤ (preL (q.tgt c.s).kids).length := by
    rw [tgt_kids hq]
    have := preL_len (q.src.kids.map (tgtOf c.s q.put))
    rw [List.length_map] at this
    exact this
  have hsum := h.st.sum
  have hsz := hc.size
  rw [owed] at hsum
  refine Calls.mono (keep_grown (F := F) (fs := fs) (cf := cf) h.walker hcs c4 hfit (by omega)) ?_
  rintro e w' ⟨rfl, hs, ho, hk⟩
  have h0 := hc.lo.1
  have h1 := hc.hi.1
  have h5 := hc.root
  have h6 := h.size
  exact ⟨rfl, rfl, by omega, h.below.trans ⟨ho.1, ho.2.1, ho.2.2, hs, fun k hk1 => hk k (by omega) (by omega)⟩, fun k hk1 h2 h3 h4 => (hk k (by omega) h2).trans (h.old k hk1 h2 h3 h4)⟩
/-- A part kept as it is. -/
theorem keep_step {c : Cfg} {w0 W : World} {q : Pd} {r : List Pd} {X : Nat → Prop} {parts : Nat} {v : Value} {F : FuncId} {fs cf : Array Value} (hc : c.OK w0) (h : PutM c w0 (q :: r) r X parts v W) (hfit : parts + q.src.kids.length ≤ 20000) (hq : q.put = true → hit c.s q.src = none) (hG : (if q.put then c.df else c.cf) = .func (.func F) fs cf) :
    Calls Tryd.prog 57 #[.pointer (some ⟨c.gm, 0, none⟩), .pointer (some q.at_), .func (.func F) fs cf] W fun e w' => (∃ u, e = .returned u) ∧ ∃ p' X' parts' v', PutM c w0 p' p' X' parts' v' w' ∧ turnsLeft c.s p' < turnsLeft c.s (q :: r) := by
  obtain ⟨hXp, pb, o, cs, u0, u1, u2, u3, u4, hat, hcs, ho, ⟨c0, c1, c2, c3, c4⟩, hT⟩ := h.st.pend q (List.mem_cons_self ..)
  rw [hat] at hXp ⊢
  have hXp : X pb := hXp
  obtain ⟨A0, K0, p0, p0', ev, hkd, hnm, hr0, hs0, hdl, hkl, hk0⟩ := hT.parts
  simp only [Value.agg.injEq, Array.mk.injEq, List.cons.injEq, and_true] at ev
  obtain ⟨rfl, rfl, rfl, rfl, rfl⟩ := ev
  obtain ⟨E1, hEl, hE, hone⟩ := tms_row hk0
  have hpW : pb < W.heap.size := (h.st.low pb hXp).2
  have hpM := (h.st.low pb hXp).1
  have hapb := h.apart pb hXp
  have hB := h.size
  have hfix : ∀ a, FixC w0.heap.size X (q :: r) a → a ≠ ⟨pb, o + 3, none⟩ ∧ a.block ≠ c.gm := fun a hF => by
    have := hc.lo.1
    rcases hF with hF | ⟨hF, hn⟩
    · exact ⟨fun e => by rw [e] at hF; have : pb < w0.heap.size := hF; omega, by omega⟩
    · refine ⟨fun e => hn ⟨q, List.mem_cons_self .., ?_, ?_, ?_⟩, (h.apart _ hF).1⟩
      · rw [e, hat]
      · rw [e, hat]; show o ≤ o + 3; omega
      · rw [e, hat]; show o + 3 < o + 5; omega
  have hEk : ∀ ad i, K0 = some ad → i < E1.length → ad.add i ≠ ⟨pb, o + 3, none⟩ ∧ ad.block ≠ c.gm := fun ad i ha hi => by
    obtain ⟨ad', ea, hce⟩ := hE i _ (List.getElem?_eq_getElem hi)
    rw [ha] at ea
    injection ea with ea
    subst ea
    have := hfix _ (cutC_some.1 hce).1
    rw [add_block] at this
    exact this
  have hAk : ∀ ad, A0 = some ad → q.src.ds ≠ [] → ad.block ≠ c.gm := fun ad ha hne => by
    have h0 : 0 < (u32s q.src.ds).length := by
      unfold u32s; rw [List.length_map]
      exact List.length_pos_iff.2 hne
    obtain ⟨ad', ea, hce⟩ := hr0 0 _ (List.getElem?_eq_getElem h0)
    rw [ha] at ea
    injection ea with ea
    subst ea
    have := (hfix _ (cutC_some.1 hce).1).2
    rw [add_block] at this
    exact this
  have hlen : q.src.kids.length ≤ (preL (q.tgt c.s).kids).length := by
    rw [tgt_kids hq]
    have := preL_len (q.src.kids.map (tgtOf c.s q.put))
    rw [List.length_map] at this
    exact this
  have hsum := h.st.sum
  have hsz := hc.size
  rw [owed] at hsum
  have hrl := len_left c.s (q :: r)
  have hfew := h.few
  have hown : ∀ k, v.ownBlock = some k → c.B ≤ k ∧ k < W.heap.size := fun k hk => World.ownsRow.lt h.ahead k hk
  have hd := h.good q (List.mem_cons_self ..) q.src (by rw [preT_eq]; exact List.mem_cons_self ..)
  refine Calls.mono (keep1 (F := F) (fs := fs) (cf := cf) (v := v) (E1 := E1) (Q := fun w3 w' => ∃ A cA K cK v', KeepMid W c.gm pb o cs q.src.kids.length q.src.ds.length q.src.ds A cA K cK E1 w3 ∧ TRow w' c.B v' (r.length + q.src.kids.length) (turnsP c.df c.cf r ++ rowTurns (.func (.func F) fs cf) K q.src.kids.length) ∧ WK w' c.gm v' 77 [.int .i64 ((parts : Int) + (q.src.kids.length : Int))] ∧ Turned c.gm v v' w3 w')
    h.walker hcs ho c3 c4 (fun j u hj => by
      obtain ⟨ad, ha, hce⟩ := hr0 j u hj
      exact ⟨ad, ha, (cutC_some.1 hce).2⟩) (fun j u hj => by
      obtain ⟨ad, ha, hce⟩ := hE j u hj
      exact ⟨ad, ha, (cutC_some.1 hce).2⟩) hEl hone hapb.1 (by omega) hd ⟨hEk, hAk⟩ ?into) ?_
  case into =>
    intro w3 A cA K cK hm hwk
    have hrow : TRow w3 c.B v r.length (turnsP c.df c.cf r) := TRow.kept h.ahead fun k hk hkW => hm.other k hkW (fun e => hapb.2.2.2 (e ▸ hk)) (fun e => by have := (hown k hk).1; have := hc.hi.1; omega)
    refine Calls.mono (into_any (F := F) (fs := fs) (cs := cf) (n := q.src.kids.length) (K := K) (c := cK) hrow hwk hc.hi.1 (Nat.le_trans hB hm.size) (by rw [List.length_cons] at hrl; omega) (fun hn0 => ?_)) ?_
    · rcases hm.kids.2 with ⟨_, e0⟩ | ⟨g, cap, cur, e, _⟩
      · exact absurd e0 hn0
      · injection e with e; exact ⟨_, e⟩
    · rintro e w' ⟨hu, v', r1, r2, r3⟩
      exact ⟨hu, A, cA, K, cK, v', hm, r1, r2, r3⟩
  · rintro e w' ⟨hu, w3, A, cA, K, cK, v', hm, hr, hw, hT3⟩
    have hleft : turnsLeft c.s (kidsPO K q.put q.src.kids ++ r) < turnsLeft c.s (q :: r) := by
      have h1 : turnsLeft c.s (kidsPO K q.put q.src.kids) = (if q.put then 2 else 1) * (preL (q.src.kids.map (tgtOf c.s q.put))).length := by
        rcases K with _ | A1
        · have h0 : q.src.kids.length = 0 := by
            rcases hm.kids.2 with ⟨_, h0⟩ | ⟨g, cap, cur, e, _⟩
            · exact h0
            · cases e
          rw [List.length_eq_zero_iff.1 h0, List.map_nil, preL_nil]; rfl
        · exact left_kids c.s A1 q.put q.src.kids 0
      rw [turnsLeft_append, h1, turnsLeft, preT_len, tgt_kids hq]
      show _ * (preL (q.src.kids.map (tgtOf c.s q.put))).length + _ < _ * ((preL (q.src.kids.map (tgtOf c.s q.put))).length + 1) + _
      split <;> omega
    refine ⟨hu, kidsPO K q.put q.src.kids ++ r, fun k => X k ∨ (W.heap.size ≤ k ∧ k < w3.heap.size), parts + q.src.kids.length, v', ?_, hleft⟩
    · have hst := put_keep h.st hat hcs hq hc.lo.1 (fun e => (h.apart _ e).1 rfl) hc.lo.2.1 (fun e => (h.apart _ e).2.1 rfl) (Ne.symm hc.ne.1) (by have := hc.hi.2.1; omega) hm
      have hs3 := hm.size
      have hs4 := hT3.size
      have hvE : ∀ k, k < c.B → v.ownBlock ≠ some k := fun k hk e => by have := (hown k e).1; omega
      have keepE : ∀ k, c.isE k → w'.heap[k]? = W.heap[k]? := fun k hk => by
        have h1 := (hc.ne.2 k hk).1
        have h2 := hc.hi.2.2 k hk
        exact (hT3.block k (by omega) h1 (hvE k h2)).trans (hm.other k (by omega) (fun e => hapb.2.2.1 (e ▸ hk)) h1)
      have hlow : ∀ k, k < w0.heap.size → w'.heap[k]? = W.heap[k]? := fun k hk => by
        have h0 := hc.lo.1
        have h2 := hc.hi.1
        exact (hT3.block k (by omega) (by omega) (hvE k (by omega))).trans (hm.other k (by omega) (by omega) (by omega))
      have hturn : turnsP c.df c.cf (kidsPO K q.put q.src.kids ++ r) = turnsP c.df c.cf r ++ rowTurns (.func (.func F) fs cf) K q.src.kids.length := by
        rw [turnsP_append, ← hG]
        congr 1
        rcases K with _ | A1
        · have h0 : q.src.kids.length = 0 := by
            rcases hm.kids.2 with ⟨_, h0⟩ | ⟨g, cap, cur, e, _⟩
            · exact h0
            · cases e
          rw [h0]; rfl
        · have := kidsP_turns c.df c.cf A1 q.put q.src.kids 0
          rw [Nat.zero_add] at this
          rw [this]
          exact (List.append_nil _).symm
      have hkl2 : (kidsPO K q.put q.src.kids).length = q.src.kids.length := by
        rcases K with _ | A1
        · rcases hm.kids.2 with ⟨_, h0⟩ | ⟨g, cap, cur, e, _⟩
          · rw [h0]; rfl
          · cases e
        · exact kidsP_len _ _ _ _
      have hap' : ∀ k, X k ∨ (W.heap.size ≤ k ∧ k < w3.heap.size) → k ≠ c.gm ∧ k ≠ c.fb ∧ ¬ c.isE k ∧ v'.ownBlock ≠ some k ∧ v.ownBlock ≠ some k ∧ k < w3.heap.size := fun k hk => by
        have h1 := hc.hi.1
        have h2 := hc.hi.2.1
        rcases hk with hk | hk
        · obtain ⟨a1, a2, a3, a4⟩ := h.apart k hk
          have hkW := (h.st.low k hk).2
          refine ⟨a1, a2, a3, fun e => ?_, a4, by omega⟩
          rcases hT3.own k e with e | e
          · exact a4 e
          · omega
        · refine ⟨by omega, by omega, fun e => ?_, fun e => ?_, fun e => ?_, hk.2⟩
          · have := hc.hi.2.2 k e; omega
          · rcases hT3.own k e with e | e
            · have := (hown k e).2; omega
            · omega
          · have := (hown k e).2; omega
      refine ⟨hst.stay (by have := hc.hi.2.1; omega) hs4 fun k hk hx => ?_, ?_, ?_, h.env.to keepE, ?_, fun k hk => ?_, h.below.trans ⟨?_, ?_, ?_, by omega, hlow⟩, by omega, fun x hx => ?_, ?_, fun k hk => ?_, fun k hk h1 h2 h3 => ?_, hfit⟩
      · rcases hx with hx | hx | hx
        · have := hc.lo.1
          have := hc.hi.1
          exact hT3.block k hk (by omega) (hvE k (by omega))
        · exact hT3.block k hk (hap' k hx).1 (hap' k hx).2.2.2.2.1
        · rw [hx]
          exact hT3.block _ (by have := hc.hi.2.1; omega) (Ne.symm hc.ne.1) (hvE _ hc.hi.2.1)
      · rw [List.length_append, hkl2, Nat.add_comm, hturn]; exact hr
      · have e1 : ((parts + q.src.kids.length : Nat) : Int) = (parts : Int) + (q.src.kids.length : Int) := by omega
        rw [e1]; exact hw
      · obtain ⟨fcs, hf⟩ := h.fblk
        refine ⟨fcs, ((hT3.block _ (by have := hc.hi.2.1; omega) (Ne.symm hc.ne.1) (hvE _ hc.hi.2.1)).trans (hm.other _ (by have := hc.hi.2.1; omega) (Ne.symm hapb.2.1) (Ne.symm hc.ne.1))).trans hf⟩
      · obtain ⟨a1, a2, a3, a4, _⟩ := hap' k hk
        exact ⟨a1, a2, a3, a4⟩
      · exact hT3.os.trans hm.os
      · exact hT3.tape.trans hm.tape
      · exact hT3.output.trans hm.output
      · rcases List.mem_append.1 hx with hx | hx
        · obtain ⟨_, _, j, _, _, _, hj, _⟩ := kidsPO_mem hm.kids rfl hx
          exact fun u hu => h.good q (List.mem_cons_self ..) u (pre_kids (List.mem_of_getElem? hj) u hu)
        · exact h.good x (List.mem_cons_of_mem _ hx)
      · omega
      · rcases hk with hk | hk
        · exact h.newX k hk
        · exact .inr (by omega)
      · have h5 := hc.root
        have h6 := h.xw hc hXp
        exact ((hT3.block k (by omega) h1 (hvE k (by omega))).trans (hm.other k (by omega) (by omega) h1)).trans (h.old k hk h1 h2 h3)
end Go.Proofs.YtdkgpnkcdnfniaaDoor

namespace Go.Proofs.YtdkgpnkcdnfniaaDoor
open Go.RowKit

theorem PutM.drew {c : Cfg} {w0 W : World} {p e : List Pd} {X : Nat → Prop} {parts : Nat} {v : Value} (hc : c.OK w0) (h : PutM c w0 p e X parts v W) : PutM c w0 p e X parts v W.drew :=
  ⟨h.st.stay (by have := hc.hi.2.1; have := h.size; omega) (Nat.le_refl _) fun _ _ _ => rfl, h.ahead, h.walker, h.env.to fun _ _ => rfl, h.fblk, h.apart, h.below.drew, h.size, h.good, h.few, h.newX, h.old, h.fits⟩
/-- While other blocks turn. -/
theorem PutM.turned {c : Cfg} {w0 W w' : World} {p e e' : List Pd} {X : Nat → Prop} {parts : Nat} {v v' : Value} (hc : c.OK w0) (h : PutM c w0 p e X parts v W) (hT : ∀ k, k < W.heap.size → k ≠ c.gm → v.ownBlock ≠ some k → w'.heap[k]? = W.heap[k]?) (hs : W.heap.size ≤ w'.heap.size) (hos : w'.os = W.os ∧ w'.tape = W.tape ∧ w'.output = W.output) (hown : ∀ k, v'.ownBlock = some k → v.ownBlock = some k ∨ W.heap.size ≤ k)
    (hr : TRow w' c.B v' e'.length (turnsP c.df c.cf e')) (hw : WK w' c.gm v' 77 [.int .i64 (parts : Int)]) : PutM c w0 p e' X parts v' w' := by
  have hB := h.size
  have hvE : ∀ k, k < c.B → v.ownBlock ≠ some k := fun k hk e => by have := (World.ownsRow.lt h.ahead k e).1; omega
  have h1 := hc.hi.1
  have h2 := hc.hi.2.1
  have h0 := hc.lo.1
  refine ⟨h.st.stay (by omega) hs fun k hk hx => ?_, hr, hw, h.env.to fun k hk => ?_, ?_, fun k hk => ?_, h.below.trans ⟨hos.1, hos.2.1, hos.2.2, hs, fun k hk => ?_⟩, by omega, h.good, h.few, h.newX, fun k hk h3 h4 h7 => ?_, h.fits⟩
  · rcases hx with hx | hx | hx
    · exact hT k hk (by omega) (hvE k (by omega))
    · exact hT k hk (h.apart k hx).1 (h.apart k hx).2.2.2
    · rw [hx]; exact hT _ (by omega) (Ne.symm hc.ne.1) (hvE _ h2)
  · have h3 := hc.hi.2.2 k hk
    exact hT k (by omega) (hc.ne.2 k hk).1 (hvE k h3)
  · obtain ⟨fcs, hf⟩ := h.fblk
    exact ⟨fcs, (hT _ (by omega) (Ne.symm hc.ne.1) (hvE _ h2)).trans hf⟩
  · obtain ⟨a1, a2, a3, a4⟩ := h.apart k hk
    refine ⟨a1, a2, a3, fun e => ?_⟩
    rcases hown k e with e | e
    · exact a4 e
    · have := (h.st.low k hk).2; omega
  · exact hT k (by omega) (by omega) (hvE k (by omega))
  · have h5 := hc.root
    exact (hT k (by omega) h3 (hvE k (by omega))).trans (h.old k hk h3 h4 h7)
/-- Behind a name for which a term is put. -/
theorem named_state {c : Cfg} {w0 W W' : World} {q : Pd} {r : List Pd} {X : Nat → Prop} {parts pb o : Nat} {v : Value} {τ : Tm} {cs : Array Value} {u0 u1 u2 u3 u4 : Value} (hc : c.OK w0) (h : PutM c w0 (q :: r) r X parts v W) (hat : q.at_ = ⟨pb, o, none⟩) (hcs : W.heap[pb]? = some (.cells cs 28 (0, 0))) (hput : q.put = true) (hh : hit c.s q.src = some τ) (hτ : τ ∈ c.ts)
    (hu : TmC (cutC (FixC w0.heap.size X (q :: r)) W) (.agg #[u0, u1, u2, u3, u4]) τ) (hblk : W'.heap[pb]? = some (.cells (set5 cs o u0 u1 u2 u3 u4) 28 (0, 0))) (hother : ∀ k, k < W.heap.size → k ≠ pb → k ≠ c.fb → W'.heap[k]? = W.heap[k]?) (hsz : W'.heap.size = W.heap.size) (hos : W'.os = W.os ∧ W'.tape = W.tape ∧ W'.output = W.output)
    (hfb : ∃ fcs, W'.heap[c.fb]? = some (.cells fcs 53 (0, 0))) (hfirst : ∀ (j : Nat) (t : Tm), c.ts[j]? = some t → W'.cell? ⟨c.fb, j, none⟩ = W.cell? ⟨c.fb, j, none⟩ ∨ (W'.cell? ⟨c.fb, j, none⟩ = some (.pointer (some q.at_)) ∧ t = τ)) :
    PutM c w0 (⟨q.at_, τ, false⟩ :: r) r X parts v W' ∧ turnsLeft c.s (⟨q.at_, τ, false⟩ :: r) < turnsLeft c.s (q :: r) := by
  have hXp : X pb := by have := (h.st.pend q (List.mem_cons_self ..)).1; rw [hat] at this; exact this
  obtain ⟨a1, a2, a3, a4⟩ := h.apart pb hXp
  have hpM := (h.st.low pb hXp).1
  have hB := h.size
  have h1 := hc.hi.1
  have h2 := hc.hi.2.1
  have h0 := hc.lo.1
  have h02 := hc.lo.2.1
  have hlt : turnsLeft c.s (⟨q.at_, τ, false⟩ :: r) < turnsLeft c.s (q :: r) := by
    unfold turnsLeft Pd.tgt
    rw [if_pos hput, hput, subT_hit hh]
    have : 1 ≤ (preT τ).length := by rw [preT_len]; omega
    simp only [Bool.false_eq_true, if_false, if_true]
    omega
  refine ⟨⟨put_named h.st hat hcs hput hh h02 (fun e => (h.apart _ e).2.1 rfl) hu hblk hother (Nat.le_of_eq hsz.symm) hfirst, ?_, ?_, ?_, hfb, h.apart, ?_, by omega, ?_, ?_, h.newX, fun k hk h3 h4 h7 => ?_, h.fits⟩, hlt⟩
  · refine TRow.kept h.ahead fun k hk hkW => hother k hkW (fun e => a4 (e ▸ hk)) (fun e => ?_)
    have := (World.ownsRow.lt h.ahead k hk).1
    omega
  · exact h.walker.to (hother _ (by omega) (Ne.symm a1) hc.ne.1)
  · refine h.env.to fun k hk => ?_
    have := hc.hi.2.2 k hk
    exact hother k (by omega) (fun e => a3 (e ▸ hk)) (hc.ne.2 k hk).2
  · exact h.below.trans ⟨hos.1, hos.2.1, hos.2.2, Nat.le_of_eq hsz.symm, fun k hk => hother k (by omega) (by omega) (by omega)⟩
  · intro x hx
    rcases List.mem_cons.1 hx with rfl | hx
    · exact hc.good τ hτ
    · exact h.good x (List.mem_cons_of_mem _ hx)
  · have := h.few
    omega
  · have h5 := hc.root
    have h6 := h.xw hc hXp
    exact (hother k (by omega) (by omega) h4).trans (h.old k hk h3 h4 h7)
theorem put_enters (F : FuncId) (h : enters Tryd.prog F = true) : ∀ args w, (callFunc F args).run Tryd.prog w = .ok (.enter F args) w := run_enters h
/-- What is made, turn by turn. -/
def PutQ (c : Cfg) (w0 : World) (k : Nat) (v : Value) (n : Nat) (E : List Value) (W : World) : Prop := ∃ p X parts, PutM c w0 p p X parts v W ∧ E = turnsP c.df c.cf p ∧ n = p.length ∧ k = turnsLeft c.s p
set_option maxHeartbeats 6400000 in
theorem put_turn {c : Cfg} {w0 W : World} {q : Pd} {r : List Pd} {X : Nat → Prop} {parts : Nat} {v : Value} (hc : c.OK w0) (h : PutM c w0 (q :: r) r X parts v W) (hput : q.put = true) :
    Calls Tryd.prog 56 #[.pointer (some q.at_), .pointer (some ⟨c.b5, 0, none⟩), .pointer (some ⟨c.b4, 0, none⟩), .pointer (some ⟨c.b10, 0, none⟩), .pointer (some ⟨c.b9, 0, none⟩), .pointer (some ⟨c.b6, 0, none⟩), .pointer (some ⟨c.b7, 0, none⟩)] W fun e w' => Thrown (PutZ c w0) e w' ∨ ((∃ u, e = .returned u) ∧ ∃ p' X' parts' v', PutM c w0 p' p' X' parts' v' w' ∧ turnsLeft c.s p' < turnsLeft c.s (q :: r)) := by
  obtain ⟨hXp, pb, o, cs, u0, u1, u2, u3, u4, hat, hcs, ho, ⟨c0, c1, c2, c3, c4⟩, hT⟩ := h.st.pend q (List.mem_cons_self ..)
  rw [hat] at hXp
  have hXp : X pb := hXp
  obtain ⟨A0, K0, p0, p0', ev, hkd, hnm, _⟩ := hT.parts
  simp only [Value.agg.injEq, Array.mk.injEq, List.cons.injEq, and_true] at ev
  obtain ⟨rfl, rfl, rfl, rfl, rfl⟩ := ev
  have m0 : W.cell? ⟨pb, o, none⟩ = some (.int .u8 q.src.kind) := (cell_blk hcs).trans c0
  have m1 : W.cell? ⟨pb, o + 1, none⟩ = some (.string q.src.name) := (cell_blk hcs).trans c1
  have hlook := hc.look W.drew q.src.name h.env.em hnm
  have hpW := (h.st.low pb hXp).2
  obtain ⟨a1, a2, a3, a4⟩ := h.apart pb hXp
  cases hh : hit c.s q.src with
  | none =>
    have hcl : ∃ (k : Int) (b : Bool), (Instr.lookup 80 (.map (some c.mb)) (.string q.src.name) true).run Tryd.prog W.drew = .ok (.tuple #[.int .i64 k, .bool b]) W.drew ∧ (b = false ∨ (b = true ∧ q.src.kind ≠ 1)) := by
      rcases hlook with ⟨i, t, _, hs, hl⟩ | ⟨_, k, hl⟩
      · refine ⟨_, _, hl, .inr ⟨rfl, fun e => ?_⟩⟩
        unfold hit at hh
        rw [if_pos e, hs] at hh
        cases hh
      · exact ⟨_, _, hl, .inl rfl⟩
    obtain ⟨k, b, hl, hb⟩ := hcl
    rcases Nat.lt_or_ge 20000 (parts + q.src.kids.length) with hfit | hfit
    · have hk := keep_thrown (F := 56) (fs := #[]) (cf := #[.pointer (some ⟨c.b5, 0, none⟩), .pointer (some ⟨c.b4, 0, none⟩), .pointer (some ⟨c.b10, 0, none⟩), .pointer (some ⟨c.b9, 0, none⟩), .pointer (some ⟨c.b6, 0, none⟩), .pointer (some ⟨c.b7, 0, none⟩)]) hc (h.drew hc) (fun _ => hh) hfit
      rw [hat] at hk ⊢
      refine Calls.mono (put_kept_thr h.env.boxes m0 m1 hl hb hk) ?_
      rintro e w' ⟨rfl, hq⟩
      exact .inl ⟨34, rfl, hq⟩
    have hk := keep_step (F := 56) (fs := #[]) (cf := #[.pointer (some ⟨c.b5, 0, none⟩), .pointer (some ⟨c.b4, 0, none⟩), .pointer (some ⟨c.b10, 0, none⟩), .pointer (some ⟨c.b9, 0, none⟩), .pointer (some ⟨c.b6, 0, none⟩), .pointer (some ⟨c.b7, 0, none⟩)]) hc (h.drew hc) hfit (fun _ => hh) (by rw [if_pos hput]; rfl)
    rw [hat] at hk ⊢
    refine Calls.mono (put_kept (Q := fun _ w' => ∃ p' X' parts' v', PutM c w0 p' p' X' parts' v' w' ∧ turnsLeft c.s p' < turnsLeft c.s (q :: r)) h.env.boxes m0 m1 hl hb hk) ?_
    rintro e w' ⟨hu, _, hq⟩
    exact .inr ⟨hu, hq⟩
  | some τ =>
    have hk1 : q.src.kind = 1 := by
      unfold hit at hh
      split at hh
      · next e => exact e
      · cases hh
    have hsn : c.s q.src.name = some τ := by
      unfold hit at hh
      rw [if_pos hk1] at hh
      exact hh
    rw [hk1] at m0
    obtain ⟨i, hi, hl⟩ : ∃ i : Nat, c.ts[i]? = some τ ∧ (Instr.lookup 80 (.map (some c.mb)) (.string q.src.name) true).run Tryd.prog W.drew = .ok (.tuple #[.int .i64 (i : Int), .bool true]) W.drew := by
      rcases hlook with ⟨i, t, hi, hs, hl⟩ | ⟨hs, _⟩
      · rw [hsn] at hs
        injection hs with hs
        subst hs
        exact ⟨i, hi, hl⟩
      · rw [hsn] at hs; cases hs
    have hil : i < c.nt := by rw [hc.nts]; exact (List.getElem?_eq_some_iff.1 hi).1
    have hτ := List.mem_of_getElem? hi
    obtain ⟨fcs, hfb⟩ := h.fblk
    obtain ⟨oo, hfc, hfo⟩ := h.st.first i τ hi
    have hef : ∀ k, c.isE k → k ≠ pb ∧ k ≠ c.fb := fun k hk => ⟨fun e => a3 (e ▸ hk), (hc.ne.2 k hk).2⟩
    have he4 := hef c.b4 (.inr (.inl rfl))
    have he7 := hef c.b7 (.inr (.inr (.inr (.inr (.inr (.inl rfl))))))
    have he6 := hef c.b6 (.inr (.inr (.inr (.inr (.inl rfl)))))
    rcases oo with _ | a
    · -- comes in first
      obtain ⟨kp, hKt, v0, v1, v2, v3, v4, hcl, hTt⟩ := hc.terms i τ hi
      have hkl := cell_lt hcl.1
      rw [add_block] at hkl
      have hcw : ∀ b u, w0.cell? b = some u → W.cell? b = some u := fun b u hu => (h.below.cell (cell_lt hu)).trans hu
      have hTt2 : TmC (cutC (FixC w0.heap.size X (q :: r)) W) (.agg #[v0, v1, v2, v3, v4]) τ := hTt.mono fun b u hu => cutC_some.2 ⟨.inl (cell_lt hu), hcw b u hu⟩
      have hbx := h.env.boxes
      rw [hKt] at hbx
      rw [hat]
      refine Calls.mono (put_first_any (F := 35) (fs := #[.pointer (some ⟨c.gm, 0, none⟩)]) (cf := #[]) (i := i) (Q := fun _ w' => ∃ p' X' parts' v', PutM c w0 p' p' X' parts' v' w' ∧ turnsLeft c.s p' < turnsLeft c.s (q :: r)) hbx hcs ho m0 m1 hl hil hfb hfc ⟨hcw _ _ hcl.1, hcw _ _ hcl.2.1, hcw _ _ hcl.2.2.1, hcw _ _ hcl.2.2.2.1, hcw _ _ hcl.2.2.2.2⟩ hTt.ones ⟨Ne.symm he4.1, Ne.symm he7.1, a2⟩ ⟨Ne.symm he4.2, Ne.symm he7.2, Ne.symm he6.2, by have := hc.lo.2.1; omega⟩ fun w5 hw5 => ?_) ?_
      · have hfl : c.fb < W.heap.size := by have := hc.hi.2.1; have := h.size; omega
        obtain ⟨W1, hW1⟩ : ∃ W1, W1 = W.setCell ⟨c.fb, i, none⟩ (.pointer (some ⟨pb, o, none⟩)) := ⟨_, rfl⟩
        rw [← hW1] at hw5
        have n1 : ∀ k, k ≠ c.fb → W1.heap[k]? = W.heap[k]? := fun k hk => by rw [hW1]; exact Below.heap_setCell _ _ _ _ hk
        have n2 : W1.heap[c.fb]? = some (.cells (fcs.setIfInBounds i (.pointer (some ⟨pb, o, none⟩))) 53 (0, 0)) := by rw [hW1]; exact set_at hfb
        have n3 : W1.heap.size = W.heap.size := by rw [hW1]; simp
        have n4 : W1.os = W.os ∧ W1.tape = W.tape ∧ W1.output = W.output := by rw [hW1]; exact ⟨rfl, rfl, rfl⟩
        have n5 : ∀ j, W1.cell? ⟨c.fb, j, none⟩ = if j = i then some (.pointer (some ⟨pb, o, none⟩)) else W.cell? ⟨c.fb, j, none⟩ := fun j => by
          by_cases hji : j = i
          · subst hji
            rw [if_pos rfl, hW1]
            exact World.cell?_setCell_same' _ _ _ (by rw [hfc]; rfl)
          · rw [if_neg hji, hW1]
            exact cell_other fun e => hji (by injection e)
        have d1 : W1.drew.heap[pb]? = some (.cells cs 28 (0, 0)) := (n1 pb a2).trans hcs
        have d2 : ∀ k, k ≠ pb → w5.heap[k]? = W1.heap[k]? := fun k hk => by rw [hw5]; exact put5w_off (w := W1.drew) hk
        have d3 : w5.heap.size = W.heap.size := by rw [hw5, put5w_size]; exact n3
        have d4 : w5.os = W.os ∧ w5.tape = W.tape ∧ w5.output = W.output := by
          obtain ⟨q1, q2, q3⟩ := put5w_os W1.drew pb o v0 v1 v2 v3 v4
          rw [hw5]
          exact ⟨q1.trans n4.1, q2.trans n4.2.1, q3.trans n4.2.2⟩
        have d5 : w5.heap[pb]? = some (.cells (set5 cs o v0 v1 v2 v3 v4) 28 (0, 0)) := by rw [hw5]; exact put5w_blk d1
        clear hw5 hW1
        obtain ⟨hst, hlt⟩ := named_state (W' := w5) hc h hat hcs hput hh hτ hTt2 d5 (fun k hk h1 h2 => (d2 k h1).trans (n1 k h2)) d3 d4 ⟨_, (d2 _ (Ne.symm a2)).trans n2⟩ (fun j t hj => by
          have e1 : w5.cell? ⟨c.fb, j, none⟩ = W1.cell? ⟨c.fb, j, none⟩ := cell_congr (d2 _ (Ne.symm a2))
          rw [e1, n5 j]
          by_cases hji : j = i
          · rw [if_pos hji]
            right
            rw [hji, hi] at hj
            injection hj with hj
            exact ⟨by rw [hat], hj.symm⟩
          · rw [if_neg hji]
            exact .inl rfl)
        have hst := hst.drew hc
        have hrl := len_left c.s (q :: r)
        have hfew := h.few
        rw [List.length_cons] at hrl
        refine Calls.mono (next_any (p := ⟨pb, o, none⟩) (F := 35) (fs := #[.pointer (some ⟨c.gm, 0, none⟩)]) (cs := #[]) hst.ahead hst.walker hc.hi.1 hst.size (by omega)) ?_
        rintro e w' ⟨hu, v', r1, r2, r3⟩
        refine ⟨hu, ⟨q.at_, τ, false⟩ :: r, X, parts, v', hst.turned hc r3.block r3.size ⟨r3.os, r3.tape, r3.output⟩ r3.own ?_ r2, hlt⟩
        show TRow w' c.B v' (r.length + 1) (turnsP c.df c.cf r ++ [.pointer (some q.at_), c.cf])
        rw [hat]
        exact r1
      · rintro e w' ⟨hu, _, hq⟩
        exact .inr ⟨hu, hq⟩
    · -- came in before
      obtain ⟨ab, aj, v0, v1, v2, v3, v4, rfl, h5, hTt⟩ := put_again h.st hput hi hfc
      rw [hat]
      have hprep : ∀ w5, w5 = put5w W.drew pb o v0 v1 v2 v3 v4 → PutM c w0 (⟨q.at_, τ, false⟩ :: r) r X parts v w5 ∧ turnsLeft c.s (⟨q.at_, τ, false⟩ :: r) < turnsLeft c.s (q :: r) := fun w5 hw5 => by
        have d1 : W.drew.heap[pb]? = some (.cells cs 28 (0, 0)) := hcs
        have d2 : ∀ k, k ≠ pb → w5.heap[k]? = W.heap[k]? := fun k hk => by rw [hw5]; exact put5w_off (w := W.drew) hk
        have d3 : w5.heap.size = W.heap.size := by rw [hw5, put5w_size]; rfl
        have d4 : w5.os = W.os ∧ w5.tape = W.tape ∧ w5.output = W.output := by rw [hw5]; exact put5w_os W.drew pb o v0 v1 v2 v3 v4
        have d5 : w5.heap[pb]? = some (.cells (set5 cs o v0 v1 v2 v3 v4) 28 (0, 0)) := by rw [hw5]; exact put5w_blk d1
        clear hw5
        exact named_state (W' := w5) hc h hat hcs hput hh hτ hTt d5 (fun k hk h1 h2 => d2 k h1) d3 d4 ⟨fcs, (d2 _ (Ne.symm a2)).trans hfb⟩ (fun j t hj => .inl (cell_congr (d2 _ (Ne.symm a2))))
      rcases Nat.lt_or_ge 20000 (parts + τ.kids.length) with hfit | hfit
      · refine Calls.mono (put_again_thr (ch := [{ v := .iface 43 (.int .i64 34), recovered := false }]) (i := i) (Q := PutZ c w0 34) h.env.boxes hcs ho m0 m1 hl hil hfc h5 hTt.ones (Ne.symm he4.1) fun w5 hw5 => ?_) ?_
        · have hk := keep_thrown (F := 35) (fs := #[.pointer (some ⟨c.gm, 0, none⟩)]) (cf := #[]) hc (hprep w5 hw5).1 (fun e => by cases e) hfit
          exact copied_thr (by rw [← hat]; exact hk)
        · rintro e w' ⟨rfl, hq⟩
          exact .inl ⟨34, rfl, hq⟩
      refine Calls.mono (put_again_any (i := i) (Q := fun _ w' => ∃ e : Ending, ∃ p' X' parts' v', PutM c w0 p' p' X' parts' v' w' ∧ turnsLeft c.s p' < turnsLeft c.s (q :: r)) h.env.boxes hcs ho m0 m1 hl hil hfc h5 hTt.ones (Ne.symm he4.1) fun w5 hw5 => ?_) ?_
      · obtain ⟨hst, hlt⟩ := hprep w5 hw5
        have hk := keep_step (F := 35) (fs := #[.pointer (some ⟨c.gm, 0, none⟩)]) (cf := #[]) hc hst hfit (fun e => by cases e) rfl
        have hk2 : Calls Tryd.prog 57 #[.pointer (some ⟨c.gm, 0, none⟩), .pointer (some ⟨pb, o, none⟩), .func (.func 35) #[.pointer (some ⟨c.gm, 0, none⟩)] #[]] w5 fun e w' => (∃ u, e = .returned u) ∧ ∃ p' X' parts' v', PutM c w0 p' p' X' parts' v' w' ∧ turnsLeft c.s p' < turnsLeft c.s (q :: r) := by
          rw [← hat]
          refine Calls.mono hk ?_
          rintro e w' ⟨hu, p', X', parts', v', h1, h2⟩
          exact ⟨hu, p', X', parts', v', h1, Nat.lt_trans h2 hlt⟩
        exact copied_any (Q := fun _ w' => ∃ p' X' parts' v', PutM c w0 p' p' X' parts' v' w' ∧ turnsLeft c.s p' < turnsLeft c.s (q :: r)) hk2
      · rintro e w' ⟨hu, _, _, hq⟩
        exact .inr ⟨hu, hq⟩
end Go.Proofs.YtdkgpnkcdnfniaaDoor

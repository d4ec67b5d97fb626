/- Terms put for names: the run whole; maker.make. Package term's maker.make, at put. Package term's put: its closure, with variables of its own. -/
import Derived.Test.YtdkgpnkcdnfniaaDoorTPutC
import Derived.Test.YtdkgpnkcdnfniaaDoorTEachW
import Derived.OwnWalk
set_option linter.unusedVariables false
set_option linter.unusedSimpArgs false
namespace Go.Proofs.YtdkgpnkcdnfniaaDoor
open Go.RowKit

theorem put_runs {c : Cfg} {w0 : World} (hc : c.OK w0) : RunsT c.gm c.B 77 (PutQ c w0) (PutZ c w0) := by
  constructor
  · rintro k v n E W ⟨p, X, parts, h, rfl, rfl, rfl⟩
    have h1 := len_left c.s p
    have h2 := h.few
    exact ⟨h.ahead, h.size, ⟨_, h.walker⟩, by omega⟩
  · rintro k v n E W ⟨p, X, parts, h, rfl, hn, rfl⟩
    rcases p with _ | ⟨q, r⟩
    · exact absurd hn (by simp)
    have hn : n = r.length := by simp at hn; exact hn
    subst hn
    have pop : ∀ g cap x, v = .slice (some ⟨g, 0, none⟩) (r.length + 1) cap → WK W c.gm v 77 x → ∀ W', TRow W' c.B (.slice (some ⟨g, 0, none⟩) r.length cap) r.length (turnsP c.df c.cf r) → WK W' c.gm (.slice (some ⟨g, 0, none⟩) r.length cap) 77 x → Turned c.gm (.slice none 0 0) (.slice none 0 0) W W' → PutM c w0 (q :: r) r X parts (.slice (some ⟨g, 0, none⟩) r.length cap) W' := by
      intro g cap x hv hwk W' hr hw hT
      have hx : x = [.int .i64 (parts : Int)] := by
        have e1 := hwk; have e2 := h.walker
        unfold WK at e1 e2
        rw [e1] at e2
        injection e2 with e2
        injection e2 with e2
        injection e2 with e2
        injection e2 with _ e2
      subst hx
      exact h.turned hc (fun k hk h1 _ => hT.block k hk h1 (by intro e; cases e)) hT.size ⟨hT.os, hT.tape, hT.output⟩ (fun k hk => .inl (by rw [hv]; exact hk)) hr hw
    cases hput : q.put with
    | true =>
      refine ⟨q.at_, 56, #[], #[.pointer (some ⟨c.b5, 0, none⟩), .pointer (some ⟨c.b4, 0, none⟩), .pointer (some ⟨c.b10, 0, none⟩), .pointer (some ⟨c.b9, 0, none⟩), .pointer (some ⟨c.b6, 0, none⟩), .pointer (some ⟨c.b7, 0, none⟩)], turnsP c.df c.cf r, by rw [turnsP, if_pos hput]; rfl, put_enters _ (by kernel_rfl), fun g cap x hv hwk W' hr hw hT => ?_⟩
      refine Calls.mono (put_turn hc (pop g cap x hv hwk W' hr hw hT) hput) ?_
      rintro e w' (hz | ⟨hu, p', X', parts', v', h1, h2⟩)
      · exact .inl hz
      · exact .inr ⟨hu, _, v', _, _, h2, p', X', parts', h1, rfl, rfl, rfl⟩
    | false =>
      refine ⟨q.at_, 35, #[.pointer (some ⟨c.gm, 0, none⟩)], #[], turnsP c.df c.cf r, by rw [turnsP, hput]; rfl, put_enters _ (by kernel_rfl), fun g cap x hv hwk W' hr hw hT => ?_⟩
      have hpop := pop g cap x hv hwk W' hr hw hT
      rcases Nat.lt_or_ge 20000 (parts + q.src.kids.length) with hfit | hfit
      · have hk := keep_thrown (F := 35) (fs := #[.pointer (some ⟨c.gm, 0, none⟩)]) (cf := #[]) hc hpop (fun e => by rw [hput] at e; cases e) hfit
        refine Calls.mono (copied_thr hk) ?_
        rintro e w' ⟨rfl, hq⟩
        exact .inl ⟨34, rfl, hq⟩
      · have hk := keep_step (F := 35) (fs := #[.pointer (some ⟨c.gm, 0, none⟩)]) (cf := #[]) hc hpop hfit (fun e => by rw [hput] at e; cases e) (by rw [hput]; rfl)
        refine Calls.mono (copied_any (Q := fun _ w' => ∃ p' X' parts' v', PutM c w0 p' p' X' parts' v' w' ∧ turnsLeft c.s p' < turnsLeft c.s (q :: r)) hk) ?_
        rintro e w' ⟨hu, _, p', X', parts', v', h1, h2⟩
        exact .inr ⟨hu, _, v', _, _, h2, p', X', parts', h1, rfl, rfl, rfl⟩
/-- The state at the start: the term itself, at root. -/
theorem put_start {c : Cfg} {w0 W : World} {t : Tm} {u0 u1 u2 u3 u4 : Value} {R : Nat} {v : Value} {fcs : Array Value} (hc : c.OK w0) (hroot : c.root = ⟨R, 0, none⟩) (hT0 : c.T0 = subT c.s t) (hR : W.heap[R]? = some (.cells #[u0, u1, u2, u3, u4] 28 (0, 0))) (hu : TmC (fun a => w0.cell? a) (.agg #[u0, u1, u2, u3, u4]) t) (hg : ∀ u ∈ preT t, u.ds.length ≤ 1000000)
    (hb : Below w0.heap.size w0 W) (hB : c.B ≤ W.heap.size) (henv : c.Env W) (hfb : W.heap[c.fb]? = some (.cells fcs 53 (0, 0))) (hfn : ∀ i, i < c.ts.length → fcs[i]? = some (.pointer none)) (hM : w0.heap.size ≤ R) (hRE : R ≠ c.gm ∧ R ≠ c.fb ∧ ¬ c.isE R)
    (hold : ∀ k, k < c.w1.heap.size → k ≠ c.gm → k ≠ c.fb → k ≠ c.root.block → W.heap[k]? = c.w1.heap[k]?) (hr : TRow W c.B v 1 [.pointer (some c.root), c.df]) (hw : WK W c.gm v 77 [.int .i64 1]) : PutM c w0 [⟨c.root, t, true⟩] [⟨c.root, t, true⟩] (fun k => k = R) 1 v W := by
  have h1 := hc.root
  rw [hroot] at h1
  have h1 : c.w1.heap.size ≤ c.B ∧ R < c.B := h1
  have hsz := hc.size
  rw [hT0] at hsz
  refine ⟨⟨fun k hk => ⟨by omega, by omega⟩, fun q hq => ?_, List.pairwise_singleton _ _, List.pairwise_singleton _ _, fun cl _ h2 => ?_, ?_, fun i t' ht => ?_, by omega⟩, ?_, hw, henv, ⟨fcs, hfb⟩, fun k hk => ?_, hb, hB, fun q hq => ?_, ?_, fun k hk => .inl (by rw [hk, hroot]), hold, by decide⟩
  · rw [List.mem_singleton.1 hq]
    refine ⟨by rw [hroot], R, 0, _, u0, u1, u2, u3, u4, hroot, hR, by simp, ⟨rfl, rfl, rfl, rfl, rfl⟩, hu.mono fun a u ha => cutC_some.2 ⟨.inl (cell_lt ha), (hb.cell (cell_lt ha)).trans ha⟩⟩
  · have := h2 _ (List.mem_singleton.2 rfl)
    rw [hT0]
    exact this
  · rw [owed, owed, hT0, preT_len]
    show 1 + ((preL (subT c.s t).kids).length + 0) = _
    omega
  · have hil := (List.getElem?_eq_some_iff.1 ht).1
    exact ⟨none, (cell_blk hfb).trans (hfn i hil), fun a ha => by cases ha⟩
  · exact hr
  · refine ⟨by rw [hk]; exact hRE.1, by rw [hk]; exact hRE.2.1, by rw [hk]; exact hRE.2.2, fun e => ?_⟩
    have := (World.ownsRow.lt hr k e).1
    omega
  · rw [List.mem_singleton.1 hq]; exact hg
  · rw [turnsLeft, turnsLeft]
    show 2 * (preT (subT c.s t)).length + 0 ≤ _
    omega
/-- What make leaves. -/
structure Made (c : Cfg) (w0 : World) (v0 v1 v2 v3 v4 : Value) (w' : World) : Prop where
  term : TmC (cutC (fun a => a.block = c.root.block ∨ c.B ≤ a.block) w') (.agg #[v0, v1, v2, v3, v4]) c.T0
  below : Below w0.heap.size w0 w'
  old : ∀ k, k < c.w1.heap.size → k ≠ c.gm → k ≠ c.fb → k ≠ c.root.block → w'.heap[k]? = c.w1.heap[k]?
  size : c.B ≤ w'.heap.size
  fits : (preT c.T0).length ≤ 20000
theorem put_end {c : Cfg} {w0 W : World} {X : Nat → Prop} {parts : Nat} {v : Value} {R : Nat} (hc : c.OK w0) (hroot : c.root = ⟨R, 0, none⟩) (h : PutM c w0 [] [] X parts v W) : ∃ v0 v1 v2 v3 v4, Five W R 0 v0 v1 v2 v3 v4 ∧ Made c w0 v0 v1 v2 v3 v4 W := by
  obtain ⟨v0, v1, v2, v3, v4, hcl, ht⟩ := h.st.build (cutC (fun a => X a.block) W) (fun a u hu hx _ => cutC_some.2 ⟨hx, hu⟩) (fun q hq => nomatch hq)
  rw [hroot, add_eq, add_eq, add_eq, add_eq] at hcl
  refine ⟨v0, v1, v2, v3, v4, ⟨(cutC_some.1 hcl.1).2, (cutC_some.1 hcl.2.1).2, (cutC_some.1 hcl.2.2.1).2, (cutC_some.1 hcl.2.2.2.1).2, (cutC_some.1 hcl.2.2.2.2).2⟩, ht.mono fun a u hu => ?_, h.below, h.old, h.size, by have h1 := h.st.sum; have h2 := h.fits; rw [owed] at h1; omega⟩
  obtain ⟨h1, h2⟩ := cutC_some.1 hu
  exact cutC_some.2 ⟨h.newX _ h1, h2⟩
end Go.Proofs.YtdkgpnkcdnfniaaDoor

namespace Go.Proofs.YtdkgpnkcdnfniaaDoor
open Go.RowKit

set_option maxRecDepth 100000 in
set_option maxHeartbeats 6400000 in
theorem make_ok {c : Cfg} {w0 w : World} {t : Tm} {u0 u1 u2 u3 u4 : Value} {fcs : Array Value} (hc : c.OK w0) (hroot : c.root = ⟨w.heap.size, 0, none⟩) (hB : c.B = w.heap.size + 3) (hT0 : c.T0 = subT c.s t) (hu : TmC (fun a => w0.cell? a) (.agg #[u0, u1, u2, u3, u4]) t) (hg : ∀ u ∈ preT t, u.ds.length ≤ 1000000)
    (hb : Below w0.heap.size w0 w) (henv : c.Env w) (hfb : w.heap[c.fb]? = some (.cells fcs 53 (0, 0))) (hfn : ∀ i, i < c.ts.length → fcs[i]? = some (.pointer none)) (hwk : WK w c.gm (.slice none 0 0) 77 [.int .i64 0]) (hlt : c.gm < w.heap.size ∧ c.fb < w.heap.size ∧ ∀ k, c.isE k → k < w.heap.size)
    (hw1 : c.w1 = ((w.alloc (.cells #[u0, u1, u2, u3, u4] 28)).alloc (.cells #[.int .u8 0, .string ⟨#[]⟩, .bool false, .slice none 0 0, .slice none 0 0] 28)).alloc (.cells #[.int .i64 1] 3)) :
    Calls Tryd.prog 32 #[.pointer (some ⟨c.gm, 0, none⟩), .agg #[u0, u1, u2, u3, u4], c.df] w fun e w' => Thrown (fun n w' => n = 34 ∧ 20000 < (preT c.T0).length ∧ Below w0.heap.size w0 w' ∧ ∀ k, k < w.heap.size → k ≠ c.gm → k ≠ c.fb → w'.heap[k]? = w.heap[k]?) e w' ∨ ∃ v0 v1 v2 v3 v4, e = .returned (.agg #[v0, v1, v2, v3, v4]) ∧ TmC (cutC (fun a => a.block = w.heap.size ∨ w.heap.size + 3 ≤ a.block) w') (.agg #[v0, v1, v2, v3, v4]) c.T0 ∧ Below w0.heap.size w0 w' ∧ (∀ k, k < w.heap.size → k ≠ c.gm → k ≠ c.fb → w'.heap[k]? = w.heap[k]?) ∧ w.heap.size + 3 ≤ w'.heap.size ∧ (preT c.T0).length ≤ 20000 := by
  obtain ⟨g0, g1, g2, hs3, hb3⟩ := three_alloc w (.cells #[u0, u1, u2, u3, u4] 28) (.cells #[.int .u8 0, .string ⟨#[]⟩, .bool false, .slice none 0 0, .slice none 0 0] 28) (.cells #[.int .i64 1] 3)
  rw [← hw1] at g0 g1 g2 hs3 hb3
  obtain ⟨o0, o1, o2, o3, o4⟩ := hu.ones
  have k1 : ∀ k, k < w.heap.size → c.w1.heap[k]? = w.heap[k]? := fun k hk => hb3.block k hk
  have hwk1 : WK c.w1 c.gm (.slice none 0 0) 77 [.int .i64 ((0 : Nat) : Int)] := hwk.to (k1 _ hlt.1)
  obtain ⟨_, p1, _, p2⟩ := wk_parts hwk1
  have HM := Lib.hid (more_ok (w := c.w1) (B := c.gm) (j := 1) (R := w.heap.size + 2) (i := 0) (c := 1) (p := 0) (n := 1) p1 (cell_one0 g2) p2 (by omega))
  obtain ⟨wB, hwB⟩ : ∃ wB, wB = c.w1.setCell ⟨c.gm, 1, none⟩ (.int .i64 (((0 : Nat) : Int) + ((1 : Nat) : Int))) := ⟨_, rfl⟩
  have kB : ∀ k, k ≠ c.gm → wB.heap[k]? = c.w1.heap[k]? := fun k hk => by rw [hwB]; exact Below.heap_setCell _ _ _ _ hk
  have hwkB : WK wB c.gm (.slice none 0 0) 77 [.int .i64 1] := by rw [hwB]; exact wk_count hwk1
  have hsB : wB.heap.size = w.heap.size + 3 := by rw [hwB]; simp; exact hs3
  have hosB : wB.os = w.os ∧ wB.tape = w.tape ∧ wB.output = w.output := by rw [hwB]; exact ⟨hb3.os, hb3.tape, hb3.output⟩
  have HN := Lib.hid (next_any (p := ⟨w.heap.size, 0, none⟩) (F := 56) (fs := #[]) (cs := #[.pointer (some ⟨c.b5, 0, none⟩), .pointer (some ⟨c.b4, 0, none⟩), .pointer (some ⟨c.b10, 0, none⟩), .pointer (some ⟨c.b9, 0, none⟩), .pointer (some ⟨c.b6, 0, none⟩), .pointer (some ⟨c.b7, 0, none⟩)]) (B := c.B) (n := 0) (E := []) (TRow.nil wB c.B) hwkB hc.hi.1 (by omega) (by omega))
  have HH := Lib.hid (show _ ∧ _ ∧ _ ∧ _ ∧ _ ∧ _ ∧ _ ∧ _ ∧ _ ∧ _ ∧ _ from ⟨hc, hroot, hB, hT0, hu, hg, hb, henv, hfb, hfn, hlt⟩)
  have HA := Lib.hid (show _ ∧ _ ∧ _ ∧ _ ∧ _ ∧ _ ∧ _ ∧ _ from ⟨g0, g1, hs3, k1, kB, hsB, hosB, hwB⟩)
  rw [hw1] at HM
  clear g0 g1 g2 hs3 hb3 k1 hwk1 p1 p2 kB hwkB hsB hosB hc hroot hB hT0 hu hg hb henv hfb hfn hlt hwk
  go_enter Tryd.func32, Tryd.ntmps32
  go_wp2_with fail
  refine HM.out.mono ?_
  rintro e w' ⟨⟨u, rfl⟩, hw'⟩
  rw [← hw1, ← hwB] at hw'
  subst hw'
  clear HM hwB
  go_wp2_with fail
  refine HN.out.mono ?_
  rintro e w4 ⟨⟨u2, rfl⟩, v4, r1, r2, r3⟩
  obtain ⟨hc, hroot, hB, hT0, hu, hg, hb, henv, hfb, hfn, hlt⟩ := HH.out
  obtain ⟨g0, g1, hs3, k1, kB, hsB, hosB, _⟩ := HA.out
  have k4 : ∀ k, k < w.heap.size + 3 → k ≠ c.gm → w4.heap[k]? = c.w1.heap[k]? := fun k hk hne => (r3.block k (by omega) hne (by intro e; cases e)).trans (kB k hne)
  have hs4 := r3.size
  have hneE : ∀ k, c.isE k → k ≠ c.gm ∧ k ≠ c.fb := hc.ne.2
  have hM0 := hb.size
  have hQ : PutQ c w0 (turnsLeft c.s [⟨c.root, t, true⟩]) v4 1 (turnsP c.df c.cf [⟨c.root, t, true⟩]) w4 := by
    refine ⟨_, _, 1, put_start hc hroot hT0 ((k4 _ (by omega) (by omega)).trans g0) hu hg (hb.trans ⟨r3.os.trans hosB.1, r3.tape.trans hosB.2.1, r3.output.trans hosB.2.2, by omega, fun k hk => ?_⟩) (by omega) (henv.to fun k hk => ?_) (fcs := fcs) ?_ hfn (by omega) ⟨by omega, by omega, fun e => ?_⟩ (fun k hk h1 _ _ => k4 k (by omega) h1) ?_ r2, rfl, rfl, rfl⟩
    · have := hc.lo.1
      exact (k4 k (by omega) (by omega)).trans (k1 k (by omega))
    · have := hlt.2.2 k hk
      exact (k4 k (by omega) (hneE k hk).1).trans (k1 k this)
    · exact ((k4 _ (by omega) (Ne.symm hc.ne.1)).trans (k1 _ hlt.2.1)).trans hfb
    · have := hlt.2.2 _ e; omega
    · rw [hroot]; exact r1
  have HR := Lib.hid (run_anyT (put_runs hc) hc.hi.1 hQ)
  clear hc hroot hB hT0 hu hg hb henv hfb hfn hlt g0 g1 hs3 k1 kB hsB hosB k4 hs4 hneE hM0 hQ r1 r2 r3 HN
  go_wp2_with fail
  refine HR.out.mono ?_
  rintro e w5 (⟨m, rfl, hz1, hz2, hz3, hz4⟩ | ⟨⟨u3, rfl⟩, k5, v5, p5, X5, parts5, h5, hz5⟩)
  · obtain ⟨hc, hroot, hB, hT0, hu, hg, hb, henv, hfb, hfn, hlt⟩ := HH.out
    obtain ⟨g0, g1, hs3, k1, kB, hsB, hosB, _⟩ := HA.out
    have HE := Lib.hid (show m = 34 ∧ 20000 < (preT c.T0).length ∧ Below w0.heap.size w0 w5 ∧ ∀ k, k < w.heap.size → k ≠ c.gm → k ≠ c.fb → w5.heap[k]? = w.heap[k]? from ⟨hz1, hz2, hz3, fun k hk h1 h2 => (hz4 k (by omega) h1 h2 (by rw [hroot]; show k ≠ w.heap.size; omega)).trans (k1 k hk)⟩)
    clear hc hroot hB hT0 hu hg hb henv hfb hfn hlt g0 g1 hs3 k1 kB hsB hosB HR hw1 hz1 hz2 hz3 hz4 HH HA
    go_wp2
    exact ⟨rfl, Or.inl ⟨m, rfl, HE.out⟩⟩
  have hp5 : p5 = [] := List.length_eq_zero_iff.1 hz5.2.1.symm
  subst hp5
  clear hz5
  obtain ⟨y0, y1, y2, y3, y4, ⟨c0, c1, c2, c3, c4⟩, hmade⟩ := put_end HH.out.1 HH.out.2.1 h5
  obtain ⟨hc, hroot, hB, hT0, hu, hg, hb, henv, hfb, hfn, hlt⟩ := HH.out
  obtain ⟨g0, g1, hs3, k1, kB, hsB, hosB, _⟩ := HA.out
  have b5 : w5.heap[w.heap.size + 1]? = some (.cells #[.int .u8 0, .string ⟨#[]⟩, .bool false, .slice none 0 0, .slice none 0 0] 28 (0, 0)) := (hmade.old _ (by omega) (by omega) (by omega) (by rw [hroot]; show w.heap.size + 1 ≠ w.heap.size; omega)).trans g1
  obtain ⟨d0, d1, d2, d3, d4⟩ := hmade.term.ones
  obtain ⟨x1, x2, x3, x4, x5, e1, e2, e3, e4, e5, hx5⟩ := store5 (P := Tryd.prog) (w := w5) (b := w.heap.size + 1) (o := 0) b5 (by simp) d0 d1 d2 d3 d4
  have q5 : x5.heap[w.heap.size + 1]? = some (.cells #[y0, y1, y2, y3, y4] 28 (0, 0)) := by rw [hx5, put5w_blk b5, set5_all]
  have n5 : ∀ k, k ≠ w.heap.size + 1 → x5.heap[k]? = w5.heap[k]? := fun k hk => by rw [hx5]; exact put5w_off hk
  have o5 : x5.os = w5.os ∧ x5.tape = w5.tape ∧ x5.output = w5.output ∧ x5.heap.size = w5.heap.size := by
    obtain ⟨q1, q2, q3⟩ := put5w_os w5 (w.heap.size + 1) 0 y0 y1 y2 y3 y4
    rw [hx5]; exact ⟨q1, q2, q3, put5w_size⟩
  have c1 : w5.cell? ⟨w.heap.size, 1, none⟩ = some y1 := c1
  have c2 : w5.cell? ⟨w.heap.size, 2, none⟩ = some y2 := c2
  have c3 : w5.cell? ⟨w.heap.size, 3, none⟩ = some y3 := c3
  have c4 : w5.cell? ⟨w.heap.size, 4, none⟩ = some y4 := c4
  have e2 : (store ⟨w.heap.size + 1, 1, none⟩ y1).run Tryd.prog x1 = .ok () x2 := e2
  have e3 : (store ⟨w.heap.size + 1, 2, none⟩ y2).run Tryd.prog x2 = .ok () x3 := e3
  have e4 : (store ⟨w.heap.size + 1, 3, none⟩ y3).run Tryd.prog x3 = .ok () x4 := e4
  have e5 : (store ⟨w.heap.size + 1, 4, none⟩ y4).run Tryd.prog x4 = .ok () x5 := e5
  have hM0 := hb.size
  have HE := Lib.hid (show TmC (cutC (fun a => a.block = w.heap.size ∨ w.heap.size + 3 ≤ a.block) x5) (.agg #[y0, y1, y2, y3, y4]) c.T0 ∧ Below w0.heap.size w0 x5 ∧ (∀ k, k < w.heap.size → k ≠ c.gm → k ≠ c.fb → x5.heap[k]? = w.heap[k]?) ∧ w.heap.size + 3 ≤ x5.heap.size ∧ (preT c.T0).length ≤ 20000 from by
    refine ⟨hmade.term.mono fun a u hu => ?_, hmade.below.trans ⟨o5.1, o5.2.1, o5.2.2.1, Nat.le_of_eq o5.2.2.2.symm, fun k hk => n5 k (by omega)⟩, fun k hk h1 h2 => ?_, ?_, hmade.fits⟩
    · obtain ⟨hF, hu⟩ := cutC_some.1 hu
      rw [hroot, hB] at hF
      have hF : a.block = w.heap.size ∨ w.heap.size + 3 ≤ a.block := hF
      exact cutC_some.2 ⟨hF, (cell_congr (n5 _ (by omega))).trans hu⟩
    · exact ((n5 k (by omega)).trans (hmade.old k (by omega) h1 h2 (by rw [hroot]; show k ≠ w.heap.size; omega))).trans (k1 k hk)
    · have := hmade.size; omega)
  have t0 : x5.cell? ⟨w.heap.size + 1, 0, none⟩ = some y0 := cell_blk q5
  have t1 : x5.cell? ⟨w.heap.size + 1, 1, none⟩ = some y1 := cell_blk q5
  have t2 : x5.cell? ⟨w.heap.size + 1, 2, none⟩ = some y2 := cell_blk q5
  have t3 : x5.cell? ⟨w.heap.size + 1, 3, none⟩ = some y3 := cell_blk q5
  have t4 : x5.cell? ⟨w.heap.size + 1, 4, none⟩ = some y4 := cell_blk q5
  clear hc hroot hB hT0 hu hg hb henv hfb hfn hlt g0 g1 hs3 k1 kB hsB hosB hM0 hmade h5 b5 hx5 q5 n5 o5 HR hw1
  go_wp2
  exact bodyPost_ret (v := .agg #[y0, y1, y2, y3, y4]) (by simp [results, Tryd.results32, go_sem, t0, t1, t2, t3, t4]) rfl (Or.inr ⟨_, _, _, _, _, rfl, HE.out⟩)
end Go.Proofs.YtdkgpnkcdnfniaaDoor

namespace Go.Proofs.YtdkgpnkcdnfniaaDoor
open Go.RowKit

theorem info_ptr : (Tryd.prog.info? 53).map (fun i => (i.zero, i.size, i.bytes)) = some (some (.pointer none), 1, 8) := by kernel_rfl
/-- What put leaves: its boxes lie at b, b + 1, .. -/
structure PutBox (w : World) (gm mb : Nat) (Kt : Option Addr) (nt ct2 : Nat) (cf : Value) (w' : World) (b4 b5 b6 b7 b9 b10 fb ct : Nat) (fcs : Array Value) : Prop where
  below : Below w.heap.size w w'
  le : w.heap.size ≤ b4 ∧ w.heap.size ≤ b5 ∧ w.heap.size ≤ b6 ∧ w.heap.size ≤ b7 ∧ w.heap.size ≤ b9 ∧ w.heap.size ≤ b10 ∧ w.heap.size ≤ fb
  ne : fb ≠ b4 ∧ fb ≠ b5 ∧ fb ≠ b6 ∧ fb ≠ b7 ∧ fb ≠ b9 ∧ fb ≠ b10
  e5 : w'.heap[b5]? = some (.cells #[.map (some mb)] 80 (0, 0))
  e4 : w'.heap[b4]? = some (.cells #[.pointer (some ⟨gm, 0, none⟩)] 99 (0, 0))
  e10 : w'.heap[b10]? = some (.cells #[.func (.func 56) #[] #[.pointer (some ⟨b5, 0, none⟩), .pointer (some ⟨b4, 0, none⟩), .pointer (some ⟨b10, 0, none⟩), .pointer (some ⟨b9, 0, none⟩), .pointer (some ⟨b6, 0, none⟩), .pointer (some ⟨b7, 0, none⟩)] ] 55 (0, 0))
  e9 : w'.heap[b9]? = some (.cells #[.slice (some ⟨fb, 0, none⟩) nt ct] 102 (0, 0))
  e6 : w'.heap[b6]? = some (.cells #[.slice Kt nt ct2] 26 (0, 0))
  e7 : w'.heap[b7]? = some (.cells #[cf] 55 (0, 0))
  ef : w'.heap[fb]? = some (.cells fcs 53 (0, 0))
  nil : ∀ i, i < nt → fcs[i]? = some (.pointer none)
theorem two_allocK (w : World) (o0 o1 : Obj) : ((w.alloc o0).alloc o1).heap[w.heap.size]? = some o0 ∧ ((w.alloc o0).alloc o1).heap[w.heap.size + 1]? = some o1 ∧ ((w.alloc o0).alloc o1).heap.size = w.heap.size + 2 ∧ Below w.heap.size w ((w.alloc o0).alloc o1) := by
  have s1 : (w.alloc o0).heap.size = w.heap.size + 1 := World.size_alloc ..
  have a0 : (w.alloc o0).heap[w.heap.size]? = some o0 := heap_alloc_new w _
  have a1 : ((w.alloc o0).alloc o1).heap[w.heap.size + 1]? = some o1 := by rw [← s1]; exact heap_alloc_new _ _
  exact ⟨(Below.heap_alloc _ _ _ (by omega)).trans a0, a1, by rw [World.size_alloc, s1], ((Below.refl _ _).alloc (Nat.le_refl _) _).alloc (by omega) _⟩
theorem four_alloc (w : World) (o0 o1 o2 o3 : Obj) : ((((w.alloc o0).alloc o1).alloc o2).alloc o3).heap[w.heap.size]? = some o0 ∧ ((((w.alloc o0).alloc o1).alloc o2).alloc o3).heap[w.heap.size + 1]? = some o1 ∧ ((((w.alloc o0).alloc o1).alloc o2).alloc o3).heap[w.heap.size + 1 + 1]? = some o2 ∧ ((((w.alloc o0).alloc o1).alloc o2).alloc o3).heap[w.heap.size + 1 + 1 + 1]? = some o3 ∧ ((((w.alloc o0).alloc o1).alloc o2).alloc o3).heap.size = w.heap.size + 4 ∧ Below w.heap.size w ((((w.alloc o0).alloc o1).alloc o2).alloc o3) := by
  obtain ⟨a0, a1, a2, s3, ab⟩ := three_alloc w o0 o1 o2
  have a3 : ((((w.alloc o0).alloc o1).alloc o2).alloc o3).heap[w.heap.size + 3]? = some o3 := by rw [← s3]; exact heap_alloc_new _ _
  exact ⟨(Below.heap_alloc _ _ _ (by omega)).trans a0, (Below.heap_alloc _ _ _ (by omega)).trans a1, (Below.heap_alloc _ _ _ (by omega)).trans a2, a3, by rw [World.size_alloc, s3], ab.alloc (by omega) _⟩
theorem made_ptrs {w : World} {B g n cap : Nat} (h : w.ownsRow B 53 1 (.slice (some ⟨g, 0, none⟩) n cap) n (madeCells #[.pointer none] n).toList) : ∃ zs, w.heap[g]? = some (.cells zs 53 (0, 0)) ∧ ∀ i, i < n → zs[i]? = some (.pointer none) := by
  rcases h.2 with ⟨e, _⟩ | ⟨g', cap', cur, e, _, hg, _, _, hsz, htk⟩
  · cases e
  · simp only [Value.slice.injEq, Option.some.injEq, Addr.mk.injEq, and_true, true_and] at e
    obtain ⟨rfl, rfl⟩ := e
    refine ⟨cur, hg, fun i hi => ?_⟩
    have h1 : (cur.toList.take (n * 1))[i]? = cur[i]? := by
      rw [List.getElem?_take, if_pos (by omega), Array.getElem?_toList]
    rw [← h1, htk, Array.getElem?_toList]
    unfold madeCells
    rw [Array.getElem?_map, Array.getElem?_eq_getElem (by simp; omega)]
    simp [Nat.mod_one]
set_option maxRecDepth 100000 in
set_option maxHeartbeats 6400000 in
theorem put_ok {w : World} {gm mb nt ct2 : Nat} {Kt : Option Addr} {F : FuncId} {fs cf : Array Value} (hn : nt ≤ 1000000) :
    Calls Tryd.prog 33 #[.pointer (some ⟨gm, 0, none⟩), .map (some mb), .slice Kt nt ct2, .func (.func F) fs cf] w fun e w' => ∃ b4 b5 b6 b7 b9 b10 fb ct fcs, e = .returned (.func (.func 56) #[] #[.pointer (some ⟨b5, 0, none⟩), .pointer (some ⟨b4, 0, none⟩), .pointer (some ⟨b10, 0, none⟩), .pointer (some ⟨b9, 0, none⟩), .pointer (some ⟨b6, 0, none⟩), .pointer (some ⟨b7, 0, none⟩)]) ∧ PutBox w gm mb Kt nt ct2 (.func (.func F) fs cf) w' b4 b5 b6 b7 b9 b10 fb ct fcs := by
  obtain ⟨i0, hi, hz0, hz1, hz2⟩ := info_parts info_ptr
  have hmf : ∀ (fn : Fn) (first cap : Array Value) (w : World), (Instr.makeFunc fn first cap).run Tryd.prog w = .ok (.func fn first cap) w := fun _ _ _ _ => rfl
  go_enter Tryd.func33, Tryd.ntmps33
  go_wp2_with (at_make; refine wpList_make_full _ rfl _ _ 102 rfl w.heap.size 53 i0 (.pointer none) 1 Tryd.underlying102 hi hz0 hz1 .i64 .i64 nt nt nt rfl rfl rfl rfl ?b2 ?b3 ?b4 ?_)
  case b2 => rw [hz2]; omega
  case b3 => unfold maxLen; omega
  case b4 => simp; omega
  intro w1 hown hgrow
  obtain ⟨fcs, hf, hfn⟩ := made_ptrs hown
  obtain ⟨g0, g1, g2, g3, gs, gb⟩ := four_alloc w (.cells #[.pointer (some ⟨gm, 0, none⟩)] 99) (.cells #[.map (some mb)] 80) (.cells #[.slice Kt nt ct2] 26) (.cells #[.func (.func F) fs cf] 55)
  have k1 : ∀ k, k < w.heap.size + 4 → w1.heap[k]? = ((((w.alloc (.cells #[.pointer (some ⟨gm, 0, none⟩)] 99)).alloc (.cells #[.map (some mb)] 80)).alloc (.cells #[.slice Kt nt ct2] 26)).alloc (.cells #[.func (.func F) fs cf] 55)).heap[k]? := fun k hk => hgrow.block k (by rw [gs]; exact hk) (fun e => by cases e)
  have HA := Lib.hid (show _ ∧ _ ∧ _ ∧ _ ∧ _ ∧ _ ∧ _ ∧ _ from ⟨hf, hfn, (k1 _ (by omega)).trans g0, (k1 _ (by omega)).trans g1, (k1 _ (by omega)).trans g2, (k1 _ (by omega)).trans g3, (gb.trans ⟨hgrow.os, hgrow.tape, hgrow.output, hgrow.size, fun k hk => hgrow.block k (by rw [gs]; omega) (fun e => by cases e)⟩ : Below w.heap.size w w1), Own.lt.cell_lt' hf⟩)
  clear hf hfn g0 g1 g2 g3 gs gb k1 hown hgrow
  go_wp2
  go_returns
  obtain ⟨hf, hfn, g0, g1, g2, g3, gb, hl⟩ := HA.out
  obtain ⟨a0, a1, asz, ab⟩ := two_allocK w1 (.cells #[.slice (some ⟨w.heap.size + 1 + 1 + 1 + 1, 0, none⟩) nt nt] 102) (.cells #[.func (.func 56) #[] #[.pointer (some ⟨w.heap.size + 1, 0, none⟩), .pointer (some ⟨w.heap.size, 0, none⟩), .pointer (some ⟨w1.heap.size + 1, 0, none⟩), .pointer (some ⟨w1.heap.size, 0, none⟩), .pointer (some ⟨w.heap.size + 1 + 1, 0, none⟩), .pointer (some ⟨w.heap.size + 1 + 1 + 1, 0, none⟩)] ] 55)
  refine ⟨w.heap.size, w.heap.size + 1, w.heap.size + 1 + 1, w.heap.size + 1 + 1 + 1, w1.heap.size, w1.heap.size + 1, w.heap.size + 1 + 1 + 1 + 1, nt, fcs, rfl, ⟨gb.trans (ab.mono (by omega)), ⟨by omega, by omega, by omega, by omega, by omega, by omega, by omega⟩, ⟨by omega, by omega, by omega, by omega, by omega, by omega⟩, (ab.block _ (by omega)).trans g1, (ab.block _ (by omega)).trans g0, a1, a0, (ab.block _ (by omega)).trans g2, (ab.block _ (by omega)).trans g3, (ab.block _ hl).trans hf, hfn⟩⟩
end Go.Proofs.YtdkgpnkcdnfniaaDoor

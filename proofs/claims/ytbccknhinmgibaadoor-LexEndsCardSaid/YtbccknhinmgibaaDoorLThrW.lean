/- Package lex's through: trees are gone through in the order of their text, whatever is to be done. Premises: what is done writes into blocks of its own alone; at most 10^9 trees. -/
import Derived.Test.YtbccknhinmgibaaDoorLThr
import Derived.Laws.EntriesVeiled
import Derived.Shelf.Abstract
import Derived.Outline
set_option linter.unusedVariables false
set_option linter.unusedSimpArgs false
namespace Go.Proofs.YtbccknhinmgibaaDoor
open Go.RowKit

theorem info_trees : (Tryd.prog.info? 27).map (fun i => (i.zero, i.size, i.bytes)) = some (some (.slice none 0 0), 1, 24) := by kernel_rfl
/-- The first tree of the innermost row is taken. -/
theorem ThrS.take {T : TypeId} {P : Program} {R : List Ev → (Nat → Prop) → World → Prop} {wb W : World} {B most n ga cap : Nat} {all m1 : List Ev} {v0 vr : Value} {g r : Fo} {st : List (Value × Fo)} {fun_ : Ev → Fun} {ok : List Ev → Prop} {o : Obj} (hA : Acts P fun_ ok R) (h : ThrS P T R wb B all most W (.slice (some ⟨ga, 0, none⟩) (n + 1) cap) ((v0, g) :: st) [] []) (hn : n = st.length) (hr : IsFo wb vr r) (he : evs g = m1 ++ evs r) (hnd : r.nodes ≤ g.nodes) :
    ThrS P T R wb B all most ((W.setCell ⟨ga, n, none⟩ vr).alloc o) (.slice (some ⟨ga, 0, none⟩) (n + 1) cap) ((vr, r) :: st) m1 [W.heap.size] := by
  have hz : (W.setCell ⟨ga, n, none⟩ vr).heap.size = W.heap.size := by simp
  have hl : ((v0, g) :: st).length = n + 1 := by simp [hn]
  have ho := h.own
  rw [hl] at ho
  have hs := (World.ownsRow.stored ho n vr).1
  have hrs : (((v0, g) :: st).map (·.1)).reverse.set n vr = (((vr, r) :: st).map (·.1)).reverse := by
    rw [List.map_cons, List.map_cons, hn, show st.length = (st.map (·.1)).length by simp]
    exact rev_set _ _ _
  rw [hrs] at hs
  refine h.own_ hA (by rw [show ((vr, r) :: st).length = n + 1 by simp [hn]]; exact hs.alloc o) (fun q hq => ?_) (fun m hm hne => ?_) (by rw [World.size_alloc, hz]; omega) ⟨rfl, rfl, rfl⟩ (.inl rfl) ?_ ?_ (fun m hm => ?_)
  · rcases List.mem_cons.1 hq with rfl | hq
    · exact hr
    · exact h.forest q (List.mem_cons_of_mem _ hq)
  · rw [Below.heap_alloc _ _ _ (by rw [hz]; exact hm)]
    exact Below.heap_setCell _ _ _ _ fun e => hne (by rw [e]; rfl)
  · exact pend_head he
  · have := h.few; simp only [List.length_cons, nodesL] at this ⊢; omega
  · obtain rfl := List.mem_singleton.1 hm
    rw [World.size_alloc, hz]; omega
theorem one_slice (A : Option Addr) (n c : Nat) : ∀ u ∈ [Value.slice A n c], u.oneCell' = true := fun u hu => by rw [List.mem_singleton.1 hu]; rfl
theorem cell_one_new (w : World) (v : Value) (T : TypeId) : ∀ j u, [v][j]? = some u → (w.alloc (.cells #[v] T)).cell? ((⟨w.heap.size, 0, none⟩ : Addr).add j) = some u := one_news rfl
/-- A row more is gone into. -/
theorem ThrS.pushed {T : TypeId} {P : Program} {R : List Ev → (Nat → Prop) → World → Prop} {wb w2 w4 : World} {B most n ga cap g4 c4 cA : Nat} {all : List Ev} {vr : Value} {A : Option Addr} {k r : Fo} {st : List (Value × Fo)} {fun_ : Ev → Fun} {ok : List Ev → Prop} {o : Obj} (hA : Acts P fun_ ok R) (h : ThrS P T R wb B all most w2 (.slice (some ⟨ga, 0, none⟩) (n + 1) cap) ((vr, r) :: st) (evs k ++ [.closes]) []) (hn : n = st.length) (hk : IsFo wb (.slice A k.len cA) k)
    (r4 : w4.ownsRow B T 1 (.slice (some ⟨g4, 0, none⟩) (n + 1 + 1) c4) (n + 1 + 1) ((st.map (·.1)).reverse ++ [vr, .slice A k.len cA])) (q4 : (w2.alloc o).grownBy w4 (Value.slice (some ⟨ga, 0, none⟩) (n + 1) cap).ownBlock) (o4 : (Value.slice (some ⟨ga, 0, none⟩) (n + 1) cap).ownBlock = some g4 ∨ g4 = w2.heap.size + 1) (hm : ((.slice A k.len cA, k) :: (vr, r) :: st).length + nodesL ((.slice A k.len cA, k) :: (vr, r) :: st) ≤ most) :
    ThrS P T R wb B all most w4 (.slice (some ⟨g4, 0, none⟩) (n + 1 + 1) c4) ((.slice A k.len cA, k) :: (vr, r) :: st) [] [] := by
  have hz : (w2.alloc o).heap.size = w2.heap.size + 1 := World.size_alloc ..
  have hs := q4.size
  refine h.own_ hA (W1 := w4) (v1 := .slice (some ⟨g4, 0, none⟩) (n + 1 + 1) c4) (st1 := (.slice A k.len cA, k) :: (vr, r) :: st) (m1 := []) (fr1 := []) ?_ (fun q hq => ?_) (fun m hm' hne => ?_) (by omega) ⟨q4.os, q4.tape, q4.output⟩ ?_ ?_ hm (fun m hm' => by cases hm')
  · rw [show ((Value.slice A k.len cA, k) :: (vr, r) :: st).length = n + 1 + 1 by simp [hn], show (((Value.slice A k.len cA, k) :: (vr, r) :: st).map (·.1)).reverse = (st.map (·.1)).reverse ++ [vr, .slice A k.len cA] by simp]
    exact r4
  · rcases List.mem_cons.1 hq with rfl | hq
    · exact hk
    · exact h.forest q hq
  · exact (q4.block m (by omega) fun e => hne e.symm).trans (Below.heap_alloc _ _ _ hm')
  · rcases o4 with e | e
    · exact .inl e.symm
    · exact .inr ⟨g4, rfl, by omega⟩
  · rw [pend_cons (q := (Value.slice A k.len cA, k)) (r := (vr, r) :: st) (by simp)]
    simp
set_option maxRecDepth 100000 in
set_option maxHeartbeats 6400000 in
theorem through_ok {fun_ : Ev → Fun} {ok : List Ev → Prop} {R : List Ev → (Nat → Prop) → World → Prop} {fb fw fe : Fun} (hA : Acts Tryd.prog fun_ ok R) (hfb : fun_ .opens = fb) (hfw : ∀ s, fun_ (.word s) = fw) (hfe : fun_ .closes = fe) {wb w : World} {K : Option Addr} {c : Nat} {f : Fo} (hf : IsFo wb (.slice K f.len c) f) (hb : Below wb.heap.size wb w) {X : Nat → Prop} (hr : R [] X w) (hX : ∀ m, X m → wb.heap.size ≤ m) (hok : ∀ d r, d ++ r = evs f → ok d) (hn : f.nodes ≤ 1000000000) :
    Calls Tryd.prog 26 #[.slice K f.len c, fb.val, fw.val, fe.val] w fun e w' => (∃ u, e = .returned u) ∧ Below wb.heap.size wb w' ∧ ∃ X', R (evs f) X' w' ∧ (∀ m, X' m → wb.heap.size ≤ m) := by
  have HH := Lib.hid (show _ ∧ _ ∧ _ ∧ _ ∧ _ from ⟨hf, hb, hr, hX, hok⟩)
  have HA := Lib.hid hA
  have HF := Lib.hid (show _ ∧ _ ∧ _ from ⟨hfb, hfw, hfe⟩)
  clear hf hb hr hX hok hA hfb hfw hfe
  obtain ⟨Fb, sb, cb⟩ := fb
  obtain ⟨Fw, sw, cw⟩ := fw
  obtain ⟨Fe, se, ce⟩ := fe
  unfold Fun.val
  simp only
  obtain ⟨i0, hin, hz0, hz1, hz2⟩ := info_parts info_trees
  go_enter Tryd.func26, Tryd.ntmps26
  go_wp2
  obtain ⟨w1, hw1⟩ : ∃ w1, w1 = w.alloc (.cells #[.slice K f.len c] 27) := ⟨_, rfl⟩
  have H0 := Lib.hid (show ThrS Tryd.prog 27 R wb w.heap.size (evs f) (f.nodes + 1) w1 (.slice (some ⟨w.heap.size, 0, none⟩) 1 1) [(.slice K f.len c, f)] [] [] from by
    obtain ⟨hf, hb, hr, hX, hok⟩ := HH.out
    have hb1 : Below w.heap.size w w1 := by rw [hw1]; exact (Below.refl _ _).alloc (Nat.le_refl _) _
    refine ⟨hb.trans (hb1.mono hb.size), ?_, fun q hq => ?_, ⟨[], X, HA.out.stay hr fun m hm => hb1.block m (HA.out.low hr m hm), hX, fun m hm h => ?_, rfl, fun m hm => by cases hm⟩, by simp [nodesL]; omega, hb.size, hb1.size⟩
    · rw [hw1]; exact World.ownsRow_lit w _ 1 (Nat.le_refl _) (by unfold maxLen; omega) rfl
    · obtain rfl := List.mem_singleton.1 hq
      exact hf
    · obtain rfl : w.heap.size = m := by injection hm
      have := HA.out.low hr _ h
      omega)
  rw [← hw1]
  clear hw1
  go_loopg [8] (evs f).length (fun k v wr => ∃ st, Hid (st ≠ [] ∧ k = (pend st).length ∧ ThrS Tryd.prog 27 R wb w.heap.size (evs f) (f.nodes + 1) wr v st [] []))
  case atStart => exact ⟨_, Lib.hid ⟨by simp, rfl, H0.out⟩⟩
  case round =>
    obtain ⟨st, HR⟩ := hrel
    obtain ⟨hne, hk, hs⟩ := HR.out
    cases st with
    | nil => exact absurd rfl hne
    | cons q st =>
      obtain ⟨v0, g⟩ := q
      obtain ⟨ga, cap, rfl, hBa, hga⟩ := hs.own.form (Nat.succ_pos _)
      have hfew := hs.few
      have mq := World.ownsRow.cellAt hs.own st.length (by simp)
      have hrev := rev_get v0 (st.map (·.1))
      rw [List.length_map] at hrev
      rw [show (((v0, g) :: st).map (·.1)).reverse[st.length]? = some v0 from hrev] at mq
      have fq := World.ownsRow.frozenAt hs.own st.length
      obtain ⟨n, hn⟩ : ∃ n, n = st.length := ⟨_, rfl⟩
      have hlen : ((v0, g) :: st).length = n + 1 := by simp [hn]
      rw [hlen]
      rw [← hn] at mq fq
      have hn9 : n ≤ 1000000000 := by simp at hfew; omega
      have hq := hs.forest _ (List.mem_cons_self ..)
      cases g with
      | nil =>
        obtain ⟨K0, c0, hv0, _, _, _, _⟩ := hq
        have hv0 : v0 = .slice K0 0 c0 := hv0
        subst hv0
        by_cases h0 : n = 0
        · have hst0 : st = [] := List.eq_nil_of_length_eq_zero (by omega)
          subst hst0
          obtain ⟨d, X', hr, hX, hv, hd, _⟩ := hs.acts
          have hde : d = evs f := by rw [← hd]; simp [pend, evs]
          have HE := Lib.hid (show Below wb.heap.size wb wr ∧ ∃ X', R (evs f) X' wr ∧ (∀ m, X' m → wb.heap.size ≤ m) from ⟨hs.below, X', by rw [← hde]; exact hr, hX⟩)
          subst h0
          clear hs hk HR hr hX hv hd hde hn hlen hrev hfew hne HH HA HF H0
          go_wp2
          go_returns
          exact ⟨⟨_, rfl⟩, HE.out⟩
        · have hst : st ≠ [] := fun e => h0 (by rw [hn, e]; rfl)
          have b0 : decide (0 < n) = true := decide_eq_true (by omega)
          have x1 : (0 : Int) < (n : Int) := by omega
          have hcap : n + 1 ≤ cap := by
            rcases hs.own.2 with ⟨e, _⟩ | ⟨g', cap', cur, e, _, _, h5, _⟩
            · cases e
            · injection e with _ _ e3; subst e3; rw [← hlen]; exact h5
          have hp0 : pend ((.slice K0 0 c0, .nil) :: st) = [.closes] ++ pend st := by rw [pend_cons hst]; rfl
          have hs1 := hs.own_ HA.out (W1 := wr) (v1 := .slice (some ⟨ga, 0, none⟩) n cap) (st1 := st) (m1 := [.closes]) (fr1 := []) (by
              have := ownsRow_cut (k := st.length) hs.own (by simp)
              rw [Nat.mul_one, List.map_cons, show st.length = (st.map (·.1)).length by simp, rev_take] at this
              rw [List.length_map] at this
              rw [hn]; exact this) (fun q hq => hs.forest q (List.mem_cons_of_mem _ hq)) (fun _ _ _ => rfl) (Nat.le_refl _) ⟨rfl, rfl, rfl⟩ (.inl rfl) hp0 (by have := hs.few; simp only [List.length_cons, nodesL] at this; omega) (fun m hm => by cases hm)
          have hc := hs1.step (ev := .closes) HA.out HH.out.2.2.2.2
          rw [HF.out.2.2] at hc
          have HC := Lib.hid (show Calls Tryd.prog Fe (se ++ ce) wr fun e w' => (∃ u, e = .returned u) ∧ ThrS Tryd.prog 27 R wb w.heap.size (evs f) (f.nodes + 1) w' (.slice (some ⟨ga, 0, none⟩) n cap) st [] [] from by
            have h2 : se ++ Ev.closes.args ++ ce = se ++ ce := by simp [Ev.args]
            have hc : Calls Tryd.prog Fe (se ++ Ev.closes.args ++ ce) wr _ := hc
            rw [h2] at hc
            exact hc.mono fun e w' h => ⟨h.1, h.2.1⟩)
          have HK := Lib.hid (show (pend st).length < gk from by rw [hk, hp0]; simp)
          have enters : ∀ args w, (callFunc Fe args).run Tryd.prog w = .ok (.enter Fe args) w := fun args w => by
            have := HA.out.enters .closes args w
            rw [HF.out.2.2] at this
            exact this
          have HST := Lib.hid hst
          clear hs hk HR hs1 hc hp0 hn hlen hrev hfew hne hst h0 H0
          go_wp2_with fail
          refine HC.out.mono ?_
          rintro e w2 ⟨⟨u, rfl⟩, hs2⟩
          have HS2 := Lib.hid hs2
          clear hs2
          go_wp2
          go_roundg (pend st).length
          case rel => exact ⟨st, Lib.hid ⟨HST.out, rfl, HS2.out⟩⟩
          case measure => exact HK.out
      | cons s k b p r =>
        obtain ⟨gb, o, c1, A, cA, hv0, hc1, hcm, hrl, hsz, hh⟩ := hq.head
        have hv0 : v0 = .slice (some ⟨gb, o, none⟩) (r.len + 1) c1 := hv0
        subst hv0
        obtain ⟨L, hL⟩ : ∃ L, L = r.len := ⟨_, rfl⟩
        obtain ⟨C, hC⟩ : ∃ C, c1 = C + 1 := ⟨c1 - 1, by omega⟩
        subst hC
        have q0 := (hs.below.cell (cell_lt hh.c0)).trans hh.c0
        have q1 := (hs.below.cell (cell_lt hh.c1)).trans hh.c1
        have q2 := (hs.below.cell (cell_lt hh.c2)).trans hh.c2
        have q3 := (hs.below.cell (cell_lt hh.c3)).trans hh.c3
        rw [← hL] at mq hc1 hrl
        have y1 : (0 : Int) < (L : Int) + 1 := by omega
        unfold maxLen at hcm
        rw [show ((Value.slice (some ⟨gb, o, none⟩) (r.len + 1) (C + 1), Fo.cons s k b p r) :: st).length = n + 1 from hlen] at hs
        have HG := Lib.hid (show _ ∧ _ ∧ _ ∧ _ ∧ _ from ⟨hs, hk, hn, hh, hL⟩)
        have HSZ := Lib.hid hsz
        clear hs hk hn hh hL hsz hlen hrev hne HR H0 hq hfew
        cases b with
        | false =>
          by_cases hC0 : C = 0
          · subst hC0
            obtain rfl : L = 0 := by omega
            have hs1 := HG.out.1.take (n := n) (vr := .slice (some ⟨gb, o, none⟩) 0 0) (r := r) (m1 := [.word s]) (o := .cells #[.string s, .slice A k.len cA, .bool false, .int .i64 p] 35) HA.out HG.out.2.2.1 (HG.out.2.2.2.1.rest _ (.inr ⟨rfl, _, by rw [HG.out.2.2.2.2]; rfl⟩)) rfl (by simp only [Fo.nodes]; omega)
            have hc := hs1.step (ev := .word s) HA.out HH.out.2.2.2.2
            rw [HF.out.2.1] at hc
            have HC := Lib.hid (show Calls Tryd.prog Fw (sw.push (.string s) ++ cw) _ fun e w' => (∃ u, e = .returned u) ∧ ThrS Tryd.prog 27 R wb w.heap.size (evs f) (f.nodes + 1) w' (.slice (some ⟨ga, 0, none⟩) (n + 1) cap) ((.slice (some ⟨gb, o, none⟩) 0 0, r) :: st) [] [] from by
              have h2 : sw ++ (Ev.word s).args ++ cw = sw.push (.string s) ++ cw := by simp [Ev.args]
              have hc : Calls Tryd.prog Fw (sw ++ (Ev.word s).args ++ cw) _ _ := hc
              rw [h2] at hc
              exact hc.mono fun e w' h => ⟨h.1, h.2.1⟩)
            have HK := Lib.hid (show (pend ((.slice (some ⟨gb, o, none⟩) 0 0, r) :: st)).length < gk from by
              rw [HG.out.2.1, show pend (_ :: st) = [.word s] ++ pend ((.slice (some ⟨gb, o, none⟩) 0 0, r) :: st) from pend_head (q := (_, Fo.cons s k false p r)) rfl]
              simp)
            have enters : ∀ args w, (callFunc Fw args).run Tryd.prog w = .ok (.enter Fw args) w := fun args w => by
              have := HA.out.enters (.word s) args w
              rw [HF.out.2.1] at this
              exact this
            clear hs1 hc
            go_wp2_with fail
            refine HC.out.mono ?_
            rintro e w2 ⟨⟨u, rfl⟩, hs2⟩
            have HS2 := Lib.hid hs2
            clear hs2
            go_wp2
            go_roundg (pend ((.slice (some ⟨gb, o, none⟩) 0 0, r) :: st)).length
            case rel => exact ⟨(.slice (some ⟨gb, o, none⟩) 0 0, r) :: st, Lib.hid ⟨by simp, rfl, HS2.out⟩⟩
            case measure => exact HK.out
          · have HC0 := Lib.hid hC0
            have hs1 := HG.out.1.take (n := n) (vr := .slice (some ⟨gb, o + 4, none⟩) L C) (r := r) (m1 := [.word s]) (o := .cells #[.string s, .slice A k.len cA, .bool false, .int .i64 p] 35) HA.out HG.out.2.2.1 (HG.out.2.2.2.1.rest _ (.inl (by rw [HG.out.2.2.2.2]; rfl))) rfl (by simp only [Fo.nodes]; omega)
            have hc := hs1.step (ev := .word s) HA.out HH.out.2.2.2.2
            rw [HF.out.2.1] at hc
            have HC := Lib.hid (show Calls Tryd.prog Fw (sw.push (.string s) ++ cw) _ fun e w' => (∃ u, e = .returned u) ∧ ThrS Tryd.prog 27 R wb w.heap.size (evs f) (f.nodes + 1) w' (.slice (some ⟨ga, 0, none⟩) (n + 1) cap) ((.slice (some ⟨gb, o + 4, none⟩) L C, r) :: st) [] [] from by
              have h2 : sw ++ (Ev.word s).args ++ cw = sw.push (.string s) ++ cw := by simp [Ev.args]
              have hc : Calls Tryd.prog Fw (sw ++ (Ev.word s).args ++ cw) _ _ := hc
              rw [h2] at hc
              exact hc.mono fun e w' h => ⟨h.1, h.2.1⟩)
            have HK := Lib.hid (show (pend ((.slice (some ⟨gb, o + 4, none⟩) L C, r) :: st)).length < gk from by
              rw [HG.out.2.1, show pend (_ :: st) = [.word s] ++ pend ((.slice (some ⟨gb, o + 4, none⟩) L C, r) :: st) from pend_head (q := (_, Fo.cons s k false p r)) rfl]
              simp)
            have enters : ∀ args w, (callFunc Fw args).run Tryd.prog w = .ok (.enter Fw args) w := fun args w => by
              have := HA.out.enters (.word s) args w
              rw [HF.out.2.1] at this
              exact this
            clear hs1 hc
            go_wp2_with fail
            refine HC.out.mono ?_
            rintro e w2 ⟨⟨u, rfl⟩, hs2⟩
            have HS2 := Lib.hid hs2
            clear hs2
            go_wp2
            go_roundg (pend ((.slice (some ⟨gb, o + 4, none⟩) L C, r) :: st)).length
            case rel => exact ⟨(.slice (some ⟨gb, o + 4, none⟩) L C, r) :: st, Lib.hid ⟨by simp, rfl, HS2.out⟩⟩
            case measure => exact HK.out
        | true =>
          by_cases hC0 : C = 0
          · subst hC0
            obtain rfl : L = 0 := by omega
            have hs1 := HG.out.1.take (n := n) (vr := .slice (some ⟨gb, o, none⟩) 0 0) (r := r) (m1 := .opens :: (evs k ++ [.closes])) (o := .cells #[.string s, .slice A k.len cA, .bool true, .int .i64 p] 35) HA.out HG.out.2.2.1 (HG.out.2.2.2.1.rest _ (.inr ⟨rfl, _, by rw [HG.out.2.2.2.2]; rfl⟩)) rfl (by simp only [Fo.nodes]; omega)
            have hbt : ((wr.setCell ⟨ga, n, none⟩ (.slice (some ⟨gb, o, none⟩) 0 0)).alloc (.cells #[.string s, .slice A k.len cA, .bool true, .int .i64 p] 35)).heap[wr.heap.size]? = some (.cells #[.string s, .slice A k.len cA, .bool true, .int .i64 p] 35 (0, 0)) := by
              have := heap_alloc_new (wr.setCell ⟨ga, n, none⟩ (.slice (some ⟨gb, o, none⟩) 0 0)) (.cells #[.string s, .slice A k.len cA, .bool true, .int .i64 p] 35)
              rw [World.size_setCell] at this; exact this
            have hc := hs1.step (ev := .opens) HA.out HH.out.2.2.2.2
            rw [HF.out.1] at hc
            have HC := Lib.hid (show Calls Tryd.prog Fb (sb ++ cb) _ fun e w' => (∃ u, e = .returned u) ∧ ThrS Tryd.prog 27 R wb w.heap.size (evs f) (f.nodes + 1) w' (.slice (some ⟨ga, 0, none⟩) (n + 1) cap) ((.slice (some ⟨gb, o, none⟩) 0 0, r) :: st) (evs k ++ [.closes]) [] ∧ w'.heap[wr.heap.size]? = some (.cells #[.string s, .slice A k.len cA, .bool true, .int .i64 p] 35 (0, 0)) from by
              have h2 : sb ++ Ev.opens.args ++ cb = sb ++ cb := by simp [Ev.args]
              have hc : Calls Tryd.prog Fb (sb ++ Ev.opens.args ++ cb) _ _ := hc
              rw [h2] at hc
              exact hc.mono fun e w' h => ⟨h.1, h.2.1, (h.2.2 _ (List.mem_singleton.2 rfl)).trans hbt⟩)
            have HK := Lib.hid (show (pend ((.slice A k.len cA, k) :: (.slice (some ⟨gb, o, none⟩) 0 0, r) :: st)).length < gk from by
              rw [HG.out.2.1, show pend (_ :: st) = (.opens :: (evs k ++ [.closes])) ++ pend ((.slice (some ⟨gb, o, none⟩) 0 0, r) :: st) from pend_head (q := (_, Fo.cons s k true p r)) rfl, pend_cons (by simp)]
              simp only [List.length_append, List.length_cons, List.length_nil]; omega)
            have enters : ∀ args w, (callFunc Fb args).run Tryd.prog w = .ok (.enter Fb args) w := fun args w => by
              have := HA.out.enters .opens args w
              rw [HF.out.1] at this
              exact this
            clear hs1 hc hbt
            go_wp2_with fail
            refine HC.out.mono ?_
            rintro e w2 ⟨⟨u, rfl⟩, hs2, hbt⟩
            have z1 : w2.cell? ⟨wr.heap.size, 1, none⟩ = some (.slice A k.len cA) := (cell_of_row _ _ 1 _ _ _ hbt).trans rfl
            have HS2 := Lib.hid (show _ ∧ _ from ⟨hs2, hbt⟩)
            have hown := hs2.own
            rw [show ((.slice (some ⟨gb, o, none⟩) 0 0, r) :: st).length = n + 1 by simp [HG.out.2.2.1]] at hown
            have HO := Lib.hid hown
            have hBw := hs2.base.2
            clear hs2 hbt hown
            go_wp2_with (at_builtin; refine wpList_append_lies _ rfl _ _ 95 rfl w.heap.size 27 i0 _ 1 24 Tryd.underlying95 hin hz0 hz1 hz2 rfl (by decide) (.slice (some ⟨ga, 0, none⟩) (n + 1) cap) (n + 1) _ rfl (World.ownsRow.alloc HO.out _) ⟨w2.heap.size, 0, none⟩ 1 1 [.slice A k.len cA] rfl rfl (cell_one_new _ _ _) (one_slice _ _ _) (by decide) ?c3 ?c4 ?c5 _ rfl ?_)
            case c3 => unfold maxLen; omega
            case c4 => omega
            case c5 => rw [World.size_alloc]; omega
            intro g4 c4 w4 r4 q4 o4 l4
            have HS4 := Lib.hid (ThrS.pushed HA.out HS2.out.1 HG.out.2.2.1 HG.out.2.2.2.1.kids r4 q4 o4 (by have := HG.out.1.few; simp only [List.length_cons, nodesL, Fo.nodes] at this ⊢; omega))
            clear r4 q4 o4 l4 hBw z1
            go_wp2
            go_roundg (pend ((.slice A k.len cA, k) :: (.slice (some ⟨gb, o, none⟩) 0 0, r) :: st)).length
            case rel => exact ⟨(.slice A k.len cA, k) :: (.slice (some ⟨gb, o, none⟩) 0 0, r) :: st, Lib.hid ⟨by simp, rfl, HS4.out⟩⟩
            case measure => exact HK.out
          · have HC0 := Lib.hid hC0
            have hs1 := HG.out.1.take (n := n) (vr := .slice (some ⟨gb, o + 4, none⟩) L C) (r := r) (m1 := .opens :: (evs k ++ [.closes])) (o := .cells #[.string s, .slice A k.len cA, .bool true, .int .i64 p] 35) HA.out HG.out.2.2.1 (HG.out.2.2.2.1.rest _ (.inl (by rw [HG.out.2.2.2.2]; rfl))) rfl (by simp only [Fo.nodes]; omega)
            have hbt : ((wr.setCell ⟨ga, n, none⟩ (.slice (some ⟨gb, o + 4, none⟩) L C)).alloc (.cells #[.string s, .slice A k.len cA, .bool true, .int .i64 p] 35)).heap[wr.heap.size]? = some (.cells #[.string s, .slice A k.len cA, .bool true, .int .i64 p] 35 (0, 0)) := by
              have := heap_alloc_new (wr.setCell ⟨ga, n, none⟩ (.slice (some ⟨gb, o + 4, none⟩) L C)) (.cells #[.string s, .slice A k.len cA, .bool true, .int .i64 p] 35)
              rw [World.size_setCell] at this; exact this
            have hc := hs1.step (ev := .opens) HA.out HH.out.2.2.2.2
            rw [HF.out.1] at hc
            have HC := Lib.hid (show Calls Tryd.prog Fb (sb ++ cb) _ fun e w' => (∃ u, e = .returned u) ∧ ThrS Tryd.prog 27 R wb w.heap.size (evs f) (f.nodes + 1) w' (.slice (some ⟨ga, 0, none⟩) (n + 1) cap) ((.slice (some ⟨gb, o + 4, none⟩) L C, r) :: st) (evs k ++ [.closes]) [] ∧ w'.heap[wr.heap.size]? = some (.cells #[.string s, .slice A k.len cA, .bool true, .int .i64 p] 35 (0, 0)) from by
              have h2 : sb ++ Ev.opens.args ++ cb = sb ++ cb := by simp [Ev.args]
              have hc : Calls Tryd.prog Fb (sb ++ Ev.opens.args ++ cb) _ _ := hc
              rw [h2] at hc
              exact hc.mono fun e w' h => ⟨h.1, h.2.1, (h.2.2 _ (List.mem_singleton.2 rfl)).trans hbt⟩)
            have HK := Lib.hid (show (pend ((.slice A k.len cA, k) :: (.slice (some ⟨gb, o + 4, none⟩) L C, r) :: st)).length < gk from by
              rw [HG.out.2.1, show pend (_ :: st) = (.opens :: (evs k ++ [.closes])) ++ pend ((.slice (some ⟨gb, o + 4, none⟩) L C, r) :: st) from pend_head (q := (_, Fo.cons s k true p r)) rfl, pend_cons (by simp)]
              simp only [List.length_append, List.length_cons, List.length_nil]; omega)
            have enters : ∀ args w, (callFunc Fb args).run Tryd.prog w = .ok (.enter Fb args) w := fun args w => by
              have := HA.out.enters .opens args w
              rw [HF.out.1] at this
              exact this
            clear hs1 hc hbt
            go_wp2_with fail
            refine HC.out.mono ?_
            rintro e w2 ⟨⟨u, rfl⟩, hs2, hbt⟩
            have z1 : w2.cell? ⟨wr.heap.size, 1, none⟩ = some (.slice A k.len cA) := (cell_of_row _ _ 1 _ _ _ hbt).trans rfl
            have HS2 := Lib.hid (show _ ∧ _ from ⟨hs2, hbt⟩)
            have hown := hs2.own
            rw [show ((.slice (some ⟨gb, o + 4, none⟩) L C, r) :: st).length = n + 1 by simp [HG.out.2.2.1]] at hown
            have HO := Lib.hid hown
            have hBw := hs2.base.2
            clear hs2 hbt hown
            go_wp2_with (at_builtin; refine wpList_append_lies _ rfl _ _ 95 rfl w.heap.size 27 i0 _ 1 24 Tryd.underlying95 hin hz0 hz1 hz2 rfl (by decide) (.slice (some ⟨ga, 0, none⟩) (n + 1) cap) (n + 1) _ rfl (World.ownsRow.alloc HO.out _) ⟨w2.heap.size, 0, none⟩ 1 1 [.slice A k.len cA] rfl rfl (cell_one_new _ _ _) (one_slice _ _ _) (by decide) ?c3 ?c4 ?c5 _ rfl ?_)
            case c3 => unfold maxLen; omega
            case c4 => omega
            case c5 => rw [World.size_alloc]; omega
            intro g4 c4 w4 r4 q4 o4 l4
            have HS4 := Lib.hid (ThrS.pushed HA.out HS2.out.1 HG.out.2.2.1 HG.out.2.2.2.1.kids r4 q4 o4 (by have := HG.out.1.few; simp only [List.length_cons, nodesL, Fo.nodes] at this ⊢; omega))
            clear r4 q4 o4 l4 hBw z1
            go_wp2
            go_roundg (pend ((.slice A k.len cA, k) :: (.slice (some ⟨gb, o + 4, none⟩) L C, r) :: st)).length
            case rel => exact ⟨(.slice A k.len cA, k) :: (.slice (some ⟨gb, o + 4, none⟩) L C, r) :: st, Lib.hid ⟨by simp, rfl, HS4.out⟩⟩
            case measure => exact HK.out
end Go.Proofs.YtbccknhinmgibaaDoor

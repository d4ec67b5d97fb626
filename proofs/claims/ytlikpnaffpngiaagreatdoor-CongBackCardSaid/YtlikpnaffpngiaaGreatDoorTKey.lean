/- Package term's Key: the text of a term, for terms of any form; the library's table of powers of ten reads as it is laid. -/
import Derived.Test.YtlikpnaffpngiaaGreatDoorTHead
import Derived.Lib.BufferRead
import Derived.Laws.IdiomStrings
set_option linter.unusedVariables false
set_option linter.unusedSimpArgs false
namespace Go.Proofs.YtlikpnaffpngiaaGreatDoor
open Go.RowKit

/-- The library's table of powers of ten reads as it is laid, whatever happens from block M on. -/
def TabM (M : Nat) (w : World) : Prop := Lib.TabBelow Tryz.prog M w "internal/strconv.uint64pow10" .u64 Lib.pow10Tab
theorem TabM.on {M N : Nat} {w w' : World} (h : TabM M w) (hb : Below M w w') (hN : M ≤ N) : TabM N w' := fun W hW => h W (hb.trans ⟨hW.os, hW.tape, hW.output, hW.size, fun k hk => hW.block k (Nat.lt_of_lt_of_le hk hN)⟩)
/-- What Key's visit has written: v, in block b. -/
def KeyS (M b B : Nat) (w : World) (d : List Tm) (X : Nat → Prop) (W : World) : Prop := ∃ v, (∀ k, X k ↔ k = b ∨ v.ownBlock = some k) ∧ W.heap[b]? = some (.cells #[v] 98 (0, 0)) ∧ Bytes W B v (keyK d).length (Lib.byteCells (keyK d)) ∧ B ≤ W.heap.size ∧ Below M w W
theorem Bytes.kept {W W' : World} {B n : Nat} {v : Value} {xs : List Value} (h : Bytes W B v n xs) (hb : ∀ k, v.ownBlock = some k → k < W.heap.size → W'.heap[k]? = W.heap[k]?) : Bytes W' B v n xs := by
  have hh : W.ownsRow B 5 1 v n xs := h
  refine ⟨hh.1, ?_⟩
  rcases hh.2 with h0 | ⟨g, cap, cur, e, hB, hg, r⟩
  · exact .inl h0
  · refine .inr ⟨g, cap, cur, e, hB, ?_, r⟩
    rw [hb g (by rw [e]; rfl) (Own.lt.cell_lt' hg)]; exact hg
theorem Bytes.slice {W : World} {B n : Nat} {v : Value} {xs : List Value} (h : Bytes W B v n xs) : ∃ A c, v = .slice A n c := by
  rcases h.2 with ⟨e, h0⟩ | ⟨g, cap, cur, e, _⟩
  · subst h0; exact ⟨_, _, e⟩
  · exact ⟨_, _, e⟩
theorem Bytes.noBytes {W : World} {B n : Nat} {v : Value} {xs : List Value} (h : Bytes W B v n xs) : ∀ k, v.ownBlock = some k → ¬ NoBytes W k := fun k hk hn => by
  have hh : W.ownsRow B 5 1 v n xs := h
  rcases hh.2 with ⟨e, _⟩ | ⟨g, cap, cur, e, hB, hg, r⟩
  · rw [e] at hk; cases hk
  · rw [e] at hk
    injection hk with hk
    subst hk
    exact hn _ _ hg
theorem keyK_snoc (d : List Tm) (t : Tm) : keyK (d ++ [t]) = keyK d ++ headK t := by unfold keyK; rw [List.flatMap_append]; simp
set_option maxRecDepth 100000 in
set_option maxHeartbeats 3200000 in
theorem key_visit {W : World} {b B : Nat} {v : Value} {l' : List UInt8} {ad : Addr} (hb : W.heap[b]? = some (.cells #[v] 98 (0, 0))) (hbB : b < B)
    (hcall : Calls Tryz.prog 48 #[v, .pointer (some ad)] W fun e w' => ∃ v', e = .returned v' ∧ Txt B W w' v' l') :
    Calls Tryz.prog 47 #[.pointer (some ad), .pointer (some ⟨b, 0, none⟩)] W fun e w' => (∃ u, e = .returned u) ∧ ∃ v' w2, w' = w2.setCell ⟨b, 0, none⟩ v' ∧ Txt B W w2 v' l' ∧ w2.heap[b]? = some (.cells #[v] 98 (0, 0)) := by
  have m0 : W.cell? ⟨b, 0, none⟩ = some v := cell_one0 hb
  have HC := Lib.hid hcall
  have HB := Lib.hid (show _ ∧ _ from ⟨hb, hbB⟩)
  clear hb hcall hbB
  go_enter Tryz.func47, Tryz.ntmps47
  go_wp2_with fail
  refine HC.out.mono ?_
  rintro e w2 ⟨v', rfl, r1⟩
  obtain ⟨A', c', rfl⟩ := r1.1.slice
  have hb2 : w2.heap[b]? = some (.cells #[v] 98 (0, 0)) := (r1.2.1.below.block b HB.out.2).trans HB.out.1
  have m2 : w2.cell? ⟨b, 0, none⟩ = some v := cell_one0 hb2
  have f2 : w2.frozen? ⟨b, 0, none⟩ = false := by simp [World.frozen?, hb2]
  have HE := Lib.hid (show _ ∧ _ from ⟨r1, hb2⟩)
  clear r1 hb2 HB HC m0
  go_wp2
  go_returns
  exact ⟨⟨_, rfl⟩, _, w2, rfl, HE.out⟩
theorem head_ptr {w1 W : World} {B : Nat} {v : Value} {l : List UInt8} {ad : Addr} {t : Tm} (hv : Txt B W W v l) (hl : l.length ≤ 10000000) (hp : PtrTm w1 ad t) (hs : Sub w1 W) (hB : w1.heap.size ≤ B) (hn : t.name.size ≤ 10000000) (hd : t.ds.length ≤ 10000000) (hk : t.kids.length ≤ 10000000) (htab : TabM B W) :
    Calls Tryz.prog 48 #[v, .pointer (some ad)] W fun e w' => ∃ v', e = .returned v' ∧ Txt B W w' v' (l ++ headK t) := by
  have hg := hp.good
  obtain ⟨u0, u1, u2, u3, u4, ⟨h0, h1, h2, h3, h4⟩, ht⟩ := hp
  obtain ⟨A, K, c, c', e, _, _, hr, hsm, _, _, _⟩ := ht.parts
  simp only [Value.agg.injEq, Array.mk.injEq, List.cons.injEq, and_true] at e
  obtain ⟨rfl, rfl, rfl, rfl, rfl⟩ := e
  have hkd : ((t.kind.toNat : Nat) : Int) = t.kind := by have := hg.kind; omega
  refine head_any (kd := t.kind.toNat) (nm := t.name) (ng := t.neg) (D := A) (K := K) (ds := t.ds) (nk := t.kids.length) hv hl (by have := hg.kind; omega) hn hd hk hsm (fun j u hj => by
    obtain ⟨a, ha, hc⟩ := hr j u hj
    exact ⟨a, ha, hs _ _ hc⟩) (fun a ha hne => ?_) (by rw [hkd]; exact hs _ _ h0) (hs _ _ h1) (hs _ _ h2) (hs _ _ h3) (hs _ _ h4) (Nat.lt_of_lt_of_le (cell_lt h0) hB) htab
  cases hdd : t.ds with
  | nil => exact absurd hdd hne
  | cons x ds =>
    rw [hdd] at hr
    obtain ⟨a', ha', hc⟩ := hr 0 _ rfl
    rw [ha] at ha'
    cases ha'
    have := cell_lt hc
    rw [add_block] at this
    omega
theorem key_visits {w w1 : World} {M N b B : Nat} {all : List Tm} (hw1 : w1.heap.size ≤ N) (hB : w1.heap.size ≤ B) (hbB : b < B) (hMb : M ≤ b) (hb1 : ∀ p v, w1.cell? p = some v → p.block ≠ b) (hg : ∀ t ∈ all, t.name.size ≤ 10000000 ∧ t.ds.length ≤ 10000000 ∧ t.kids.length ≤ 10000000) (hall : (keyK all).length ≤ 10000000) (htab : TabM M w) :
    Visits N M 47 #[] #[.pointer (some ⟨b, 0, none⟩)] all (SS w1 (KeyS M b B w)) := by
  refine Visits.static hw1 (enters_of Tryz.func47 (by kernel_rfl) rfl) (fun h k hk => ?_) (fun {d X W W'} h hk hs => ?_) (fun {d X W ad t r} h hd hp hsub => ?_)
  · obtain ⟨v, hX, hb, hv, _⟩ := h
    rcases (hX k).1 hk with rfl | e
    · exact Own.lt.cell_lt' hb
    · exact (World.ownsRow.lt hv k e).2
  · obtain ⟨v, hX, hb, hv, hBs, hbl⟩ := h
    exact ⟨v, hX, (hk b ((hX b).2 (.inl rfl))).trans hb, hv.kept fun k e _ => hk k ((hX k).2 (.inr e)), Nat.le_trans hBs hs.size, hbl.trans hs⟩
  · obtain ⟨v, hX, hb, hv, hBs, hbl⟩ := h
    have ht := hg t (by rw [← hd]; simp)
    have hlen : (keyK d).length ≤ 10000000 := by
      refine Nat.le_trans ?_ hall
      rw [← hd]; unfold keyK; rw [List.flatMap_append, List.length_append]; omega
    refine (key_visit hb hbB (head_ptr (l := keyK d) ⟨hv, Wrote.refl _ _, hBs⟩ hlen hp hsub hB ht.1 ht.2.1 ht.2.2 (htab.on hbl (by omega)))).mono ?_
    rintro e w' ⟨hu, v', w2, rfl, ⟨r1, r2, r3⟩, hb2⟩
    have hne : ∀ k, v'.ownBlock = some k → k ≠ b := fun k hk h => r1.noBytes k hk (h ▸ .of hb2 (by decide))
    have hbs : Below M W (w2.setCell ⟨b, 0, none⟩ v') := ⟨r2.below.os, r2.below.tape, r2.below.output, by simpa using r2.below.size, fun k hk => (Below.heap_setCell _ _ _ _ (show k ≠ b by omega)).trans (r2.below.block k (by omega))⟩
    have hkeep : ∀ k, k < W.heap.size → k ≠ b → NoBytes W k → (w2.setCell ⟨b, 0, none⟩ v').heap[k]? = W.heap[k]? := fun k hk hne hn => by
      refine (Below.heap_setCell _ _ _ _ hne).trans ?_
      have hko : W.heap[k]? = some W.heap[k] := Array.getElem?_eq_getElem hk
      rw [hko]
      exact r2.others k _ hko (by simp) fun c fz e => hn c fz (by rw [hko, e])
    refine ⟨hu, fun k => k = b ∨ v'.ownBlock = some k, ⟨v', fun k => Iff.rfl, one_set hb2, ?_, by simpa using r3, hbl.trans hbs⟩, ⟨hbs.os, hbs.tape, hbs.output, hbs.size, fun k hk hx hn => hkeep k hk (fun e => hx ((hX k).2 (.inl e))) hn, fun k hk => ?_⟩, hbs, fun p u hp => ?_⟩
    · rw [keyK_snoc]
      exact r1.kept fun k hk _ => Below.heap_setCell _ _ _ _ (hne k hk)
    · rcases hk with rfl | hk
      · exact .inl ((hX k).2 (.inl rfl))
      · refine Classical.byContradiction fun hno => ?_
        have h2 : k < W.heap.size := Nat.lt_of_not_le fun h => hno (.inr (.inl h))
        have h3 : NoBytes W k := Classical.byContradiction fun h => hno (.inr (.inr h))
        have h4 : (w2.setCell ⟨b, 0, none⟩ v').heap[k]? = w2.heap[k]? := Below.heap_setCell _ _ _ _ (hne k hk)
        exact r1.noBytes k hk (h3.to (h4.symm.trans (hkeep k h2 (hne k hk) h3)))
    · have e1 := hsub p u hp
      refine (cell_congr ?_).trans e1
      exact (Below.heap_setCell _ _ _ _ (hb1 p u hp)).trans (r2.below.block _ (Nat.lt_of_lt_of_le (cell_lt hp) hB))
theorem agg_inj {a b : Array Value} (h : Value.agg a = Value.agg b) : a = b := by injection h
/-- Three blocks that are laid one after the other, and what stays when the second one is left empty. -/
theorem blank_three (w : World) (o0 o2 : Obj) (v : Value) (T : TypeId) : Sub (((w.alloc o0).alloc (.cells #[] T)).alloc o2) (((w.alloc o0).alloc (.cells #[v] T)).alloc o2) ∧ ∀ p u, (((w.alloc o0).alloc (.cells #[] T)).alloc o2).cell? p = some u → p.block ≠ w.heap.size + 1 := by
  obtain ⟨a0, a1, a2, asz, ab⟩ := three_alloc w o0 (.cells #[] T) o2
  obtain ⟨c0, c1, c2, cs, cb⟩ := three_alloc w o0 (.cells #[v] T) o2
  have hne : ∀ p u, (((w.alloc o0).alloc (.cells #[] T)).alloc o2).cell? p = some u → p.block ≠ w.heap.size + 1 := fun p u hp e => by
    unfold World.cell? at hp
    rw [e, a1] at hp
    simp at hp
  refine ⟨fun p u hp => (cell_congr ?_).trans hp, hne⟩
  have h1 := hne p u hp
  have h2 := cell_lt hp
  rcases Nat.lt_or_ge p.block w.heap.size with h3 | h3
  · rw [cb.block _ h3, ab.block _ h3]
  · rcases Nat.lt_or_ge w.heap.size p.block with h4 | h4
    · have h5 : p.block = w.heap.size + 2 := by omega
      rw [h5, c2, a2]
    · have h5 : p.block = w.heap.size := by omega
      rw [h5, c0, a0]
theorem kids_small {l : List Tm} : ∀ t ∈ preL l, t.name.size / 8 + t.ds.length + t.kids.length ≤ wtL l := by
  have key : ∀ (n : Nat) (l : List Tm), (preL l).length ≤ n → ∀ t ∈ preL l, t.name.size / 8 + t.ds.length + t.kids.length ≤ wtL l := by
    intro n
    induction n with
    | zero =>
      intro l hn t ht
      have : preL l = [] := List.length_eq_zero_iff.1 (by omega)
      rw [this] at ht; exact nomatch ht
    | succ n ih =>
      intro l hn t ht
      rcases l with _ | ⟨x, l⟩
      · rw [preL_nil] at ht; exact nomatch ht
      · rw [preL_cons] at hn ht
        simp at hn
        rw [wtL_cons, wtT_eq]
        rcases List.mem_cons.1 ht with rfl | ht
        · have h1 := preL_len t.kids
          have h2 := preL_wt _ (l := t.kids) (Nat.le_refl _)
          omega
        · rw [← preL_append] at ht
          have := ih (x.kids ++ l) (by rw [preL_append]; simp; omega) t ht
          rw [wtL_append] at this
          omega
  exact key _ l (Nat.le_refl _)
theorem cells_five {W : World} {g : Nat} {u0 u1 u2 u3 u4 : Value} {T : TypeId} {fz : Nat × Nat} (h : W.heap[g]? = some (.cells #[u0, u1, u2, u3, u4] T fz)) : W.cell? ⟨g, 0, none⟩ = some u0 ∧ W.cell? ((⟨g, 0, none⟩ : Addr).add 1) = some u1 ∧ W.cell? ((⟨g, 0, none⟩ : Addr).add 2) = some u2 ∧ W.cell? ((⟨g, 0, none⟩ : Addr).add 3) = some u3 ∧ W.cell? ((⟨g, 0, none⟩ : Addr).add 4) = some u4 := by
  exact ⟨cell_of_row W g 0 _ _ _ h, cell_of_row W g 1 _ _ _ h, cell_of_row W g 2 _ _ _ h, cell_of_row W g 3 _ _ _ h, cell_of_row W g 4 _ _ _ h⟩
theorem preL_one (t : Tm) : preL [t] = preT t := by rw [preL, preL_nil]; simp
theorem wtL_one (t : Tm) : wtL [t] = wtT t := by rw [wtL_cons, wtL_nil]; rfl
set_option maxRecDepth 100000 in
set_option maxHeartbeats 3200000 in
/-- Key of a term whose parts are as small as is gone through. -/
theorem key_any {w : World} {u0 u1 u2 u3 u4 : Value} {t : Tm} (ht : TmV w (.agg #[u0, u1, u2, u3, u4]) t) (hwt : wtT t ≤ 100000) (htab : TabM w.heap.size w) :
    Calls Tryz.prog 40 #[.agg #[u0, u1, u2, u3, u4]] w fun e w' => e = .returned (.string ⟨(keyK (preT t)).toArray⟩) ∧ Below w.heap.size w w' := by
  have HH := Lib.hid (show _ ∧ _ ∧ _ from ⟨ht, hwt, htab⟩)
  clear ht hwt htab
  go_enter Tryz.func40, Tryz.ntmps40
  go_wp2_with fail
  obtain ⟨ht, hwt, htab⟩ := HH.out
  obtain ⟨g0, g1, g2, hs3, hb3⟩ := three_alloc w (.cells #[u0, u1, u2, u3, u4] 28) (.cells #[.slice none 0 0] 98) (.cells #[u0, u1, u2, u3, u4] 28)
  obtain ⟨a0, a1, a2, asz, ab⟩ := three_alloc w (.cells #[u0, u1, u2, u3, u4] 28) (.cells #[] 98) (.cells #[u0, u1, u2, u3, u4] 28)
  obtain ⟨hsub, hbl⟩ := blank_three w (.cells #[u0, u1, u2, u3, u4] 28) (.cells #[u0, u1, u2, u3, u4] 28) (.slice none 0 0) 98
  have hwl : wtL [t] ≤ 100000 := by rw [wtL_one]; exact hwt
  have hgood : ∀ p ∈ preL [t], Good p := by rw [preL_one]; exact ht.good
  have hlen := keyK_len _ (Nat.le_refl _) hgood
  have hpl := preL_wt _ (l := [t]) (Nat.le_refl _)
  have hV := key_visits (N := w.heap.size + 3) (M := w.heap.size) (b := w.heap.size + 1) (B := w.heap.size + 3) (all := preL [t]) (w := w) (w1 := ((w.alloc (.cells #[u0, u1, u2, u3, u4] 28)).alloc (.cells #[] 98)).alloc (.cells #[u0, u1, u2, u3, u4] 28)) (Nat.le_of_eq asz) (Nat.le_of_eq asz) (by omega) (by omega) hbl (fun p hp => by
    have := kids_small p hp
    omega) (by omega) htab
  rw [← hs3] at hV
  have hp : PtrTm (((w.alloc (.cells #[u0, u1, u2, u3, u4] 28)).alloc (.cells #[] 98)).alloc (.cells #[u0, u1, u2, u3, u4] 28)) ⟨w.heap.size + 1 + 1, 0, none⟩ t := by
    have a2' : (((w.alloc (.cells #[u0, u1, u2, u3, u4] 28)).alloc (.cells #[] 98)).alloc (.cells #[u0, u1, u2, u3, u4] 28)).heap[w.heap.size + 1 + 1]? = some (.cells #[u0, u1, u2, u3, u4] 28 (0, 0)) := a2
    exact ⟨u0, u1, u2, u3, u4, cells_five a2', ht.sub (sub_below ab)⟩
  have HE := Lib.hid (each_any (c := 1) (K := some ⟨w.heap.size + 1 + 1, 0, none⟩) (l := [t]) (X0 := fun k => k = w.heap.size + 1 ∨ (Value.slice none 0 0).ownBlock = some k) hV (by omega) hb3.size ⟨⟨.slice none 0 0, fun k => Iff.rfl, g1, World.ownsRow_nil _ _ _ _, Nat.le_refl _, hb3⟩, hsub, fun q hq => by
      have e : q = (⟨w.heap.size + 1 + 1, 0, none⟩, t) := List.mem_singleton.1 (by simpa [kidsOf, kidsAt, Addr.add_zero'] using hq)
      rw [e]
      exact hp⟩ (fun _ => ⟨_, rfl⟩))
  have H3 := Lib.hid hb3
  clear ht hwt htab g0 g1 g2 hs3 hb3 a0 a1 a2 asz ab hsub hbl hwl hgood hlen hpl hV hp HH
  refine Calls.mono HE.out ?_
  rintro e w' ⟨⟨u, rfl⟩, X', ⟨⟨v, hX, hb, hv, hBs, _⟩, _, _⟩, hT, hbel⟩
  obtain ⟨A', c', rfl⟩ := hv.slice
  have m0 : w'.cell? ⟨w.heap.size + 1, 0, none⟩ = some (.slice A' (keyK (preL [t])).length c') := cell_one0 hb
  have hconv : (convert 98 9 (.slice A' (keyK (preL [t])).length c')).run Tryz.prog w' = .ok (.string ⟨(keyK (preL [t])).toArray⟩) w' := by
    rcases hv.2 with ⟨e1, e2⟩ | ⟨g, cap, cur, e1, hB, hg, h1, h2, h3, h4⟩
    · injection e1 with e1 _ _
      subst e1
      have e3 : keyK (preL [t]) = [] := List.length_eq_zero_iff.1 e2
      rw [e3]
      exact Lib.run_convert_nil_bytes w' _ _ _ _ Tryz.underlying98 Tryz.underlying5 Tryz.underlying9
    · injection e1 with e1 _ _
      subst e1
      refine run_convert_bytes_back w' _ _ _ _ _ _ Tryz.underlying98 Tryz.underlying5 Tryz.underlying9 ?_
      intro j hj
      have := World.ownsRow.cellAt hv j (by rw [Nat.mul_one]; exact hj)
      rw [Lib.byteCells, List.getElem?_map, List.getElem?_eq_getElem hj] at this
      have e9 : (⟨g, 0, none⟩ : Addr).add j = ⟨g, j, none⟩ := by
        rcases Nat.eq_zero_or_pos j with rfl | hj0
        · rfl
        · unfold Addr.add; rw [if_neg (by omega), Nat.zero_add]
      rw [e9]
      exact this
  rw [preL_one] at m0 hconv
  have HF := Lib.hid (H3.out.trans hbel)
  clear hX hb hv hBs hT hbel HE H3
  go_wp2
  go_returns
  exact ⟨rfl, HF.out⟩
end Go.Proofs.YtlikpnaffpngiaaGreatDoor

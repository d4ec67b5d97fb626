/- Package term's keep: a part's digits and kids in memory of its own; the kids' turns. Package term's put: what its closure does at a part's turn. -/
import Derived.OwnWalk
import Derived.Laws.AppendOwn
import Derived.Laws.OwnMore
import Derived.Tactics
import Derived.Test.YtdkgpnkcdnfniaaDoorTPutA
import Derived.Deep.RegionWith
import Derived.RegionDies
import Derived.Maps.OwnSet
set_option linter.unusedVariables false
set_option linter.unusedSimpArgs false
namespace Go.Proofs.YtdkgpnkcdnfniaaDoor
open Go.RowKit

theorem info_u32K : (Tryd.prog.info? 42).map (fun i => (i.zero, i.size, i.bytes)) = some (some (.int .u32 0), 1, 4) := by kernel_rfl
theorem info_termK : (Tryd.prog.info? 28).map (fun i => (i.zero, i.size, i.bytes)) = some (some (.agg #[.int .u8 0, .string ⟨#[]⟩, .bool false, .slice none 0 0, .slice none 0 0]), 5, 80) := by kernel_rfl
theorem u32s_oneK {ds : List Nat} : ∀ u ∈ u32s ds, u.oneCell' = true := fun u hu => by
  unfold u32s at hu
  obtain ⟨d, _, rfl⟩ := List.mem_map.1 hu
  rfl
theorem run_from_noneN {P : Program} {w : World} {base size : Nat} {t ty e : TypeId} {i : TypeInfo} (ht : P.underlying t = some (.slice e)) (hi : P.info? e = some i) {v : Value} {n : Nat} {xs : List Value} (hown : w.ownsRow base e size v n xs) (c : Nat) :
    (Builtin.append_ #[t, t] ty #[v, .slice none 0 c]).run P w = .ok v w := by
  rcases hown.2 with ⟨rfl, rfl⟩ | ⟨g, cap, cur, rfl, _, _, hle, _⟩
  all_goals simp [Builtin.append_, run_underlying ht, sizeOf, typeInfo, Builtin.lenOf, Builtin.firstCells, storeCells, *]
/-- 'append(nil, row...)' of elements of any size, at the operation; the row may be nil. -/
theorem wpList_copy_rowN {P : Program} {w : World} {ops : Array Oper} {rest : List Oper} {o : Oper} {a : Act} {Q : Exit → Act → World → Prop} (hgd : o.guard = none) (s x : Operand) (t : TypeId)
    (ho : o.op = .call { callee := .builtin .append, args := #[s, x], argTypes := #[t, t] })
    (base : Nat) (e : TypeId) (i : TypeInfo) (z : Value) (size bytes : Nat) (ht : P.underlying t = some (.slice e)) (hi : P.info? e = some i) (hz : i.zero = some z) (hsize : i.size = size) (hby : i.bytes = bytes) (hzs : z.cells.size = size) (hsz : 0 < size)
    (hs : a.eval s = .slice none 0 0)
    (A : Option Addr) (m c : Nat) (news : List Value) (hx : a.eval x = .slice A m c) (hl : news.length = m * size) (hr : Row w A news) (h1 : ∀ u ∈ news, u.oneCell' = true)
    (h63 : m ≤ maxLen) (hbytes : m * bytes ≤ 140737488355328) (hbase : base ≤ w.heap.size)
    (h : ∀ v' w', w'.ownsRow base e size v' m news → w.grownBy w' none → wpList P ops Q rest (a.put o.dst v') w') : wpList P ops Q (o :: rest) a w := by
  have hown : w.ownsRow base e size (.slice none 0 0) 0 [] := World.ownsRow_nil _ _ _ _
  rcases A with _ | ad
  · have hn : news = [] := by
      cases news with
      | nil => rfl
      | cons u us =>
        obtain ⟨ad, h, _⟩ := hr 0 u rfl
        cases h
    subst hn
    obtain rfl : m = 0 := by
      rcases Nat.eq_zero_or_pos m with h | h
      · exact h
      · have : 0 < m * size := Nat.mul_pos h hsz
        simp at hl; omega
    refine wpList_plain hgd fun K hK => ?_
    have hrun := run_from_noneN (P := P) (w := w) (base := base) (t := t) (ty := o.type) ht hi hown c
    unfold Oper.wp
    simp [execOp, ho, resolve, invoke, builtin, hs, hx, hrun, Result.andThen]
    exact hK _ _ (h _ w (by simpa using hown) (World.grownBy.refl w _))
  · exact wpList_append_own w hgd s x t ho base e i z size bytes ht hi hz hsize hby hzs hsz (.slice none 0 0) 0 [] hs hown ad m c news hx hl (fun j u hj => by
      obtain ⟨ad', e', hc⟩ := hr j u hj
      injection e' with e'
      subst e'; exact hc) h1 (by omega) (by rw [Nat.zero_add]; exact hbytes) hbase (fun v' w' a b _ => h v' w' (by simpa using a) b)
/-- The walker's block with the count behind it. -/
theorem wk_parts {w : World} {gm p : Nat} {v : Value} (h : WK w gm v 77 [.int .i64 (p : Int)]) : w.cell? ⟨gm, 0, none⟩ = some v ∧ w.cell? ⟨gm, 1, none⟩ = some (.int .i64 (p : Int)) ∧ w.frozen? ⟨gm, 0, none⟩ = false ∧ w.frozen? ⟨gm, 1, none⟩ = false := by
  unfold WK at h
  refine ⟨?_, ?_, ?_, ?_⟩ <;> simp [World.cell?, World.frozen?, h]
theorem wk_count {w : World} {gm : Nat} {v u : Value} {x : Value} (h : WK w gm v 77 [x]) : WK (w.setCell ⟨gm, 1, none⟩ u) gm v 77 [u] := by
  unfold WK at h ⊢
  simp [World.setCell, Array.getElem?_modify, h]
theorem cell_other {w : World} {a b : Addr} {v : Value} (h : b ≠ a) : (w.setCell a v).cell? b = w.cell? b := by
  exact World.cell?_setCell_other _ _ _ _ (Ne.symm h)
theorem set_at {w : World} {b o : Nat} {cs : Array Value} {T : TypeId} {fz : Nat × Nat} {v : Value} (h : w.heap[b]? = some (.cells cs T fz)) : (w.setCell ⟨b, o, none⟩ v).heap[b]? = some (.cells (cs.setIfInBounds o v) T fz) := by
  simp [World.setCell, Array.getElem?_modify, h]
theorem frozen_blk {w : World} {b o : Nat} {cs : Array Value} {T : TypeId} (h : w.heap[b]? = some (.cells cs T (0, 0))) : w.frozen? ⟨b, o, none⟩ = false := by simp [World.frozen?, h]
theorem own_form {w : World} {B e sz n : Nat} {v : Value} {xs : List Value} (h : w.ownsRow B e sz v n xs) : ∃ A c, v = .slice A n c := by
  rcases h.2 with ⟨e, h0⟩ | ⟨g, cap, cur, e, _⟩
  · rw [h0]; exact ⟨_, _, e⟩
  · exact ⟨_, _, e⟩
theorem own_keep {w w' : World} {B e sz n : Nat} {v : Value} {xs : List Value} (h : w.ownsRow B e sz v n xs) (hb : ∀ k, v.ownBlock = some k → B ≤ k → k < w.heap.size → w'.heap[k]? = w.heap[k]?) : w'.ownsRow B e sz v n xs := by
  refine ⟨h.1, ?_⟩
  rcases h.2 with h0 | ⟨g, cap, cur, e, hB, hg, r⟩
  · exact .inl h0
  · refine .inr ⟨g, cap, cur, e, hB, ?_, r⟩
    rw [hb g (by rw [e]; rfl) hB (Own.lt.cell_lt' hg)]; exact hg
theorem own_weak {w : World} {B B' e sz n : Nat} {v : Value} {xs : List Value} (h : w.ownsRow B e sz v n xs) (hB : B' ≤ B) : w.ownsRow B' e sz v n xs := by
  refine ⟨h.1, ?_⟩
  rcases h.2 with h0 | ⟨g, cap, cur, e, hB2, r⟩
  · exact .inl h0
  · exact .inr ⟨g, cap, cur, e, by omega, r⟩
theorem row_keep {w w' : World} {A : Option Addr} {xs : List Value} (h : Row w A xs) (hk : ∀ ad i u, A = some ad → i < xs.length → w.cell? (ad.add i) = some u → w'.cell? (ad.add i) = some u) : Row w' A xs := fun j v hj => by
  obtain ⟨ad, ha, hc⟩ := h j v hj
  exact ⟨ad, ha, hk ad j v ha (List.getElem?_eq_some_iff.1 hj).1 hc⟩
set_option maxRecDepth 100000 in
set_option maxHeartbeats 6400000 in
theorem keep1 {w : World} {gm pb o p nk cd0 ck0 : Nat} {v : Value} {A0 K0 : Option Addr} {cs : Array Value} {F : FuncId} {fs cf : Array Value} {ds : List Nat} {E1 : List Value} {Q : World → World → Prop}
    (hg : WK w gm v 77 [.int .i64 (p : Int)]) (hcs : w.heap[pb]? = some (.cells cs 28 (0, 0))) (ho : o + 5 ≤ cs.size) (h3 : cs[o + 3]? = some (.slice A0 ds.length cd0)) (h4 : cs[o + 4]? = some (.slice K0 nk ck0))
    (hd : Row w A0 (u32s ds)) (hE : Row w K0 E1) (hEl : E1.length = nk * 5) (hone : ∀ u ∈ E1, u.oneCell' = true) (hpg : pb ≠ gm) (hp : p + nk ≤ 20000) (hnd2 : ds.length ≤ 1000000) (hEk : (∀ ad i, K0 = some ad → i < E1.length → ad.add i ≠ ⟨pb, o + 3, none⟩ ∧ ad.block ≠ gm) ∧ ∀ ad, A0 = some ad → ds ≠ [] → ad.block ≠ gm)
    (hinto : ∀ w3 A cA K cK, KeepMid w gm pb o cs nk ds.length ds A cA K cK E1 w3 → WK w3 gm v 77 [.int .i64 ((p : Int) + (nk : Int))] → Calls Tryd.prog 40 #[.pointer (some ⟨gm, 0, none⟩), .func (.func F) fs cf, .slice K nk cK] w3 fun e w' => (∃ u, e = .returned u) ∧ Q w3 w') :
    Calls Tryd.prog 57 #[.pointer (some ⟨gm, 0, none⟩), .pointer (some ⟨pb, o, none⟩), .func (.func F) fs cf] w fun e w' => (∃ u, e = .returned u) ∧ ∃ w3, Q w3 w' := by
  obtain ⟨i0, hi, hz0, hz1, hz2⟩ := info_parts info_u32K
  obtain ⟨i1, hi1, hy0, hy1, hy2⟩ := info_parts info_termK
  have m3 : w.cell? ⟨pb, o + 3, none⟩ = some (.slice A0 ds.length cd0) := (cell_blk hcs).trans h3
  have m4 : w.cell? ⟨pb, o + 4, none⟩ = some (.slice K0 nk ck0) := (cell_blk hcs).trans h4
  obtain ⟨g0, g1, gf0, gf1⟩ := wk_parts hg
  have HI := Lib.hid hinto
  have HH := Lib.hid (show _ ∧ _ ∧ _ ∧ _ ∧ _ ∧ _ ∧ _ ∧ _ ∧ _ ∧ _ from ⟨hg, hcs, ho, hd, hE, hEl, hone, hpg, hp, hEk⟩)
  have hgl : gm < w.heap.size := hg.lt
  have hwa : ∀ k, k < w.heap.size → ((w.alloc (.cells #[.int .i64 (nk : Int)] 3)).drew).heap[k]? = w.heap[k]? := fun k hk => Below.heap_alloc _ _ _ hk
  have HM := Lib.hid (more_ok (w := (w.alloc (.cells #[.int .i64 (nk : Int)] 3)).drew) (B := gm) (j := 1) (R := w.heap.size) (i := 0) (c := 1) (p := p) (n := nk) ((cell_congr (hwa gm hgl)).trans g1) (cell_one0 (heap_alloc_new _ _)) (by
    have e : ((w.alloc (.cells #[.int .i64 (nk : Int)] 3)).drew).frozen? ⟨gm, 1, none⟩ = w.frozen? ⟨gm, 1, none⟩ := World.frozen?_of_block (hwa gm hgl)
    rw [e]; exact gf1) hp)
  have HA := Lib.hid hwa
  clear hwa hgl hinto hg hcs ho hd hE hEl hone hpg h3 h4 hEk
  go_enter Tryd.func57, Tryd.ntmps57
  go_wp2_with fail
  go_region_with (go_at_call 54; refine HM.out.mono ?_; rintro e w' ⟨⟨u, rfl⟩, HE⟩; have HE' := Lib.hid HE; clear HE)
  rename_i Kx hKx
  refine hKx _ _ ?_
  clear hKx Kx
  have hold : ∀ k, k < w.heap.size → k ≠ gm → w'.heap[k]? = w.heap[k]? := fun k hk hne => by
    rw [HE'.out]; exact (Below.heap_setCell _ _ _ _ hne).trans (HA.out k hk)
  have hcell : ∀ a u, w.cell? a = some u → a.block ≠ gm → w'.cell? a = some u := fun a u hu hne => (cell_congr (hold _ (cell_lt hu) hne)).trans hu
  have hs1 : w.heap.size ≤ w'.heap.size := by rw [HE'.out]; simp
  have hpl : pb < w.heap.size := Own.lt.cell_lt' HH.out.2.1
  have hpg : pb ≠ gm := HH.out.2.2.2.2.2.2.2.1
  have hg1 : WK w' gm v 77 [.int .i64 ((p : Int) + (nk : Int))] := by
    rw [HE'.out]; exact wk_count (HH.out.1.to (HA.out gm HH.out.1.lt))
  have hos : w'.os = w.os ∧ w'.tape = w.tape ∧ w'.output = w.output := by rw [HE'.out]; exact ⟨rfl, rfl, rfl⟩
  have m3 : w'.cell? ⟨pb, o + 3, none⟩ = some (.slice A0 ds.length cd0) := hcell _ _ m3 hpg
  have m4 : w'.cell? ⟨pb, o + 4, none⟩ = some (.slice K0 nk ck0) := hcell _ _ m4 hpg
  have HW := Lib.hid (show _ ∧ _ ∧ _ ∧ _ ∧ _ ∧ _ ∧ _ from ⟨hold, hs1, hg1, hos, hcell, hpl, hpg⟩)
  have hnd3 : ds.length ≤ maxLen := by unfold maxLen; omega
  have HR := Lib.hid (show Row w' A0 (u32s ds) ∧ (u32s ds).length = ds.length from ⟨row_keep HH.out.2.2.2.1 fun ad i u ha hi hu => hcell _ _ hu (by
    rw [add_block]
    refine HH.out.2.2.2.2.2.2.2.2.2.2 ad ha fun e => ?_
    rw [e] at hi; simp [u32s] at hi), by unfold u32s; simp⟩)
  clear hold hcell hs1 hg1 hos hpl hpg HE' HM g0 g1 gf0 gf1 HA
  go_wp2_with (at_builtin; refine wpList_copy_rowN rfl _ _ 23 rfl w.heap.size 42 i0 _ 1 4 Tryd.underlying23 hi hz0 hz1 hz2 rfl (by decide) rfl A0 ds.length cd0 (u32s ds) rfl (by rw [Nat.mul_one]; exact HR.out.2) HR.out.1 u32s_oneK hnd3 (by omega) HW.out.2.1 ?_)
  intro v2 w2 ho2 hg2
  obtain ⟨A, cA, rfl⟩ := own_form ho2
  have h2 : ∀ k, k < w'.heap.size → w2.heap[k]? = w'.heap[k]? := fun k hk => hg2.block k hk (fun e => by cases e)
  have b2 : w2.heap[pb]? = some (.cells cs 28 (0, 0)) := (h2 pb (Nat.lt_of_lt_of_le HW.out.2.2.2.2.2.1 HW.out.2.1)).trans ((HW.out.1 pb HW.out.2.2.2.2.2.1 HW.out.2.2.2.2.2.2).trans HH.out.2.1)
  have n3 : w2.cell? ⟨pb, o + 2 + 1, none⟩ = some (.slice A0 ds.length cd0) := (cell_congr (h2 pb (Nat.lt_of_lt_of_le HW.out.2.2.2.2.2.1 HW.out.2.1))).trans m3
  have f3 : w2.frozen? ⟨pb, o + 2 + 1, none⟩ = false := frozen_blk b2
  have n4 : (w2.setCell ⟨pb, o + 2 + 1, none⟩ (.slice A ds.length cA)).cell? ⟨pb, o + 4, none⟩ = some (.slice K0 nk ck0) := by
    refine (cell_other (fun e => by injection e with _ e; omega)).trans ?_
    exact (cell_congr (h2 pb (Nat.lt_of_lt_of_le HW.out.2.2.2.2.2.1 HW.out.2.1))).trans m4
  have hrow : Row (w2.setCell ⟨pb, o + 2 + 1, none⟩ (.slice A ds.length cA)) K0 E1 := row_keep HH.out.2.2.2.2.1 fun ad i u ha hi hu => by
    obtain ⟨q1, q2⟩ := HH.out.2.2.2.2.2.2.2.2.2.1 ad i ha hi
    refine (cell_other q1).trans ?_
    have h5 := HW.out.2.2.2.2.1 _ _ hu (by rw [add_block]; exact q2)
    exact (cell_congr (h2 _ (cell_lt h5))).trans h5
  have hnk : nk ≤ maxLen ∧ nk * 80 ≤ 140737488355328 := by unfold maxLen; omega
  have hs2 : w.heap.size ≤ (w2.setCell ⟨pb, o + 2 + 1, none⟩ (.slice A ds.length cA)).heap.size := by
    have := HW.out.2.1
    have := hg2.size
    simp; omega
  have H2 := Lib.hid (show _ ∧ _ ∧ _ ∧ _ ∧ _ ∧ _ ∧ _ ∧ _ from ⟨ho2, hg2, h2, b2, hrow, hnk, hs2, trivial⟩)
  clear ho2 hg2 h2 b2 hrow hnk hs2 m3 m4 HR
  go_wp2_with (at_builtin; refine wpList_copy_rowN rfl _ _ 26 rfl (w2.setCell ⟨pb, o + 2 + 1, none⟩ (.slice A ds.length cA)).heap.size 28 i1 _ 5 80 Tryd.underlying26 hi1 hy0 hy1 hy2 rfl (by decide) rfl K0 nk ck0 E1 rfl HH.out.2.2.2.2.2.1 H2.out.2.2.2.2.1 HH.out.2.2.2.2.2.2.1 H2.out.2.2.2.2.2.1.1 H2.out.2.2.2.2.2.1.2 (Nat.le_refl _) ?_)
  intro v3 w3 ho3 hg3
  obtain ⟨K, cK, rfl⟩ := own_form ho3
  have h3 : ∀ k, k < w2.heap.size → w3.heap[k]? = (w2.setCell ⟨pb, o + 2 + 1, none⟩ (.slice A ds.length cA)).heap[k]? := fun k hk => hg3.block k (by simpa using hk) (fun e => by cases e)
  have s2 := H2.out.2.1.size
  have s3 : w2.heap.size ≤ w3.heap.size := by have := hg3.size; simpa using this
  have s1 := HW.out.2.1
  have hpl := HW.out.2.2.2.2.2.1
  have hpg := HW.out.2.2.2.2.2.2
  have b3 : w3.heap[pb]? = some (.cells (cs.setIfInBounds (o + 2 + 1) (.slice A ds.length cA)) 28 (0, 0)) := (h3 pb (by omega)).trans (set_at H2.out.2.2.2.1)
  have n5 : w3.cell? ⟨pb, o + 4, none⟩ = some (.slice K0 nk ck0) := (cell_congr (h3 pb (by show pb < _; omega))).trans n4
  have f5 : w3.frozen? ⟨pb, o + 4, none⟩ = false := frozen_blk b3
  obtain ⟨wf, hwf⟩ : ∃ wf, wf = w3.setCell ⟨pb, o + 4, none⟩ (.slice K nk cK) := ⟨_, rfl⟩
  have bf : wf.heap[pb]? = some (.cells ((cs.setIfInBounds (o + 3) (.slice A ds.length cA)).setIfInBounds (o + 4) (.slice K nk cK)) 28 (0, 0)) := by rw [hwf]; exact set_at b3
  have n6 : (w3.setCell ⟨pb, o + 4, none⟩ (.slice K nk cK)).cell? ⟨pb, o + 4, none⟩ = some (.slice K nk cK) := by
    rw [← hwf, cell_blk bf]
    exact (set34 cs o _ _ HH.out.2.2.1).2.1
  have hmid : KeepMid w gm pb o cs nk ds.length ds A cA K cK E1 wf.drew := by
    have hoth : ∀ k, k < w2.heap.size → k ≠ pb → wf.heap[k]? = w2.heap[k]? := fun k hk hne => by
      rw [hwf]
      exact (Below.heap_setCell _ _ _ _ hne).trans ((h3 k hk).trans (Below.heap_setCell _ _ _ _ hne))
    refine ⟨?_, ?_, ?_, ?_, bf, fun k hk h1 h2 => ?_, ?_, ?_, fun K1 c1 hc => ?_, fun a b ha hb hn hm e => ?_⟩
    · rw [hwf]; exact hg3.os.trans (H2.out.2.1.os.trans HW.out.2.2.2.1.1)
    · rw [hwf]; exact hg3.tape.trans (H2.out.2.1.tape.trans HW.out.2.2.2.1.2.1)
    · rw [hwf]; exact hg3.output.trans (H2.out.2.1.output.trans HW.out.2.2.2.1.2.2)
    · rw [hwf]; show _ ≤ (w3.setCell _ _).heap.size; simp; omega
    · exact (hoth k (by omega) h1).trans ((H2.out.2.2.1 k (by omega)).trans (HW.out.1 k hk h2))
    · exact own_keep H2.out.1 fun k _ hB hk => hoth k hk (by omega)
    · refine own_weak (B := w2.heap.size) (own_keep (by simpa using ho3) fun k _ hB hk => ?_) (by omega)
      rw [hwf]; exact Below.heap_setCell _ _ _ _ (by show k ≠ pb; omega)
    · have h4 : cs[o + 4]? = some (.slice K0 nk ck0) := by
        have h5 := n5
        rw [cell_blk b3, Array.getElem?_setIfInBounds_ne (by omega)] at h5
        exact h5
      rw [h4] at hc
      injection hc with hc
      injection hc with hc
      subst hc
      exact HH.out.2.2.2.2.1
    · have q1 := (World.ownsRow.lt H2.out.1 a.block (by rw [ha]; rfl)).2
      have q2 := (World.ownsRow.lt ho3 b.block (by rw [hb]; rfl)).1
      omega
  have hwk : WK wf.drew gm v 77 [.int .i64 ((p : Int) + (nk : Int))] := by
    refine HW.out.2.2.1.to ?_
    have hgl : gm < w'.heap.size := HW.out.2.2.1.lt
    show wf.heap[gm]? = _
    rw [hwf]
    exact (Below.heap_setCell _ _ _ _ (Ne.symm hpg)).trans ((h3 gm (by omega)).trans ((Below.heap_setCell _ _ _ _ (Ne.symm hpg)).trans (H2.out.2.2.1 gm hgl)))
  have HC := Lib.hid (HI.out _ A cA K cK hmid hwk)
  rw [hwf] at HC
  clear ho3 hg3 h3 s2 s3 s1 hpl hpg b3 hwf bf hmid hwk n4 HI
  go_wp2_with fail
  go_region_with (go_at_call 40; refine HC.out.mono ?_; rintro e w9 ⟨⟨u, rfl⟩, HE⟩; have HE' := Lib.hid HE; clear HE)
  all_goals go_wp2
  all_goals go_returns
  all_goals exact ⟨⟨_, rfl⟩, _, HE'.out⟩
theorem grown_frame {w w' : World} {gm : Nat} {n : Value} {x : Value} (h : w' = ((w.alloc (.cells #[n] 3)).drew).setCell ⟨gm, 1, none⟩ x) : w.heap.size ≤ w'.heap.size ∧ (w'.os = w.os ∧ w'.tape = w.tape ∧ w'.output = w.output) ∧ ∀ k, k < w.heap.size → k ≠ gm → w'.heap[k]? = w.heap[k]? := by
  subst h
  exact ⟨by simp, ⟨rfl, rfl, rfl⟩, fun k hk hne => (Below.heap_setCell _ _ _ _ hne).trans (Below.heap_alloc _ _ _ hk)⟩
set_option maxRecDepth 100000 in
set_option maxHeartbeats 6400000 in
/-- keep, where too many were made. -/
theorem keep_grown {w : World} {gm pb o p nk ck0 : Nat} {v : Value} {K0 : Option Addr} {cs : Array Value} {F : FuncId} {fs cf : Array Value}
    (hg : WK w gm v 77 [.int .i64 (p : Int)]) (hcs : w.heap[pb]? = some (.cells cs 28 (0, 0))) (h4 : cs[o + 4]? = some (.slice K0 nk ck0)) (hp : 20000 < p + nk) (hup : p + nk ≤ 100000000) :
    Calls Tryd.prog 57 #[.pointer (some ⟨gm, 0, none⟩), .pointer (some ⟨pb, o, none⟩), .func (.func F) fs cf] w fun e w' => e = .panicked [{ v := .iface 43 (.int .i64 34), recovered := false }] ∧ w.heap.size ≤ w'.heap.size ∧ (w'.os = w.os ∧ w'.tape = w.tape ∧ w'.output = w.output) ∧ ∀ k, k < w.heap.size → k ≠ gm → w'.heap[k]? = w.heap[k]? := by
  have m4 : w.cell? ⟨pb, o + 4, none⟩ = some (.slice K0 nk ck0) := (cell_blk hcs).trans h4
  obtain ⟨g0, g1, gf0, gf1⟩ := wk_parts hg
  have hgl : gm < w.heap.size := hg.lt
  have hwa : ∀ k, k < w.heap.size → ((w.alloc (.cells #[.int .i64 (nk : Int)] 3)).drew).heap[k]? = w.heap[k]? := fun k hk => Below.heap_alloc _ _ _ hk
  have HM := Lib.hid (more_grown (w := (w.alloc (.cells #[.int .i64 (nk : Int)] 3)).drew) (B := gm) (j := 1) (R := w.heap.size) (i := 0) (c := 1) (p := p) (n := nk) ((cell_congr (hwa gm hgl)).trans g1) (cell_one0 (heap_alloc_new _ _)) (by
    have e : ((w.alloc (.cells #[.int .i64 (nk : Int)] 3)).drew).frozen? ⟨gm, 1, none⟩ = w.frozen? ⟨gm, 1, none⟩ := World.frozen?_of_block (hwa gm hgl)
    rw [e]; exact gf1) hp hup)
  clear hwa hgl hg hcs h4
  go_enter Tryd.func57, Tryd.ntmps57
  go_wp2_with fail
  go_region_dies
  all_goals refine HM.out.mono ?_
  all_goals rintro e w' ⟨rfl, HE⟩
  all_goals have HE' := Lib.hid HE
  all_goals clear HE
  all_goals go_wp2
  all_goals exact ⟨rfl, rfl, grown_frame HE'.out⟩
end Go.Proofs.YtdkgpnkcdnfniaaDoor

namespace Go.Proofs.YtdkgpnkcdnfniaaDoor
open Go.RowKit

/-- The closure's own variables. -/
structure Boxes (w : World) (b5 b4 b10 b9 b6 b7 mb gm fb nt ct ct2 : Nat) (Kt : Option Addr) (df cf : Value) : Prop where
  places : w.cell? ⟨b5, 0, none⟩ = some (.map (some mb))
  maker : w.cell? ⟨b4, 0, none⟩ = some (.pointer (some ⟨gm, 0, none⟩))
  self : w.cell? ⟨b10, 0, none⟩ = some df
  first : w.cell? ⟨b9, 0, none⟩ = some (.slice (some ⟨fb, 0, none⟩) nt ct)
  terms : w.cell? ⟨b6, 0, none⟩ = some (.slice Kt nt ct2)
  then_ : w.cell? ⟨b7, 0, none⟩ = some cf
theorem add_posK (p : Addr) {j : Nat} (h : 0 < j) : p.add j = { block := p.block, off := p.off + j } := by
  unfold Addr.add; rw [if_neg (by omega)]
theorem copied_any {w : World} {gm : Nat} {ad : Addr} {Q : Ending → World → Prop} (hk : Calls Tryd.prog 57 #[.pointer (some ⟨gm, 0, none⟩), .pointer (some ad), .func (.func 35) #[.pointer (some ⟨gm, 0, none⟩)] #[]] w fun e w' => (∃ u, e = .returned u) ∧ Q e w') :
    Calls Tryd.prog 35 #[.pointer (some ⟨gm, 0, none⟩), .pointer (some ad)] w fun e w' => (∃ u, e = .returned u) ∧ ∃ e, Q e w' := by
  have HK := Lib.hid hk
  clear hk
  go_enter Tryd.func35, Tryd.ntmps35
  go_wp2_with fail
  refine HK.out.mono ?_
  rintro e w' ⟨⟨u, rfl⟩, hq⟩
  have HE := Lib.hid hq
  clear hq HK
  go_wp2
  go_returns
  exact ⟨⟨_, rfl⟩, _, HE.out⟩
theorem copied_thr {ch : List PanicEntry} {Q : World → Prop} {w : World} {gm : Nat} {ad : Addr} (hk : Calls Tryd.prog 57 #[.pointer (some ⟨gm, 0, none⟩), .pointer (some ad), .func (.func 35) #[.pointer (some ⟨gm, 0, none⟩)] #[]] w fun e w' => e = .panicked ch ∧ Q w') :
    Calls Tryd.prog 35 #[.pointer (some ⟨gm, 0, none⟩), .pointer (some ad)] w fun e w' => e = .panicked ch ∧ Q w' := by
  have HK := Lib.hid hk
  clear hk
  go_enter Tryd.func35, Tryd.ntmps35
  go_wp2_with fail
  refine HK.out.mono ?_
  rintro e w' ⟨rfl, hq⟩
  have HE := Lib.hid hq
  clear hq HK
  go_wp2
  exact ⟨rfl, rfl, HE.out⟩
set_option maxRecDepth 100000 in
set_option maxHeartbeats 6400000 in
/-- A part that is no name that is put for. -/
theorem put_kept {w : World} {b5 b4 b10 b9 b6 b7 mb gm fb nt ct ct2 pb o : Nat} {Kt : Option Addr} {F : FuncId} {fs cs : Array Value} {cf : Value} {kind c : Int} {b : Bool} {name : ByteArray} {Q : Ending → World → Prop}
    (hb : Boxes w b5 b4 b10 b9 b6 b7 mb gm fb nt ct ct2 Kt (.func (.func F) fs cs) cf) (h0 : w.cell? ⟨pb, o, none⟩ = some (.int .u8 kind)) (h1 : w.cell? ⟨pb, o + 1, none⟩ = some (.string name))
    (hl : (Instr.lookup 80 (.map (some mb)) (.string name) true).run Tryd.prog w.drew = .ok (.tuple #[.int .i64 c, .bool b]) w.drew) (hn : b = false ∨ (b = true ∧ kind ≠ 1))
    (hk : Calls Tryd.prog 57 #[.pointer (some ⟨gm, 0, none⟩), .pointer (some ⟨pb, o, none⟩), .func (.func F) fs cs] w.drew fun e w' => (∃ u, e = .returned u) ∧ Q e w') :
    Calls Tryd.prog 56 #[.pointer (some ⟨pb, o, none⟩), .pointer (some ⟨b5, 0, none⟩), .pointer (some ⟨b4, 0, none⟩), .pointer (some ⟨b10, 0, none⟩), .pointer (some ⟨b9, 0, none⟩), .pointer (some ⟨b6, 0, none⟩), .pointer (some ⟨b7, 0, none⟩)] w fun e w' => (∃ u, e = .returned u) ∧ ∃ e, Q e w' := by
  obtain ⟨q5, q4, q10, q9, q6, q7⟩ := hb
  have HK := Lib.hid hk
  clear hk
  rcases hn with rfl | ⟨rfl, hne⟩
  all_goals go_enter Tryd.func56, Tryd.ntmps56
  all_goals go_wp2_with fail
  all_goals go_region
  all_goals go_wp2_with fail
  all_goals refine HK.out.mono ?_
  all_goals rintro e w' ⟨⟨u, rfl⟩, hq⟩
  all_goals have HE := Lib.hid hq
  all_goals clear hq HK
  all_goals go_wp2
  all_goals go_returns
  all_goals exact ⟨⟨_, rfl⟩, _, HE.out⟩
set_option maxRecDepth 100000 in
set_option maxHeartbeats 6400000 in
/-- A part that is no name that is put for. -/
theorem put_kept_thr {ch : List PanicEntry} {Q : World → Prop} {w : World} {b5 b4 b10 b9 b6 b7 mb gm fb nt ct ct2 pb o : Nat} {Kt : Option Addr} {F : FuncId} {fs cs : Array Value} {cf : Value} {kind c : Int} {b : Bool} {name : ByteArray}
    (hb : Boxes w b5 b4 b10 b9 b6 b7 mb gm fb nt ct ct2 Kt (.func (.func F) fs cs) cf) (h0 : w.cell? ⟨pb, o, none⟩ = some (.int .u8 kind)) (h1 : w.cell? ⟨pb, o + 1, none⟩ = some (.string name))
    (hl : (Instr.lookup 80 (.map (some mb)) (.string name) true).run Tryd.prog w.drew = .ok (.tuple #[.int .i64 c, .bool b]) w.drew) (hn : b = false ∨ (b = true ∧ kind ≠ 1))
    (hk : Calls Tryd.prog 57 #[.pointer (some ⟨gm, 0, none⟩), .pointer (some ⟨pb, o, none⟩), .func (.func F) fs cs] w.drew fun e w' => e = .panicked ch ∧ Q w') :
    Calls Tryd.prog 56 #[.pointer (some ⟨pb, o, none⟩), .pointer (some ⟨b5, 0, none⟩), .pointer (some ⟨b4, 0, none⟩), .pointer (some ⟨b10, 0, none⟩), .pointer (some ⟨b9, 0, none⟩), .pointer (some ⟨b6, 0, none⟩), .pointer (some ⟨b7, 0, none⟩)] w fun e w' => e = .panicked ch ∧ Q w' := by
  obtain ⟨q5, q4, q10, q9, q6, q7⟩ := hb
  have HK := Lib.hid hk
  clear hk
  rcases hn with rfl | ⟨rfl, hne⟩
  all_goals go_enter Tryd.func56, Tryd.ntmps56
  all_goals go_wp2_with fail
  all_goals go_region
  all_goals go_wp2_with fail
  all_goals refine HK.out.mono ?_
  all_goals rintro e w' ⟨rfl, hq⟩
  all_goals have HE := Lib.hid hq
  all_goals clear hq HK
  all_goals go_wp2
  all_goals exact ⟨rfl, rfl, HE.out⟩
/-- Five cells put, in their block. -/
def put5w (w : World) (b o : Nat) (u0 u1 u2 u3 u4 : Value) : World := ((((w.setCell ⟨b, o, none⟩ u0).setCell ⟨b, o + 1, none⟩ u1).setCell ⟨b, o + 2, none⟩ u2).setCell ⟨b, o + 3, none⟩ u3).setCell ⟨b, o + 4, none⟩ u4
theorem put5w_blk {w : World} {b o : Nat} {cs : Array Value} {T : TypeId} {fz : Nat × Nat} {u0 u1 u2 u3 u4 : Value} (h : w.heap[b]? = some (.cells cs T fz)) : (put5w w b o u0 u1 u2 u3 u4).heap[b]? = some (.cells (set5 cs o u0 u1 u2 u3 u4) T fz) := set_at (set_at (set_at (set_at (set_at h))))
theorem put5w_off {w : World} {b o k : Nat} {u0 u1 u2 u3 u4 : Value} (hk : k ≠ b) : (put5w w b o u0 u1 u2 u3 u4).heap[k]? = w.heap[k]? :=
  (Below.heap_setCell _ _ _ _ hk).trans ((Below.heap_setCell _ _ _ _ hk).trans ((Below.heap_setCell _ _ _ _ hk).trans ((Below.heap_setCell _ _ _ _ hk).trans (Below.heap_setCell _ _ _ _ hk))))
theorem put5w_size {w : World} {b o : Nat} {u0 u1 u2 u3 u4 : Value} : (put5w w b o u0 u1 u2 u3 u4).heap.size = w.heap.size := by simp [put5w]
theorem put5w_os (w : World) (b o : Nat) (u0 u1 u2 u3 u4 : Value) : (put5w w b o u0 u1 u2 u3 u4).os = w.os ∧ (put5w w b o u0 u1 u2 u3 u4).tape = w.tape ∧ (put5w w b o u0 u1 u2 u3 u4).output = w.output := by
  have h : ∀ (w : World) (a : Addr) (v : Value), (w.setCell a v).os = w.os ∧ (w.setCell a v).tape = w.tape ∧ (w.setCell a v).output = w.output := fun _ _ _ => ⟨rfl, rfl, rfl⟩
  unfold put5w
  exact ⟨by rw [(h _ _ _).1, (h _ _ _).1, (h _ _ _).1, (h _ _ _).1, (h _ _ _).1], by rw [(h _ _ _).2.1, (h _ _ _).2.1, (h _ _ _).2.1, (h _ _ _).2.1, (h _ _ _).2.1], by rw [(h _ _ _).2.2, (h _ _ _).2.2, (h _ _ _).2.2, (h _ _ _).2.2, (h _ _ _).2.2]⟩
theorem set5_all (a b c d e v0 v1 v2 v3 v4 : Value) : set5 #[a, b, c, d, e] 0 v0 v1 v2 v3 v4 = #[v0, v1, v2, v3, v4] := by
  unfold set5
  simp
/-- A struct's five cells, to be read. -/
def Five (w : World) (b o : Nat) (u0 u1 u2 u3 u4 : Value) : Prop := w.cell? ⟨b, o, none⟩ = some u0 ∧ w.cell? ⟨b, o + 1, none⟩ = some u1 ∧ w.cell? ⟨b, o + 2, none⟩ = some u2 ∧ w.cell? ⟨b, o + 3, none⟩ = some u3 ∧ w.cell? ⟨b, o + 4, none⟩ = some u4
theorem store_ok {P : Program} {w : World} {a : Addr} {u v : Value} (hv : v.oneCell' = true) (h : w.cell? a = some u) (hf : w.frozen? a = false) : (store a v).run P w = .ok () (w.setCell a v) := by
  rw [run_store P w a v _ hv]
  simp [stored, h, hf]
/-- A struct's five cells stored, one by one. -/
theorem store5 {P : Program} {w : World} {b o : Nat} {cs : Array Value} {T : TypeId} {u0 u1 u2 u3 u4 : Value} (h : w.heap[b]? = some (.cells cs T (0, 0))) (ho : o + 5 ≤ cs.size) (h0 : u0.oneCell' = true) (h1 : u1.oneCell' = true) (h2 : u2.oneCell' = true) (h3 : u3.oneCell' = true) (h4 : u4.oneCell' = true) :
    ∃ w1 w2 w3 w4 w5, (store ⟨b, o, none⟩ u0).run P w = .ok () w1 ∧ (store ⟨b, o + 1, none⟩ u1).run P w1 = .ok () w2 ∧ (store ⟨b, o + 2, none⟩ u2).run P w2 = .ok () w3 ∧ (store ⟨b, o + 3, none⟩ u3).run P w3 = .ok () w4 ∧ (store ⟨b, o + 4, none⟩ u4).run P w4 = .ok () w5 ∧ w5 = put5w w b o u0 u1 u2 u3 u4 := by
  have k1 := set_at (o := o) (v := u0) h
  have k2 := set_at (o := o + 1) (v := u1) k1
  have k3 := set_at (o := o + 2) (v := u2) k2
  have k4 := set_at (o := o + 3) (v := u3) k3
  exact ⟨_, _, _, _, _, store_ok h0 ((cell_blk h).trans (Array.getElem?_eq_getElem (by omega))) (frozen_blk h), store_ok h1 ((cell_blk k1).trans (Array.getElem?_eq_getElem (by simp; omega))) (frozen_blk k1), store_ok h2 ((cell_blk k2).trans (Array.getElem?_eq_getElem (by simp; omega))) (frozen_blk k2), store_ok h3 ((cell_blk k3).trans (Array.getElem?_eq_getElem (by simp; omega))) (frozen_blk k3), store_ok h4 ((cell_blk k4).trans (Array.getElem?_eq_getElem (by simp; omega))) (frozen_blk k4), rfl⟩
set_option maxRecDepth 100000 in
set_option maxHeartbeats 6400000 in
/-- A name that came in before. -/
theorem put_again_any {w : World} {b5 b4 b10 b9 b6 b7 mb gm fb nt ct ct2 pb o i ab ao : Nat} {Kt : Option Addr} {df cf : Value} {cs : Array Value} {name : ByteArray} {Q : Ending → World → Prop} {u0 u1 u2 u3 u4 : Value}
    (hb : Boxes w b5 b4 b10 b9 b6 b7 mb gm fb nt ct ct2 Kt df cf) (hcs : w.heap[pb]? = some (.cells cs 28 (0, 0))) (ho : o + 5 ≤ cs.size) (h0 : w.cell? ⟨pb, o, none⟩ = some (.int .u8 1)) (h1 : w.cell? ⟨pb, o + 1, none⟩ = some (.string name))
    (hl : (Instr.lookup 80 (.map (some mb)) (.string name) true).run Tryd.prog w.drew = .ok (.tuple #[.int .i64 (i : Int), .bool true]) w.drew) (hi : i < nt) (hf : w.cell? ⟨fb, i, none⟩ = some (.pointer (some ⟨ab, ao, none⟩))) (h5 : Five w ab ao u0 u1 u2 u3 u4) (hu : u0.oneCell' = true ∧ u1.oneCell' = true ∧ u2.oneCell' = true ∧ u3.oneCell' = true ∧ u4.oneCell' = true) (hp4 : pb ≠ b4)
    (hk : ∀ w', w' = put5w w.drew pb o u0 u1 u2 u3 u4 → Calls Tryd.prog 35 #[.pointer (some ⟨gm, 0, none⟩), .pointer (some ⟨pb, o, none⟩)] w' fun e w' => (∃ u, e = .returned u) ∧ Q e w') :
    Calls Tryd.prog 56 #[.pointer (some ⟨pb, o, none⟩), .pointer (some ⟨b5, 0, none⟩), .pointer (some ⟨b4, 0, none⟩), .pointer (some ⟨b10, 0, none⟩), .pointer (some ⟨b9, 0, none⟩), .pointer (some ⟨b6, 0, none⟩), .pointer (some ⟨b7, 0, none⟩)] w fun e w' => (∃ u, e = .returned u) ∧ ∃ e, Q e w' := by
  obtain ⟨q5, q4, q10, q9, q6, q7⟩ := hb
  obtain ⟨a0, a1, a2, a3, a4⟩ := h5
  obtain ⟨w1, w2, w3, w4, w5, e1, e2, e3, e4, e5, hw5⟩ := store5 (P := Tryd.prog) (w := w.drew) (b := pb) (o := o) hcs ho hu.1 hu.2.1 hu.2.2.1 hu.2.2.2.1 hu.2.2.2.2
  have n4 : w5.cell? ⟨b4, 0, none⟩ = some (.pointer (some ⟨gm, 0, none⟩)) := by
    rw [hw5]; exact (cell_congr (put5w_off (Ne.symm hp4))).trans q4
  have HK := Lib.hid (hk _ hw5)
  have hin : (i : Int) < (nt : Int) := by omega
  have hi0 : 0 ≤ (i : Int) := by omega
  clear hk hcs ho hp4 hw5 hu
  go_enter Tryd.func56, Tryd.ntmps56
  go_wp2_with fail
  go_region
  go_wp2_with fail
  refine HK.out.mono ?_
  rintro e w' ⟨⟨u, rfl⟩, hq⟩
  have HE := Lib.hid hq
  clear hq HK
  go_wp2
  go_returns
  exact ⟨⟨_, rfl⟩, _, HE.out⟩
set_option maxRecDepth 100000 in
set_option maxHeartbeats 6400000 in
/-- A name that came in before. -/
theorem put_again_thr {ch : List PanicEntry} {Q : World → Prop} {w : World} {b5 b4 b10 b9 b6 b7 mb gm fb nt ct ct2 pb o i ab ao : Nat} {Kt : Option Addr} {df cf : Value} {cs : Array Value} {name : ByteArray} {u0 u1 u2 u3 u4 : Value}
    (hb : Boxes w b5 b4 b10 b9 b6 b7 mb gm fb nt ct ct2 Kt df cf) (hcs : w.heap[pb]? = some (.cells cs 28 (0, 0))) (ho : o + 5 ≤ cs.size) (h0 : w.cell? ⟨pb, o, none⟩ = some (.int .u8 1)) (h1 : w.cell? ⟨pb, o + 1, none⟩ = some (.string name))
    (hl : (Instr.lookup 80 (.map (some mb)) (.string name) true).run Tryd.prog w.drew = .ok (.tuple #[.int .i64 (i : Int), .bool true]) w.drew) (hi : i < nt) (hf : w.cell? ⟨fb, i, none⟩ = some (.pointer (some ⟨ab, ao, none⟩))) (h5 : Five w ab ao u0 u1 u2 u3 u4) (hu : u0.oneCell' = true ∧ u1.oneCell' = true ∧ u2.oneCell' = true ∧ u3.oneCell' = true ∧ u4.oneCell' = true) (hp4 : pb ≠ b4)
    (hk : ∀ w', w' = put5w w.drew pb o u0 u1 u2 u3 u4 → Calls Tryd.prog 35 #[.pointer (some ⟨gm, 0, none⟩), .pointer (some ⟨pb, o, none⟩)] w' fun e w' => e = .panicked ch ∧ Q w') :
    Calls Tryd.prog 56 #[.pointer (some ⟨pb, o, none⟩), .pointer (some ⟨b5, 0, none⟩), .pointer (some ⟨b4, 0, none⟩), .pointer (some ⟨b10, 0, none⟩), .pointer (some ⟨b9, 0, none⟩), .pointer (some ⟨b6, 0, none⟩), .pointer (some ⟨b7, 0, none⟩)] w fun e w' => e = .panicked ch ∧ Q w' := by
  obtain ⟨q5, q4, q10, q9, q6, q7⟩ := hb
  obtain ⟨a0, a1, a2, a3, a4⟩ := h5
  obtain ⟨w1, w2, w3, w4, w5, e1, e2, e3, e4, e5, hw5⟩ := store5 (P := Tryd.prog) (w := w.drew) (b := pb) (o := o) hcs ho hu.1 hu.2.1 hu.2.2.1 hu.2.2.2.1 hu.2.2.2.2
  have n4 : w5.cell? ⟨b4, 0, none⟩ = some (.pointer (some ⟨gm, 0, none⟩)) := by
    rw [hw5]; exact (cell_congr (put5w_off (Ne.symm hp4))).trans q4
  have HK := Lib.hid (hk _ hw5)
  have hin : (i : Int) < (nt : Int) := by omega
  have hi0 : 0 ≤ (i : Int) := by omega
  clear hk hcs ho hp4 hw5 hu
  go_enter Tryd.func56, Tryd.ntmps56
  go_wp2_with fail
  go_region
  go_wp2_with fail
  refine HK.out.mono ?_
  rintro e w' ⟨rfl, hq⟩
  have HE := Lib.hid hq
  clear hq HK
  go_wp2
  exact ⟨rfl, rfl, HE.out⟩
set_option maxRecDepth 100000 in
set_option maxHeartbeats 6400000 in
/-- A name that comes in first. -/
theorem put_first_any {w : World} {b5 b4 b10 b9 b6 b7 mb gm fb nt ct ct2 pb o i : Nat} {kp : Addr} {df : Value} {F : FuncId} {fs cf : Array Value} {cs fcs : Array Value} {name : ByteArray} {Q : Ending → World → Prop} {u0 u1 u2 u3 u4 : Value}
    (hb : Boxes w b5 b4 b10 b9 b6 b7 mb gm fb nt ct ct2 (some kp) df (.func (.func F) fs cf)) (hcs : w.heap[pb]? = some (.cells cs 28 (0, 0))) (ho : o + 5 ≤ cs.size) (h0 : w.cell? ⟨pb, o, none⟩ = some (.int .u8 1)) (h1 : w.cell? ⟨pb, o + 1, none⟩ = some (.string name))
    (hl : (Instr.lookup 80 (.map (some mb)) (.string name) true).run Tryd.prog w.drew = .ok (.tuple #[.int .i64 (i : Int), .bool true]) w.drew) (hi : i < nt) (hfb : w.heap[fb]? = some (.cells fcs 53 (0, 0))) (hf : w.cell? ⟨fb, i, none⟩ = some (.pointer none))
    (h5 : w.cell? (kp.add (i * 5)) = some u0 ∧ w.cell? ((kp.add (i * 5)).add 1) = some u1 ∧ w.cell? ((kp.add (i * 5)).add 2) = some u2 ∧ w.cell? ((kp.add (i * 5)).add 3) = some u3 ∧ w.cell? ((kp.add (i * 5)).add 4) = some u4) (hu : u0.oneCell' = true ∧ u1.oneCell' = true ∧ u2.oneCell' = true ∧ u3.oneCell' = true ∧ u4.oneCell' = true) (hp : pb ≠ b4 ∧ pb ≠ b7 ∧ pb ≠ fb) (hfx : fb ≠ b4 ∧ fb ≠ b7 ∧ fb ≠ b6 ∧ kp.block ≠ fb)
    (hk : ∀ w', w' = put5w (w.setCell ⟨fb, i, none⟩ (.pointer (some ⟨pb, o, none⟩))).drew pb o u0 u1 u2 u3 u4 → Calls Tryd.prog 55 #[.pointer (some ⟨gm, 0, none⟩), .func (.func F) fs cf, .pointer (some ⟨pb, o, none⟩)] w'.drew fun e w' => (∃ u, e = .returned u) ∧ Q e w') :
    Calls Tryd.prog 56 #[.pointer (some ⟨pb, o, none⟩), .pointer (some ⟨b5, 0, none⟩), .pointer (some ⟨b4, 0, none⟩), .pointer (some ⟨b10, 0, none⟩), .pointer (some ⟨b9, 0, none⟩), .pointer (some ⟨b6, 0, none⟩), .pointer (some ⟨b7, 0, none⟩)] w fun e w' => (∃ u, e = .returned u) ∧ ∃ e, Q e w' := by
  obtain ⟨q5, q4, q10, q9, q6, q7⟩ := hb
  obtain ⟨wa, hwa⟩ : ∃ wa, wa = w.setCell ⟨fb, i, none⟩ (.pointer (some ⟨pb, o, none⟩)) := ⟨_, rfl⟩
  have oa : ∀ k, k ≠ fb → wa.heap[k]? = w.heap[k]? := fun k hk => by rw [hwa]; exact Below.heap_setCell _ _ _ _ hk
  have hcell : ∀ a u, w.cell? a = some u → a.block ≠ fb → wa.cell? a = some u := fun a u hu hne => (cell_congr (oa _ hne)).trans hu
  have hcs' : wa.heap[pb]? = some (.cells cs 28 (0, 0)) := (oa pb hp.2.2).trans hcs
  obtain ⟨w1, w2, w3, w4, w5, e1, e2, e3, e4, e5, hw5⟩ := store5 (P := Tryd.prog) (w := wa.drew) (b := pb) (o := o) hcs' ho hu.1 hu.2.1 hu.2.2.1 hu.2.2.2.1 hu.2.2.2.2
  have a6 : wa.cell? ⟨b6, 0, none⟩ = some (.slice (some kp) nt ct2) := hcell _ _ q6 (Ne.symm hfx.2.2.1)
  obtain ⟨k0, k1, k2, k3, k4⟩ := h5
  have hkb : ∀ j, ((kp.add (i * 5)).add j).block ≠ fb := fun j => by rw [add_block, add_block]; exact hfx.2.2.2
  have k0 := hcell _ _ k0 (by rw [add_block]; exact hfx.2.2.2)
  have k1 := hcell _ _ k1 (hkb 1)
  have k2 := hcell _ _ k2 (hkb 2)
  have k3 := hcell _ _ k3 (hkb 3)
  have k4 := hcell _ _ k4 (hkb 4)
  rw [add_posK _ (by decide)] at k1 k2 k3 k4
  have n4 : w5.cell? ⟨b4, 0, none⟩ = some (.pointer (some ⟨gm, 0, none⟩)) := by
    rw [hw5]; exact (cell_congr (put5w_off (Ne.symm hp.1))).trans (hcell _ _ q4 (Ne.symm hfx.1))
  have n7 : w5.cell? ⟨b7, 0, none⟩ = some (.func (.func F) fs cf) := by
    rw [hw5]; exact (cell_congr (put5w_off (Ne.symm hp.2.1))).trans (hcell _ _ q7 (Ne.symm hfx.2.1))
  have HK := Lib.hid (hk w5 (by rw [hw5, hwa]))
  have hin : (i : Int) < (nt : Int) := by omega
  have hi0 : 0 ≤ (i : Int) := by omega
  have ff : w.frozen? ⟨fb, i, none⟩ = false := frozen_blk hfb
  clear hk hcs hcs' ho hp hfx hw5 hu oa hcell hkb hfb
  subst hwa
  go_enter Tryd.func56, Tryd.ntmps56
  go_wp2_with fail
  go_region
  go_wp2_with fail
  go_region_with (go_at_call 55; refine HK.out.mono ?_; rintro e w9 ⟨⟨u, rfl⟩, HE⟩; have HE' := Lib.hid HE; clear HE)
  all_goals go_wp2
  all_goals go_returns
  all_goals exact ⟨⟨_, rfl⟩, _, HE'.out⟩
end Go.Proofs.YtdkgpnkcdnfniaaDoor

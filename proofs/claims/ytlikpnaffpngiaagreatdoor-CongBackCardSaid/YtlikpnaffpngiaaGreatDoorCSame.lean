/- Package cong's Same: the equality of two terms where the places are a path from one to the other, else ErrProof. Premises: facts, terms, places in memory; facts of weight at most 100000 each, the two terms at most 40000; at most 100000 places; the library's tables as they are laid. Package cong's Apply where the function tells a number or data: the equality of it of both sides. Premises: an edge of data; the function takes them; terms of weight at most 20000; the library's tables as they are laid. Layer 8's lists and names, its words v, eq, app: what they make. No condition. Package cong's Apply, whole, where the function tells a number or data. Premises: those of XCApply. Package cong's Apply where the function tells a number or data. Premises: those of XCAppA; the library's tables as they are laid. Layer 8's examples, as plain terms: the paths along them, the sorts in them. No condition. -/
import Derived.Test.YtlikpnaffpngiaaGreatDoorCTold
import Derived.Test.YtlikpnaffpngiaaGreatDoorSSort
import Derived.BigQuiet
set_option linter.unusedVariables false
set_option linter.unusedSimpArgs false
namespace Go.Proofs.YtlikpnaffpngiaaGreatDoor
open Go.RowKit

theorem tms_two {W : World} {B : Nat} {u0 u1 u2 u3 u4 v0 v1 v2 v3 v4 : Value} {T : TypeId} {fz : Nat × Nat} {a b : Tm} (h : W.heap[B]? = some (.cells #[u0, u1, u2, u3, u4, v0, v1, v2, v3, v4] T fz)) (ha : TmV W (.agg #[u0, u1, u2, u3, u4]) a) (hb : TmV W (.agg #[v0, v1, v2, v3, v4]) b) : TmsAt W (some ⟨B, 0, none⟩) [a, b] := by
  intro j t hj
  match j, hj with
  | 0, hj =>
    obtain rfl : a = t := by simpa using hj
    refine ⟨⟨B, 0, none⟩, u0, u1, u2, u3, u4, rfl, ?_, ha⟩
    simp only [add_eq, Nat.zero_mul, Nat.zero_add, Nat.add_zero]
    exact ⟨cell_of_row _ _ 0 _ _ _ h, cell_of_row _ _ 1 _ _ _ h, cell_of_row _ _ 2 _ _ _ h, cell_of_row _ _ 3 _ _ _ h, cell_of_row _ _ 4 _ _ _ h⟩
  | 1, hj =>
    obtain rfl : b = t := by simpa using hj
    refine ⟨⟨B, 0, none⟩, v0, v1, v2, v3, v4, rfl, ?_, hb⟩
    simp only [add_eq, Nat.one_mul, Nat.zero_add]
    exact ⟨cell_of_row _ _ 5 _ _ _ h, cell_of_row _ _ 6 _ _ _ h, cell_of_row _ _ 7 _ _ _ h, cell_of_row _ _ 8 _ _ _ h, cell_of_row _ _ 9 _ _ _ h⟩
  | k + 2, hj => simp at hj
theorem eq_of_two {W : World} {B c : Nat} {u0 u1 u2 u3 u4 v0 v1 v2 v3 v4 : Value} {T : TypeId} {fz : Nat × Nat} {a b : Tm} (h : W.heap[B]? = some (.cells #[u0, u1, u2, u3, u4, v0, v1, v2, v3, v4] T fz)) (ha : TmV W (.agg #[u0, u1, u2, u3, u4]) a) (hb : TmV W (.agg #[v0, v1, v2, v3, v4]) b) : TmV W (.agg #[.int .u8 8, .string ⟨#[]⟩, .bool false, .slice none 0 0, .slice (some ⟨B, 0, none⟩) 2 c]) (eqTm a b) :=
  TmV.of (ds := []) (kids := [a, b]) (by decide) (by decide) (by intro i v h; simp [u32s] at h) (by intro d hd; simp at hd) (by simp) (by simp) (tms_two h ha hb)
/-- What Same's closure tells. -/
def Same1E (fs : List Tm) (a b : Tm) (ps : List Int) (w : World) (e : Ending) (w' : World) : Prop := Below w.heap.size w w' ∧ ((walkK fs (keyT a) ps ≠ some (keyT b) ∧ ThrowP e) ∨ (walkK fs (keyT a) ps = some (keyT b) ∧ ∃ x0 x1 x2 x3 x4, e = .returned (.agg #[x0, x1, x2, x3, x4]) ∧ TmV w' (.agg #[x0, x1, x2, x3, x4]) (eqTm a b)))
set_option maxRecDepth 100000 in
set_option maxHeartbeats 6400000 in
theorem same1_ok {w : World} {pa pf pp pb c cp : Nat} {K P : Option Addr} {fs : List Tm} {ps : List Int} {a b : Tm} {A1 K1 A2 K2 : Option Addr} {e1 e1' e2 e2' : Nat}
    (ha : w.heap[pa]? = some (.cells #[.int .u8 a.kind, .string a.name, .bool a.neg, .slice A1 a.ds.length e1, .slice K1 a.kids.length e1'] 28 (0, 0))) (hb : w.heap[pb]? = some (.cells #[.int .u8 b.kind, .string b.name, .bool b.neg, .slice A2 b.ds.length e2, .slice K2 b.kids.length e2'] 28 (0, 0)))
    (hf : w.heap[pf]? = some (.cells #[.slice K fs.length c] 22 (0, 0))) (hp : w.heap[pp]? = some (.cells #[.slice P ps.length cp] 29 (0, 0)))
    (hfs : TmsAt w K fs) (hta : TmV w (.agg #[.int .u8 a.kind, .string a.name, .bool a.neg, .slice A1 a.ds.length e1, .slice K1 a.kids.length e1']) a) (htb : TmV w (.agg #[.int .u8 b.kind, .string b.name, .bool b.neg, .slice A2 b.ds.length e2, .slice K2 b.kids.length e2']) b) (hps : Row w P (IntsV ps))
    (hfew : ∀ t ∈ fs, wtT t ≤ 100000) (hwa : wtT a ≤ 40000) (hwb : wtT b ≤ 40000) (hr : ∀ p ∈ ps, -9223372036854775808 ≤ p ∧ p < 9223372036854775808) (hn : ps.length ≤ 100000) (hM : LibM w.heap.size w) :
    Calls Tryz.prog 16 #[.pointer (some ⟨pa, 0, none⟩), .pointer (some ⟨pf, 0, none⟩), .pointer (some ⟨pp, 0, none⟩), .pointer (some ⟨pb, 0, none⟩)] w (Same1E fs a b ps w) := by
  obtain ⟨w1, hw1⟩ : ∃ w1, w1 = w.alloc (.cells #[.int .u8 0, .string ⟨#[]⟩, .bool false, .slice none 0 0, .slice none 0 0] 28) := ⟨_, rfl⟩
  have hb1 : Below w.heap.size w w1 := by rw [hw1]; exact (Below.refl _ _).alloc (Nat.le_refl _) _
  have z1 : w1.heap[w.heap.size]? = some (.cells #[.int .u8 0, .string ⟨#[]⟩, .bool false, .slice none 0 0, .slice none 0 0] 28 (0, 0)) := by rw [hw1]; exact heap_alloc_new _ _
  have hs1 : w1.heap.size = w.heap.size + 1 := by rw [hw1]; exact World.size_alloc ..
  have HC := Lib.hid (show ∀ W : World, Below w.heap.size w W → (W.cell? ⟨pa, 0, none⟩ = some (.int .u8 a.kind) ∧ W.cell? ⟨pa, 1, none⟩ = some (.string a.name) ∧ W.cell? ⟨pa, 2, none⟩ = some (.bool a.neg) ∧ W.cell? ⟨pa, 3, none⟩ = some (.slice A1 a.ds.length e1) ∧ W.cell? ⟨pa, 4, none⟩ = some (.slice K1 a.kids.length e1')) ∧ (W.cell? ⟨pb, 0, none⟩ = some (.int .u8 b.kind) ∧ W.cell? ⟨pb, 1, none⟩ = some (.string b.name) ∧ W.cell? ⟨pb, 2, none⟩ = some (.bool b.neg) ∧ W.cell? ⟨pb, 3, none⟩ = some (.slice A2 b.ds.length e2) ∧ W.cell? ⟨pb, 4, none⟩ = some (.slice K2 b.kids.length e2')) ∧ W.cell? ⟨pf, 0, none⟩ = some (.slice K fs.length c) ∧ W.cell? ⟨pp, 0, none⟩ = some (.slice P ps.length cp) from fun W hW => by
    have ga := (hW.block _ (Own.lt.cell_lt' ha)).trans ha
    have gb := (hW.block _ (Own.lt.cell_lt' hb)).trans hb
    have gf := (hW.block _ (Own.lt.cell_lt' hf)).trans hf
    have gp := (hW.block _ (Own.lt.cell_lt' hp)).trans hp
    exact ⟨⟨cell_of_row _ _ 0 _ _ _ ga, cell_of_row _ _ 1 _ _ _ ga, cell_of_row _ _ 2 _ _ _ ga, cell_of_row _ _ 3 _ _ _ ga, cell_of_row _ _ 4 _ _ _ ga⟩, ⟨cell_of_row _ _ 0 _ _ _ gb, cell_of_row _ _ 1 _ _ _ gb, cell_of_row _ _ 2 _ _ _ gb, cell_of_row _ _ 3 _ _ _ gb, cell_of_row _ _ 4 _ _ _ gb⟩, cell_of_row _ _ 0 _ _ _ gf, cell_of_row _ _ 0 _ _ _ gp⟩)
  have HH := Lib.hid (show _ ∧ _ ∧ _ ∧ _ ∧ _ ∧ _ ∧ _ ∧ _ ∧ _ ∧ _ from ⟨hfs, hta, htb, hps, hfew, hwa, hwb, hr, hn, hM⟩)
  have HZ := Lib.hid (show _ ∧ _ ∧ _ from ⟨hb1, z1, hs1⟩)
  have HW := Lib.hid hw1
  obtain ⟨⟨a0, a1, a2, a3, a4⟩, ⟨b0, b1, b2, b3, b4⟩, f0, q0⟩ := HC.out w1 hb1
  rw [hw1] at a0 a1 a2 a3 a4 f0
  clear b0 b1 b2 b3 b4 q0
  clear ha hb hf hp hfs hta htb hps hfew hwa hwb hr hn hM hb1 z1 hs1 hw1
  go_enter Tryz.func16, Tryz.ntmps16
  go_wp2_with fail
  rw [← HW.out]
  obtain ⟨hfs, hta, htb, hps, hfew, hwa, hwb, hr, hn, hM⟩ := HH.out
  obtain ⟨hb1, z1, hs1⟩ := HZ.out
  refine (walkerAt_ok (W0 := w1) (t := a) (hfs.below hb1) hfew (hta.bel hb1) (by omega) ((hM.on hb1 hb1.size).2)).mono ?_
  clear hfs hta htb hps hfew hwa hwb hr hn hM hb1 z1 hs1 a0 a1 a2 a3 a4 f0
  rintro e w2 ⟨gw, nb, eb, rfl, hh, hst⟩
  have hb2 : Below w.heap.size w w2 := HZ.out.1.trans (hst.1.mono HZ.out.1.size)
  obtain ⟨⟨a0, a1, a2, a3, a4⟩, ⟨b0, b1, b2, b3, b4⟩, f0, q0⟩ := HC.out w2 hb2
  have HA := Lib.hid (along_ok (cp := cp) hh hst (HH.out.2.2.2.1.below HZ.out.1) HH.out.2.2.2.2.2.2.2.1 HH.out.2.2.2.2.2.2.2.2.1)
  have HI := Lib.hid (show _ ∧ _ from ⟨hh, hb2⟩)
  clear hh hst hb2
  go_wp2_with fail
  refine HA.out.mono ?_
  clear a0 a1 a2 a3 a4 b0 b1 b2 b3 b4 f0 q0 HA
  rintro e w3 (⟨hno, rfl, hb3⟩ | ⟨k', u, hk, rfl, hst⟩)
  · exact ⟨rfl, HZ.out.1.trans (hb3.mono HZ.out.1.size), .inl ⟨fun h => (by rw [hno] at h; cases h), rfl⟩⟩
  have hb3 : Below w.heap.size w w3 := HZ.out.1.trans (hst.1.mono HZ.out.1.size)
  obtain ⟨⟨a0, a1, a2, a3, a4⟩, ⟨b0, b1, b2, b3, b4⟩, f0, q0⟩ := HC.out w3 hb3
  have HE := Lib.hid (cend_ok HI.out.1 hst (HH.out.2.2.1.bel hb3) (by have := HH.out.2.2.2.2.2.2.1; omega) HH.out.2.2.2.2.2.2.2.2.1)
  have HK := Lib.hid hk
  clear hst hb3 hk
  go_wp2_with fail
  refine HE.out.mono ?_
  clear a0 a1 a2 a3 a4 b0 b1 b2 b3 b4 f0 q0 HE
  rintro e w4 ⟨hb4, ⟨rfl, u4, rfl⟩ | ⟨hne, rfl⟩⟩
  rotate_left
  · exact ⟨rfl, HZ.out.1.trans (hb4.mono HZ.out.1.size), .inl ⟨fun h => hne (by rw [HK.out] at h; injection h), rfl⟩⟩
  have hb5 : Below w.heap.size w w4 := HZ.out.1.trans (hb4.mono HZ.out.1.size)
  obtain ⟨⟨a0, a1, a2, a3, a4⟩, ⟨b0, b1, b2, b3, b4⟩, f0, q0⟩ := HC.out w4 hb5
  have HB := Lib.hid (show _ ∧ _ from ⟨hb4, hb5⟩)
  clear hb4 hb5
  go_wp2_with fail
  refine node_ok.mono ?_
  rintro e w5 ⟨rfl, hb5⟩
  obtain ⟨hb4, hb04⟩ := HB.out
  have zS := heap_alloc_new w4 (.cells #[.int .u8 a.kind, .string a.name, .bool a.neg, .slice A1 a.ds.length e1, .slice K1 a.kids.length e1', .int .u8 b.kind, .string b.name, .bool b.neg, .slice A2 b.ds.length e2, .slice K2 b.kids.length e2'] 28)
  obtain ⟨wS, hwS⟩ : ∃ wS, wS = w4.alloc (.cells #[.int .u8 a.kind, .string a.name, .bool a.neg, .slice A1 a.ds.length e1, .slice K1 a.kids.length e1', .int .u8 b.kind, .string b.name, .bool b.neg, .slice A2 b.ds.length e2, .slice K2 b.kids.length e2'] 28) := ⟨_, rfl⟩
  have hbS : Below w4.heap.size w4 wS := by rw [hwS]; exact (Below.refl _ _).alloc (Nat.le_refl _) _
  rw [← hwS] at zS hb5
  have z5 : w5.heap[w4.heap.size]? = _ := (hb5.block _ (Own.lt.cell_lt' zS)).trans zS
  have hb45 : Below w4.heap.size w4 w5 := hbS.trans (hb5.mono hbS.size)
  have z4 : w4.heap[w.heap.size]? = _ := (hb4.block _ (by have := HZ.out.2.2; omega)).trans HZ.out.2.1
  have y5 : w5.heap[w.heap.size]? = _ := (hb45.block _ (Own.lt.cell_lt' z4)).trans z4
  have hlt : w.heap.size < w4.heap.size := Own.lt.cell_lt' z4
  have d0 : w5.cell? ⟨w.heap.size, 0, none⟩ = some (.int .u8 0) := (cell_of_row _ _ 0 _ _ _ y5).trans rfl
  have d1 : w5.cell? ⟨w.heap.size, 1, none⟩ = some (.string ⟨#[]⟩) := (cell_of_row _ _ 1 _ _ _ y5).trans rfl
  have d2 : w5.cell? ⟨w.heap.size, 2, none⟩ = some (.bool false) := (cell_of_row _ _ 2 _ _ _ y5).trans rfl
  have d3 : w5.cell? ⟨w.heap.size, 3, none⟩ = some (.slice none 0 0) := (cell_of_row _ _ 3 _ _ _ y5).trans rfl
  have d4 : w5.cell? ⟨w.heap.size, 4, none⟩ = some (.slice none 0 0) := (cell_of_row _ _ 4 _ _ _ y5).trans rfl
  have ff : ∀ o, w5.frozen? ⟨w.heap.size, o, none⟩ = false := fun o => by simp [World.frozen?, y5]
  have g0 := ff 0
  have g1 := ff 1
  have g2 := ff 2
  have g3 := ff 3
  have g4 := ff 4
  obtain ⟨wf, hwf⟩ : ∃ wf, wf = ((((w5.setCell ⟨w.heap.size, 0, none⟩ (.int .u8 8)).setCell ⟨w.heap.size, 1, none⟩ (.string ⟨#[]⟩)).setCell ⟨w.heap.size, 2, none⟩ (.bool false)).setCell ⟨w.heap.size, 3, none⟩ (.slice none 0 0)).setCell ⟨w.heap.size, 4, none⟩ (.slice (some ⟨w4.heap.size, 0, none⟩) 2 2) := ⟨_, rfl⟩
  have yf : wf.heap[w.heap.size]? = some (.cells #[.int .u8 8, .string ⟨#[]⟩, .bool false, .slice none 0 0, .slice (some ⟨w4.heap.size, 0, none⟩) 2 2] 28 (0, 0)) := by rw [hwf]; exact five_set y5
  have zf : wf.heap[w4.heap.size]? = _ := (by rw [hwf]; exact five_off (by omega) : wf.heap[w4.heap.size]? = w5.heap[w4.heap.size]?).trans z5
  have hbf : Below w.heap.size w wf := by
    refine (hb04.trans (hb45.mono (by omega))).trans ?_
    rw [hwf]
    exact five_belowC (Nat.le_refl _) _ _ _ _ _ _
  have p0 := cell_of_row wf w.heap.size 0 _ _ _ yf
  have p1 := cell_of_row wf w.heap.size 1 _ _ _ yf
  have p2 := cell_of_row wf w.heap.size 2 _ _ _ yf
  have p3 := cell_of_row wf w.heap.size 3 _ _ _ yf
  have p4 := cell_of_row wf w.heap.size 4 _ _ _ yf
  simp at p0 p1 p2 p3 p4
  have HR := Lib.hid (show Same1E fs a b ps w (.returned (.agg #[.int .u8 8, .string ⟨#[]⟩, .bool false, .slice none 0 0, .slice (some ⟨w4.heap.size, 0, none⟩) 2 2])) wf from ⟨hbf, .inr ⟨HK.out, _, _, _, _, _, rfl, eq_of_two zf (HH.out.2.1.bel hbf) (HH.out.2.2.1.bel hbf)⟩⟩)
  have HF := Lib.hid hwf
  clear hb4 hb04 zS hwS hbS z5 hb45 z4 y5 hlt ff hwf yf zf hbf hb5 a0 a1 a2 a3 a4 b0 b1 b2 b3 b4 f0 q0
  go_wp2
  rw [← HF.out]
  exact bodyPost_ret (v := .agg #[.int .u8 8, .string ⟨#[]⟩, .bool false, .slice none 0 0, .slice (some ⟨w4.heap.size, 0, none⟩) 2 2]) (by simp [results, Tryz.results16, go_sem, p0, p1, p2, p3, p4]) rfl HR.out
/-- What Same tells. -/
def SameE (fs : List Tm) (a b : Tm) (ps : List Int) (w : World) (e : Ending) (w' : World) : Prop := Below w.heap.size w w' ∧ ((walkK fs (keyT a) ps ≠ some (keyT b) ∧ e = .returned (.tuple #[zeroV, .int .i64 31])) ∨ (walkK fs (keyT a) ps = some (keyT b) ∧ ∃ A K c c', e = .returned (.tuple #[fiveV (eqTm a b) A K c c', .int .i64 0]) ∧ TmV w' (fiveV (eqTm a b) A K c c') (eqTm a b)))
theorem wt_eq (a b : Tm) : wtT (eqTm a b) = 1 + (wtT a + wtT b) := by
  unfold eqTm
  rw [wtT_eq]
  show 1 + 0 / 8 + 0 + wtL [a, b] = _
  rw [wtL_cons, wtL_cons, wtL_nil]
  omega
set_option maxRecDepth 100000 in
set_option maxHeartbeats 6400000 in
theorem same_ok {w : World} {c cp : Nat} {K P : Option Addr} {fs : List Tm} {ps : List Int} {a b : Tm} {A1 K1 A2 K2 : Option Addr} {e1 e1' e2 e2' : Nat}
    (hfs : TmsAt w K fs) (hta : TmV w (fiveV a A1 K1 e1 e1') a) (htb : TmV w (fiveV b A2 K2 e2 e2') b) (hps : Row w P (IntsV ps))
    (hfew : ∀ t ∈ fs, wtT t ≤ 100000) (hwa : wtT a ≤ 40000) (hwb : wtT b ≤ 40000) (hr : ∀ p ∈ ps, -9223372036854775808 ≤ p ∧ p < 9223372036854775808) (hn : ps.length ≤ 100000) (hM : LibM w.heap.size w) :
    Calls Tryz.prog 6 #[.slice K fs.length c, fiveV a A1 K1 e1 e1', fiveV b A2 K2 e2 e2', .slice P ps.length cp] w (SameE fs a b ps w) := by
  have hmf : ∀ (fn : Fn) (first cap : Array Value) (w : World), (Instr.makeFunc fn first cap).run Tryz.prog w = .ok (.func fn first cap) w := fun _ _ _ _ => rfl
  have HH := Lib.hid (show _ ∧ _ ∧ _ ∧ _ ∧ _ ∧ _ ∧ _ ∧ _ ∧ _ ∧ _ from ⟨hfs, hta, htb, hps, hfew, hwa, hwb, hr, hn, hM⟩)
  clear hfs hta htb hps hfew hwa hwb hr hn hM
  go_enter Tryz.func6, Tryz.ntmps6
  go_wp2_with fail
  obtain ⟨z0, z1, z2, z3, z4, zs, zb⟩ := five_alloc w (.cells #[.slice K fs.length c] 22) (.cells #[.int .u8 a.kind, .string a.name, .bool a.neg, .slice A1 a.ds.length e1, .slice K1 a.kids.length e1'] 28) (.cells #[.int .u8 b.kind, .string b.name, .bool b.neg, .slice A2 b.ds.length e2, .slice K2 b.kids.length e2'] 28) (.cells #[.slice P ps.length cp] 29) (.cells #[.int .u8 0, .string ⟨#[]⟩, .bool false, .slice none 0 0, .slice none 0 0] 28)
  obtain ⟨w5, hw5⟩ : ∃ w5, w5 = ((((w.alloc (.cells #[.slice K fs.length c] 22)).alloc (.cells #[.int .u8 a.kind, .string a.name, .bool a.neg, .slice A1 a.ds.length e1, .slice K1 a.kids.length e1'] 28)).alloc (.cells #[.int .u8 b.kind, .string b.name, .bool b.neg, .slice A2 b.ds.length e2, .slice K2 b.kids.length e2'] 28)).alloc (.cells #[.slice P ps.length cp] 29)).alloc (.cells #[.int .u8 0, .string ⟨#[]⟩, .bool false, .slice none 0 0, .slice none 0 0] 28) := ⟨_, rfl⟩
  rw [← hw5] at z0 z1 z2 z3 z4 zs zb ⊢
  obtain ⟨hfs, hta, htb, hps, hfew, hwa, hwb, hr, hn, hM⟩ := HH.out
  have hT := told_ok (w := w5) (F := 16) (fs := #[]) (cs := #[.pointer (some ⟨w.heap.size + 1, 0, none⟩), .pointer (some ⟨w.heap.size, 0, none⟩), .pointer (some ⟨w.heap.size + 1 + 1 + 1, 0, none⟩), .pointer (some ⟨w.heap.size + 1 + 1, 0, none⟩)]) (Z := fun n => n = 31 ∧ walkK fs (keyT a) ps ≠ some (keyT b)) (T := fun t => t = eqTm a b ∧ walkK fs (keyT a) ps = some (keyT b)) (fun _ _ => rfl) (hM.on zb zb.size) (fun W hW hWs => by
    have hwW : Below w.heap.size w W := zb.trans (hW.mono zb.size)
    have g : ∀ k o, k < w.heap.size + 5 → w5.heap[k]? = o → W.heap[k]? = o := fun k o hk h => (hW.block k (by omega)).trans h
    refine (same1_ok (w := W) (pa := w.heap.size + 1) (pf := w.heap.size) (pp := w.heap.size + 1 + 1 + 1) (pb := w.heap.size + 1 + 1) (g _ _ (by omega) z1) (g _ _ (by omega) z2) (g _ _ (by omega) z0) (g _ _ (by omega) z3) (hfs.below hwW) (hta.bel hwW) (htb.bel hwW) (hps.below hwW) hfew hwa hwb hr hn (hM.on hwW hwW.size)).mono ?_
    rintro e w' ⟨hb, ⟨h1, h2⟩ | ⟨h1, x0, x1, x2, x3, x4, h2, h3⟩⟩
    · exact ⟨hb, .inl ⟨31, ⟨rfl, h1⟩, h2⟩⟩
    · exact ⟨hb, .inr ⟨_, _, _, _, _, _, ⟨rfl, h1⟩, h2, h3, by rw [wt_eq]; omega⟩⟩)
  have HT := Lib.hid hT
  have HZ := Lib.hid (show _ ∧ _ ∧ _ from ⟨z4, zs, zb⟩)
  clear z0 z1 z2 z3 z4 zs zb hfs hta htb hps hfew hwa hwb hr hn hM hT hw5 HH
  refine HT.out.mono ?_
  rintro e w6 ⟨hb6, ⟨n, ⟨rfl, hno⟩, rfl⟩ | ⟨t, A, KK, c1, c2, ⟨rfl, hyes⟩, rfl, hin⟩⟩
  · obtain ⟨z4, zs, zb⟩ := HZ.out
    have y4 : w6.heap[w.heap.size + 1 + 1 + 1 + 1]? = _ := (hb6.block _ (by omega)).trans z4
    have d0 : w6.cell? ⟨w.heap.size + 1 + 1 + 1 + 1, 0, none⟩ = some (.int .u8 0) := (cell_of_row _ _ 0 _ _ _ y4).trans rfl
    have d1 : w6.cell? ⟨w.heap.size + 1 + 1 + 1 + 1, 1, none⟩ = some (.string ⟨#[]⟩) := (cell_of_row _ _ 1 _ _ _ y4).trans rfl
    have d2 : w6.cell? ⟨w.heap.size + 1 + 1 + 1 + 1, 2, none⟩ = some (.bool false) := (cell_of_row _ _ 2 _ _ _ y4).trans rfl
    have d3 : w6.cell? ⟨w.heap.size + 1 + 1 + 1 + 1, 3, none⟩ = some (.slice none 0 0) := (cell_of_row _ _ 3 _ _ _ y4).trans rfl
    have d4 : w6.cell? ⟨w.heap.size + 1 + 1 + 1 + 1, 4, none⟩ = some (.slice none 0 0) := (cell_of_row _ _ 4 _ _ _ y4).trans rfl
    have ff : ∀ o, w6.frozen? ⟨w.heap.size + 1 + 1 + 1 + 1, o, none⟩ = false := fun o => by simp [World.frozen?, y4]
    have g0 := ff 0
    have g1 := ff 1
    have g2 := ff 2
    have g3 := ff 3
    have g4 := ff 4
    obtain ⟨wf, hwf⟩ : ∃ wf, wf = ((((w6.setCell ⟨w.heap.size + 1 + 1 + 1 + 1, 0, none⟩ (.int .u8 0)).setCell ⟨w.heap.size + 1 + 1 + 1 + 1, 1, none⟩ (.string ⟨#[]⟩)).setCell ⟨w.heap.size + 1 + 1 + 1 + 1, 2, none⟩ (.bool false)).setCell ⟨w.heap.size + 1 + 1 + 1 + 1, 3, none⟩ (.slice none 0 0)).setCell ⟨w.heap.size + 1 + 1 + 1 + 1, 4, none⟩ (.slice none 0 0) := ⟨_, rfl⟩
    have yf : wf.heap[w.heap.size + 1 + 1 + 1 + 1]? = some (.cells #[.int .u8 0, .string ⟨#[]⟩, .bool false, .slice none 0 0, .slice none 0 0] 28 (0, 0)) := by rw [hwf]; exact five_set y4
    have hbf : Below w.heap.size w wf := by
      refine (zb.trans (hb6.mono zb.size)).trans ?_
      rw [hwf]
      exact five_belowC (by omega) _ _ _ _ _ _
    have p0 := cell_of_row wf (w.heap.size + 1 + 1 + 1 + 1) 0 _ _ _ yf
    have p1 := cell_of_row wf (w.heap.size + 1 + 1 + 1 + 1) 1 _ _ _ yf
    have p2 := cell_of_row wf (w.heap.size + 1 + 1 + 1 + 1) 2 _ _ _ yf
    have p3 := cell_of_row wf (w.heap.size + 1 + 1 + 1 + 1) 3 _ _ _ yf
    have p4 := cell_of_row wf (w.heap.size + 1 + 1 + 1 + 1) 4 _ _ _ yf
    simp at p0 p1 p2 p3 p4
    have HR := Lib.hid (show SameE fs a b ps w (.returned (.tuple #[zeroV, .int .i64 31])) wf from ⟨hbf, .inl ⟨hno, rfl⟩⟩)
    have HF := Lib.hid hwf
    clear y4 ff hwf yf hbf z4 zs zb hb6 hno HT
    go_wp2
    rw [← HF.out]
    exact bodyPost_ret (v := .tuple #[zeroV, .int .i64 31]) (by simp [results, Tryz.results6, go_sem, p0, p1, p2, p3, p4]) rfl HR.out
  · obtain ⟨z4, zs, zb⟩ := HZ.out
    have y4 : w6.heap[w.heap.size + 1 + 1 + 1 + 1]? = _ := (hb6.block _ (by omega)).trans z4
    have d0 : w6.cell? ⟨w.heap.size + 1 + 1 + 1 + 1, 0, none⟩ = some (.int .u8 0) := (cell_of_row _ _ 0 _ _ _ y4).trans rfl
    have d1 : w6.cell? ⟨w.heap.size + 1 + 1 + 1 + 1, 1, none⟩ = some (.string ⟨#[]⟩) := (cell_of_row _ _ 1 _ _ _ y4).trans rfl
    have d2 : w6.cell? ⟨w.heap.size + 1 + 1 + 1 + 1, 2, none⟩ = some (.bool false) := (cell_of_row _ _ 2 _ _ _ y4).trans rfl
    have d3 : w6.cell? ⟨w.heap.size + 1 + 1 + 1 + 1, 3, none⟩ = some (.slice none 0 0) := (cell_of_row _ _ 3 _ _ _ y4).trans rfl
    have d4 : w6.cell? ⟨w.heap.size + 1 + 1 + 1 + 1, 4, none⟩ = some (.slice none 0 0) := (cell_of_row _ _ 4 _ _ _ y4).trans rfl
    have ff : ∀ o, w6.frozen? ⟨w.heap.size + 1 + 1 + 1 + 1, o, none⟩ = false := fun o => by simp [World.frozen?, y4]
    have g0 := ff 0
    have g1 := ff 1
    have g2 := ff 2
    have g3 := ff 3
    have g4 := ff 4
    obtain ⟨x0, hx0⟩ : ∃ x : Int, x = (eqTm a b).kind := ⟨_, rfl⟩
    obtain ⟨x1, hx1⟩ : ∃ x : ByteArray, x = (eqTm a b).name := ⟨_, rfl⟩
    obtain ⟨x2, hx2⟩ : ∃ x : Bool, x = (eqTm a b).neg := ⟨_, rfl⟩
    obtain ⟨x3, hx3⟩ : ∃ x : Nat, x = (eqTm a b).ds.length := ⟨_, rfl⟩
    obtain ⟨x4, hx4⟩ : ∃ x : Nat, x = (eqTm a b).kids.length := ⟨_, rfl⟩
    obtain ⟨wf, hwf⟩ : ∃ wf, wf = ((((w6.setCell ⟨w.heap.size + 1 + 1 + 1 + 1, 0, none⟩ (.int .u8 x0)).setCell ⟨w.heap.size + 1 + 1 + 1 + 1, 1, none⟩ (.string x1)).setCell ⟨w.heap.size + 1 + 1 + 1 + 1, 2, none⟩ (.bool x2)).setCell ⟨w.heap.size + 1 + 1 + 1 + 1, 3, none⟩ (.slice A x3 c1)).setCell ⟨w.heap.size + 1 + 1 + 1 + 1, 4, none⟩ (.slice KK x4 c2) := ⟨_, rfl⟩
    have yf : wf.heap[w.heap.size + 1 + 1 + 1 + 1]? = some (.cells #[.int .u8 x0, .string x1, .bool x2, .slice A x3 c1, .slice KK x4 c2] 28 (0, 0)) := by rw [hwf]; exact five_set y4
    have hbf : Below w.heap.size w wf := by
      refine (zb.trans (hb6.mono zb.size)).trans ?_
      rw [hwf]
      exact five_belowC (by omega) _ _ _ _ _ _
    have htf : TmV wf (fiveV (eqTm a b) A KK c1 c2) (eqTm a b) := hin wf fun k hk hx => by
      have hk4 : k ≠ w.heap.size + 1 + 1 + 1 + 1 := fun e => by
        subst e
        rcases hx with hx | hx
        · omega
        · exact hx (.of z4 (by decide))
      rw [hwf]
      exact five_off hk4
    have p0 := cell_of_row wf (w.heap.size + 1 + 1 + 1 + 1) 0 _ _ _ yf
    have p1 := cell_of_row wf (w.heap.size + 1 + 1 + 1 + 1) 1 _ _ _ yf
    have p2 := cell_of_row wf (w.heap.size + 1 + 1 + 1 + 1) 2 _ _ _ yf
    have p3 := cell_of_row wf (w.heap.size + 1 + 1 + 1 + 1) 3 _ _ _ yf
    have p4 := cell_of_row wf (w.heap.size + 1 + 1 + 1 + 1) 4 _ _ _ yf
    simp at p0 p1 p2 p3 p4
    have HR := Lib.hid (show SameE fs a b ps w (.returned (.tuple #[.agg #[.int .u8 x0, .string x1, .bool x2, .slice A x3 c1, .slice KK x4 c2], .int .i64 0])) wf from ⟨hbf, .inr ⟨hyes, A, KK, c1, c2, by rw [hx0, hx1, hx2, hx3, hx4], htf⟩⟩)
    have hv : fiveV (eqTm a b) A KK c1 c2 = .agg #[.int .u8 x0, .string x1, .bool x2, .slice A x3 c1, .slice KK x4 c2] := by rw [hx0, hx1, hx2, hx3, hx4]
    rw [hv]
    clear hv
    have HF := Lib.hid hwf
    clear y4 ff hwf yf hbf z4 zs zb hb6 hyes HT htf hin hx0 hx1 hx2 hx3 hx4
    go_wp2
    rw [← HF.out]
    exact bodyPost_ret (v := .tuple #[.agg #[.int .u8 x0, .string x1, .bool x2, .slice A x3 c1, .slice KK x4 c2], .int .i64 0]) (by simp [results, Tryz.results6, go_sem, p0, p1, p2, p3, p4]) rfl HR.out
end Go.Proofs.YtlikpnaffpngiaaGreatDoor

namespace Go.Proofs.YtlikpnaffpngiaaGreatDoor
open Go.RowKit

set_option maxRecDepth 100000 in
set_option maxHeartbeats 3200000 in
theorem csof_ok {w : World} {t : Tm} {A K : Option Addr} {c c' : Nat} {vD vS : Value} {D : List DtT} {S : List (ByteArray × ByteArray)} (hDv : DatasV w vD D) (hSv : ScopeV w vS S) (hfew : DFew D) (hfewS : S.length ≤ 1000000) (ht : TmV w (fiveV t A K c c') t) (hd : okD t) (hsz : 2 * (preT t).length ≤ 1000000) :
    Calls Tryz.prog 37 #[.agg #[vD, vS], fiveV t A K c c'] w fun e w' => SortEnd (sortT D S t) e ∧ Below w.heap.size w w' := by
  obtain ⟨AD, cD, rfl⟩ : ∃ A c, vD = .slice A D.length c := by obtain ⟨A, c, e, _⟩ := hDv; exact ⟨A, c, e⟩
  obtain ⟨AS, cS, rfl⟩ : ∃ A c, vS = .slice A S.length c := by obtain ⟨A, c, e, _⟩ := hSv; exact ⟨A, c, e⟩
  have HH := Lib.hid (show _ ∧ _ ∧ _ ∧ _ ∧ _ ∧ _ ∧ _ from ⟨hDv, hSv, hfew, hfewS, ht, hd, hsz⟩)
  clear hDv hSv hfew hfewS ht hd hsz
  go_enter Tryz.func37, Tryz.ntmps37
  go_wp2_with fail
  obtain ⟨hDv, hSv, hfew, hfewS, ht, hd, hsz⟩ := HH.out
  obtain ⟨w2, hw2⟩ : ∃ w2, w2 = (w.alloc (.cells #[.slice AD D.length cD, .slice AS S.length cS] 59)).alloc (.cells #[.int .u8 t.kind, .string t.name, .bool t.neg, .slice A t.ds.length c, .slice K t.kids.length c'] 28) := ⟨_, rfl⟩
  have hb : Below w.heap.size w w2 := by rw [hw2]; exact (two_alloc w _ _).2.2.2
  rw [← hw2]
  have HS := Lib.hid (sort_ok (w := w2) (hDv.sub (sub_below hb)) (hSv.sub (sub_below hb)) hfew hfewS (ht.bel hb) hd hsz)
  have HB := Lib.hid hb
  clear hDv hSv hfew hfewS ht hd hsz hb hw2 HH
  refine HS.out.mono ?_
  rintro e w3 ⟨⟨s, hs, rfl⟩ | ⟨hs, m, hm, rfl⟩, hb3⟩
  · have HR := Lib.hid (show SortEnd (sortT D S t) (.returned (.tuple #[.string s, .int .i64 0])) ∧ Below w.heap.size w w3 from ⟨.inl ⟨s, hs, rfl⟩, HB.out.trans (hb3.mono HB.out.size)⟩)
    clear hs hb3 HS
    go_wp2
    go_returns
    exact HR.out
  · have HR := Lib.hid (show SortEnd (sortT D S t) (.returned (.tuple #[.string ⟨#[]⟩, .int .i64 m])) ∧ Below w.heap.size w w3 from ⟨.inr ⟨hs, m, hm, rfl⟩, HB.out.trans (hb3.mono HB.out.size)⟩)
    clear hs hb3 HS hm
    go_wp2
    go_returns
    exact HR.out
/-- What stands fast of datas and a scope. -/
structure SortsH (w : World) (vD vS : Value) (D : List DtT) (S : List (ByteArray × ByteArray)) : Prop where
  datas : DatasV w vD D
  scope : ScopeV w vS S
  few : DFew D
  fewS : S.length ≤ 1000000
theorem SortsH.bel {w w' : World} {vD vS : Value} {D : List DtT} {S : List (ByteArray × ByteArray)} (h : SortsH w vD vS D S) (hb : Below w.heap.size w w') : SortsH w' vD vS D S := ⟨h.datas.sub (sub_below hb), h.scope.sub (sub_below hb), h.few, h.fewS⟩
theorem SortsH.shape {w : World} {vD vS : Value} {D : List DtT} {S : List (ByteArray × ByteArray)} (h : SortsH w vD vS D S) : ∃ AD cD AS cS, vD = .slice AD D.length cD ∧ vS = .slice AS S.length cS := by
  obtain ⟨A, c, e, _⟩ := h.datas
  obtain ⟨A', c', e', _⟩ := h.scope
  exact ⟨A, c, A', c', e, e'⟩
theorem okD_wt {w : World} {v : Value} {t : Tm} (ht : TmV w v t) (hwt : wtT t ≤ 100000) : okD t ∧ 2 * (preT t).length ≤ 1000000 := by
  have hwl : wtL [t] ≤ 100000 := by rw [wtL_one]; exact hwt
  have hks := kids_small (l := [t])
  have hpl := preL_wt _ (l := [t]) (Nat.le_refl _)
  rw [preL_one] at hks hpl
  exact ⟨fun p hp => by have := hks p hp; omega, by omega⟩
set_option maxRecDepth 100000 in
set_option maxHeartbeats 3200000 in
theorem needData_yes {w : World} {a b : Tm} {A K A' K' : Option Addr} {c1 c2 c3 c4 : Nat} {vD vS : Value} {D : List DtT} {S : List (ByteArray × ByteArray)} {s : ByteArray} (hS : SortsH w vD vS D S) (hta : TmV w (fiveV a A K c1 c2) a) (htb : TmV w (fiveV b A' K' c3 c4) b) (hwa : wtT a ≤ 100000) (hwb : wtT b ≤ 100000) (ha : sortT D S a = some s) (hb : sortT D S b = some s) (hi : s ≠ sInt) (hbo : s ≠ sBool) :
    Calls Tryz.prog 25 #[.agg #[vD, vS], fiveV a A K c1 c2, fiveV b A' K' c3 c4] w fun e w' => (∃ u, e = .returned u) ∧ Below w.heap.size w w' := by
  obtain ⟨AD, cD, AS, cS, rfl, rfl⟩ := hS.shape
  have HH := Lib.hid (show _ ∧ _ ∧ _ ∧ _ ∧ _ ∧ _ ∧ _ from ⟨hS, hta, htb, hwa, hwb, ha, hb⟩)
  have hni : (s.toList == [105, 110, 116]) = false := by rw [← int_list]; exact bytes_no hi
  have hnb : (s.toList == [98, 111, 111, 108]) = false := by rw [← bool_list]; exact bytes_no hbo
  clear hS hta htb hwa hwb ha hb
  go_enter Tryz.func25, Tryz.ntmps25
  go_wp2_with fail
  obtain ⟨z0, z1, z2, zs, zb⟩ := three_alloc w (.cells #[.slice AD D.length cD, .slice AS S.length cS] 59) (.cells #[.int .u8 a.kind, .string a.name, .bool a.neg, .slice A a.ds.length c1, .slice K a.kids.length c2] 28) (.cells #[.int .u8 b.kind, .string b.name, .bool b.neg, .slice A' b.ds.length c3, .slice K' b.kids.length c4] 28)
  obtain ⟨w3, hw3⟩ : ∃ w3, w3 = ((w.alloc (.cells #[.slice AD D.length cD, .slice AS S.length cS] 59)).alloc (.cells #[.int .u8 a.kind, .string a.name, .bool a.neg, .slice A a.ds.length c1, .slice K a.kids.length c2] 28)).alloc (.cells #[.int .u8 b.kind, .string b.name, .bool b.neg, .slice A' b.ds.length c3, .slice K' b.kids.length c4] 28) := ⟨_, rfl⟩
  rw [← hw3] at z0 z1 z2 zs zb ⊢
  have HO := Lib.hid (show ∀ W : World, Below w.heap.size w W → ∀ (t : Tm) (X Y : Option Addr) (d d' : Nat), TmV W (fiveV t X Y d d') t → wtT t ≤ 100000 → sortT D S t = some s → Calls Tryz.prog 37 #[.agg #[.slice AD D.length cD, .slice AS S.length cS], fiveV t X Y d d'] W fun e w' => e = .returned (.tuple #[.string s, .int .i64 0]) ∧ Below W.heap.size W w' from fun W hW t X Y d d' ht hwt hs => by
    have hS := HH.out.1.bel hW
    refine (csof_ok hS.datas hS.scope hS.few hS.fewS ht (okD_wt ht hwt).1 (okD_wt ht hwt).2).mono ?_
    rintro e w' ⟨⟨s', hs', rfl⟩ | ⟨hs', _⟩, hb⟩
    · rw [hs] at hs'
      injection hs' with hs'
      subst hs'
      exact ⟨rfl, hb⟩
    · rw [hs] at hs'; cases hs')
  have HZ := Lib.hid (show _ ∧ _ ∧ _ ∧ _ ∧ _ from ⟨z0, z1, z2, zs, zb⟩)
  clear z0 z1 z2 zs zb hw3
  refine (HO.out _ HZ.out.2.2.2.2 a A K c1 c2 (HH.out.2.1.bel HZ.out.2.2.2.2) HH.out.2.2.2.1 HH.out.2.2.2.2.2.1).mono ?_
  rintro e w4 ⟨rfl, hb4⟩
  obtain ⟨z0, z1, z2, zs, zb⟩ := HZ.out
  have y0 : w4.heap[w.heap.size]? = _ := (hb4.block _ (by omega)).trans z0
  have y2 : w4.heap[w.heap.size + 1 + 1]? = _ := (hb4.block _ (by omega)).trans z2
  have d0 := cell_of_row w4 w.heap.size 0 _ _ _ y0
  have d1 := cell_of_row w4 w.heap.size 1 _ _ _ y0
  have e0 := cell_of_row w4 (w.heap.size + 1 + 1) 0 _ _ _ y2
  have e1 := cell_of_row w4 (w.heap.size + 1 + 1) 1 _ _ _ y2
  have e2 := cell_of_row w4 (w.heap.size + 1 + 1) 2 _ _ _ y2
  have e3 := cell_of_row w4 (w.heap.size + 1 + 1) 3 _ _ _ y2
  have e4 := cell_of_row w4 (w.heap.size + 1 + 1) 4 _ _ _ y2
  simp at d0 d1 e0 e1 e2 e3 e4
  have HB := Lib.hid (show Below w.heap.size w w4 from zb.trans (hb4.mono zb.size))
  clear z0 z1 z2 zs zb y0 y2 hb4
  go_wp2_with fail
  refine cneed_yes.mono ?_
  rintro e w' ⟨rfl, rfl⟩
  go_wp2_with fail
  refine (HO.out _ HB.out b A' K' c3 c4 (HH.out.2.2.1.bel HB.out) HH.out.2.2.2.2.1 HH.out.2.2.2.2.2.2).mono ?_
  rintro e w5 ⟨rfl, hb5⟩
  have HB5 := Lib.hid (show Below w.heap.size w w5 from HB.out.trans (hb5.mono HB.out.size))
  clear hb5 d0 d1 e0 e1 e2 e3 e4
  go_wp2_with fail
  refine cneed_yes.mono ?_
  rintro e w' ⟨rfl, rfl⟩
  go_wp2
  go_returns
  exact ⟨⟨_, rfl⟩, HB5.out⟩
/-- v stands for t, whatever is done to blocks that are not of B. -/
def TmB (B : Nat → Prop) (W : World) (v : Value) (t : Tm) : Prop := ∀ W' : World, (∀ k, k < W.heap.size → B k → W'.heap[k]? = W.heap[k]?) → TmV W' v t
theorem TmB.tm {B : Nat → Prop} {W : World} {v : Value} {t : Tm} (h : TmB B W v t) : TmV W v t := h W fun _ _ _ => rfl
theorem TmB.bel {B : Nat → Prop} {W W2 : World} {v : Value} {t : Tm} (h : TmB B W v t) (hb : Below W.heap.size W W2) : TmB B W2 v t := fun W' hW' => h W' fun k hk hB => (hW' k (Nat.lt_of_lt_of_le hk hb.size) hB).trans (hb.block k hk)
theorem TmV.base {B : Nat → Prop} {w W : World} {v : Value} {t : Tm} (h : TmV w v t) (hb : Below w.heap.size w W) (hB : ∀ k, k < w.heap.size → B k) : TmB B W v t := fun W' hW' => h.sub fun a u hc => by
  have hk := cell_lt hc
  exact (cell_congr ((hW' _ (Nat.lt_of_lt_of_le hk hb.size) (hB _ hk)).trans (hb.block _ hk))).trans hc
/-- A function of a term. -/
def appTm (name : ByteArray) (t : Tm) : Tm := .mk 7 name false [] [t]
theorem tms_one {W : World} {B : Nat} {u0 u1 u2 u3 u4 : Value} {T : TypeId} {fz : Nat × Nat} {a : Tm} (h : W.heap[B]? = some (.cells #[u0, u1, u2, u3, u4] T fz)) (ha : TmV W (.agg #[u0, u1, u2, u3, u4]) a) : TmsAt W (some ⟨B, 0, none⟩) [a] := by
  intro j t hj
  match j, hj with
  | 0, hj =>
    obtain rfl : a = t := by simpa using hj
    refine ⟨⟨B, 0, none⟩, u0, u1, u2, u3, u4, rfl, ?_, ha⟩
    simp only [add_eq, Nat.zero_mul, Nat.zero_add, Nat.add_zero]
    exact ⟨cell_of_row _ _ 0 _ _ _ h, cell_of_row _ _ 1 _ _ _ h, cell_of_row _ _ 2 _ _ _ h, cell_of_row _ _ 3 _ _ _ h, cell_of_row _ _ 4 _ _ _ h⟩
  | k + 1, hj => simp at hj
theorem app_of {W : World} {B c : Nat} {u0 u1 u2 u3 u4 : Value} {T : TypeId} {fz : Nat × Nat} {a : Tm} {name : ByteArray} (hn : name.size ≤ 140737488355328) (h : W.heap[B]? = some (.cells #[u0, u1, u2, u3, u4] T fz)) (ha : TmV W (.agg #[u0, u1, u2, u3, u4]) a) : TmV W (fiveV (appTm name a) none (some ⟨B, 0, none⟩) 0 c) (appTm name a) :=
  TmV.of (kind := 7) (name := name) (neg := false) (ds := []) (kids := [a]) (by decide) hn (by intro i v h; simp [u32s] at h) (by intro d hd; simp at hd) (by simp) (by simp) (tms_one h ha)
set_option maxRecDepth 100000 in
set_option maxHeartbeats 3200000 in
theorem apply_okB {w : World} {Z : Nat → Prop} {t : Tm} {A K : Option Addr} {c c' : Nat} {name : ByteArray} (hn : name.size ≤ 140737488355328) (ht : TmB Z w (fiveV t A K c c') t) (hZ : ∀ k, w.heap.size ≤ k → Z k) :
    Calls Tryz.prog 28 #[.string name, fiveV t A K c c'] w fun e w' => ∃ (B : Addr) (d : Nat), e = .returned (fiveV (appTm name t) none (some B) 0 d) ∧ TmB Z w' (fiveV (appTm name t) none (some B) 0 d) (appTm name t) ∧ Below w.heap.size w w' := by
  have HH := Lib.hid (show _ ∧ _ ∧ _ from ⟨hn, ht, hZ⟩)
  clear hn ht hZ
  go_enter Tryz.func28, Tryz.ntmps28
  go_wp2_with fail
  obtain ⟨z0, z1, z2, zs, zb⟩ := three_alloc w (.cells #[.int .u8 t.kind, .string t.name, .bool t.neg, .slice A t.ds.length c, .slice K t.kids.length c'] 28) (.cells #[.int .u8 0, .string ⟨#[]⟩, .bool false, .slice none 0 0, .slice none 0 0] 28) (.cells #[.int .u8 t.kind, .string t.name, .bool t.neg, .slice A t.ds.length c, .slice K t.kids.length c'] 28)
  obtain ⟨w3, hw3⟩ : ∃ w3, w3 = ((w.alloc (.cells #[.int .u8 t.kind, .string t.name, .bool t.neg, .slice A t.ds.length c, .slice K t.kids.length c'] 28)).alloc (.cells #[.int .u8 0, .string ⟨#[]⟩, .bool false, .slice none 0 0, .slice none 0 0] 28)).alloc (.cells #[.int .u8 t.kind, .string t.name, .bool t.neg, .slice A t.ds.length c, .slice K t.kids.length c'] 28) := ⟨_, rfl⟩
  rw [← hw3] at z0 z1 z2 zs zb ⊢
  refine node_ok.mono ?_
  rintro e w5 ⟨rfl, hb5⟩
  have y1 : w5.heap[w.heap.size + 1]? = _ := (hb5.block _ (by omega)).trans z1
  have y2 : w5.heap[w.heap.size + 1 + 1]? = _ := (hb5.block _ (by omega)).trans z2
  obtain ⟨w6, hw6⟩ : ∃ w6, w6 = w5.alloc (.cells #[.int .u8 7, .string name, .bool false, .slice none 0 0, .slice (some ⟨w.heap.size + 1 + 1, 0, none⟩) 1 1] 28) := ⟨_, rfl⟩
  have hb6 : Below w5.heap.size w5 w6 := by rw [hw6]; exact (Below.refl _ _).alloc (Nat.le_refl _) _
  have q1 : w6.heap[w.heap.size + 1]? = _ := (hb6.block _ (Own.lt.cell_lt' y1)).trans y1
  have d0 := cell_of_row w6 (w.heap.size + 1) 0 _ _ _ q1
  have d1 := cell_of_row w6 (w.heap.size + 1) 1 _ _ _ q1
  have d2 := cell_of_row w6 (w.heap.size + 1) 2 _ _ _ q1
  have d3 := cell_of_row w6 (w.heap.size + 1) 3 _ _ _ q1
  have d4 := cell_of_row w6 (w.heap.size + 1) 4 _ _ _ q1
  simp at d0 d1 d2 d3 d4
  have ff : ∀ o, w6.frozen? ⟨w.heap.size + 1, o, none⟩ = false := fun o => by simp [World.frozen?, q1]
  have f0 := ff 0
  have f1 := ff 1
  have f2 := ff 2
  have f3 := ff 3
  have f4 := ff 4
  rw [hw6] at d0 d1 d2 d3 d4 f0 f1 f2 f3 f4
  have hlt : w.heap.size + 1 < w5.heap.size := Own.lt.cell_lt' y1
  have hne : ¬ w.heap.size + 1 = w5.heap.size := by omega
  have hne' : ¬ w5.heap.size = w.heap.size + 1 := by omega
  have HZ := Lib.hid (show _ ∧ _ ∧ _ ∧ _ ∧ _ from ⟨y1, y2, zb.trans (hb5.mono (by omega)), hb6, hw6⟩)
  clear z0 z1 z2 zs zb hw3 hb5 y1 y2 hb6 q1 ff hw6 hlt
  go_wp2
  obtain ⟨y1, y2, hb05, hb6, hw6⟩ := HZ.out
  rw [← hw6]
  have q1 : w6.heap[w.heap.size + 1]? = _ := (hb6.block _ (Own.lt.cell_lt' y1)).trans y1
  obtain ⟨wf, hwf⟩ : ∃ wf, wf = ((((w6.setCell ⟨w.heap.size + 1, 0, none⟩ (.int .u8 7)).setCell ⟨w.heap.size + 1, 1, none⟩ (.string name)).setCell ⟨w.heap.size + 1, 2, none⟩ (.bool false)).setCell ⟨w.heap.size + 1, 3, none⟩ (.slice none 0 0)).setCell ⟨w.heap.size + 1, 4, none⟩ (.slice (some ⟨w.heap.size + 1 + 1, 0, none⟩) 1 1) := ⟨_, rfl⟩
  rw [← hwf]
  have yf : wf.heap[w.heap.size + 1]? = some (.cells #[.int .u8 7, .string name, .bool false, .slice none 0 0, .slice (some ⟨w.heap.size + 1 + 1, 0, none⟩) 1 1] 28 (0, 0)) := by rw [hwf]; exact five_set q1
  have zf : wf.heap[w.heap.size + 1 + 1]? = _ := (by rw [hwf]; exact (five_off (by omega)).trans (hb6.block _ (Own.lt.cell_lt' y2)) : wf.heap[w.heap.size + 1 + 1]? = w5.heap[w.heap.size + 1 + 1]?).trans y2
  have hbf : Below w.heap.size w wf := by
    refine (hb05.trans (hb6.mono hb05.size)).trans ?_
    rw [hwf]
    exact five_belowC (by omega) _ _ _ _ _ _
  have p0 := cell_of_row wf (w.heap.size + 1) 0 _ _ _ yf
  have p1 := cell_of_row wf (w.heap.size + 1) 1 _ _ _ yf
  have p2 := cell_of_row wf (w.heap.size + 1) 2 _ _ _ yf
  have p3 := cell_of_row wf (w.heap.size + 1) 3 _ _ _ yf
  have p4 := cell_of_row wf (w.heap.size + 1) 4 _ _ _ yf
  simp at p0 p1 p2 p3 p4
  exact bodyPost_ret (v := .agg #[.int .u8 7, .string name, .bool false, .slice none 0 0, .slice (some ⟨w.heap.size + 1 + 1, 0, none⟩) 1 1]) (by simp [results, Tryz.results28, go_sem, p0, p1, p2, p3, p4]) rfl ⟨_, _, rfl, fun W' hW' => app_of HH.out.1 ((hW' _ (Own.lt.cell_lt' zf) (HH.out.2.2 _ (by omega))).trans zf) ((HH.out.2.1.bel hbf) W' hW'), hbf⟩
theorem apply_ok {w : World} {t : Tm} {A K : Option Addr} {c c' : Nat} {name : ByteArray} (hn : name.size ≤ 140737488355328) (ht : TmV w (fiveV t A K c c') t) :
    Calls Tryz.prog 28 #[.string name, fiveV t A K c c'] w fun e w' => ∃ (B : Addr) (d : Nat), e = .returned (fiveV (appTm name t) none (some B) 0 d) ∧ TmV w' (fiveV (appTm name t) none (some B) 0 d) (appTm name t) ∧ Below w.heap.size w w' := (apply_okB (Z := fun _ => True) hn (ht.base (Below.refl _ _) fun _ _ => trivial) fun _ _ => trivial).mono fun e w' h => by
  obtain ⟨B, d, h1, h2, h3⟩ := h
  exact ⟨B, d, h1, h2.tm, h3⟩
set_option maxRecDepth 100000 in
set_option maxHeartbeats 3200000 in
theorem result_yes {w : World} {a : Tm} {A K : Option Addr} {c1 c2 : Nat} {vD vS : Value} {D : List DtT} {S : List (ByteArray × ByteArray)} {s name : ByteArray} (hS : SortsH w vD vS D S) (hta : TmV w (fiveV a A K c1 c2) a) (hwa : wtT a ≤ 20000) (hn : name.size ≤ 80000) (hs : sortT D S (appTm name a) = some s) :
    Calls Tryz.prog 27 #[.agg #[vD, vS], .string name, fiveV a A K c1 c2] w fun e w' => e = .returned (.string s) ∧ Below w.heap.size w w' := by
  obtain ⟨AD, cD, AS, cS, rfl, rfl⟩ := hS.shape
  have HH := Lib.hid (show _ ∧ _ ∧ _ ∧ _ ∧ _ from ⟨hS, hta, hwa, hn, hs⟩)
  clear hS hta hwa hn hs
  obtain ⟨z0, z1, zs, zb⟩ := two_alloc w (.cells #[.slice AD D.length cD, .slice AS S.length cS] 59) (.cells #[.int .u8 a.kind, .string a.name, .bool a.neg, .slice A a.ds.length c1, .slice K a.kids.length c2] 28)
  obtain ⟨w2, hw2⟩ : ∃ w2, w2 = (w.alloc (.cells #[.slice AD D.length cD, .slice AS S.length cS] 59)).alloc (.cells #[.int .u8 a.kind, .string a.name, .bool a.neg, .slice A a.ds.length c1, .slice K a.kids.length c2] 28) := ⟨_, rfl⟩
  rw [← hw2] at z0 z1 zs zb
  have HA := Lib.hid (show Calls Tryz.prog 28 #[.string name, fiveV a A K c1 c2] w2.drew fun e w3 => ∃ (B : Addr) (d : Nat), e = .returned (fiveV (appTm name a) none (some B) 0 d) ∧ Hid (Calls Tryz.prog 37 #[.agg #[.slice AD D.length cD, .slice AS S.length cS], fiveV (appTm name a) none (some B) 0 d] w3 fun e w4 => e = .returned (.tuple #[.string s, .int .i64 0]) ∧ Below w.heap.size w w4) ∧ w3.cell? ⟨w.heap.size, 0, none⟩ = some (.slice AD D.length cD) ∧ w3.cell? ⟨w.heap.size, 1, none⟩ = some (.slice AS S.length cS) from by
    obtain ⟨hS, hta, hwa, hn, hs⟩ := HH.out
    refine (apply_ok (w := w2.drew) (by omega) (hta.bel zb.drew)).mono ?_
    rintro e w3 ⟨B, d, rfl, ht, hb3⟩
    have hb03 : Below w.heap.size w w3 := zb.drew.trans (hb3.mono zb.size)
    have hwt : wtT (appTm name a) ≤ 100000 := by
      unfold appTm
      rw [wtT_eq]
      show 1 + name.size / 8 + 0 + wtL [a] ≤ _
      rw [wtL_one]
      omega
    have y0 : w3.heap[w.heap.size]? = _ := (hb3.block _ (show w.heap.size < w2.heap.size by omega)).trans z0
    refine ⟨B, d, rfl, Lib.hid ?_, cell_of_row w3 w.heap.size 0 _ _ _ y0, cell_of_row w3 w.heap.size 1 _ _ _ y0⟩
    have hS3 := hS.bel hb03
    refine (csof_ok hS3.datas hS3.scope hS3.few hS3.fewS ht (okD_wt ht hwt).1 (okD_wt ht hwt).2).mono ?_
    rintro e w4 ⟨⟨s', hs', rfl⟩ | ⟨hs', _⟩, hb⟩
    · rw [hs] at hs'
      injection hs' with hs'
      subst hs'
      exact ⟨rfl, hb03.trans (hb.mono hb03.size)⟩
    · rw [hs] at hs'; cases hs')
  have d0 := cell_of_row w2 w.heap.size 0 _ _ _ z0
  have d1 := cell_of_row w2 w.heap.size 1 _ _ _ z0
  have e0 := cell_of_row w2 (w.heap.size + 1) 0 _ _ _ z1
  have e1 := cell_of_row w2 (w.heap.size + 1) 1 _ _ _ z1
  have e2 := cell_of_row w2 (w.heap.size + 1) 2 _ _ _ z1
  have e3 := cell_of_row w2 (w.heap.size + 1) 3 _ _ _ z1
  have e4 := cell_of_row w2 (w.heap.size + 1) 4 _ _ _ z1
  simp at d0 d1 e0 e1 e2 e3 e4
  have HW := Lib.hid hw2
  clear z0 z1 zs zb hw2
  go_enter Tryz.func27, Tryz.ntmps27
  go_wp2_with fail
  rw [← HW.out]
  go_region_with (first
    | (go_at_call 37; refine HO.out.mono ?_; rintro e w4 ⟨rfl, hb4⟩; have HB := Lib.hid hb4; clear hb4)
    | (go_at_call 28; refine HA.out.mono ?_; rintro e w3 ⟨B, d, rfl, HO, g0, g1⟩))
  all_goals go_wp2_with fail
  all_goals
    refine cneed_yes.mono ?_
    rintro e w' ⟨rfl, rfl⟩
    go_wp2
    go_returns
    exact ⟨rfl, HB.out⟩
set_option maxRecDepth 100000 in
set_option maxHeartbeats 3200000 in
theorem alike_eqB {w : World} {Z : Nat → Prop} {a b : Tm} {A K A' K' : Option Addr} {c1 c2 c3 c4 : Nat} {s : ByteArray} (hta : TmB Z w (fiveV a A K c1 c2) a) (htb : TmB Z w (fiveV b A' K' c3 c4) b) (hZ : ∀ k, w.heap.size ≤ k → Z k) (hbo : s ≠ sBool) :
    Calls Tryz.prog 26 #[.string s, fiveV a A K c1 c2, fiveV b A' K' c3 c4] w fun e w' => ∃ (B : Addr) (d : Nat), e = .returned (fiveV (eqTm a b) none (some B) 0 d) ∧ TmB Z w' (fiveV (eqTm a b) none (some B) 0 d) (eqTm a b) ∧ Below w.heap.size w w' := by
  have HH := Lib.hid (show _ ∧ _ ∧ _ from ⟨hta, htb, hZ⟩)
  have hnb : (s.toList == [98, 111, 111, 108]) = false := by rw [← bool_list]; exact bytes_no hbo
  clear hta htb hbo hZ
  go_enter Tryz.func26, Tryz.ntmps26
  go_wp2_with fail
  obtain ⟨z0, z1, z2, zs, zb⟩ := three_alloc w (.cells #[.int .u8 a.kind, .string a.name, .bool a.neg, .slice A a.ds.length c1, .slice K a.kids.length c2] 28) (.cells #[.int .u8 b.kind, .string b.name, .bool b.neg, .slice A' b.ds.length c3, .slice K' b.kids.length c4] 28) (.cells #[.int .u8 0, .string ⟨#[]⟩, .bool false, .slice none 0 0, .slice none 0 0] 28)
  obtain ⟨w3, hw3⟩ : ∃ w3, w3 = ((w.alloc (.cells #[.int .u8 a.kind, .string a.name, .bool a.neg, .slice A a.ds.length c1, .slice K a.kids.length c2] 28)).alloc (.cells #[.int .u8 b.kind, .string b.name, .bool b.neg, .slice A' b.ds.length c3, .slice K' b.kids.length c4] 28)).alloc (.cells #[.int .u8 0, .string ⟨#[]⟩, .bool false, .slice none 0 0, .slice none 0 0] 28) := ⟨_, rfl⟩
  obtain ⟨w4, hw4⟩ : ∃ w4, w4 = w3.alloc (.cells #[.int .u8 a.kind, .string a.name, .bool a.neg, .slice A a.ds.length c1, .slice K a.kids.length c2, .int .u8 b.kind, .string b.name, .bool b.neg, .slice A' b.ds.length c3, .slice K' b.kids.length c4] 28) := ⟨_, rfl⟩
  have hb4 : Below w3.heap.size w3 w4 := by rw [hw4]; exact (Below.refl _ _).alloc (Nat.le_refl _) _
  have y3 : w4.heap[w3.heap.size]? = some (.cells #[.int .u8 a.kind, .string a.name, .bool a.neg, .slice A a.ds.length c1, .slice K a.kids.length c2, .int .u8 b.kind, .string b.name, .bool b.neg, .slice A' b.ds.length c3, .slice K' b.kids.length c4] 28 (0, 0)) := by rw [hw4]; exact heap_alloc_new _ _
  rw [← hw3] at z0 z1 z2 zs zb ⊢
  rw [zs] at y3
  rw [← hw4]
  have y2 : w4.heap[w.heap.size + 2]? = _ := (hb4.block _ (by omega)).trans z2
  refine node_ok.mono ?_
  rintro e w5 ⟨rfl, hb5⟩
  have x2 : w5.heap[w.heap.size + 1 + 1]? = _ := (hb5.block _ (Own.lt.cell_lt' y2)).trans y2
  have x3 : w5.heap[w.heap.size + 1 + 1 + 1]? = _ := (hb5.block _ (Own.lt.cell_lt' y3)).trans y3
  have hb05 : Below w.heap.size w w5 := (zb.trans (hb4.mono (by omega))).trans (hb5.mono (by have := hb4.size; omega))
  have d0 := cell_of_row w5 (w.heap.size + 1 + 1) 0 _ _ _ x2
  have d1 := cell_of_row w5 (w.heap.size + 1 + 1) 1 _ _ _ x2
  have d2 := cell_of_row w5 (w.heap.size + 1 + 1) 2 _ _ _ x2
  have d3 := cell_of_row w5 (w.heap.size + 1 + 1) 3 _ _ _ x2
  have d4 := cell_of_row w5 (w.heap.size + 1 + 1) 4 _ _ _ x2
  simp at d0 d1 d2 d3 d4
  have ff : ∀ o, w5.frozen? ⟨w.heap.size + 1 + 1, o, none⟩ = false := fun o => by simp [World.frozen?, x2]
  have f0 := ff 0
  have f1 := ff 1
  have f2 := ff 2
  have f3 := ff 3
  have f4 := ff 4
  obtain ⟨wf, hwf⟩ : ∃ wf, wf = ((((w5.setCell ⟨w.heap.size + 1 + 1, 0, none⟩ (.int .u8 8)).setCell ⟨w.heap.size + 1 + 1, 1, none⟩ (.string ⟨#[]⟩)).setCell ⟨w.heap.size + 1 + 1, 2, none⟩ (.bool false)).setCell ⟨w.heap.size + 1 + 1, 3, none⟩ (.slice none 0 0)).setCell ⟨w.heap.size + 1 + 1, 4, none⟩ (.slice (some ⟨w.heap.size + 1 + 1 + 1, 0, none⟩) 2 2) := ⟨_, rfl⟩
  have yf : wf.heap[w.heap.size + 1 + 1]? = some (.cells #[.int .u8 8, .string ⟨#[]⟩, .bool false, .slice none 0 0, .slice (some ⟨w.heap.size + 1 + 1 + 1, 0, none⟩) 2 2] 28 (0, 0)) := by rw [hwf]; exact five_set x2
  have zf : wf.heap[w.heap.size + 1 + 1 + 1]? = _ := (by rw [hwf]; exact five_off (by omega) : wf.heap[w.heap.size + 1 + 1 + 1]? = w5.heap[w.heap.size + 1 + 1 + 1]?).trans x3
  have hbf : Below w.heap.size w wf := by
    refine hb05.trans ?_
    rw [hwf]
    exact five_belowC (by omega) _ _ _ _ _ _
  have p0 := cell_of_row wf (w.heap.size + 1 + 1) 0 _ _ _ yf
  have p1 := cell_of_row wf (w.heap.size + 1 + 1) 1 _ _ _ yf
  have p2 := cell_of_row wf (w.heap.size + 1 + 1) 2 _ _ _ yf
  have p3 := cell_of_row wf (w.heap.size + 1 + 1) 3 _ _ _ yf
  have p4 := cell_of_row wf (w.heap.size + 1 + 1) 4 _ _ _ yf
  simp at p0 p1 p2 p3 p4
  have HR := Lib.hid (show TmB Z wf (.agg #[.int .u8 8, .string ⟨#[]⟩, .bool false, .slice none 0 0, .slice (some ⟨w.heap.size + 1 + 1 + 1, 0, none⟩) 2 2]) (eqTm a b) ∧ Below w.heap.size w wf from ⟨fun W' hW' => eq_of_two ((hW' _ (Own.lt.cell_lt' zf) (HH.out.2.2 _ (by omega))).trans zf) ((HH.out.1.bel hbf) W' hW') ((HH.out.2.1.bel hbf) W' hW'), hbf⟩)
  have HF := Lib.hid hwf
  clear z0 z1 z2 zs zb hw3 hb4 hw4 y3 y2 hb5 x2 x3 hb05 ff hwf yf zf hbf
  go_wp2
  rw [← HF.out]
  exact bodyPost_ret (v := .agg #[.int .u8 8, .string ⟨#[]⟩, .bool false, .slice none 0 0, .slice (some ⟨w.heap.size + 1 + 1 + 1, 0, none⟩) 2 2]) (by simp [results, Tryz.results26, go_sem, p0, p1, p2, p3, p4]) rfl ⟨_, _, rfl, HR.out.1, HR.out.2⟩
end Go.Proofs.YtlikpnaffpngiaaGreatDoor

namespace Go.Proofs.YtlikpnaffpngiaaGreatDoor
open Go.RowKit

def bL : ByteArray := ⟨#[108]⟩
def bM : ByteArray := ⟨#[109]⟩
def bX : ByteArray := ⟨#[120]⟩
def bY : ByteArray := ⟨#[121]⟩
def bZ : ByteArray := ⟨#[122]⟩
def bList : ByteArray := ⟨#[108, 105, 115, 116]⟩
def bPair : ByteArray := ⟨#[112, 97, 105, 114]⟩
def bOdd : ByteArray := ⟨#[111, 100, 100]⟩
def D8 : List DtT := [⟨bList, [⟨⟨#[78, 73, 76]⟩, []⟩, ⟨⟨#[67, 79, 78, 83]⟩, [sInt, bList, sBool, bOdd]⟩]⟩, ⟨bPair, [⟨⟨#[80, 65, 73, 82]⟩, [bList]⟩]⟩]
def S8 : List (ByteArray × ByteArray) := [(bL, bList), (bM, bList), (bX, sInt), (bY, sInt), (⟨#[112]⟩, sBool), (⟨#[114]⟩, bPair)]
set_option maxRecDepth 100000 in
set_option maxHeartbeats 3200000 in
theorem lists8_ok {w : World} :
    Calls Tryz.prog 11 #[] w fun e w' => ∃ u, e = .returned u ∧ DatasV w' u D8 ∧ Below w.heap.size w w' := by
  go_enter Tryz.func11, Tryz.ntmps11
  go_wp2
  go_returns
  obtain ⟨z0, z1, z2, z3, z4, zs, zb⟩ := five_alloc w (.cells #[.string ⟨#[105, 110, 116]⟩, .string ⟨#[108, 105, 115, 116]⟩, .string ⟨#[98, 111, 111, 108]⟩, .string ⟨#[111, 100, 100]⟩] 9) (.cells #[.string ⟨#[78, 73, 76]⟩, .slice none 0 0, .string ⟨#[67, 79, 78, 83]⟩, .slice (some ⟨w.heap.size, 0, none⟩) 4 4] 65) (.cells #[.string ⟨#[108, 105, 115, 116]⟩] 9) (.cells #[.string ⟨#[80, 65, 73, 82]⟩, .slice (some ⟨w.heap.size + 1 + 1, 0, none⟩) 1 1] 65) (.cells #[.string ⟨#[108, 105, 115, 116]⟩, .slice (some ⟨w.heap.size + 1, 0, none⟩) 2 2, .string ⟨#[112, 97, 105, 114]⟩, .slice (some ⟨w.heap.size + 1 + 1 + 1, 0, none⟩) 1 1] 68)
  refine ⟨_, rfl, ?_, zb⟩
  obtain ⟨W, hW⟩ : ∃ W, W = ((((w.alloc (.cells #[.string ⟨#[105, 110, 116]⟩, .string ⟨#[108, 105, 115, 116]⟩, .string ⟨#[98, 111, 111, 108]⟩, .string ⟨#[111, 100, 100]⟩] 9)).alloc (.cells #[.string ⟨#[78, 73, 76]⟩, .slice none 0 0, .string ⟨#[67, 79, 78, 83]⟩, .slice (some ⟨w.heap.size, 0, none⟩) 4 4] 65)).alloc (.cells #[.string ⟨#[108, 105, 115, 116]⟩] 9)).alloc (.cells #[.string ⟨#[80, 65, 73, 82]⟩, .slice (some ⟨w.heap.size + 1 + 1, 0, none⟩) 1 1] 65)).alloc (.cells #[.string ⟨#[108, 105, 115, 116]⟩, .slice (some ⟨w.heap.size + 1, 0, none⟩) 2 2, .string ⟨#[112, 97, 105, 114]⟩, .slice (some ⟨w.heap.size + 1 + 1 + 1, 0, none⟩) 1 1] 68) := ⟨_, rfl⟩
  rw [← hW] at z0 z1 z2 z3 z4 ⊢
  clear hW zs zb
  have s0 : StrsV W (.slice none 0 0) [] := ⟨none, 0, rfl, fun j v h => by simp at h⟩
  have s1 : StrsV W (.slice (some ⟨w.heap.size, 0, none⟩) 4 4) [sInt, bList, sBool, bOdd] := ⟨_, 4, rfl, fun j v h => by
    match j, h with
    | 0, h => exact ⟨_, rfl, by rw [← show _ = v from Option.some.inj h]; exact cell_of_row _ _ 0 _ _ _ z0⟩
    | 1, h => exact ⟨_, rfl, by rw [← show _ = v from Option.some.inj h]; exact cell_of_row _ _ 1 _ _ _ z0⟩
    | 2, h => exact ⟨_, rfl, by rw [← show _ = v from Option.some.inj h]; exact cell_of_row _ _ 2 _ _ _ z0⟩
    | 3, h => exact ⟨_, rfl, by rw [← show _ = v from Option.some.inj h]; exact cell_of_row _ _ 3 _ _ _ z0⟩
    | j + 4, h => cases h⟩
  have s2 : StrsV W (.slice (some ⟨w.heap.size + 1 + 1, 0, none⟩) 1 1) [bList] := ⟨_, 1, rfl, fun j v h => by
    match j, h with
    | 0, h => exact ⟨_, rfl, by rw [← show _ = v from Option.some.inj h]; exact cell_of_row _ _ 0 _ _ _ z2⟩
    | j + 1, h => cases h⟩
  refine ⟨_, 2, rfl, fun j x h => ?_⟩
  match j, h with
  | 0, h =>
    refine ⟨_, _, rfl, by rw [← show _ = x from Option.some.inj h]; exact cell_of_row _ _ 0 _ _ _ z4, cell_of_row _ _ 1 _ _ _ z4, ?_⟩
    rw [← show _ = x from Option.some.inj h]
    refine ⟨_, 2, rfl, fun j x h => ?_⟩
    match j, h with
    | 0, h => exact ⟨_, _, rfl, by rw [← show _ = x from Option.some.inj h]; exact cell_of_row _ _ 0 _ _ _ z1, cell_of_row _ _ 1 _ _ _ z1, by rw [← show _ = x from Option.some.inj h]; exact s0⟩
    | 1, h => exact ⟨_, _, rfl, by rw [← show _ = x from Option.some.inj h]; exact cell_of_row _ _ 2 _ _ _ z1, cell_of_row _ _ 3 _ _ _ z1, by rw [← show _ = x from Option.some.inj h]; exact s1⟩
    | j + 2, h => cases h
  | 1, h =>
    refine ⟨_, _, rfl, by rw [← show _ = x from Option.some.inj h]; exact cell_of_row _ _ 2 _ _ _ z4, cell_of_row _ _ 3 _ _ _ z4, ?_⟩
    rw [← show _ = x from Option.some.inj h]
    refine ⟨_, 1, rfl, fun j x h => ?_⟩
    match j, h with
    | 0, h => exact ⟨_, _, rfl, by rw [← show _ = x from Option.some.inj h]; exact cell_of_row _ _ 0 _ _ _ z3, cell_of_row _ _ 1 _ _ _ z3, by rw [← show _ = x from Option.some.inj h]; exact s2⟩
    | j + 1, h => cases h
  | j + 2, h => cases h
set_option maxRecDepth 100000 in
set_option maxHeartbeats 3200000 in
theorem names8_ok {w : World} :
    Calls Tryz.prog 12 #[] w fun e w' => ∃ u, e = .returned u ∧ ScopeV w' u S8 ∧ Below w.heap.size w w' := by
  go_enter Tryz.func12, Tryz.ntmps12
  go_wp2
  go_returns
  have z := heap_alloc_new w (.cells #[.string ⟨#[108]⟩, .string ⟨#[108, 105, 115, 116]⟩, .string ⟨#[109]⟩, .string ⟨#[108, 105, 115, 116]⟩, .string ⟨#[120]⟩, .string ⟨#[105, 110, 116]⟩, .string ⟨#[121]⟩, .string ⟨#[105, 110, 116]⟩, .string ⟨#[112]⟩, .string ⟨#[98, 111, 111, 108]⟩, .string ⟨#[114]⟩, .string ⟨#[112, 97, 105, 114]⟩] 70)
  refine ⟨_, rfl, ⟨_, 6, rfl, fun j x h => ?_⟩, (Below.refl _ _).alloc (Nat.le_refl _) _⟩
  match j, h with
  | 0, h => exact ⟨_, rfl, by rw [← show _ = x from Option.some.inj h]; exact cell_of_row _ _ 0 _ _ _ z, by rw [← show _ = x from Option.some.inj h]; exact cell_of_row _ _ 1 _ _ _ z⟩
  | 1, h => exact ⟨_, rfl, by rw [← show _ = x from Option.some.inj h]; exact cell_of_row _ _ 2 _ _ _ z, by rw [← show _ = x from Option.some.inj h]; exact cell_of_row _ _ 3 _ _ _ z⟩
  | 2, h => exact ⟨_, rfl, by rw [← show _ = x from Option.some.inj h]; exact cell_of_row _ _ 4 _ _ _ z, by rw [← show _ = x from Option.some.inj h]; exact cell_of_row _ _ 5 _ _ _ z⟩
  | 3, h => exact ⟨_, rfl, by rw [← show _ = x from Option.some.inj h]; exact cell_of_row _ _ 6 _ _ _ z, by rw [← show _ = x from Option.some.inj h]; exact cell_of_row _ _ 7 _ _ _ z⟩
  | 4, h => exact ⟨_, rfl, by rw [← show _ = x from Option.some.inj h]; exact cell_of_row _ _ 8 _ _ _ z, by rw [← show _ = x from Option.some.inj h]; exact cell_of_row _ _ 9 _ _ _ z⟩
  | 5, h => exact ⟨_, rfl, by rw [← show _ = x from Option.some.inj h]; exact cell_of_row _ _ 10 _ _ _ z, by rw [← show _ = x from Option.some.inj h]; exact cell_of_row _ _ 11 _ _ _ z⟩
  | j + 6, h => cases h
set_option maxRecDepth 100000 in
set_option maxHeartbeats 3200000 in
theorem v8_ok {w : World} {s : ByteArray} (hs : s.size ≤ 140737488355328) :
    Calls Tryz.prog 9 #[.string s] w fun e w' => e = .returned (fiveV (varT s) none none 0 0) ∧ TmV w' (fiveV (varT s) none none 0 0) (varT s) ∧ Below w.heap.size w w' := by
  have HS := Lib.hid hs
  clear hs
  go_enter Tryz.func9, Tryz.ntmps9
  go_wp2
  go_returns
  exact ⟨rfl, TmV.of (kind := 1) (name := s) (neg := false) (ds := []) (kids := []) (by decide) HS.out (by intro i v h; simp [u32s] at h) (by intro d hd; simp at hd) (by simp) (by simp) (by intro j t h; simp at h), (Below.refl _ _).alloc (Nat.le_refl _) _⟩
set_option maxRecDepth 100000 in
set_option maxHeartbeats 3200000 in
theorem eq8_ok {w : World} {a b : Tm} {A K A' K' : Option Addr} {c1 c2 c3 c4 : Nat} (hta : TmV w (fiveV a A K c1 c2) a) (htb : TmV w (fiveV b A' K' c3 c4) b) :
    Calls Tryz.prog 8 #[fiveV a A K c1 c2, fiveV b A' K' c3 c4] w fun e w' => ∃ (B : Addr) (d : Nat), e = .returned (fiveV (eqTm a b) none (some B) 0 d) ∧ TmV w' (fiveV (eqTm a b) none (some B) 0 d) (eqTm a b) ∧ Below w.heap.size w w' := by
  have HH := Lib.hid (show _ ∧ _ from ⟨hta, htb⟩)
  clear hta htb
  go_enter Tryz.func8, Tryz.ntmps8
  go_wp2
  go_returns
  obtain ⟨_, _, _, z3, _, zb⟩ := four_alloc w (.cells #[.int .u8 a.kind, .string a.name, .bool a.neg, .slice A a.ds.length c1, .slice K a.kids.length c2] 28) (.cells #[.int .u8 b.kind, .string b.name, .bool b.neg, .slice A' b.ds.length c3, .slice K' b.kids.length c4] 28) (.cells #[.int .u8 8, .string ⟨#[]⟩, .bool false, .slice none 0 0, .slice (some ⟨w.heap.size + 1 + 1 + 1, 0, none⟩) 2 2] 28) (.cells #[.int .u8 a.kind, .string a.name, .bool a.neg, .slice A a.ds.length c1, .slice K a.kids.length c2, .int .u8 b.kind, .string b.name, .bool b.neg, .slice A' b.ds.length c3, .slice K' b.kids.length c4] 28)
  exact ⟨_, _, rfl, eq_of_two z3 (HH.out.1.bel zb) (HH.out.2.bel zb), zb⟩
set_option maxRecDepth 100000 in
set_option maxHeartbeats 3200000 in
theorem app8_ok {w : World} {t : Tm} {A K : Option Addr} {c c' : Nat} {name : ByteArray} (hn : name.size ≤ 140737488355328) (ht : TmV w (fiveV t A K c c') t) :
    Calls Tryz.prog 13 #[.string name, fiveV t A K c c'] w fun e w' => ∃ (B : Addr) (d : Nat), e = .returned (fiveV (appTm name t) none (some B) 0 d) ∧ TmV w' (fiveV (appTm name t) none (some B) 0 d) (appTm name t) ∧ Below w.heap.size w w' := by
  have HH := Lib.hid (show _ ∧ _ from ⟨hn, ht⟩)
  clear hn ht
  go_enter Tryz.func13, Tryz.ntmps13
  go_wp2
  go_returns
  obtain ⟨_, _, z2, _, zb⟩ := three_alloc w (.cells #[.int .u8 t.kind, .string t.name, .bool t.neg, .slice A t.ds.length c, .slice K t.kids.length c'] 28) (.cells #[.int .u8 7, .string name, .bool false, .slice none 0 0, .slice (some ⟨w.heap.size + 1 + 1, 0, none⟩) 1 1] 28) (.cells #[.int .u8 t.kind, .string t.name, .bool t.neg, .slice A t.ds.length c, .slice K t.kids.length c'] 28)
  exact ⟨_, _, rfl, app_of HH.out.1 z2 (HH.out.2.bel zb), zb⟩
end Go.Proofs.YtlikpnaffpngiaaGreatDoor

namespace Go.Proofs.YtlikpnaffpngiaaGreatDoor
open Go.RowKit

/-- What Apply asks of the fact, the function and both sides here. -/
structure AppH (w : World) (vD vS : Value) (D : List DtT) (S : List (ByteArray × ByteArray)) (K : Option Addr) (fs : List Tm) (p : Int) (name s r : ByteArray) (a b : Tm) : Prop where
  sorts : SortsH w vD vS D S
  facts : TmsAt w K fs
  place : -9223372036854775808 ≤ p ∧ p < 9223372036854775808
  sides : sidesAt fs p = some (a, b)
  sortA : sortT D S a = some s
  sortB : sortT D S b = some s
  noInt : s ≠ sInt
  noBool : s ≠ sBool
  tells : sortT D S (appTm name a) = some r
  noTruth : r ≠ sBool
  wtA : wtT a ≤ 15000
  wtB : wtT b ≤ 15000
  short : name.size ≤ 80000
/-- v stands for t, whatever is done to blocks that are not of Z. -/
def TmW (Z : Nat → Prop) (W : World) (v : Value) (t : Tm) : Prop := ∃ A K c c', v = fiveV t A K c c' ∧ TmB Z W v t
theorem TmW.bel {Z : Nat → Prop} {W W' : World} {v : Value} {t : Tm} (h : TmW Z W v t) (hb : Below W.heap.size W W') : TmW Z W' v t := by
  obtain ⟨A, K, c, c', e, ht⟩ := h
  exact ⟨A, K, c, c', e, ht.bel hb⟩
theorem apply_w {w : World} {Z : Nat → Prop} {t : Tm} {A K : Option Addr} {c c' : Nat} {name : ByteArray} (hn : name.size ≤ 140737488355328) (ht : TmB Z w (fiveV t A K c c') t) (hZ : ∀ k, w.heap.size ≤ k → Z k) :
    Calls Tryz.prog 28 #[.string name, fiveV t A K c c'] w fun e w' => ∃ v, e = .returned v ∧ TmW Z w' v (appTm name t) ∧ Below w.heap.size w w' := (apply_okB hn ht hZ).mono fun e w' h => by
  obtain ⟨B, d, rfl, h1, h2⟩ := h
  exact ⟨_, rfl, ⟨_, _, _, _, rfl, h1⟩, h2⟩
theorem alike_w {w : World} {Z : Nat → Prop} {a b : Tm} {u v : Value} {s : ByteArray} (hta : TmW Z w u a) (htb : TmW Z w v b) (hZ : ∀ k, w.heap.size ≤ k → Z k) (hbo : s ≠ sBool) :
    Calls Tryz.prog 26 #[.string s, u, v] w fun e w' => ∃ (k : Int) (s : ByteArray) (b' : Bool) (A : Option Addr) (n c : Nat) (K : Option Addr) (n' c' : Nat), e = .returned (.agg #[.int .u8 k, .string s, .bool b', .slice A n c, .slice K n' c']) ∧ TmB Z w' (.agg #[.int .u8 k, .string s, .bool b', .slice A n c, .slice K n' c']) (eqTm a b) ∧ Below w.heap.size w w' := by
  obtain ⟨A, K, c, c', rfl, ha⟩ := hta
  obtain ⟨A', K', d, d', rfl, hb⟩ := htb
  refine (alike_eqB ha hb hZ hbo).mono fun e w' h => ?_
  obtain ⟨B, d, rfl, h1, h2⟩ := h
  exact ⟨_, _, _, _, _, _, _, _, _, rfl, h1, h2⟩
/-- What Apply's closure tells. -/
def App1E (name : ByteArray) (a b : Tm) (w : World) (e : Ending) (w' : World) : Prop := Below w.heap.size w w' ∧ ∃ x0 x1 x2 x3 x4, e = .returned (.agg #[x0, x1, x2, x3, x4]) ∧ TmV w' (.agg #[x0, x1, x2, x3, x4]) (eqTm (appTm name a) (appTm name b))
set_option maxRecDepth 100000 in
set_option maxHeartbeats 6400000 in
theorem apply1_yes {w : World} {pf pp pd ps pn c : Nat} {K : Option Addr} {fs : List Tm} {p : Int} {a b : Tm} {vD vS : Value} {D : List DtT} {S : List (ByteArray × ByteArray)} {s r name : ByteArray} (h : AppH w vD vS D S K fs p name s r a b)
    (hf : w.heap[pf]? = some (.cells #[.slice K fs.length c] 22 (0, 0))) (hp : w.heap[pp]? = some (.cells #[.int .i64 p] 3 (0, 0))) (hd : w.heap[pd]? = some (.cells #[vD] 40 (0, 0))) (hs : w.heap[ps]? = some (.cells #[vS] 42 (0, 0))) (hn : w.heap[pn]? = some (.cells #[.string name] 9 (0, 0))) :
    Calls Tryz.prog 23 #[.pointer (some ⟨pf, 0, none⟩), .pointer (some ⟨pp, 0, none⟩), .pointer (some ⟨pd, 0, none⟩), .pointer (some ⟨ps, 0, none⟩), .pointer (some ⟨pn, 0, none⟩)] w (App1E name a b w) := by
  obtain ⟨AD, cD, AS, cS, rfl, rfl⟩ := h.sorts.shape
  obtain ⟨w1, hw1⟩ : ∃ w1, w1 = w.alloc (.cells #[.int .u8 0, .string ⟨#[]⟩, .bool false, .slice none 0 0, .slice none 0 0] 28) := ⟨_, rfl⟩
  have hb1 : Below w.heap.size w w1 := by rw [hw1]; exact (Below.refl _ _).alloc (Nat.le_refl _) _
  have z1 : w1.heap[w.heap.size]? = some (.cells #[.int .u8 0, .string ⟨#[]⟩, .bool false, .slice none 0 0, .slice none 0 0] 28 (0, 0)) := by rw [hw1]; exact heap_alloc_new _ _
  have hs1 : w1.heap.size = w.heap.size + 1 := by rw [hw1]; exact World.size_alloc ..
  have HC := Lib.hid (show ∀ W : World, Below w.heap.size w W → W.cell? ⟨pf, 0, none⟩ = some (.slice K fs.length c) ∧ W.cell? ⟨pp, 0, none⟩ = some (.int .i64 p) ∧ W.cell? ⟨pd, 0, none⟩ = some (.slice AD D.length cD) ∧ W.cell? ⟨ps, 0, none⟩ = some (.slice AS S.length cS) ∧ W.cell? ⟨pn, 0, none⟩ = some (.string name) from fun W hW => by
    have gf := (hW.block _ (Own.lt.cell_lt' hf)).trans hf
    have gp := (hW.block _ (Own.lt.cell_lt' hp)).trans hp
    have gd := (hW.block _ (Own.lt.cell_lt' hd)).trans hd
    have gs := (hW.block _ (Own.lt.cell_lt' hs)).trans hs
    have gn := (hW.block _ (Own.lt.cell_lt' hn)).trans hn
    exact ⟨cell_of_row _ _ 0 _ _ _ gf, cell_of_row _ _ 0 _ _ _ gp, cell_of_row _ _ 0 _ _ _ gd, cell_of_row _ _ 0 _ _ _ gs, cell_of_row _ _ 0 _ _ _ gn⟩)
  have HZ := Lib.hid (show _ ∧ _ ∧ _ from ⟨hb1, z1, hs1⟩)
  have HW := Lib.hid hw1
  have HH := Lib.hid h
  have HN := Lib.hid (show ∃ x, w.heap[pn]? = some x ∧ pn < w.heap.size from ⟨_, hn, Own.lt.cell_lt' hn⟩)
  obtain ⟨f0, q0, _⟩ := HC.out w1 hb1
  rw [hw1] at f0 q0
  clear h hf hp hd hs hn hb1 z1 hs1 hw1
  go_enter Tryz.func23, Tryz.ntmps23
  go_wp2_with fail
  rw [← HW.out]
  refine (sides_ok0 (W0 := w) (w := w1) (c := c) HH.out.place HH.out.facts HZ.out.1).mono ?_
  clear f0 q0
  rintro e w2 ⟨hb2, ⟨hno, _⟩ | ⟨a', b', x0, x1, x2, x3, x4, y0, y1, y2, y3, y4, hab, rfl, hta, htb⟩⟩
  · have := HH.out.sides
    rw [hno] at this
    cases this
  have hab2 := hab.symm.trans HH.out.sides
  injection hab2 with hab2
  injection hab2 with ea eb
  subst ea eb
  obtain ⟨A1, K1, e1, e1', e⟩ := TmV.five' hta
  simp only [Value.agg.injEq, Array.mk.injEq, List.cons.injEq, and_true] at e
  obtain ⟨rfl, rfl, rfl, rfl, rfl⟩ := e
  obtain ⟨A2, K2, e2, e2', e⟩ := TmV.five' htb
  simp only [Value.agg.injEq, Array.mk.injEq, List.cons.injEq, and_true] at e
  obtain ⟨rfl, rfl, rfl, rfl, rfl⟩ := e
  have hb02 : Below w.heap.size w w2 := HZ.out.1.trans (hb2.mono HZ.out.1.size)
  have u1 : w2.heap[w.heap.size]? = _ := (hb2.block _ (by have := HZ.out.2.2; omega)).trans HZ.out.2.1
  obtain ⟨r0, r1, r2, rs, rb⟩ := three_alloc w2 (.cells #[.int .u8 a'.kind, .string a'.name, .bool a'.neg, .slice A1 a'.ds.length e1, .slice K1 a'.kids.length e1'] 28) (.cells #[.int .u8 b'.kind, .string b'.name, .bool b'.neg, .slice A2 b'.ds.length e2, .slice K2 b'.kids.length e2'] 28) (.cells #[.slice AD D.length cD, .slice AS S.length cS] 59)
  obtain ⟨w3, hw3⟩ : ∃ w3, w3 = ((w2.alloc (.cells #[.int .u8 a'.kind, .string a'.name, .bool a'.neg, .slice A1 a'.ds.length e1, .slice K1 a'.kids.length e1'] 28)).alloc (.cells #[.int .u8 b'.kind, .string b'.name, .bool b'.neg, .slice A2 b'.ds.length e2, .slice K2 b'.kids.length e2'] 28)).alloc (.cells #[.slice AD D.length cD, .slice AS S.length cS] 59) := ⟨_, rfl⟩
  rw [← hw3] at r0 r1 r2 rs rb
  obtain ⟨f0, q0, d0, s0, n0⟩ := HC.out w2 hb02
  have g0 := (HC.out _ (hb02.trans ((two_alloc w2 (.cells #[.int .u8 a'.kind, .string a'.name, .bool a'.neg, .slice A1 a'.ds.length e1, .slice K1 a'.kids.length e1'] 28) (.cells #[.int .u8 b'.kind, .string b'.name, .bool b'.neg, .slice A2 b'.ds.length e2, .slice K2 b'.kids.length e2'] 28)).2.2.2.mono hb02.size))).2.2.1
  have g1 := (HC.out _ (hb02.trans ((two_alloc w2 (.cells #[.int .u8 a'.kind, .string a'.name, .bool a'.neg, .slice A1 a'.ds.length e1, .slice K1 a'.kids.length e1'] 28) (.cells #[.int .u8 b'.kind, .string b'.name, .bool b'.neg, .slice A2 b'.ds.length e2, .slice K2 b'.kids.length e2'] 28)).2.2.2.mono hb02.size))).2.2.2.1
  have HP := Lib.hid (show _ ∧ _ ∧ _ ∧ _ ∧ _ ∧ _ ∧ _ ∧ _ ∧ _ ∧ _ from ⟨hb02, u1, r0, r1, r2, rs, rb, hta, htb, hw3⟩)
  clear hb02 u1 r0 r1 r2 rs rb hta htb hw3 hab hb2 f0 q0 d0 s0 n0
  go_wp2_with fail
  rw [← HP.out.2.2.2.2.2.2.2.2.2]
  obtain ⟨hb02, u1, r0, r1, r2, rs, rb, hta, htb, _⟩ := HP.out
  have hb03 : Below w.heap.size w w3 := hb02.trans (rb.mono hb02.size)
  refine (needData_yes (w := w3) (HH.out.sorts.bel hb03) (hta.bel hb03) (htb.bel hb03) (by have := HH.out.wtA; omega) (by have := HH.out.wtB; omega) HH.out.sortA HH.out.sortB HH.out.noInt HH.out.noBool).mono ?_
  rintro e w4 ⟨⟨u, rfl⟩, hb4⟩
  have hb04 : Below w.heap.size w w4 := hb03.trans (hb4.mono hb03.size)
  have hb24 : Below w2.heap.size w2 w4 := rb.trans (hb4.mono (by omega))
  have v0 : w4.heap[w2.heap.size]? = _ := (hb4.block _ (by omega)).trans r0
  have v1 : w4.heap[w2.heap.size + 1]? = _ := (hb4.block _ (by omega)).trans r1
  have v2 : w4.heap[w2.heap.size + 2]? = _ := (hb4.block _ (by omega)).trans r2
  have t1 : w4.heap[w.heap.size]? = _ := (hb24.block _ (by have := Own.lt.cell_lt' u1; omega)).trans u1
  have hpn : ∃ x, w.heap[pn]? = some x ∧ pn < w.heap.size := HN.out
  have HD := Lib.hid (show ∀ W : World, (∀ k, k < w4.heap.size → k ≠ w.heap.size → W.heap[k]? = w4.heap[k]?) → (W.cell? ⟨w2.heap.size, 0, none⟩ = some (.int .u8 a'.kind) ∧ W.cell? ⟨w2.heap.size, 1, none⟩ = some (.string a'.name) ∧ W.cell? ⟨w2.heap.size, 2, none⟩ = some (.bool a'.neg) ∧ W.cell? ⟨w2.heap.size, 3, none⟩ = some (.slice A1 a'.ds.length e1) ∧ W.cell? ⟨w2.heap.size, 4, none⟩ = some (.slice K1 a'.kids.length e1') ∧ W.cell? ⟨w2.heap.size + 1, 0, none⟩ = some (.int .u8 b'.kind) ∧ W.cell? ⟨w2.heap.size + 1, 1, none⟩ = some (.string b'.name) ∧ W.cell? ⟨w2.heap.size + 1, 2, none⟩ = some (.bool b'.neg) ∧ W.cell? ⟨w2.heap.size + 1, 3, none⟩ = some (.slice A2 b'.ds.length e2) ∧ W.cell? ⟨w2.heap.size + 1, 4, none⟩ = some (.slice K2 b'.kids.length e2') ∧ W.cell? ⟨w2.heap.size + 1 + 1, 0, none⟩ = some (.slice AD D.length cD) ∧ W.cell? ⟨w2.heap.size + 1 + 1, 1, none⟩ = some (.slice AS S.length cS) ∧ W.cell? ⟨pn, 0, none⟩ = some (.string name)) from fun W hW => by
    have hv0 := Own.lt.cell_lt' v0
    have hv1 := Own.lt.cell_lt' v1
    have hv2 := Own.lt.cell_lt' v2
    have ht1 := Own.lt.cell_lt' u1
    have g0 := (hW _ hv0 (by omega)).trans v0
    have g1 := (hW _ hv1 (by omega)).trans v1
    have g2 := (hW _ hv2 (by omega)).trans v2
    obtain ⟨x, hx, hlt⟩ := hpn
    have gn : W.cell? ⟨pn, 0, none⟩ = w4.cell? ⟨pn, 0, none⟩ := cell_congr (hW pn (by have := hb04.size; omega) (by omega))
    exact ⟨cell_of_row _ _ 0 _ _ _ g0, cell_of_row _ _ 1 _ _ _ g0, cell_of_row _ _ 2 _ _ _ g0, cell_of_row _ _ 3 _ _ _ g0, cell_of_row _ _ 4 _ _ _ g0, cell_of_row _ _ 0 _ _ _ g1, cell_of_row _ _ 1 _ _ _ g1, cell_of_row _ _ 2 _ _ _ g1, cell_of_row _ _ 3 _ _ _ g1, cell_of_row _ _ 4 _ _ _ g1, cell_of_row _ _ 0 _ _ _ g2, cell_of_row _ _ 1 _ _ _ g2, gn.trans (HC.out w4 hb04).2.2.2.2⟩)
  have HO := Lib.hid (show ∀ W : World, Below w4.heap.size w4 W → (W.cell? ⟨w.heap.size, 0, none⟩ = some (.int .u8 0) ∧ W.cell? ⟨w.heap.size, 1, none⟩ = some (.string ⟨#[]⟩) ∧ W.cell? ⟨w.heap.size, 2, none⟩ = some (.bool false) ∧ W.cell? ⟨w.heap.size, 3, none⟩ = some (.slice none 0 0) ∧ W.cell? ⟨w.heap.size, 4, none⟩ = some (.slice none 0 0)) ∧ (W.frozen? ⟨w.heap.size, 0, none⟩ = false ∧ W.frozen? ⟨w.heap.size, 1, none⟩ = false ∧ W.frozen? ⟨w.heap.size, 2, none⟩ = false ∧ W.frozen? ⟨w.heap.size, 3, none⟩ = false ∧ W.frozen? ⟨w.heap.size, 4, none⟩ = false) from fun W hW => by
    have gt := (hW.block _ (Own.lt.cell_lt' t1)).trans t1
    have ff : ∀ o, W.frozen? ⟨w.heap.size, o, none⟩ = false := fun o => by simp [World.frozen?, gt]
    exact ⟨⟨cell_of_row _ _ 0 _ _ _ gt, cell_of_row _ _ 1 _ _ _ gt, cell_of_row _ _ 2 _ _ _ gt, cell_of_row _ _ 3 _ _ _ gt, cell_of_row _ _ 4 _ _ _ gt⟩, ff 0, ff 1, ff 2, ff 3, ff 4⟩)
  have HL := Lib.hid (show w.heap.size < w4.heap.size from Own.lt.cell_lt' t1)
  have HT := Lib.hid (show ∀ W : World, Below w4.heap.size w4 W → TmB (fun k => k ≠ w.heap.size) W (fiveV a' A1 K1 e1 e1') a' ∧ TmB (fun k => k ≠ w.heap.size) W (fiveV b' A2 K2 e2 e2') b' ∧ SortsH W (.slice AD D.length cD) (.slice AS S.length cS) D S ∧ Below w.heap.size w W ∧ W.heap[w.heap.size]? = some (.cells #[.int .u8 0, .string ⟨#[]⟩, .bool false, .slice none 0 0, .slice none 0 0] 28 (0, 0)) from fun W hW => ⟨hta.base (hb04.trans (hW.mono hb04.size)) (fun k hk => Nat.ne_of_lt hk), htb.base (hb04.trans (hW.mono hb04.size)) (fun k hk => Nat.ne_of_lt hk), HH.out.sorts.bel (hb04.trans (hW.mono hb04.size)), hb04.trans (hW.mono hb04.size), (hW.block _ (Own.lt.cell_lt' t1)).trans t1⟩)
  have HE := Lib.hid (fun (W : World) (hW : Below w4.heap.size w4 W) => HD.out W (fun k hk _ => hW.block k hk))
  have HE5 := Lib.hid (fun (W : World) (hW : Below w4.heap.size w4 W) (y0 y1 y2 y3 y4 : Value) => HD.out (((((W.setCell ⟨w.heap.size, 0, none⟩ y0).setCell ⟨w.heap.size, 1, none⟩ y1).setCell ⟨w.heap.size, 2, none⟩ y2).setCell ⟨w.heap.size, 3, none⟩ y3).setCell ⟨w.heap.size, 4, none⟩ y4) (fun k hk hn => (five_off hn).trans (hW.block k hk)))
  have HR := Lib.hid (show Calls Tryz.prog 27 #[.agg #[.slice AD D.length cD, .slice AS S.length cS], .string name, fiveV a' A1 K1 e1 e1'] w4.drew fun e w5 => e = .returned (.string r) ∧ Below w4.heap.size w4 w5 from by
    obtain ⟨h1, h2, h3, h4⟩ := HT.out w4.drew (Below.refl _ _).drew
    refine (result_yes h3 h1.tm (by have := HH.out.wtA; omega) HH.out.short HH.out.tells).mono ?_
    rintro e w5 ⟨rfl, hb⟩
    exact ⟨rfl, (Below.refl _ _).drew.trans hb⟩)
  clear hb02 u1 r0 r1 r2 rs rb hta htb hb03 hb4 hb04 hb24 v0 v1 v2 t1 hpn
  go_wp2_with fail
  go_region_held3 (fun w' => (w'.cell? ⟨w2.heap.size, 0, none⟩ = some (.int .u8 a'.kind) ∧ w'.cell? ⟨w2.heap.size, 1, none⟩ = some (.string a'.name) ∧ w'.cell? ⟨w2.heap.size, 2, none⟩ = some (.bool a'.neg) ∧ w'.cell? ⟨w2.heap.size, 3, none⟩ = some (.slice A1 a'.ds.length e1) ∧ w'.cell? ⟨w2.heap.size, 4, none⟩ = some (.slice K1 a'.kids.length e1') ∧ w'.cell? ⟨w2.heap.size + 1, 0, none⟩ = some (.int .u8 b'.kind) ∧ w'.cell? ⟨w2.heap.size + 1, 1, none⟩ = some (.string b'.name) ∧ w'.cell? ⟨w2.heap.size + 1, 2, none⟩ = some (.bool b'.neg) ∧ w'.cell? ⟨w2.heap.size + 1, 3, none⟩ = some (.slice A2 b'.ds.length e2) ∧ w'.cell? ⟨w2.heap.size + 1, 4, none⟩ = some (.slice K2 b'.kids.length e2') ∧ w'.cell? ⟨w2.heap.size + 1 + 1, 0, none⟩ = some (.slice AD D.length cD) ∧ w'.cell? ⟨w2.heap.size + 1 + 1, 1, none⟩ = some (.slice AS S.length cS) ∧ w'.cell? ⟨pn, 0, none⟩ = some (.string name)))
    (first
      | exact HE.out _ HB5.out
      | exact HE.out _ TA.out.1
      | exact HE.out _ TB.out.1
      | exact HE.out _ HX.out.1
      | exact HE5.out _ HX.out.1 _ _ _ _ _
      | exact HE.out _ ((Below.refl w4.heap.size w4).drew))
    (first
      | (go_at_call 26; refine (alike_w TB.out.2.1 TB.out.2.2 (fun k hk => Nat.ne_of_gt (Nat.lt_of_lt_of_le (Nat.lt_of_lt_of_le HL.out TB.out.1.size) hk)) HH.out.noTruth).mono ?_; rintro e w8 ⟨x0, x1, x2, x3, x4, x5, x6, x7, x8, rfl, ht3, hb8⟩; have HX := Lib.hid (show Below w4.heap.size w4 w8 ∧ _ from ⟨TB.out.1.trans (hb8.mono TB.out.1.size), ht3⟩); obtain ⟨⟨o80, o81, o82, o83, o84⟩, ⟨i80, i81, i82, i83, i84⟩⟩ := HO.out w8 HX.out.1; clear ht3 hb8)
      | (go_at_call 28; refine (apply_w (w := w6) (by have := HH.out.short; omega) (HT.out w6 TA.out.1).2.1 (fun k hk => Nat.ne_of_gt (Nat.lt_of_lt_of_le (Nat.lt_of_lt_of_le HL.out TA.out.1.size) hk))).mono ?_; rintro e w7 ⟨v2, rfl, ht2, hb7⟩; have TB := Lib.hid (show Below w4.heap.size w4 w7 ∧ _ ∧ _ from ⟨TA.out.1.trans (hb7.mono TA.out.1.size), TA.out.2.bel hb7, ht2⟩); clear ht2 hb7)
      | (go_at_call 28; refine (apply_w (w := w5) (by have := HH.out.short; omega) (HT.out w5 HB5.out).1 (fun k hk => Nat.ne_of_gt (Nat.lt_of_lt_of_le (Nat.lt_of_lt_of_le HL.out HB5.out.size) hk))).mono ?_; rintro e w6 ⟨v1, rfl, ht1, hb6⟩; have TA := Lib.hid (show Below w4.heap.size w4 w6 ∧ _ from ⟨HB5.out.trans (hb6.mono HB5.out.size), ht1⟩); clear ht1 hb6)
      | (go_at_call 27; refine HR.out.mono ?_; rintro e w5 ⟨rfl, hb5⟩; have HB5 := Lib.hid hb5; clear hb5))
  all_goals (refine then_n ?_; rename (∀ (a : Act) (w : World), Code.wp Tryz.prog _ _ a w → _) => hKx; refine hKx _ _ ?_; clear hKx)
  all_goals
    obtain ⟨_, _, _, hb08, y8⟩ := HT.out w8 HX.out.1
    obtain ⟨wf, hwf⟩ : ∃ wf, wf = ((((w8.setCell ⟨w.heap.size, 0, none⟩ (.int .u8 x0)).setCell ⟨w.heap.size, 1, none⟩ (.string x1)).setCell ⟨w.heap.size, 2, none⟩ (.bool x2)).setCell ⟨w.heap.size, 3, none⟩ (.slice x3 x4 x5)).setCell ⟨w.heap.size, 4, none⟩ (.slice x6 x7 x8) := ⟨_, rfl⟩
    rw [← hwf]
    have yf : wf.heap[w.heap.size]? = some (.cells #[.int .u8 x0, .string x1, .bool x2, .slice x3 x4 x5, .slice x6 x7 x8] 28 (0, 0)) := by rw [hwf]; exact five_set y8
    have hbf : Below w.heap.size w wf := by
      refine hb08.trans ?_
      rw [hwf]
      exact five_belowC (Nat.le_refl _) _ _ _ _ _ _
    have htf : TmV wf (.agg #[.int .u8 x0, .string x1, .bool x2, .slice x3 x4 x5, .slice x6 x7 x8]) (eqTm (appTm name a') (appTm name b')) := HX.out.2 wf fun k hk hn => by
      rw [hwf]
      exact five_off hn
    have p0 := cell_of_row wf w.heap.size 0 _ _ _ yf
    have p1 := cell_of_row wf w.heap.size 1 _ _ _ yf
    have p2 := cell_of_row wf w.heap.size 2 _ _ _ yf
    have p3 := cell_of_row wf w.heap.size 3 _ _ _ yf
    have p4 := cell_of_row wf w.heap.size 4 _ _ _ yf
    simp at p0 p1 p2 p3 p4
    have HR := Lib.hid (show App1E name a' b' w (.returned (.agg #[.int .u8 x0, .string x1, .bool x2, .slice x3 x4 x5, .slice x6 x7 x8])) wf from ⟨hbf, _, _, _, _, _, rfl, htf⟩)
    refine wp_ret ?_
    exact bodyPost_ret (v := .agg #[.int .u8 x0, .string x1, .bool x2, .slice x3 x4 x5, .slice x6 x7 x8]) (by simp [results, Tryz.results23, go_sem, p0, p1, p2, p3, p4]) rfl HR.out
end Go.Proofs.YtlikpnaffpngiaaGreatDoor

namespace Go.Proofs.YtlikpnaffpngiaaGreatDoor
open Go.RowKit

theorem six_alloc (w : World) (o0 o1 o2 o3 o4 o5 : Obj) : ((((((w.alloc o0).alloc o1).alloc o2).alloc o3).alloc o4).alloc o5).heap[w.heap.size]? = some o0 ∧ ((((((w.alloc o0).alloc o1).alloc o2).alloc o3).alloc o4).alloc o5).heap[w.heap.size + 1]? = some o1 ∧ ((((((w.alloc o0).alloc o1).alloc o2).alloc o3).alloc o4).alloc o5).heap[w.heap.size + 2]? = some o2 ∧ ((((((w.alloc o0).alloc o1).alloc o2).alloc o3).alloc o4).alloc o5).heap[w.heap.size + 3]? = some o3 ∧ ((((((w.alloc o0).alloc o1).alloc o2).alloc o3).alloc o4).alloc o5).heap[w.heap.size + 4]? = some o4 ∧ ((((((w.alloc o0).alloc o1).alloc o2).alloc o3).alloc o4).alloc o5).heap[w.heap.size + 5]? = some o5 ∧ ((((((w.alloc o0).alloc o1).alloc o2).alloc o3).alloc o4).alloc o5).heap.size = w.heap.size + 6 ∧ Below w.heap.size w ((((((w.alloc o0).alloc o1).alloc o2).alloc o3).alloc o4).alloc o5) := by
  obtain ⟨a0, a1, a2, a3, a4, s, ab⟩ := five_alloc w o0 o1 o2 o3 o4
  have a5 : ((((((w.alloc o0).alloc o1).alloc o2).alloc o3).alloc o4).alloc o5).heap[w.heap.size + 5]? = some o5 := by rw [← s]; exact heap_alloc_new _ _
  exact ⟨(Below.heap_alloc _ _ _ (by omega)).trans a0, (Below.heap_alloc _ _ _ (by omega)).trans a1, (Below.heap_alloc _ _ _ (by omega)).trans a2, (Below.heap_alloc _ _ _ (by omega)).trans a3, (Below.heap_alloc _ _ _ (by omega)).trans a4, a5, by rw [World.size_alloc, s], ab.alloc (by omega) _⟩
theorem AppH.bel {w W : World} {vD vS : Value} {D : List DtT} {S : List (ByteArray × ByteArray)} {K : Option Addr} {fs : List Tm} {p : Int} {name s r : ByteArray} {a b : Tm} (h : AppH w vD vS D S K fs p name s r a b) (hb : Below w.heap.size w W) : AppH W vD vS D S K fs p name s r a b := ⟨h.sorts.bel hb, h.facts.below hb, h.place, h.sides, h.sortA, h.sortB, h.noInt, h.noBool, h.tells, h.noTruth, h.wtA, h.wtB, h.short⟩
theorem wt_app (name : ByteArray) (t : Tm) : wtT (appTm name t) = 1 + name.size / 8 + wtT t := by
  unfold appTm
  rw [wtT_eq]
  show 1 + name.size / 8 + 0 + wtL [t] = _
  rw [wtL_one]
  omega
/-- What Apply tells here. -/
def AppE (name : ByteArray) (a b : Tm) (w : World) (e : Ending) (w' : World) : Prop := Below w.heap.size w w' ∧ ∃ A K c c', e = .returned (.tuple #[fiveV (eqTm (appTm name a) (appTm name b)) A K c c', .int .i64 0]) ∧ TmV w' (fiveV (eqTm (appTm name a) (appTm name b)) A K c c') (eqTm (appTm name a) (appTm name b))
set_option maxRecDepth 100000 in
set_option maxHeartbeats 6400000 in
theorem applyF_yes {w : World} {c : Nat} {K : Option Addr} {fs : List Tm} {p : Int} {a b : Tm} {vD vS : Value} {D : List DtT} {S : List (ByteArray × ByteArray)} {s r name : ByteArray} (h : AppH w vD vS D S K fs p name s r a b) (hM : LibM w.heap.size w) :
    Calls Tryz.prog 10 #[vD, vS, .slice K fs.length c, .int .i64 p, .string name] w (AppE name a b w) := by
  have hmf : ∀ (fn : Fn) (first cap : Array Value) (w : World), (Instr.makeFunc fn first cap).run Tryz.prog w = .ok (.func fn first cap) w := fun _ _ _ _ => rfl
  obtain ⟨AD, cD, AS, cS, rfl, rfl⟩ := h.sorts.shape
  have HH := Lib.hid (show _ ∧ _ from ⟨h, hM⟩)
  clear h hM
  go_enter Tryz.func10, Tryz.ntmps10
  go_wp2_with fail
  obtain ⟨z0, z1, z2, z3, z4, z5, zs, zb⟩ := six_alloc w (.cells #[.slice AD D.length cD] 40) (.cells #[.slice AS S.length cS] 42) (.cells #[.slice K fs.length c] 22) (.cells #[.int .i64 p] 3) (.cells #[.string name] 9) (.cells #[.int .u8 0, .string ⟨#[]⟩, .bool false, .slice none 0 0, .slice none 0 0] 28)
  obtain ⟨w5, hw5⟩ : ∃ w5, w5 = (((((w.alloc (.cells #[.slice AD D.length cD] 40)).alloc (.cells #[.slice AS S.length cS] 42)).alloc (.cells #[.slice K fs.length c] 22)).alloc (.cells #[.int .i64 p] 3)).alloc (.cells #[.string name] 9)).alloc (.cells #[.int .u8 0, .string ⟨#[]⟩, .bool false, .slice none 0 0, .slice none 0 0] 28) := ⟨_, rfl⟩
  rw [← hw5] at z0 z1 z2 z3 z4 z5 zs zb ⊢
  obtain ⟨h, hM⟩ := HH.out
  have hT := told_ok (w := w5) (F := 23) (fs := #[]) (cs := #[.pointer (some ⟨w.heap.size + 1 + 1, 0, none⟩), .pointer (some ⟨w.heap.size + 1 + 1 + 1, 0, none⟩), .pointer (some ⟨w.heap.size, 0, none⟩), .pointer (some ⟨w.heap.size + 1, 0, none⟩), .pointer (some ⟨w.heap.size + 1 + 1 + 1 + 1, 0, none⟩)]) (Z := fun n => False) (T := fun t => t = eqTm (appTm name a) (appTm name b)) (fun _ _ => rfl) (hM.on zb zb.size) (fun W hW hWs => by
    have hwW : Below w.heap.size w W := zb.trans (hW.mono zb.size)
    have g : ∀ k o, k < w.heap.size + 6 → w5.heap[k]? = o → W.heap[k]? = o := fun k o hk h => (hW.block k (by omega)).trans h
    refine (apply1_yes (w := W) (pf := w.heap.size + 1 + 1) (pp := w.heap.size + 1 + 1 + 1) (pd := w.heap.size) (ps := w.heap.size + 1) (pn := w.heap.size + 1 + 1 + 1 + 1) (h.bel hwW) (g _ _ (by omega) z2) (g _ _ (by omega) z3) (g _ _ (by omega) z0) (g _ _ (by omega) z1) (g _ _ (by omega) z4)).mono ?_
    rintro e w' ⟨hb, x0, x1, x2, x3, x4, h2, h3⟩
    exact ⟨hb, .inr ⟨_, _, _, _, _, _, rfl, h2, h3, by
      have := h.wtA
      have := h.wtB
      have := h.short
      rw [wt_eq, wt_app, wt_app]
      omega⟩⟩)
  have HT := Lib.hid hT
  have HZ := Lib.hid (show _ ∧ _ ∧ _ from ⟨z5, zs, zb⟩)
  clear z0 z1 z2 z3 z4 z5 zs zb h hM hT hw5 HH
  obtain ⟨E, hE⟩ : ∃ E, E = eqTm (appTm name a) (appTm name b) := ⟨_, rfl⟩
  have HEE := Lib.hid hE
  rw [← hE] at HT
  clear hE
  refine HT.out.mono ?_
  rintro e w6 ⟨hb6, ⟨n, hno, rfl⟩ | ⟨t, A, KK, c1, c2, rfl, rfl, hin⟩⟩
  · exact hno.elim
  obtain ⟨z4, zs, zb⟩ := HZ.out
  have y4 : w6.heap[w.heap.size + 1 + 1 + 1 + 1 + 1]? = _ := (hb6.block _ (by omega)).trans z4
  have d0 : w6.cell? ⟨w.heap.size + 1 + 1 + 1 + 1 + 1, 0, none⟩ = some (.int .u8 0) := (cell_of_row _ _ 0 _ _ _ y4).trans rfl
  have d1 : w6.cell? ⟨w.heap.size + 1 + 1 + 1 + 1 + 1, 1, none⟩ = some (.string ⟨#[]⟩) := (cell_of_row _ _ 1 _ _ _ y4).trans rfl
  have d2 : w6.cell? ⟨w.heap.size + 1 + 1 + 1 + 1 + 1, 2, none⟩ = some (.bool false) := (cell_of_row _ _ 2 _ _ _ y4).trans rfl
  have d3 : w6.cell? ⟨w.heap.size + 1 + 1 + 1 + 1 + 1, 3, none⟩ = some (.slice none 0 0) := (cell_of_row _ _ 3 _ _ _ y4).trans rfl
  have d4 : w6.cell? ⟨w.heap.size + 1 + 1 + 1 + 1 + 1, 4, none⟩ = some (.slice none 0 0) := (cell_of_row _ _ 4 _ _ _ y4).trans rfl
  have ff : ∀ o, w6.frozen? ⟨w.heap.size + 1 + 1 + 1 + 1 + 1, o, none⟩ = false := fun o => by simp [World.frozen?, y4]
  have g0 := ff 0
  have g1 := ff 1
  have g2 := ff 2
  have g3 := ff 3
  have g4 := ff 4
  obtain ⟨x0, hx0⟩ : ∃ x : Int, x = t.kind := ⟨_, rfl⟩
  obtain ⟨x1, hx1⟩ : ∃ x : ByteArray, x = t.name := ⟨_, rfl⟩
  obtain ⟨x2, hx2⟩ : ∃ x : Bool, x = t.neg := ⟨_, rfl⟩
  obtain ⟨x3, hx3⟩ : ∃ x : Nat, x = t.ds.length := ⟨_, rfl⟩
  obtain ⟨x4, hx4⟩ : ∃ x : Nat, x = t.kids.length := ⟨_, rfl⟩
  obtain ⟨wf, hwf⟩ : ∃ wf, wf = ((((w6.setCell ⟨w.heap.size + 1 + 1 + 1 + 1 + 1, 0, none⟩ (.int .u8 x0)).setCell ⟨w.heap.size + 1 + 1 + 1 + 1 + 1, 1, none⟩ (.string x1)).setCell ⟨w.heap.size + 1 + 1 + 1 + 1 + 1, 2, none⟩ (.bool x2)).setCell ⟨w.heap.size + 1 + 1 + 1 + 1 + 1, 3, none⟩ (.slice A x3 c1)).setCell ⟨w.heap.size + 1 + 1 + 1 + 1 + 1, 4, none⟩ (.slice KK x4 c2) := ⟨_, rfl⟩
  have yf : wf.heap[w.heap.size + 1 + 1 + 1 + 1 + 1]? = some (.cells #[.int .u8 x0, .string x1, .bool x2, .slice A x3 c1, .slice KK x4 c2] 28 (0, 0)) := by rw [hwf]; exact five_set y4
  have hbf : Below w.heap.size w wf := by
    refine (zb.trans (hb6.mono zb.size)).trans ?_
    rw [hwf]
    exact five_belowC (by omega) _ _ _ _ _ _
  have htf : TmV wf (fiveV t A KK c1 c2) t := hin wf fun k hk hx => by
    have hk4 : k ≠ w.heap.size + 1 + 1 + 1 + 1 + 1 := fun e => by
      subst e
      rcases hx with hx | hx
      · omega
      · exact hx (.of z4 (by decide))
    rw [hwf]
    exact five_off hk4
  have p0 := cell_of_row wf (w.heap.size + 1 + 1 + 1 + 1 + 1) 0 _ _ _ yf
  have p1 := cell_of_row wf (w.heap.size + 1 + 1 + 1 + 1 + 1) 1 _ _ _ yf
  have p2 := cell_of_row wf (w.heap.size + 1 + 1 + 1 + 1 + 1) 2 _ _ _ yf
  have p3 := cell_of_row wf (w.heap.size + 1 + 1 + 1 + 1 + 1) 3 _ _ _ yf
  have p4 := cell_of_row wf (w.heap.size + 1 + 1 + 1 + 1 + 1) 4 _ _ _ yf
  simp at p0 p1 p2 p3 p4
  have hE := HEE.out
  have HR := Lib.hid (show AppE name a b w (.returned (.tuple #[.agg #[.int .u8 x0, .string x1, .bool x2, .slice A x3 c1, .slice KK x4 c2], .int .i64 0])) wf from ⟨hbf, A, KK, c1, c2, by rw [← hE, hx0, hx1, hx2, hx3, hx4], by rw [← hE]; exact htf⟩)
  have hv : fiveV t A KK c1 c2 = .agg #[.int .u8 x0, .string x1, .bool x2, .slice A x3 c1, .slice KK x4 c2] := by rw [hx0, hx1, hx2, hx3, hx4]
  rw [hv]
  clear hv
  have HF := Lib.hid hwf
  clear y4 ff hwf yf hbf z4 zs zb hb6 HT htf hin hx0 hx1 hx2 hx3 hx4 hE
  go_wp2
  rw [← HF.out]
  exact bodyPost_ret (v := .tuple #[.agg #[.int .u8 x0, .string x1, .bool x2, .slice A x3 c1, .slice KK x4 c2], .int .i64 0]) (by simp [results, Tryz.results10, go_sem, p0, p1, p2, p3, p4]) rfl HR.out
end Go.Proofs.YtlikpnaffpngiaaGreatDoor

namespace Go.Proofs.YtlikpnaffpngiaaGreatDoor
open Go.RowKit

def fs8 : List Tm := [eqTm (varT bX) (varT bY), eqTm (varT bZ) (varT bY), eqTm (varT bL) (varT bM)]
theorem path_there : walkK fs8 (keyT (varT bX)) [0, 1] = some (keyT (varT bZ)) := by
  have h0 : stepK fs8 (keyT (varT bX)) 0 = some (keyT (varT bY)) := by
    show otherK (keyT (varT bX)) (keyT (varT bY)) (keyT (varT bX)) = _
    unfold otherK
    rw [if_pos rfl]
  have h1 : stepK fs8 (keyT (varT bY)) 1 = some (keyT (varT bZ)) := by
    show otherK (keyT (varT bZ)) (keyT (varT bY)) (keyT (varT bY)) = _
    unfold otherK
    by_cases h : keyT (varT bY) = keyT (varT bZ)
    · rw [if_pos h, h]
    · rw [if_neg h, if_pos rfl]
  show (stepK fs8 (keyT (varT bX)) 0).bind (fun k' => walkK fs8 k' [1]) = _
  rw [h0]
  show (stepK fs8 (keyT (varT bY)) 1).bind (fun k' => walkK fs8 k' []) = _
  rw [h1]
  rfl
theorem key_inj {a b : Tm} (ha : ∀ t ∈ preT a, 0 ≤ t.kind) (hb : ∀ t ∈ preT b, 0 ≤ t.kind) (h : keyT a = keyT b) : a = b := by
  have h1 := keys_cut _ (a := [a]) (b := [b]) (r := []) (r' := []) (Nat.le_refl _) rfl (by rw [preL_one]; exact ha) (by rw [preL_one]; exact hb) (by rw [preL_one, preL_one, List.append_nil, List.append_nil]; exact h)
  injection h1.1
theorem key_var {x y : ByteArray} (h : keyT (varT x) = keyT (varT y)) : x = y := by
  have hk : ∀ (x : ByteArray), ∀ t ∈ preT (varT x), 0 ≤ t.kind := fun x t ht => by
    have e : preT (varT x) = [varT x] := by rw [preT_eq]; show varT x :: preL [] = _; rw [preL_nil]
    rw [e] at ht
    rw [List.mem_singleton.1 ht]
    exact (by decide : (0 : Int) ≤ 1)
  have h2 := key_inj (hk x) (hk y) h
  unfold varT at h2
  injection h2
theorem path_not : walkK fs8 (keyT (varT bX)) [1, 0] ≠ some (keyT (varT bZ)) := by
  have h0 : stepK fs8 (keyT (varT bX)) 1 = none := by
    show otherK (keyT (varT bZ)) (keyT (varT bY)) (keyT (varT bX)) = _
    unfold otherK
    rw [if_neg fun h => absurd (key_var h) (by decide), if_neg fun h => absurd (key_var h) (by decide)]
  show (stepK fs8 (keyT (varT bX)) 1).bind (fun k' => walkK fs8 k' [0]) ≠ _
  rw [h0]
  exact fun h => by cases h
theorem sort_app (D : List DtT) (S : List (ByteArray × ByteArray)) (name : ByteArray) (t : Tm) : sortT D S (appTm name t) = (sortT D S t).bind (appK D name) := by
  unfold appTm
  rw [sortT]
  have he : entK (.mk 7 name false [] [t]) = true := by
    unfold entK
    simp [manyK, fitsN, Tm.kind, Tm.kids]
  rw [if_pos he, sortL, sortL]
  cases sortT D S t with
  | none => rfl
  | some s =>
    show lvK D S 7 name [s] = appK D name s
    unfold lvK
    simp
theorem sort_l : sortT D8 S8 (varT bL) = some bList := by rw [sort_var]; decide
theorem sort_m : sortT D8 S8 (varT bM) = some bList := by rw [sort_var]; decide
theorem sort_tag : sortT D8 S8 (appTm sTag (varT bL)) = some sInt := by rw [sort_app, sort_l]; decide
theorem few8 : DFew D8 := ⟨by decide, by decide⟩
end Go.Proofs.YtlikpnaffpngiaaGreatDoor

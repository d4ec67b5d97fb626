/- CongBack, the law: it returns true. Condition: of sizes; the library's tables as they are laid. -/
import Derived.Test.YtlikpnaffpngiaaGreatDoorCAwake
import Derived.Test.YtlikpnaffpngiaaGreatDoorCReg7
import Derived.Deep.RegionHeldLaw
set_option linter.unusedVariables false
set_option linter.unusedSimpArgs false
namespace Go.Proofs.YtlikpnaffpngiaaGreatDoor
open Go.RowKit

theorem wtT_mem : ∀ {l : List Tm} {t : Tm}, t ∈ l → wtT t ≤ wtL l
  | u :: l, t, h => by
    rw [wtL_cons]
    rcases List.mem_cons.1 h with rfl | h
    · omega
    · have := wtT_mem h
      omega
theorem zero_tm (W : World) : TmV W zeroV (.mk 0 ⟨#[]⟩ false [] []) :=
  TmV.of (kind := 0) (name := ⟨#[]⟩) (neg := false) (ds := []) (kids := []) (by decide) (by decide) (by intro i v h; simp [u32s] at h) (by intro d hd; simp at hd) (by simp) (by simp) (by intro j t h; simp at h)
/-- Is there a path along these places? -/
def PathIs (fs : List Tm) (a b : Tm) (ps : List Int) : Prop := walkK fs (keyT a) ps = some (keyT b)
/-- What Same tells, its number a variable: r is 0 or 31; v stands for the equality, or is the zero term. -/
def SameO (fs : List Tm) (a b : Tm) (ps : List Int) (w : World) (e : Ending) (w' : World) : Prop := ∃ (k : Int) (s : ByteArray) (t : Bool) (A : Option Addr) (n c : Nat) (K : Option Addr) (n' c' : Nat) (r : Int), e = .returned (.tuple #[.agg #[.int .u8 k, .string s, .bool t, .slice A n c, .slice K n' c'], .int .i64 r]) ∧
  Hid ((r = 0 ∧ PathIs fs a b ps ∧ TmV w' (.agg #[.int .u8 k, .string s, .bool t, .slice A n c, .slice K n' c']) (eqTm a b)) ∨ (r = 31 ∧ ¬ PathIs fs a b ps ∧ (Value.agg #[.int .u8 k, .string s, .bool t, .slice A n c, .slice K n' c'] = zeroV))) ∧ Below w.heap.size w w'
/-- What stands fast for Same in the law. -/
structure LawH (w : World) (K : Option Addr) (fs : List Tm) : Prop where
  facts : TmsAt w K fs
  few : ∀ t ∈ fs, wtT t ≤ 100000
  tab : LibM w.heap.size w
theorem LawH.bel {w W : World} {K : Option Addr} {fs : List Tm} (h : LawH w K fs) (hb : Below w.heap.size w W) : LawH W K fs := ⟨h.facts.below hb, h.few, h.tab.on hb hb.size⟩
theorem same_o {w : World} {c cp n : Nat} {K P : Option Addr} {fs : List Tm} {ps : List Int} {a b : Tm} {u v : Value} (h : LawH w K fs) (hta : TmV w u a) (htb : TmV w v b) (hps : Row w P (IntsV ps)) (hl : n = ps.length) (hwa : wtT a ≤ 40000) (hwb : wtT b ≤ 40000) (hr : ∀ p ∈ ps, -9223372036854775808 ≤ p ∧ p < 9223372036854775808) (hn : ps.length ≤ 100000) :
    Calls Tryz.prog 6 #[.slice K fs.length c, u, v, .slice P n cp] w (SameO fs a b ps w) := by
  subst hl
  obtain ⟨A1, K1, c1, c1', rfl⟩ := TmV.five' hta
  obtain ⟨A2, K2, c2, c2', rfl⟩ := TmV.five' htb
  refine (same_ok h.facts hta htb hps h.few hwa hwb hr hn h.tab).mono ?_
  rintro e w' ⟨hb, ⟨h1, rfl⟩ | ⟨h1, A, K, c, c', rfl, h2⟩⟩
  · exact ⟨_, _, _, _, _, _, _, _, _, _, rfl, Lib.hid (.inr ⟨rfl, h1, rfl⟩), hb⟩
  · exact ⟨_, _, _, _, _, _, _, _, _, _, rfl, Lib.hid (.inl ⟨rfl, h1, h2⟩), hb⟩
theorem path_two {fs : List Tm} {a b c : Tm} {ps qs : List Int} (h : PathIs fs a b ps) : PathIs fs a c (ps ++ qs) ↔ PathIs fs b c qs := by
  unfold PathIs at *
  rw [walkK_append, h]
  exact Iff.rfl
theorem path_back {fs : List Tm} {a b : Tm} {ps : List Int} (h : PathIs fs a b ps) : PathIs fs b a ps.reverse := walkK_back fs ps _ _ h
theorem path_own (a b : Tm) : PathIs [eqTm a b] a b [0] := walkK_own a b
/-- The answers to two paths are one. -/
theorem same_r {fs : List Tm} {a b c : Tm} {ps qs : List Int} {r r' : Int} (h : PathIs fs a b ps) (h1 : (r = 0 ∧ PathIs fs b c qs) ∨ (r = 31 ∧ ¬ PathIs fs b c qs)) (h2 : (r' = 0 ∧ PathIs fs a c (ps ++ qs)) ∨ (r' = 31 ∧ ¬ PathIs fs a c (ps ++ qs))) : r = r' := by
  rw [path_two h] at h2
  rcases h1 with ⟨h1, p⟩ | ⟨h1, p⟩
  · rcases h2 with ⟨h2, q⟩ | ⟨h2, q⟩
    · rw [h1, h2]
    · exact absurd p q
  · rcases h2 with ⟨h2, q⟩ | ⟨h2, q⟩
    · exact absurd q p
    · rw [h1, h2]
set_option maxRecDepth 100000 in
set_option maxHeartbeats 6400000 in
theorem congBack_ok {w : World} {K P Q : Option Addr} {c cp cq : Nat} {fs : List Tm} {a b d : Tm} {ps qs : List Int} {A1 K1 A2 K2 A3 K3 : Option Addr} {e1 e1' e2 e2' e3 e3' : Nat}
    (hfs : TmsAt w K fs) (hfl : fs.length ≤ 140737488355328) (hta : TmV w (fiveV a A1 K1 e1 e1') a) (htb : TmV w (fiveV b A2 K2 e2 e2') b) (htd : TmV w (fiveV d A3 K3 e3 e3') d) (hps : Row w P (IntsV ps)) (hqs : Row w Q (IntsV qs)) (hpl : ps.length ≤ 140737488355328) (hql : qs.length ≤ 140737488355328)
    (hpr : ∀ p ∈ ps, -9223372036854775808 ≤ p ∧ p < 9223372036854775808) (hqr : ∀ p ∈ qs, -9223372036854775808 ≤ p ∧ p < 9223372036854775808) (hM : LibM w.heap.size w) :
    Calls Tryz.prog 3 #[.slice K fs.length c, fiveV a A1 K1 e1 e1', fiveV b A2 K2 e2 e2', fiveV d A3 K3 e3 e3', .slice P ps.length cp, .slice Q qs.length cq] w fun e w' => e = .returned (.bool true) ∧ Below w.heap.size w w' := by
  have HH := Lib.hid (show _ ∧ _ ∧ _ ∧ _ ∧ _ ∧ _ ∧ _ ∧ _ ∧ _ ∧ _ ∧ _ ∧ _ from ⟨hfs, hfl, hta, htb, htd, hps, hqs, hpl, hql, hpr, hqr, hM⟩)
  have hpl' : (ps.length : Int) ≤ 140737488355328 := by omega
  have hql' : (qs.length : Int) ≤ 140737488355328 := by omega
  clear hfs hfl hta htb htd hps hqs hpr hqr hM hpl hql
  go_enter Tryz.func3, Tryz.ntmps3
  go_wp2_with fail
  obtain ⟨z0, z1, z2, zs, zb⟩ := three_alloc w (.cells #[.int .u8 a.kind, .string a.name, .bool a.neg, .slice A1 a.ds.length e1, .slice K1 a.kids.length e1'] 28) (.cells #[.int .u8 b.kind, .string b.name, .bool b.neg, .slice A2 b.ds.length e2, .slice K2 b.kids.length e2'] 28) (.cells #[.int .u8 d.kind, .string d.name, .bool d.neg, .slice A3 d.ds.length e3, .slice K3 d.kids.length e3'] 28)
  obtain ⟨w0, hw0⟩ : ∃ w0, w0 = ((w.alloc (.cells #[.int .u8 a.kind, .string a.name, .bool a.neg, .slice A1 a.ds.length e1, .slice K1 a.kids.length e1'] 28)).alloc (.cells #[.int .u8 b.kind, .string b.name, .bool b.neg, .slice A2 b.ds.length e2, .slice K2 b.kids.length e2'] 28)).alloc (.cells #[.int .u8 d.kind, .string d.name, .bool d.neg, .slice A3 d.ds.length e3, .slice K3 d.kids.length e3'] 28) := ⟨_, rfl⟩
  rw [← hw0] at z0 z1 z2 zs zb ⊢
  have HC := Lib.hid (show ∀ W : World, Below w0.heap.size w0 W → (W.cell? ⟨w.heap.size, 0, none⟩ = some (.int .u8 a.kind) ∧ W.cell? ⟨w.heap.size, 1, none⟩ = some (.string a.name) ∧ W.cell? ⟨w.heap.size, 2, none⟩ = some (.bool a.neg) ∧ W.cell? ⟨w.heap.size, 3, none⟩ = some (.slice A1 a.ds.length e1) ∧ W.cell? ⟨w.heap.size, 4, none⟩ = some (.slice K1 a.kids.length e1')) ∧ (W.cell? ⟨w.heap.size + 1, 0, none⟩ = some (.int .u8 b.kind) ∧ W.cell? ⟨w.heap.size + 1, 1, none⟩ = some (.string b.name) ∧ W.cell? ⟨w.heap.size + 1, 2, none⟩ = some (.bool b.neg) ∧ W.cell? ⟨w.heap.size + 1, 3, none⟩ = some (.slice A2 b.ds.length e2) ∧ W.cell? ⟨w.heap.size + 1, 4, none⟩ = some (.slice K2 b.kids.length e2')) ∧ (W.cell? ⟨w.heap.size + 1 + 1, 0, none⟩ = some (.int .u8 d.kind) ∧ W.cell? ⟨w.heap.size + 1 + 1, 1, none⟩ = some (.string d.name) ∧ W.cell? ⟨w.heap.size + 1 + 1, 2, none⟩ = some (.bool d.neg) ∧ W.cell? ⟨w.heap.size + 1 + 1, 3, none⟩ = some (.slice A3 d.ds.length e3) ∧ W.cell? ⟨w.heap.size + 1 + 1, 4, none⟩ = some (.slice K3 d.kids.length e3')) from fun W hW => by
    have ga := (hW.block _ (Own.lt.cell_lt' z0)).trans z0
    have gb := (hW.block _ (Own.lt.cell_lt' z1)).trans z1
    have gd := (hW.block _ (Own.lt.cell_lt' z2)).trans z2
    exact ⟨⟨cell_of_row _ _ 0 _ _ _ ga, cell_of_row _ _ 1 _ _ _ ga, cell_of_row _ _ 2 _ _ _ ga, cell_of_row _ _ 3 _ _ _ ga, cell_of_row _ _ 4 _ _ _ ga⟩, ⟨cell_of_row _ _ 0 _ _ _ gb, cell_of_row _ _ 1 _ _ _ gb, cell_of_row _ _ 2 _ _ _ gb, cell_of_row _ _ 3 _ _ _ gb, cell_of_row _ _ 4 _ _ _ gb⟩, ⟨cell_of_row _ _ 0 _ _ _ gd, cell_of_row _ _ 1 _ _ _ gd, cell_of_row _ _ 2 _ _ _ gd, cell_of_row _ _ 3 _ _ _ gd, cell_of_row _ _ 4 _ _ _ gd⟩⟩)
  have HB := Lib.hid zb
  clear z0 z1 z2 zs zb hw0
  refine (awake8_ok (w := w0) (HH.out.2.2.2.2.2.2.2.2.2.2.2.on HB.out HB.out.size)).mono ?_
  rintro e w1 ⟨rfl, hb1⟩
  have H1 := Lib.hid hb1
  obtain ⟨⟨a0, a1, a2, a3, a4⟩, ⟨b0, b1, b2, b3, b4⟩, ⟨d0, d1, d2, d3, d4⟩⟩ := HC.out w1 hb1
  clear hb1
  go_wp2_with fail
  have z := heap_alloc_new w1 (.cells #[.int .u8 a.kind, .string a.name, .bool a.neg, .slice A1 a.ds.length e1, .slice K1 a.kids.length e1', .int .u8 b.kind, .string b.name, .bool b.neg, .slice A2 b.ds.length e2, .slice K2 b.kids.length e2', .int .u8 d.kind, .string d.name, .bool d.neg, .slice A3 d.ds.length e3, .slice K3 d.kids.length e3'] 28)
  obtain ⟨w2, hw2⟩ : ∃ w2, w2 = w1.alloc (.cells #[.int .u8 a.kind, .string a.name, .bool a.neg, .slice A1 a.ds.length e1, .slice K1 a.kids.length e1', .int .u8 b.kind, .string b.name, .bool b.neg, .slice A2 b.ds.length e2, .slice K2 b.kids.length e2', .int .u8 d.kind, .string d.name, .bool d.neg, .slice A3 d.ds.length e3, .slice K3 d.kids.length e3'] 28) := ⟨_, rfl⟩
  have hb2 : Below w1.heap.size w1 w2 := by rw [hw2]; exact (Below.refl _ _).alloc (Nat.le_refl _) _
  rw [← hw2] at z ⊢
  have hbw : Below w.heap.size w w2 := bst HB.out (bst H1.out hb2)
  have HG := Lib.hid (great8_ok (w := w2) (c := c) (c' := 3) (m := [a, b, d]) (HH.out.1.below hbw) HH.out.2.1 (tms_three z (HH.out.2.2.1.bel hbw) (HH.out.2.2.2.1.bel hbw) (HH.out.2.2.2.2.1.bel hbw)) (by simp))
  have H2 := Lib.hid (show _ ∧ _ from ⟨hbw, bst H1.out hb2⟩)
  clear z hw2 hb2 hbw a0 a1 a2 a3 a4 b0 b1 b2 b3 b4 d0 d1 d2 d3 d4 H1
  refine Calls.mono HG.out ?_
  rintro e w3 ⟨g, rfl, hg, hb3⟩
  clear HG
  by_cases hgt : g = true
  · subst hgt
    have HE := Lib.hid (bst H2.out.1 hb3)
    clear hg hb3 H2 HB HC HH
    go_wp2
    go_returns
    exact ⟨rfl, HE.out⟩
  have hgf : g = false := by simpa using hgt
  subst hgf
  clear hgt
  by_cases hlen : (200 : Int) < (ps.length : Int) + (qs.length : Int)
  · have h3 : decide ((200 : Int) < (ps.length : Int) + (qs.length : Int)) = true := decide_eq_true hlen
    have h4 : decide ((ps.length : Int) + (qs.length : Int) > (200 : Int)) = true := decide_eq_true hlen
    have HE := Lib.hid (bst H2.out.1 hb3)
    clear hg hb3 H2 HB HC HH
    go_wp2
    go_returns
    exact ⟨rfl, HE.out⟩
  have h3 : decide ((200 : Int) < (ps.length : Int) + (qs.length : Int)) = false := decide_eq_false hlen
  have h4 : decide ((ps.length : Int) + (qs.length : Int) > (200 : Int)) = false := decide_eq_false hlen
  have H3 := Lib.hid (show (wtL fs ≤ 2000 ∧ wtT a ≤ 2000 ∧ wtT b ≤ 2000 ∧ wtT d ≤ 2000) ∧ ps.length + qs.length ≤ 200 ∧ Below w0.heap.size w0 w3 from by
    obtain ⟨h1, h2⟩ := hg rfl
    rw [wtL_cons, wtL_cons, wtL_cons, wtL_nil] at h2
    exact ⟨⟨h1, by omega, by omega, by omega⟩, by omega, bst H2.out.2 hb3⟩)
  obtain ⟨⟨a0, a1, a2, a3, a4⟩, ⟨b0, b1, b2, b3, b4⟩, ⟨d0, d1, d2, d3, d4⟩⟩ := HC.out w3 H3.out.2.2
  have HL := Lib.hid (show ∀ W : World, Below w0.heap.size w0 W → LawH W K fs ∧ TmV W (fiveV a A1 K1 e1 e1') a ∧ TmV W (fiveV b A2 K2 e2 e2') b ∧ TmV W (fiveV d A3 K3 e3 e3') d ∧ Row W P (IntsV ps) ∧ Row W Q (IntsV qs) ∧ Below w.heap.size w W from fun W hW => by
    have hbW := bst HB.out hW
    obtain ⟨g1, g2, g3, g4, g5, g6, g7, g8, g9, g10, g11, g12⟩ := HH.out
    exact ⟨⟨g1.below hbW, fun t ht => Nat.le_trans (wtT_mem ht) (by have := H3.out.1.1; omega), g12.on hbW hbW.size⟩, g3.bel hbW, g4.bel hbW, g5.bel hbW, g6.below hbW, g7.below hbW, hbW⟩)
  have HR := Lib.hid (show _ ∧ _ from ⟨HH.out.2.2.2.2.2.2.2.2.2.1, HH.out.2.2.2.2.2.2.2.2.2.2.1⟩)
  clear hg hb3 H2 HH hlen
  go_wp2_with fail
  refine (same_o (HL.out w3 H3.out.2.2).1 (HL.out w3 H3.out.2.2).2.1 (HL.out w3 H3.out.2.2).2.2.1 (HL.out w3 H3.out.2.2).2.2.2.2.1 rfl (by have := H3.out.1; omega) (by have := H3.out.1; omega) HR.out.1 (by have := H3.out.2.1; omega)).mono ?_
  rintro e w4 ⟨x0, x1, x2, x3, x4, x5, x6, x7, x8, r1, rfl, HX, hb4⟩
  have zX := heap_alloc_new w4 (.cells #[.int .u8 x0, .string x1, .bool x2, .slice x3 x4 x5, .slice x6 x7 x8] 28)
  obtain ⟨w5, hw5⟩ : ∃ w5, w5 = w4.alloc (.cells #[.int .u8 x0, .string x1, .bool x2, .slice x3 x4 x5, .slice x6 x7 x8] 28) := ⟨_, rfl⟩
  have hb45 : Below w4.heap.size w4 w5 := by rw [hw5]; exact (Below.refl _ _).alloc (Nat.le_refl _) _
  rw [← hw5] at zX
  have H5 := Lib.hid (show Below w0.heap.size w0 w5 ∧ Below w4.heap.size w4 w5 ∧ w5.heap[w4.heap.size]? = some (.cells #[.int .u8 x0, .string x1, .bool x2, .slice x3 x4 x5, .slice x6 x7 x8] 28 (0, 0)) from ⟨bst (bst H3.out.2.2 hb4) hb45, hb45, zX⟩)
  have HW5 := Lib.hid hw5
  clear hb4 hb45 zX a0 a1 a2 a3 a4 b0 b1 b2 b3 b4 d0 d1 d2 d3 d4
  obtain ⟨_, ⟨b0, b1, b2, b3, b4⟩, ⟨d0, d1, d2, d3, d4⟩⟩ := HC.out w5 H5.out.1
  rw [hw5] at b0 b1 b2 b3 b4 d0 d1 d2 d3 d4
  clear hw5
  go_wp2_with fail
  rw [← HW5.out]
  refine (same_o (HL.out w5 H5.out.1).1 (HL.out w5 H5.out.1).2.2.1 (HL.out w5 H5.out.1).2.2.2.1 (HL.out w5 H5.out.1).2.2.2.2.2.1 rfl (by have := H3.out.1; omega) (by have := H3.out.1; omega) HR.out.2 (by have := H3.out.2.1; omega)).mono ?_
  rintro e w6 ⟨y0, y1, y2, y3, y4, y5, y6, y7, y8, r2, rfl, HY, hb6⟩
  obtain ⟨w7, hw7⟩ : ∃ w7, w7 = w6.alloc (.cells #[.int .u8 y0, .string y1, .bool y2, .slice y3 y4 y5, .slice y6 y7 y8] 28) := ⟨_, rfl⟩
  have hb57 : Below w5.heap.size w5 w7 := by rw [hw7]; exact bal8 hb6 _
  have H7 := Lib.hid (show Below w0.heap.size w0 w7 ∧ Below w4.heap.size w4 w7 ∧ w7.heap[w4.heap.size]? = some (.cells #[.int .u8 x0, .string x1, .bool x2, .slice x3 x4 x5, .slice x6 x7 x8] 28 (0, 0)) from ⟨bst H5.out.1 hb57, bst H5.out.2.1 hb57, (hb57.block _ (Own.lt.cell_lt' H5.out.2.2)).trans H5.out.2.2⟩)
  have HW7 := Lib.hid hw7
  clear hb57 hb6 hw7 b0 b1 b2 b3 b4 d0 d1 d2 d3 d4
  go_wp2_with fail
  rw [← HW7.out]
  refine name_frame (G := fun a => Code.wp _ _ _ a _) ?_
  intro f0 hf0
  have hN : f0.tmps.size = 132 := by rw [hf0]; rfl
  have q0 : f0.eval (.tmp 0) = .slice K fs.length c := by rw [hf0]; rfl
  have q4 : f0.eval (.tmp 4) = .slice P ps.length cp := by rw [hf0]; rfl
  have q5 : f0.eval (.tmp 5) = .slice Q qs.length cq := by rw [hf0]; rfl
  have q7 : f0.eval (.tmp 7) = .pointer (some ⟨w.heap.size, 0, none⟩) := by rw [hf0]; rfl
  have q9 : f0.eval (.tmp 9) = .pointer (some ⟨w.heap.size + 1 + 1, 0, none⟩) := by rw [hf0]; rfl
  obtain ⟨⟨a0, a1, a2, a3, a4⟩, _, ⟨d0, d1, d2, d3, d4⟩⟩ := HC.out w7 H7.out.1
  have hll : ps.length + qs.length ≤ 100000 := by have := H3.out.2.1; omega
  refine wp_region_grow (by kernel_rfl) (RI w7 ps qs (PathIs fs a d (ps ++ qs)) (.slice K fs.length c) (fiveV a A1 K1 e1 e1') (fiveV d A3 K3 e3 e3') (.slice P ps.length cp) (.slice Q qs.length cq)) (fun _ => true) [ [], [], [], [], [], [(3, some 61), (4, some 62)], [], [(5, some 63), (6, some 64)], [(0, some 58), (1, some 59), (2, some 60), (7, some 65)], [(8, some 66)], [(9, some 57)], [(9, some 57)], [], [(12, some 17), (10, some 67)], [(11, some 68)] ] [(0, some 58), (1, some 59), (2, some 60), (3, some 61), (4, some 62), (5, some 63), (6, some 64), (7, some 65), (8, some 66), (9, some 57), (10, some 67), (11, some 68), (12, some 17), (13, none), (14, some 18)] (by rw [hN]; kernel_rfl) ?_ ?_ ?_ ?_ ?_
  · intro W' h
    have hb : Below w7.heap.size w7 W' := by
      rcases h with rfl | rfl
      · exact Below.refl _ _
      · exact (Below.refl _ _).drew
    have no : ∀ {j : Nat} {p : Prop}, j < 15 → decide (15 ≤ j) = true → p := fun hj h => absurd (of_decide_eq_true h) (by omega)
    exact ⟨⟨no (by decide), no (by decide), no (by decide), no (by decide)⟩, hb, no (by decide), no (by decide), no (by decide), no (by decide), no (by decide), fun h => no (by decide) h, fun h => no (by decide) h, fun h => no (by decide) h, fun h => no (by decide) h, no (by decide), no (by decide), no (by decide), no (by decide), no (by decide)⟩
  · intro i o gg ho hgd
    exfalso
    rcases i with _ | _ | _ | _ | _ | _ | _ | _ | _ | _ | _ | _ | _ | _ | _ | i <;> first | (cases ho; cases hgd) | cases ho
  · intro i _ h
    cases h
  · intro i o ho _
    rcases i with _ | _ | _ | _ | _ | _ | _ | _ | _ | _ | _ | _ | _ | _ | _ | i
    · cases ho; exact s_move (.inl ⟨rfl, rfl⟩) (by decide) hN q0
    · cases ho; exact s_load (.inl ⟨rfl, rfl⟩) (by decide) hN q7 a0 a1 a2 a3 a4
    · cases ho; exact s_load (.inr ⟨rfl, rfl⟩) (by decide) hN q9 d0 d1 d2 d3 d4
    · cases ho; exact s_empty (by decide) hN
    · cases ho; exact s_move (.inr (.inl ⟨rfl, rfl⟩)) (by decide) hN q4
    · cases ho; exact s_app1 rfl (HL.out w7 H7.out.1).2.2.2.2.1 hll (by decide) (by decide) (by decide) (by decide) hN
    · cases ho; exact s_move (.inr (.inr ⟨rfl, rfl⟩)) (by decide) hN q5
    · cases ho; exact s_app2 rfl (HL.out w7 H7.out.1).2.2.2.2.2.1 hll (by decide) (by decide) (by decide) (by decide) hN
    · cases ho
      refine s_call hN fun W A cc hW hrow => ?_
      have hW' := bst H7.out.1 hW
      refine (same_o (HL.out W hW').1 (HL.out W hW').2.1 (HL.out W hW').2.2.2.1 hrow rfl (by have := H3.out.1; omega) (by have := H3.out.1; omega) (fun p hp => by
        rcases List.mem_append.1 hp with hp | hp
        · exact HR.out.1 p hp
        · exact HR.out.2 p hp) (by rw [List.length_append]; omega)).mono ?_
      rintro e w' ⟨z0, z1, z2, z3, z4, z5, z6, z7, z8, r3, rfl, HZ, hb⟩
      refine ⟨_, rfl, ⟨_, _, _, _, _, _, _, _, _, r3, rfl, ?_⟩, hb⟩
      rcases HZ.out with ⟨h1, h2, _⟩ | ⟨h1, h2, _⟩
      · exact .inl ⟨h1, h2⟩
      · exact .inr ⟨h1, h2⟩
    · cases ho; exact s_told hN
    · cases ho; exact s_fst hN
    · cases ho; exact s_snd hN
    · cases ho; exact s_new (by decide) hN
    · cases ho; exact s_store hN
    · cases ho; exact s_asg hN
    · cases ho
  · intro L x w8 hL hI
    obtain ⟨r3, e14, hr3⟩ := hI.t14 (hL 14 (by decide))
    have H8 := Lib.hid (show Below w0.heap.size w0 w8 ∧ w8.heap[w4.heap.size]? = some (.cells #[.int .u8 x0, .string x1, .bool x2, .slice x3 x4 x5, .slice x6 x7 x8] 28 (0, 0)) ∧ Below w4.heap.size w4 w8 ∧ ((r3 = 0 ∧ PathIs fs a d (ps ++ qs)) ∨ (r3 = 31 ∧ ¬ PathIs fs a d (ps ++ qs))) from ⟨bst H7.out.1 hI.bel, (hI.bel.block _ (Own.lt.cell_lt' H7.out.2.2)).trans H7.out.2.2, bst H7.out.2.1 hI.bel, hr3⟩)
    have eP : putE x f0 [(0, some 58), (1, some 59), (2, some 60), (3, some 61), (4, some 62), (5, some 63), (6, some 64), (7, some 65), (8, some 66), (9, some 57), (10, some 67), (11, some 68), (12, some 17), (13, none), (14, some 18)] = { tmps := #[.slice K fs.length c, fiveV a A1 K1 e1 e1', fiveV b A2 K2 e2 e2', fiveV d A3 K3 e3 e3', .slice P ps.length cp, .slice Q qs.length cq, undef, .pointer (some ⟨w.heap.size, 0, none⟩), .pointer (some ⟨w.heap.size + 1, 0, none⟩), .pointer (some ⟨w.heap.size + 1 + 1, 0, none⟩), undef, undef, .bool false, .pointer (some ⟨w4.heap.size, 0, none⟩), .int .i64 r1, .pointer (some ⟨w6.heap.size, 0, none⟩), .int .i64 r2, x 12, x 14, undef, undef, undef, undef, undef, undef, .bool true, .bool false, .slice K fs.length c, .agg #[.int .u8 a.kind, .string a.name, .bool a.neg, .slice A1 a.ds.length e1, .slice K1 a.kids.length e1'], .agg #[.int .u8 b.kind, .string b.name, .bool b.neg, .slice A2 b.ds.length e2, .slice K2 b.kids.length e2'], .agg #[.int .u8 d.kind, .string d.name, .bool d.neg, .slice A3 d.ds.length e3, .slice K3 d.kids.length e3'], .slice (some ⟨w1.heap.size, 0, none⟩) 3 3, .bool false, .bool false, .slice P ps.length cp, .int .i64 (ps.length : Int), .slice Q qs.length cq, .int .i64 (qs.length : Int), .int .i64 ((ps.length : Int) + (qs.length : Int)), .bool false, .bool false, .tuple #[.agg #[.int .u8 x0, .string x1, .bool x2, .slice x3 x4 x5, .slice x6 x7 x8], .int .i64 r1], .slice K fs.length c, .agg #[.int .u8 a.kind, .string a.name, .bool a.neg, .slice A1 a.ds.length e1, .slice K1 a.kids.length e1'], .agg #[.int .u8 b.kind, .string b.name, .bool b.neg, .slice A2 b.ds.length e2, .slice K2 b.kids.length e2'], .slice P ps.length cp, .tuple #[.agg #[.int .u8 x0, .string x1, .bool x2, .slice x3 x4 x5, .slice x6 x7 x8], .int .i64 r1], .agg #[.int .u8 x0, .string x1, .bool x2, .slice x3 x4 x5, .slice x6 x7 x8], .int .i64 r1, .tuple #[.agg #[.int .u8 y0, .string y1, .bool y2, .slice y3 y4 y5, .slice y6 y7 y8], .int .i64 r2], .slice K fs.length c, .agg #[.int .u8 b.kind, .string b.name, .bool b.neg, .slice A2 b.ds.length e2, .slice K2 b.kids.length e2'], .agg #[.int .u8 d.kind, .string d.name, .bool d.neg, .slice A3 d.ds.length e3, .slice K3 d.kids.length e3'], .slice Q qs.length cq, .tuple #[.agg #[.int .u8 y0, .string y1, .bool y2, .slice y3 y4 y5, .slice y6 y7 y8], .int .i64 r2], .agg #[.int .u8 y0, .string y1, .bool y2, .slice y3 y4 y5, .slice y6 y7 y8], .int .i64 r2, x 9, x 0, x 1, x 2, x 3, x 4, x 5, x 6, x 7, x 8, x 10, x 11, undef, undef, undef, undef, undef, undef, undef, undef, undef, undef, undef, undef, undef, undef, undef, undef, undef, undef, undef, undef, undef, undef, undef, undef, undef, undef, undef, undef, undef, undef, undef, undef, undef, undef, undef, undef, undef, undef, undef, undef, undef, undef, undef, undef, undef, undef, undef, undef, undef, undef, undef, undef, undef, undef, undef, undef, undef, undef, undef, undef, undef, undef, undef], defers := [] } := by
      rw [hf0]; kernel_rfl
    rw [eP, e14]
    dsimp only
    clear hf0 hN q0 q4 q5 q7 q9 a0 a1 a2 a3 a4 d0 d1 d2 d3 d4 hll hL hI eP e14 hr3
    refine then_n ?_
    rename (∀ (a : Act) (w : World), Code.wp Tryz.prog _ _ a w → _) => hKx
    refine hKx _ _ ?_
    clear hKx
    rcases HX.out with ⟨rfl, hab, htx⟩ | ⟨rfl, hab, hz⟩
    rotate_left
    · have c0 := cell_of_row w8 w4.heap.size 0 _ _ _ H8.out.2.1
      have c1 := cell_of_row w8 w4.heap.size 1 _ _ _ H8.out.2.1
      have c2 := cell_of_row w8 w4.heap.size 2 _ _ _ H8.out.2.1
      have c3 := cell_of_row w8 w4.heap.size 3 _ _ _ H8.out.2.1
      have c4 := cell_of_row w8 w4.heap.size 4 _ _ _ H8.out.2.1
      simp at c0 c1 c2 c3 c4
      have HZ := Lib.hid hz
      clear hz hab
      go_wp2_with fail
      refine (same_yes (t := .mk 0 ⟨#[]⟩ false [] []) (by decide) (by rw [HZ.out]; exact zero_tm _) (zero_tm _)).mono ?_
      rintro e w9 ⟨rfl, hb9⟩
      have HE := Lib.hid (bst (HL.out w8 H8.out.1).2.2.2.2.2.2 hb9)
      clear hb9 HZ c0 c1 c2 c3 c4 H8 H7 HL HC HB HX HY H3 HR HW5 HW7 H5
      go_wp2
      go_returns
      exact ⟨rfl, HE.out⟩
    · obtain ⟨i0, hi, hz0, hz1, hz2⟩ := info_parts info_int
      have HP := Lib.hid (HL.out w8 H8.out.1).2.2.2.2.1
      have HA := Lib.hid (show _ ∧ _ ∧ _ from ⟨hab, htx, H3.out.2.1⟩)
      have hpn : (ps.length : Int) ≤ 200 := by have := H3.out.2.1; omega
      clear hab htx HX
      go_wp2
      go_loopw [19, 20] (fun lv iv wr => ∃ (r : Nat) (v' : Value), r ≤ ps.length ∧ v' = lv ∧ iv = .int .i64 ((r : Int) - 1) ∧ Hid (I64s wr w8.heap.size v' (ps.drop r).reverse ∧ Below w8.heap.size w8 wr)) (fun _ iv _ => (intOf iv + 1).toNat)
      case atStart => exact ⟨ps.length, _, Nat.le_refl _, rfl, rfl, Lib.hid ⟨by rw [List.drop_length]; exact World.ownsRow_nil _ _ _ _, Below.refl _ _⟩⟩
      case round =>
        obtain ⟨r, v', hr, rfl, rfl, HI⟩ := hrel
        rcases r with _ | r
        · have e0 : (((0 : Nat) : Int) - 1) = -1 := by omega
          rw [e0]
          obtain ⟨hown, hbr⟩ := HI.out
          rw [List.drop_zero] at hown
          obtain ⟨A9, c9, rfl, hrow⟩ := hown.slice
          have H9 := Lib.hid (show Below w0.heap.size w0 wr ∧ wr.heap[w4.heap.size]? = some (.cells #[.int .u8 x0, .string x1, .bool x2, .slice x3 x4 x5, .slice x6 x7 x8] 28 (0, 0)) ∧ Below w4.heap.size w4 wr ∧ Row wr A9 (IntsV ps.reverse) from ⟨bst H8.out.1 hbr, (hbr.block _ (Own.lt.cell_lt' H8.out.2.1)).trans H8.out.2.1, bst H8.out.2.2.1 hbr, hrow⟩)
          obtain ⟨⟨a0, a1, a2, a3, a4⟩, ⟨b0, b1, b2, b3, b4⟩, _⟩ := HC.out wr H9.out.1
          have hrr : r2 = r3 := by
            refine same_r HA.out.1 ?_ H8.out.2.2.2
            rcases HY.out with ⟨h1, h2, _⟩ | ⟨h1, h2, _⟩
            · exact .inl ⟨h1, h2⟩
            · exact .inr ⟨h1, h2⟩
          subst hrr
          clear hown hbr hrow HI HY H7 H5 HW5 HW7 HP H8
          go_wp2_with fail
          refine (same_o (HL.out wr H9.out.1).1 (HL.out wr H9.out.1).2.2.1 (HL.out wr H9.out.1).2.1 H9.out.2.2.2 (by rw [List.length_reverse]) (by have := H3.out.1; omega) (by have := H3.out.1; omega) (fun p hp => HR.out.1 p (List.mem_reverse.1 hp)) (by rw [List.length_reverse]; omega)).mono ?_
          rintro e w10 ⟨z0, z1, z2, z3, z4, z5, z6, z7, z8, r4, rfl, HV, hb10⟩
          rcases HV.out with ⟨rfl, -, hty⟩ | ⟨rfl, hno, -⟩
          rotate_left
          · exact absurd (path_back HA.out.1) hno
          have zy := heap_alloc_new w10 (.cells #[.int .u8 z0, .string z1, .bool z2, .slice z3 z4 z5, .slice z6 z7 z8] 28)
          obtain ⟨w11, hw11⟩ : ∃ w11, w11 = w10.alloc (.cells #[.int .u8 z0, .string z1, .bool z2, .slice z3 z4 z5, .slice z6 z7 z8] 28) := ⟨_, rfl⟩
          have hb11 : Below w10.heap.size w10 w11 := by rw [hw11]; exact (Below.refl _ _).alloc (Nat.le_refl _) _
          rw [← hw11] at zy
          have hbr11 := bst hb10 hb11
          have H11 := Lib.hid (show Below w0.heap.size w0 w11 ∧ w11.heap[w4.heap.size]? = some (.cells #[.int .u8 x0, .string x1, .bool x2, .slice x3 x4 x5, .slice x6 x7 x8] 28 (0, 0)) ∧ Below w4.heap.size w4 w11 ∧ w11.heap[w10.heap.size]? = some (.cells #[.int .u8 z0, .string z1, .bool z2, .slice z3 z4 z5, .slice z6 z7 z8] 28 (0, 0)) ∧ TmV w11 (.agg #[.int .u8 z0, .string z1, .bool z2, .slice z3 z4 z5, .slice z6 z7 z8]) (eqTm b a) from ⟨bst H9.out.1 hbr11, (hbr11.block _ (Own.lt.cell_lt' H9.out.2.1)).trans H9.out.2.1, bst H9.out.2.2.1 hbr11, zy, hty.bel hb11⟩)
          have HW11 := Lib.hid hw11
          clear a0 a1 a2 a3 a4 b0 b1 b2 b3 b4 hb10 hb11 zy hbr11 hty HV H9
          obtain ⟨⟨a0, a1, a2, a3, a4⟩, ⟨b0, b1, b2, b3, b4⟩, _⟩ := HC.out w11 H11.out.1
          have s0 := cell_of_row w11 w4.heap.size 0 _ _ _ H11.out.2.1
          have s1 := cell_of_row w11 w4.heap.size 1 _ _ _ H11.out.2.1
          have s2 := cell_of_row w11 w4.heap.size 2 _ _ _ H11.out.2.1
          have s3 := cell_of_row w11 w4.heap.size 3 _ _ _ H11.out.2.1
          have s4 := cell_of_row w11 w4.heap.size 4 _ _ _ H11.out.2.1
          simp at s0 s1 s2 s3 s4
          have hcx := HC.out (w11.alloc (.cells #[.int .u8 x0, .string x1, .bool x2, .slice x3 x4 x5, .slice x6 x7 x8] 28)) (bal8 H11.out.1 _)
          rw [hw11] at a0 a1 a2 a3 a4 b0 b1 b2 b3 b4 s0 s1 s2 s3 s4 hcx
          obtain ⟨⟨p0, p1, p2, p3, p4⟩, ⟨g0, g1, g2, g3, g4⟩, _⟩ := hcx
          clear hw11
          go_wp2_with fail
          rw [← HW11.out]
          have hs11 : w11.heap.size = w10.heap.size + 1 := by rw [HW11.out]; exact World.size_alloc ..
          obtain ⟨k0, k1, ks, kb⟩ := two_alloc w11 (.cells #[.int .u8 x0, .string x1, .bool x2, .slice x3 x4 x5, .slice x6 x7 x8] 28) (.cells #[.int .i64 0] 3)
          rw [hs11] at k0 k1
          obtain ⟨w12, hw12⟩ : ∃ w12, w12 = (w11.alloc (.cells #[.int .u8 x0, .string x1, .bool x2, .slice x3 x4 x5, .slice x6 x7 x8] 28)).alloc (.cells #[.int .i64 0] 3) := ⟨_, rfl⟩
          rw [← hw12] at k0 k1 kb ⊢
          have hb12 := bst H11.out.1 kb
          have hx12 := HA.out.2.1.bel (bst H11.out.2.2.1 kb)
          have hl12 : LawH w12 (some ⟨w10.heap.size + 1, 0, none⟩) [eqTm a b] := ⟨tms_one k0 hx12, fun t ht => by
            rw [List.mem_singleton.1 ht, wt_eq]
            have := H3.out.1
            omega, (HL.out w12 hb12).1.tab⟩
          have hrow0 : Row w12 (some ⟨w10.heap.size + 1 + 1, 0, none⟩) (IntsV [0]) := fun j v hj => by
            refine ⟨_, rfl, ?_⟩
            rw [add_eq, Nat.zero_add]
            match j, hj with
            | 0, hj => exact (cell_of_row _ _ 0 _ _ _ k1).trans hj
            | j + 1, hj => simp [IntsV] at hj
          have HS4 := Lib.hid (same_o (w := w12) (c := 1) (cp := 1) (fs := [eqTm a b]) (ps := [0]) hl12 (HL.out w12 hb12).2.1 (HL.out w12 hb12).2.2.1 hrow0 rfl (by have := H3.out.1; omega) (by have := H3.out.1; omega) (by
            intro p hp
            rw [List.mem_singleton.1 hp]
            omega) (by decide))
          have H12 := Lib.hid (show Below w11.heap.size w11 w12 ∧ TmV w12 (.agg #[.int .u8 x0, .string x1, .bool x2, .slice x3 x4 x5, .slice x6 x7 x8]) (eqTm a b) from ⟨kb, hx12⟩)
          clear k0 k1 ks kb hb12 hx12 hl12 hrow0 hw12 hs11 a0 a1 a2 a3 a4 b0 b1 b2 b3 b4 s0 s1 s2 s3 s4 p0 p1 p2 p3 p4 g0 g1 g2 g3 g4
          refine Calls.mono HS4.out ?_
          clear HS4
          rintro e w13 ⟨u0, u1, u2, u3, u4, u5, u6, u7, u8, r5, rfl, HV, hb13⟩
          rcases HV.out with ⟨rfl, -, htz⟩ | ⟨rfl, hno, -⟩
          rotate_left
          · exact absurd (path_own a b) hno
          have zu := heap_alloc_new w13 (.cells #[.int .u8 u0, .string u1, .bool u2, .slice u3 u4 u5, .slice u6 u7 u8] 28)
          obtain ⟨w14, hw14⟩ : ∃ w14, w14 = w13.alloc (.cells #[.int .u8 u0, .string u1, .bool u2, .slice u3 u4 u5, .slice u6 u7 u8] 28) := ⟨_, rfl⟩
          have hb14 : Below w13.heap.size w13 w14 := by rw [hw14]; exact (Below.refl _ _).alloc (Nat.le_refl _) _
          rw [← hw14] at zu
          have hb24 := bst hb13 hb14
          have hb114 := bst H12.out.1 hb24
          have H14 := Lib.hid (show Below w0.heap.size w0 w14 ∧ TmV w14 (.agg #[.int .u8 u0, .string u1, .bool u2, .slice u3 u4 u5, .slice u6 u7 u8]) (eqTm a b) ∧ TmV w14 (.agg #[.int .u8 x0, .string x1, .bool x2, .slice x3 x4 x5, .slice x6 x7 x8]) (eqTm a b) ∧ TmV w14 (.agg #[.int .u8 z0, .string z1, .bool z2, .slice z3 z4 z5, .slice z6 z7 z8]) (eqTm b a) from ⟨bst H11.out.1 hb114, htz.bel hb14, H12.out.2.bel hb24, H11.out.2.2.2.2.bel hb114⟩)
          have HK := Lib.hid (show ∀ W : World, Below w14.heap.size w14 W → W.cell? ⟨w4.heap.size, 0, none⟩ = some (.int .u8 x0) ∧ W.cell? ⟨w4.heap.size, 1, none⟩ = some (.string x1) ∧ W.cell? ⟨w4.heap.size, 2, none⟩ = some (.bool x2) ∧ W.cell? ⟨w4.heap.size, 3, none⟩ = some (.slice x3 x4 x5) ∧ W.cell? ⟨w4.heap.size, 4, none⟩ = some (.slice x6 x7 x8) ∧ W.cell? ⟨w10.heap.size, 0, none⟩ = some (.int .u8 z0) ∧ W.cell? ⟨w10.heap.size, 1, none⟩ = some (.string z1) ∧ W.cell? ⟨w10.heap.size, 2, none⟩ = some (.bool z2) ∧ W.cell? ⟨w10.heap.size, 3, none⟩ = some (.slice z3 z4 z5) ∧ W.cell? ⟨w10.heap.size, 4, none⟩ = some (.slice z6 z7 z8) ∧ W.cell? ⟨w13.heap.size, 0, none⟩ = some (.int .u8 u0) ∧ W.cell? ⟨w13.heap.size, 1, none⟩ = some (.string u1) ∧ W.cell? ⟨w13.heap.size, 2, none⟩ = some (.bool u2) ∧ W.cell? ⟨w13.heap.size, 3, none⟩ = some (.slice u3 u4 u5) ∧ W.cell? ⟨w13.heap.size, 4, none⟩ = some (.slice u6 u7 u8) ∧ W.cell? ⟨w.heap.size, 0, none⟩ = some (.int .u8 a.kind) ∧ W.cell? ⟨w.heap.size, 1, none⟩ = some (.string a.name) ∧ W.cell? ⟨w.heap.size, 2, none⟩ = some (.bool a.neg) ∧ W.cell? ⟨w.heap.size, 3, none⟩ = some (.slice A1 a.ds.length e1) ∧ W.cell? ⟨w.heap.size, 4, none⟩ = some (.slice K1 a.kids.length e1') ∧ W.cell? ⟨w.heap.size + 1, 0, none⟩ = some (.int .u8 b.kind) ∧ W.cell? ⟨w.heap.size + 1, 1, none⟩ = some (.string b.name) ∧ W.cell? ⟨w.heap.size + 1, 2, none⟩ = some (.bool b.neg) ∧ W.cell? ⟨w.heap.size + 1, 3, none⟩ = some (.slice A2 b.ds.length e2) ∧ W.cell? ⟨w.heap.size + 1, 4, none⟩ = some (.slice K2 b.kids.length e2') from fun W hW => by
            have hc := HC.out W (bst (bst H11.out.1 hb114) hW)
            have h1 := bst hb114 hW
            have g1 := (h1.block _ (Own.lt.cell_lt' H11.out.2.1)).trans H11.out.2.1
            have g2 := (h1.block _ (Own.lt.cell_lt' H11.out.2.2.2.1)).trans H11.out.2.2.2.1
            have g3 := (hW.block _ (Own.lt.cell_lt' zu)).trans zu
            exact ⟨cell_blk g1, cell_blk g1, cell_blk g1, cell_blk g1, cell_blk g1, cell_blk g2, cell_blk g2, cell_blk g2, cell_blk g2, cell_blk g2, cell_blk g3, cell_blk g3, cell_blk g3, cell_blk g3, cell_blk g3, hc.1.1, hc.1.2.1, hc.1.2.2.1, hc.1.2.2.2.1, hc.1.2.2.2.2, hc.2.1.1, hc.2.1.2.1, hc.2.1.2.2.1, hc.2.1.2.2.2.1, hc.2.1.2.2.2.2⟩)
          have HW14 := Lib.hid hw14
          clear hb13 hb14 zu hb24 hb114 htz HV hw14 H12 H11 HW11 HC HB
          have HT := Lib.hid (show (TmV w14.drew (fiveV a A1 K1 e1 e1') a ∧ TmV w14.drew (fiveV b A2 K2 e2 e2') b) ∧ Below w.heap.size w w14 ∧ wtT (eqTm a b) ≤ 100000 ∧ wtT (eqTm b a) ≤ 100000 from ⟨⟨(HL.out w14 H14.out.1).2.1.bel (Below.refl _ _).drew, (HL.out w14 H14.out.1).2.2.1.bel (Below.refl _ _).drew⟩, (HL.out w14 H14.out.1).2.2.2.2.2.2, by rw [wt_eq]; have := H3.out.1; omega, by rw [wt_eq]; have := H3.out.1; omega⟩)
          clear HL H3 HR HA
          go_wp2_with fail
          rw [← HW14.out]
          clear HW14
          go_region_held3 (fun w' => w'.cell? ⟨w4.heap.size, 0, none⟩ = some (.int .u8 x0) ∧ w'.cell? ⟨w4.heap.size, 1, none⟩ = some (.string x1) ∧ w'.cell? ⟨w4.heap.size, 2, none⟩ = some (.bool x2) ∧ w'.cell? ⟨w4.heap.size, 3, none⟩ = some (.slice x3 x4 x5) ∧ w'.cell? ⟨w4.heap.size, 4, none⟩ = some (.slice x6 x7 x8) ∧ w'.cell? ⟨w10.heap.size, 0, none⟩ = some (.int .u8 z0) ∧ w'.cell? ⟨w10.heap.size, 1, none⟩ = some (.string z1) ∧ w'.cell? ⟨w10.heap.size, 2, none⟩ = some (.bool z2) ∧ w'.cell? ⟨w10.heap.size, 3, none⟩ = some (.slice z3 z4 z5) ∧ w'.cell? ⟨w10.heap.size, 4, none⟩ = some (.slice z6 z7 z8) ∧ w'.cell? ⟨w13.heap.size, 0, none⟩ = some (.int .u8 u0) ∧ w'.cell? ⟨w13.heap.size, 1, none⟩ = some (.string u1) ∧ w'.cell? ⟨w13.heap.size, 2, none⟩ = some (.bool u2) ∧ w'.cell? ⟨w13.heap.size, 3, none⟩ = some (.slice u3 u4 u5) ∧ w'.cell? ⟨w13.heap.size, 4, none⟩ = some (.slice u6 u7 u8) ∧ w'.cell? ⟨w.heap.size, 0, none⟩ = some (.int .u8 a.kind) ∧ w'.cell? ⟨w.heap.size, 1, none⟩ = some (.string a.name) ∧ w'.cell? ⟨w.heap.size, 2, none⟩ = some (.bool a.neg) ∧ w'.cell? ⟨w.heap.size, 3, none⟩ = some (.slice A1 a.ds.length e1) ∧ w'.cell? ⟨w.heap.size, 4, none⟩ = some (.slice K1 a.kids.length e1') ∧ w'.cell? ⟨w.heap.size + 1, 0, none⟩ = some (.int .u8 b.kind) ∧ w'.cell? ⟨w.heap.size + 1, 1, none⟩ = some (.string b.name) ∧ w'.cell? ⟨w.heap.size + 1, 2, none⟩ = some (.bool b.neg) ∧ w'.cell? ⟨w.heap.size + 1, 3, none⟩ = some (.slice A2 b.ds.length e2) ∧ w'.cell? ⟨w.heap.size + 1, 4, none⟩ = some (.slice K2 b.kids.length e2'))
            (first
              | exact HK.out _ Y3.out
              | exact HK.out _ Y2.out
              | exact HK.out _ Y1.out.2
              | exact HK.out _ ((Below.refl _ _).drew))
            (first
              | (go_at_call 7; refine (same_yes (t := eqTm a b) HT.out.2.2.1 (H14.out.2.2.1.bel Y2.out) (H14.out.2.1.bel Y2.out)).mono ?_; rintro e wc ⟨rfl, hbc⟩; have Y3 := Lib.hid (show Below w14.heap.size w14 wc from bst Y2.out hbc); clear hbc)
              | (go_at_call 7; refine (same_yes (t := eqTm b a) HT.out.2.2.2 (H14.out.2.2.2.bel Y1.out.2) Y1.out.1).mono ?_; rintro e wb ⟨rfl, hbb⟩; have Y2 := Lib.hid (show Below w14.heap.size w14 wb from bst Y1.out.2 hbb); clear hbb)
              | (go_at_call 8; refine (ee8 (w := w14.drew) HT.out.1.2 HT.out.1.1).mono ?_; rintro e wa ⟨Ba, da, rfl, hta, hba⟩; have Y1 := Lib.hid (show TmV wa _ (eqTm b a) ∧ Below w14.heap.size w14 wa from ⟨hta, ((Below.refl _ _).drew).trans hba⟩); clear hta hba))
          all_goals (have HE := Lib.hid (bst HT.out.2.1 Y3.out); clear HT HK Y1 Y2 Y3 H14)
          all_goals go_wp2
          all_goals go_returns
          all_goals exact ⟨rfl, HE.out⟩
        · have e0 : (((r + 1 : Nat) : Int) - 1) = (r : Int) := by omega
          rw [e0]
          obtain ⟨p, hp⟩ : ∃ p, ps[r]? = some p := ⟨_, List.getElem?_eq_getElem (by omega)⟩
          obtain ⟨ad, rfl, hc0⟩ := HP.out r (.int .i64 p) (by simp [IntsV, hp])
          obtain ⟨hown, hbr⟩ := HI.out
          have hc := (hbr.cell (cell_lt hc0)).trans hc0
          have hrn : (r : Int) < (ps.length : Int) := by omega
          have hr0 : (0 : Int) ≤ (r : Int) := by omega
          have hdr : (ps.drop r).reverse = (ps.drop (r + 1)).reverse ++ [p] := by
            rw [List.drop_eq_getElem_cons (by omega), List.reverse_cons, (List.getElem?_eq_some_iff.1 hp).2]
          have HO := Lib.hid (show _ ∧ _ ∧ _ from ⟨hown, hbr, hdr⟩)
          have hln : (ps.drop (r + 1)).reverse.length ≤ 200 := by rw [List.length_reverse, List.length_drop]; omega
          clear hown hbr hdr HI hp hc0
          go_wp2_with (at_builtin; refine wpList_append_own_at _ rfl _ _ 29 rfl w8.heap.size 3 i0 _ 1 8 Tryz.underlying29 hi hz0 hz1 hz2 rfl (by decide) _ _ _ rfl (World.ownsRow.alloc HO.out.1 _) ⟨wr.heap.size, 0, none⟩ 1 1 [.int .i64 p] rfl rfl ?c1 ?c2 ?c3 ?c4 ?c5 ?_)
          case c1 => exact World.news_of_block (heap_alloc_new wr _)
          case c2 =>
            intro u hu
            rw [List.mem_singleton.1 hu]; rfl
          case c3 => unfold maxLen; omega
          case c4 => omega
          case c5 => rw [World.size_alloc]; have := HO.out.2.1.size; omega
          intro v2 w9 hown' hgrow' _ _
          have HE := Lib.hid (show I64s w9 w8.heap.size v2 (ps.drop r).reverse ∧ Below w8.heap.size w8 w9 from ⟨by
            rw [HO.out.2.2]
            unfold I64s
            rw [show ((ps.drop (r + 1)).reverse ++ [p]).length = ps.length - (r + 1) + 1 from by simp, intsV_append]
            exact hown', (HO.out.2.1.alloc HO.out.2.1.size _).grown hgrow' (by rw [World.size_alloc]; have := HO.out.2.1.size; omega) (fun k hk => (World.ownsRow.lt HO.out.1 k hk).1)⟩)
          clear hown' hgrow' HO
          go_wp2
          go_roundw
          case rel => exact ⟨r, v2, by omega, rfl, by go_num, HE⟩
          case measure => first | (simp [intOf]; done) | (simp [intOf]; omega)
end Go.Proofs.YtlikpnaffpngiaaGreatDoor

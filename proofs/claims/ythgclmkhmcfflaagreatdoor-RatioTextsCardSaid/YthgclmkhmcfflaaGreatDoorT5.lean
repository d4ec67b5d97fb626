/- Steps in a region that stores into one old block, of operations that find it as it was: a load of it, a store into one of its fields. Calls that hand a list and a function on. No condition. Contracts over right ratios: fold over lists of two and of three. Contracts over right ratios: Add, Mul of two and of three. Contracts over two right numbers that are no right ratio: Right, of, Text; SameRatio, the law's same, of two that differ; Div by 0. Right of any ratio that came in, of at most 8 digits a number: either its parts are a broken number's, or the call answers false. Whether ratios are few. No condition. The text of a broken number; where strings.Cut cuts it; two texts are one only of one number. No condition. Contract of ratio.Parse: by where strings.Cut cuts the text, what num.Parse tells of the parts, and whether the text of what they make is that one again. Condition: the library's cell internal/bytealg.MaxLen holds some int. Steps and contracts for the laws of package ratio: ratios that came in, lists of ratios of several sizes, pairs of a ratio and an error's number or a truth; texts and Parse of a right ratio; two ratios that differ. Condition (Parse): the library's cell internal/bytealg.MaxLen holds some int. Contract of whetstoneref01.Text: the decimal text of what a row of at most 1000 digits stands for. Contracts of the answers of stage 2 (whetstoneref02) over numbers of at most 1000 digits: norm, Right, Gcd, Text. No condition. -/
import Derived.Laws.IdiomStrings
import Derived.Test.YthgclmkhmcfflaaGreatDoorT1
import Derived.Test.YthgclmkhmcfflaaGreatDoorT2
import Derived.Test.YthgclmkhmcfflaaGreatDoorT3
import Derived.Test.YthgclmkhmcfflaaGreatDoorT4
namespace Go.Proofs.YthgclmkhmcfflaaGreatDoor
open Go.RowKit
theorem keep_holds {W0 w : World} {g : Nat} {cs : Array Value} (h : w.heap[g]? = W0.heap[g]?) (hh : Holds_ W0 g cs) : Holds_ w g cs := by
  obtain ⟨⟨T, e⟩, hn⟩ := hh
  exact ⟨⟨T, h.trans e⟩, hn⟩
theorem keep_atR {B : Nat} {W0 w : World} {g0 : Nat} (hC : Reg B W0 [g0] w ∧ w.heap[g0]? = W0.heap[g0]?) {o k : Nat} {z : Int} (hl : AtR W0 g0 o k z) : AtR w g0 o k z := by
  obtain ⟨A, l, c, h1, h2, h3⟩ := hl
  exact ⟨A, l, c, (World.cell?_of_block hC.2).trans h1, (World.cell?_of_block hC.2).trans h2, hC.1.zr h3⟩
theorem run_storeHi {w : World} {g : Nat} {b : Bool} {A : Option Addr} {l c : Nat} {u0 v0 : Value} (h0 : w.cell? ⟨g, 2, none⟩ = some u0) (h1 : w.cell? ⟨g, 3, none⟩ = some v0) (f0 : w.frozen? ⟨g, 2, none⟩ = false) (f1 : w.frozen? ⟨g, 3, none⟩ = false) :
    (Instr.storeAt 25 (.pointer (some ⟨g, 2, none⟩)) (.agg #[.bool b, .slice A l c])).run Tryz.prog w = .ok () ((w.setCell ⟨g, 2, none⟩ (.bool b)).setCell ⟨g, 3, none⟩ (.slice A l c)) := by go_simp
theorem run_storeLo {w : World} {g : Nat} {b : Bool} {A : Option Addr} {l c : Nat} {u0 v0 : Value} (h0 : w.cell? ⟨g, 0, none⟩ = some u0) (h1 : w.cell? ⟨g, 1, none⟩ = some v0) (f0 : w.frozen? ⟨g, 0, none⟩ = false) (f1 : w.frozen? ⟨g, 1, none⟩ = false) :
    (Instr.storeAt 25 (.pointer (some ⟨g, 0, none⟩)) (.agg #[.bool b, .slice A l c])).run Tryz.prog w = .ok () ((w.setCell ⟨g, 0, none⟩ (.bool b)).setCell ⟨g, 1, none⟩ (.slice A l c)) := by go_simp
/-- The first number of two, just stored; the second not yet. -/
def isLo (k : Nat) (x : Int) (u v : Value) (cs : Array Value) (w : World) : Prop := ∃ A l c, cs = #[.bool (decide (x < 0)), .slice A l c, u, v] ∧ Zr w (.agg #[.bool (decide (x < 0)), .slice A l c]) k x
def kLo (g k : Nat) (x : Int) (u v : Value) : PK := .cell g (isLo k x u v) (fun _ _ _ ⟨A, l, c, e, h⟩ hb => ⟨A, l, c, e, h.below hb⟩) (fun _ _ _ _ ⟨A, l, c, e, h⟩ hs => ⟨A, l, c, e, h.stored hs⟩)
section
variable {S0 B : Nat} {ks : List PK} {a0 : Act} {i : Nat} {N : Nat} {W0 : World} {T : TypeId} {pos : String} {af : Array Edge} {gu : Option (Nat × Bool)}
set_option maxRecDepth 100000 in
set_option maxHeartbeats 1000000 in
theorem st_lo {t u e j g k : Nat} {x1 : Int} {a b c d : Value} (h0 : Holds_ W0 g #[a, b, c, d]) (hN : a0.tmps.size = N) (ht : decide (t < N) = true) (hu : decide (u < N) = true) (htu : decide (t = u) = false) (he : at_ ks e = kIs (.pointer (some ⟨g, 0, none⟩))) (hj : at_ ks j = kZ k x1) (hi : at_ ks i = kLo g k x1 c d) :
    PkStep Tryz.prog (fun w => Reg B W0 [g] w ∧ w.heap[g]? = W0.heap[g]?) S0 ks a0 i { dst := none, op := .store 25 (.tmp t) (.tmp u), type := T, pos := pos, after := af, guard := gu } [(e, some t), (j, some u)] := by
  intro w x hC
  refine deps_all _ fun hdeps K hK => ?_
  have g0 := hdeps (e, some t) (by simp)
  have g1 := hdeps (j, some u) (by simp)
  rw [he] at g0
  rw [hj] at g1
  have g0' : x e = .pointer (some ⟨g, 0, none⟩) := g0
  obtain ⟨A, l, c1, hx, q1⟩ := (show Zr w (x j) k x1 from g1)
  have htu' : t ≠ u := of_decide_eq_false htu
  have e1 : (putE x a0 [(e, some t), (j, some u)]).eval (.tmp t) = .pointer (some ⟨g, 0, none⟩) := (putE_new _ _ (by rw [hN]; exact of_decide_eq_true ht) (by simp [slotAt, Ne.symm htu'])).trans g0'
  have e2 : (putE x a0 [(e, some t), (j, some u)]).eval (.tmp u) = x j := putE_new _ _ (by rw [hN]; exact of_decide_eq_true hu) (by simp [slotAt])
  have hg := keep_holds hC.2 h0
  obtain ⟨m1, m2, m3, m4, f1, f2, f3, f4⟩ := hg.four
  obtain ⟨hst, hh⟩ := stored_lo hg (noDig_bool (decide (x1 < 0))) (noDig_slice A l c1)
  refine wp_skp (w' := (w.setCell ⟨g, 0, none⟩ (.bool (decide (x1 < 0)))).setCell ⟨g, 1, none⟩ (.slice A l c1)) rfl ?_ (hK _ _ ?_ ?_)
  · exact ex_store e1 (e2.trans hx) (run_storeLo m1 m2 f1 f2)
  · rw [hi]; exact hst
  · rw [hi]; exact ⟨_, hh, A, l, c1, rfl, A, l, c1, rfl, hst.rr q1.1, q1.2⟩
set_option maxRecDepth 100000 in
set_option maxHeartbeats 1000000 in
theorem st_hi {t u e j g k : Nat} {x1 x2 : Int} {A1 : Option Addr} {l1 c1 : Nat} {c d : Value} (h0 : Holds_ W0 g #[.bool (decide (x1 < 0)), .slice A1 l1 c1, c, d]) (hz : Zr W0 (.agg #[.bool (decide (x1 < 0)), .slice A1 l1 c1]) k x1) (hN : a0.tmps.size = N) (ht : decide (t < N) = true) (hu : decide (u < N) = true) (htu : decide (t = u) = false) (he : at_ ks e = kIs (.pointer (some ⟨g, 2, none⟩))) (hj : at_ ks j = kZ k x2) (hi : at_ ks i = kRes g k x1 x2) :
    PkStep Tryz.prog (fun w => Reg B W0 [g] w ∧ w.heap[g]? = W0.heap[g]?) S0 ks a0 i { dst := none, op := .store 25 (.tmp t) (.tmp u), type := T, pos := pos, after := af, guard := gu } [(e, some t), (j, some u)] := by
  intro w x hC
  refine deps_all _ fun hdeps K hK => ?_
  have g0 := hdeps (e, some t) (by simp)
  have g1 := hdeps (j, some u) (by simp)
  rw [he] at g0
  rw [hj] at g1
  have g0' : x e = .pointer (some ⟨g, 2, none⟩) := g0
  obtain ⟨A, l, c2, hx, q1⟩ := (show Zr w (x j) k x2 from g1)
  have htu' : t ≠ u := of_decide_eq_false htu
  have e1 : (putE x a0 [(e, some t), (j, some u)]).eval (.tmp t) = .pointer (some ⟨g, 2, none⟩) := (putE_new _ _ (by rw [hN]; exact of_decide_eq_true ht) (by simp [slotAt, Ne.symm htu'])).trans g0'
  have e2 : (putE x a0 [(e, some t), (j, some u)]).eval (.tmp u) = x j := putE_new _ _ (by rw [hN]; exact of_decide_eq_true hu) (by simp [slotAt])
  have hg := keep_holds hC.2 h0
  obtain ⟨m1, m2, m3, m4, f1, f2, f3, f4⟩ := hg.four
  obtain ⟨hst, hh⟩ := stored_hi hg (noDig_bool (decide (x2 < 0))) (noDig_slice A l c2)
  obtain ⟨A1', l1', c1', ez, hz1⟩ := (hC.1.zr hz).stored hst
  injection ez with ez; injection ez with ez; injection ez with _ ez; injection ez with ez _; injection ez with qa qb qc; subst qa; subst qb; subst qc
  refine wp_skp (w' := (w.setCell ⟨g, 2, none⟩ (.bool (decide (x2 < 0)))).setCell ⟨g, 3, none⟩ (.slice A l c2)) rfl ?_ (hK _ _ ?_ ?_)
  · exact ex_store e1 (e2.trans hx) (run_storeHi m3 m4 f3 f4)
  · rw [hi]; exact hst
  · rw [hi]; exact ⟨_, hh, _, _, _, _, _, _, rfl, _, _, _, _, _, _, rfl, hz1, hst.rr q1.1, q1.2⟩
end
theorem Reg.holdsG {B : Nat} {W0 w : World} {G : List Nat} (h : Reg B W0 G w) {g : Nat} (hg : g ∉ G) {cs : Array Value} (hh : Holds_ W0 g cs) : Holds_ w g cs := by
  have hl := hh.lt
  obtain ⟨⟨T, e⟩, hn⟩ := hh
  exact ⟨⟨T, (h.old g hl hg).trans e⟩, hn⟩
theorem PRs.lt {W : World} {g : Nat} {l : List (Nat × Int × Int)} (h : PRs W g l) {j : Nat} {q : Nat × Int × Int} (hj : l[j]? = some q) : q.2.1.natAbs < 1000000000 ^ q.1 ∧ q.2.2.natAbs < 1000000000 ^ q.1 := by
  obtain ⟨_, _, _, _, _, _, _, _, _, _, _, _, _, _, _, _, _, h5, _, h7⟩ := h j q hj
  exact ⟨h5.2, h7⟩
section
variable {C : World → Prop} {S0 : Nat} {ks : List PK} {a0 : Act} {i : Nat} {N : Nat} {P : Program} {T : TypeId} {pos : String} {af : Array Edge} {gu : Option (Nat × Bool)} {ats : Array TypeId}
end
end Go.Proofs.YthgclmkhmcfflaaGreatDoor
namespace Go.Proofs.YthgclmkhmcfflaaGreatDoor
open Go.RowKit
theorem res_four {S0 : Nat} {x : Nat → Value} {v : Value} {w : World} {g k : Nat} {z1 z2 : Int} (h : (kRes g k z1 z2).sem S0 x v w) : ∃ q1 q2 q3 q4, Holds_ w g #[q1, q2, q3, q4] := by
  obtain ⟨cs, h2, A, l, c, A', l', c', rfl, _⟩ := h
  exact ⟨_, _, _, _, h2⟩
theorem in_block8 {id : Nat} {Q : Exit → Act → World → Prop} {a : Act} {w : World} (h : Q .normal a w) : Exit.inBlock id Q .normal a w := h
end Go.Proofs.YthgclmkhmcfflaaGreatDoor
namespace Go.Proofs.YthgclmkhmcfflaaGreatDoor
open Go.RowKit
theorem pe0 {S0 : Nat} {x : Nat → Value} {v : Value} {w : World} (h : (kP 9 0 1).sem S0 x v w) : Pr w v 9 (0 : Rat).num ((0 : Rat).den : Int) := h
end Go.Proofs.YthgclmkhmcfflaaGreatDoor
namespace Go.Proofs.YthgclmkhmcfflaaGreatDoor
open Go.RowKit
theorem isNone_zero {w : World} {v : Value} {k : Nat} {z : Int} (h : Zr w v k z) (hz : z = 0) : Calls Tryz.prog 34 #[v] w fun e w' => e = .returned (.bool true) ∧ Below w.heap.size w w' := by
  obtain ⟨A, l, c, rfl, h1, _⟩ := h
  have hk := (rr_len h1).1
  have hl : l = 0 := hk.2 (by omega)
  subst hl
  obtain ⟨s, hs⟩ : ∃ s, s = decide (z < 0) := ⟨_, rfl⟩
  rw [← hs]
  clear hs hk h1 hz
  go_enter Tryz.func34, Tryz.ntmps34
  go_wp2
  go_ret
  exact ⟨rfl, bal (Below.refl _ _) _⟩
theorem gcd_pos_of {x y : Int} (h : 0 < y) : 0 < ((zgcd [(x), (y)] : Nat) : Int) := by
  rw [zgcd_eq]
  have : 0 < Int.gcd y x := Nat.gcd_pos_of_pos_left _ (by omega)
  omega
set_option maxRecDepth 100000 in
set_option maxHeartbeats 4000000 in
theorem right_none_19 {w : World} {v1 : Value} {zx zy : Int} (hz : zy = 0) (h1 : Pr w v1 19 (zx) (zy)) :
    Calls Tryz.prog 11 #[v1] w (fun e w' => e = .returned (.bool false) ∧ Below w.heap.size w w') := by
  obtain ⟨A1, l1, c1, A1', l1', c1', rfl, ⟨r1, u1⟩, r1', u1'⟩ := h1
  obtain ⟨b1, hb1⟩ : ∃ s, s = decide (zx < 0) := ⟨_, rfl⟩
  obtain ⟨b1', hb1'⟩ : ∃ s, s = decide (zy < 0) := ⟨_, rfl⟩
  rw [← hb1, ← hb1']
  have H1 := Lib.hid (show _ ∧ _ ∧ _ ∧ _ ∧ _ ∧ _ from ⟨hb1, hb1', r1, u1, r1', u1'⟩)
  clear hb1 hb1' r1 u1 r1' u1'
  go_enter Tryz.func11, Tryz.ntmps11
  repeat (refine wp_seq ?_)
  refine region_k ?_
  intro K hK
  have HK := Lib.hid hK
  clear hK
  go_wp2
  refine HK.out _ _ ?_
  clear HK
  refine then_n ?_
  obtain ⟨W_0, hW⟩ : ∃ W, W = w.alloc (Obj.cells #[Value.bool b1, Value.slice A1 l1 c1, Value.bool b1', Value.slice A1' l1' c1'] 27) := ⟨_, rfl⟩
  have bb_0 : Below w.heap.size w W_0 := by rw [hW]; exact bal (Below.refl _ _) _
  have K0 : W_0.heap[w.heap.size]? = some (Obj.cells #[Value.bool b1, Value.slice A1 l1 c1, Value.bool b1', Value.slice A1' l1' c1'] 27) := by rw [hW]; exact new_at (by simp)
  rw [← hW]
  obtain ⟨m1, n1, m1', n1', _, _, _, _⟩ := four_cells K0
  have f1_0 : AtR W_0 (w.heap.size) 0 19 (zx) := ⟨A1, l1, c1, by rw [← H1.out.1]; exact m1, n1, A1, l1, c1, rfl, H1.out.2.2.1.below bb_0, H1.out.2.2.2.1⟩
  have f1'_0 : AtR W_0 (w.heap.size) 2 19 (zy) := ⟨A1', l1', c1', by rw [← H1.out.2.1]; exact m1', n1', A1', l1', c1', rfl, H1.out.2.2.2.2.1.below bb_0, H1.out.2.2.2.2.2⟩
  clear m1 n1 m1' n1'
  clear hW K0
  refine name_frame (G := fun a => Code.wp _ _ _ a _) ?_
  intro a_0 ha
  have hN_0 : a_0.tmps.size = 32 := by subst ha; kernel_rfl
  have hD_0 : a_0.defers = [] := by subst ha; rfl
  have e1_0 : a_0.eval (.tmp 1) = .pointer (some ⟨w.heap.size, 0, none⟩) := by subst ha; kernel_rfl
  clear ha
  repeat (first | refine wp_seq ?_ | (refine wp_skip ?_; refine then_n ?_))
  refine wp_region_law hN_0 w.heap.size
    [kIs (.pointer (some ⟨w.heap.size, 0, none⟩)), kZ 19 (zx), kIs (.bool true), kIs (.bool false), kIs (.bool false), kIs (.pointer (some ⟨w.heap.size, 2, none⟩)), kZ 19 (zy), kIs (.bool true), kIs (.bool false), kIs (.bool false)]
    [ [], [(0, some 3)], [(1, some 4)], [(2, some 5)], [(3, some 6)], [], [(5, some 8)], [(6, some 9)], [(7, some 10)], [(4, some 7), (8, some 11)] ]
    [(0, some 3), (1, some 4), (2, some 5), (3, some 6), (4, some 7), (5, some 8), (6, some 9), (7, some 10), (8, some 11), (9, some 12)] [(4, false)] [] (by kernel_rfl) (by kernel_rfl) (by kernel_rfl) (by kernel_rfl) (by kernel_rfl) (by kernel_rfl) (by kernel_rfl) bb_0.size ?_ ?_
  ·
    refine pk_cons rfl rfl (st_pure [] [(1, .pointer (some ⟨w.heap.size, 0, none⟩))] (.pointer (some ⟨w.heap.size, 0, none⟩)) rfl hN_0 (by kernel_rfl) (by kernel_rfl) (by kernel_rfl) (old1 e1_0) (by kernel_rfl) (by kernel_rfl) (by kernel_rfl) (fun _ => by kernel_rfl)) ?_
    refine pk_cons rfl rfl (st_loadA f1_0 (by simp) hN_0 (by kernel_rfl) (by kernel_rfl) rfl rfl) ?_
    refine pk_cons rfl rfl (st_call1 hN_0 (by kernel_rfl) (by kernel_rfl) (by kernel_rfl) rfl rfl fun w x v1 hC h1 => ti (z_right (rr h1))) ?_
    refine pk_cons rfl rfl (st_pure [.bool true] [] (.bool false) rfl hN_0 (by kernel_rfl) (by kernel_rfl) (by kernel_rfl) old0 (by kernel_rfl) (by kernel_rfl) (by kernel_rfl) (fun _ => by kernel_rfl)) ?_
    refine pk_cons rfl rfl (st_pure [.bool false] [] (.bool false) rfl hN_0 (by kernel_rfl) (by kernel_rfl) (by kernel_rfl) old0 (by kernel_rfl) (by kernel_rfl) (by kernel_rfl) (fun _ => by kernel_rfl)) ?_
    refine pk_cons rfl rfl (st_pure [] [(1, .pointer (some ⟨w.heap.size, 0, none⟩))] (.pointer (some ⟨w.heap.size, 2, none⟩)) rfl hN_0 (by kernel_rfl) (by kernel_rfl) (by kernel_rfl) (old1 e1_0) (by kernel_rfl) (by kernel_rfl) (by kernel_rfl) (fun _ => by kernel_rfl)) ?_
    refine pk_cons rfl rfl (st_loadA f1'_0 (by simp) hN_0 (by kernel_rfl) (by kernel_rfl) rfl rfl) ?_
    refine pk_cons rfl rfl (st_call1 hN_0 (by kernel_rfl) (by kernel_rfl) (by kernel_rfl) rfl rfl fun w x v1 hC h1 => ti (z_right (rr h1))) ?_
    refine pk_cons rfl rfl (st_pure [.bool true] [] (.bool false) rfl hN_0 (by kernel_rfl) (by kernel_rfl) (by kernel_rfl) old0 (by kernel_rfl) (by kernel_rfl) (by kernel_rfl) (fun _ => by kernel_rfl)) ?_
    refine pk_cons rfl rfl (st_pure [.bool false, .bool false] [] (.bool false) rfl hN_0 (by kernel_rfl) (by kernel_rfl) (by kernel_rfl) old0 (by kernel_rfl) (by kernel_rfl) (by kernel_rfl) (fun _ => by kernel_rfl)) ?_
    exact pk_nil rfl
  intro W_1 x hC hall
  refine then_n ?_
  obtain ⟨a_1, ha⟩ : ∃ a, a = putE x a_0 [(0, some 3), (1, some 4), (2, some 5), (3, some 6), (4, some 7), (5, some 8), (6, some 9), (7, some 10), (8, some 11), (9, some 12)] := ⟨_, rfl⟩
  rw [← ha]
  have hN_1 := size_behind ha hN_0
  have hD_1 := defers_behind ha hD_0
  have bb_1 := bb_0.trans hC.below
  have e1_1 := slot_old ha (by kernel_rfl) e1_0
  have f1_1 := hC.at0 f1_0
  have f1'_1 := hC.at0 f1'_0
  have e12_1 := (slot_new (t := 12) (i := 9) ha hN_0 (by kernel_rfl) (by kernel_rfl)).trans (show x 9 = .bool false from hall 9 (of_decide_eq_true (by kernel_rfl)))
  clear hall hC ha bb_0 hD_0 e1_0 f1_0 f1'_0
  repeat (first | refine wp_seq ?_ | (refine wp_skip ?_; refine then_n ?_))
  refine wp_cond_false e12_1 ?_
  repeat (first | refine wp_seq ?_ | (refine wp_skip ?_; refine then_n ?_))
  refine wp_region_law hN_1 w.heap.size
    [kIs (.pointer (some ⟨w.heap.size, 2, none⟩)), kZ 19 (zy), kIs (.bool true), kIs (.bool false), kIs (.bool false), kIs undef, kIs undef, kIs undef, kIs undef, kIs (.bool false), kIs (.bool false), kIs undef, kIs undef, kIs undef, kIs undef, kIs undef, kIs undef, kIs undef, kIs (.bool false), kIs (.bool false)]
    [ [], [(0, some 13)], [(1, some 14)], [(2, some 15)], [(3, some 16)], [], [(5, some 18)], [(6, some 19)], [(7, some 20)], [(4, some 17), (8, some 21)], [(9, some 22)], [], [(11, some 24)], [], [(13, some 26)], [(12, some 25), (14, some 27)], [(15, some 28)], [(16, some 29)], [(10, some 23), (17, some 30)], [(18, some 31)] ]
    [(0, some 13), (1, some 14), (2, some 15), (3, some 16), (4, some 17), (5, some 18), (6, some 19), (7, some 20), (8, some 21), (9, some 22), (10, some 23), (11, some 24), (12, some 25), (13, some 26), (14, some 27), (15, some 28), (16, some 29), (17, some 30), (18, some 31), (19, some 2)] [(4, false), (10, false)] [5, 6, 7, 8, 11, 12, 13, 14, 15, 16, 17] (by kernel_rfl) (by kernel_rfl) (by kernel_rfl) (by kernel_rfl) (by kernel_rfl) (by kernel_rfl) (by kernel_rfl) bb_1.size ?_ ?_
  ·
    refine pk_cons rfl rfl (st_pure [] [(1, .pointer (some ⟨w.heap.size, 0, none⟩))] (.pointer (some ⟨w.heap.size, 2, none⟩)) rfl hN_1 (by kernel_rfl) (by kernel_rfl) (by kernel_rfl) (old1 e1_1) (by kernel_rfl) (by kernel_rfl) (by kernel_rfl) (fun _ => by kernel_rfl)) ?_
    refine pk_cons rfl rfl (st_loadA f1'_1 (by simp) hN_1 (by kernel_rfl) (by kernel_rfl) rfl rfl) ?_
    refine pk_cons rfl rfl (st_call1 hN_1 (by kernel_rfl) (by kernel_rfl) (by kernel_rfl) rfl rfl fun w x v1 hC h1 => ti (isNone_zero (rr h1) hz)) ?_
    refine pk_cons rfl rfl (st_pure [.bool true] [] (.bool false) rfl hN_1 (by kernel_rfl) (by kernel_rfl) (by kernel_rfl) old0 (by kernel_rfl) (by kernel_rfl) (by kernel_rfl) (fun _ => by kernel_rfl)) ?_
    refine pk_cons rfl rfl (st_pure [.bool false] [] (.bool false) rfl hN_1 (by kernel_rfl) (by kernel_rfl) (by kernel_rfl) old0 (by kernel_rfl) (by kernel_rfl) (by kernel_rfl) (fun _ => by kernel_rfl)) ?_
    refine pk_skip rfl ?_
    refine pk_skip rfl ?_
    refine pk_skip rfl ?_
    refine pk_skip rfl ?_
    refine pk_cons rfl rfl (st_pure [.bool false, undef] [] (.bool false) rfl hN_1 (by kernel_rfl) (by kernel_rfl) (by kernel_rfl) old0 (by kernel_rfl) (by kernel_rfl) (by kernel_rfl) (fun _ => by kernel_rfl)) ?_
    refine pk_cons rfl rfl (st_pure [.bool false] [] (.bool false) rfl hN_1 (by kernel_rfl) (by kernel_rfl) (by kernel_rfl) old0 (by kernel_rfl) (by kernel_rfl) (by kernel_rfl) (fun _ => by kernel_rfl)) ?_
    refine pk_skip rfl ?_
    refine pk_skip rfl ?_
    refine pk_skip rfl ?_
    refine pk_skip rfl ?_
    refine pk_skip rfl ?_
    refine pk_skip rfl ?_
    refine pk_skip rfl ?_
    refine pk_cons rfl rfl (st_pure [.bool false, undef] [] (.bool false) rfl hN_1 (by kernel_rfl) (by kernel_rfl) (by kernel_rfl) old0 (by kernel_rfl) (by kernel_rfl) (by kernel_rfl) (fun _ => by kernel_rfl)) ?_
    refine pk_cons rfl rfl (st_pure [.bool false] [] (.bool false) rfl hN_1 (by kernel_rfl) (by kernel_rfl) (by kernel_rfl) old0 (by kernel_rfl) (by kernel_rfl) (by kernel_rfl) (fun _ => by kernel_rfl)) ?_
    exact pk_nil rfl
  intro W x hC hall
  refine then_n ?_
  obtain ⟨a1, ha⟩ : ∃ a, a = putE x a_1 [(0, some 13), (1, some 14), (2, some 15), (3, some 16), (4, some 17), (5, some 18), (6, some 19), (7, some 20), (8, some 21), (9, some 22), (10, some 23), (11, some 24), (12, some 25), (13, some 26), (14, some 27), (15, some 28), (16, some 29), (17, some 30), (18, some 31), (19, some 2)] := ⟨_, rfl⟩
  rw [← ha]
  have hD1 := defers_behind ha hD_1
  have bb1 := bb_1.trans hC.below
  have e1 := (slot_new (t := 2) (i := 19) ha hN_1 (by kernel_rfl) (by kernel_rfl)).trans (show x 19 = .bool false from hall 19 (of_decide_eq_true (by kernel_rfl)))
  repeat (first | refine wp_seq ?_ | (refine wp_skip ?_; refine then_n ?_))
  refine wp_ret ?_
  repeat (refine then_r ?_)
  exact ret_one (t := 2) rfl hD1 e1 ⟨rfl, bb1⟩
set_option maxRecDepth 100000 in
set_option maxHeartbeats 4000000 in
theorem right_neg_19 {w : World} {v1 : Value} {zx zy : Int} (hz : zy ≠ 0) (hs : decide (zy < 0) = true) (h1 : Pr w v1 19 (zx) (zy)) :
    Calls Tryz.prog 11 #[v1] w (fun e w' => e = .returned (.bool false) ∧ Below w.heap.size w w') := by
  obtain ⟨A1, l1, c1, A1', l1', c1', rfl, ⟨r1, u1⟩, r1', u1'⟩ := h1
  obtain ⟨b1, hb1⟩ : ∃ s, s = decide (zx < 0) := ⟨_, rfl⟩
  obtain ⟨b1', hb1'⟩ : ∃ s, s = decide (zy < 0) := ⟨_, rfl⟩
  rw [← hb1, ← hb1']
  have H1 := Lib.hid (show _ ∧ _ ∧ _ ∧ _ ∧ _ ∧ _ from ⟨hb1, hb1', r1, u1, r1', u1'⟩)
  clear hb1 hb1' r1 u1 r1' u1'
  go_enter Tryz.func11, Tryz.ntmps11
  repeat (refine wp_seq ?_)
  refine region_k ?_
  intro K hK
  have HK := Lib.hid hK
  clear hK
  go_wp2
  refine HK.out _ _ ?_
  clear HK
  refine then_n ?_
  obtain ⟨W_0, hW⟩ : ∃ W, W = w.alloc (Obj.cells #[Value.bool b1, Value.slice A1 l1 c1, Value.bool b1', Value.slice A1' l1' c1'] 27) := ⟨_, rfl⟩
  have bb_0 : Below w.heap.size w W_0 := by rw [hW]; exact bal (Below.refl _ _) _
  have K0 : W_0.heap[w.heap.size]? = some (Obj.cells #[Value.bool b1, Value.slice A1 l1 c1, Value.bool b1', Value.slice A1' l1' c1'] 27) := by rw [hW]; exact new_at (by simp)
  rw [← hW]
  obtain ⟨m1, n1, m1', n1', _, _, _, _⟩ := four_cells K0
  have f1_0 : AtR W_0 (w.heap.size) 0 19 (zx) := ⟨A1, l1, c1, by rw [← H1.out.1]; exact m1, n1, A1, l1, c1, rfl, H1.out.2.2.1.below bb_0, H1.out.2.2.2.1⟩
  have f1'_0 : AtR W_0 (w.heap.size) 2 19 (zy) := ⟨A1', l1', c1', by rw [← H1.out.2.1]; exact m1', n1', A1', l1', c1', rfl, H1.out.2.2.2.2.1.below bb_0, H1.out.2.2.2.2.2⟩
  clear m1 n1 m1' n1'
  clear hW K0
  refine name_frame (G := fun a => Code.wp _ _ _ a _) ?_
  intro a_0 ha
  have hN_0 : a_0.tmps.size = 32 := by subst ha; kernel_rfl
  have hD_0 : a_0.defers = [] := by subst ha; rfl
  have e1_0 : a_0.eval (.tmp 1) = .pointer (some ⟨w.heap.size, 0, none⟩) := by subst ha; kernel_rfl
  clear ha
  repeat (first | refine wp_seq ?_ | (refine wp_skip ?_; refine then_n ?_))
  refine wp_region_law hN_0 w.heap.size
    [kIs (.pointer (some ⟨w.heap.size, 0, none⟩)), kZ 19 (zx), kIs (.bool true), kIs (.bool false), kIs (.bool false), kIs (.pointer (some ⟨w.heap.size, 2, none⟩)), kZ 19 (zy), kIs (.bool true), kIs (.bool false), kIs (.bool false)]
    [ [], [(0, some 3)], [(1, some 4)], [(2, some 5)], [(3, some 6)], [], [(5, some 8)], [(6, some 9)], [(7, some 10)], [(4, some 7), (8, some 11)] ]
    [(0, some 3), (1, some 4), (2, some 5), (3, some 6), (4, some 7), (5, some 8), (6, some 9), (7, some 10), (8, some 11), (9, some 12)] [(4, false)] [] (by kernel_rfl) (by kernel_rfl) (by kernel_rfl) (by kernel_rfl) (by kernel_rfl) (by kernel_rfl) (by kernel_rfl) bb_0.size ?_ ?_
  ·
    refine pk_cons rfl rfl (st_pure [] [(1, .pointer (some ⟨w.heap.size, 0, none⟩))] (.pointer (some ⟨w.heap.size, 0, none⟩)) rfl hN_0 (by kernel_rfl) (by kernel_rfl) (by kernel_rfl) (old1 e1_0) (by kernel_rfl) (by kernel_rfl) (by kernel_rfl) (fun _ => by kernel_rfl)) ?_
    refine pk_cons rfl rfl (st_loadA f1_0 (by simp) hN_0 (by kernel_rfl) (by kernel_rfl) rfl rfl) ?_
    refine pk_cons rfl rfl (st_call1 hN_0 (by kernel_rfl) (by kernel_rfl) (by kernel_rfl) rfl rfl fun w x v1 hC h1 => ti (z_right (rr h1))) ?_
    refine pk_cons rfl rfl (st_pure [.bool true] [] (.bool false) rfl hN_0 (by kernel_rfl) (by kernel_rfl) (by kernel_rfl) old0 (by kernel_rfl) (by kernel_rfl) (by kernel_rfl) (fun _ => by kernel_rfl)) ?_
    refine pk_cons rfl rfl (st_pure [.bool false] [] (.bool false) rfl hN_0 (by kernel_rfl) (by kernel_rfl) (by kernel_rfl) old0 (by kernel_rfl) (by kernel_rfl) (by kernel_rfl) (fun _ => by kernel_rfl)) ?_
    refine pk_cons rfl rfl (st_pure [] [(1, .pointer (some ⟨w.heap.size, 0, none⟩))] (.pointer (some ⟨w.heap.size, 2, none⟩)) rfl hN_0 (by kernel_rfl) (by kernel_rfl) (by kernel_rfl) (old1 e1_0) (by kernel_rfl) (by kernel_rfl) (by kernel_rfl) (fun _ => by kernel_rfl)) ?_
    refine pk_cons rfl rfl (st_loadA f1'_0 (by simp) hN_0 (by kernel_rfl) (by kernel_rfl) rfl rfl) ?_
    refine pk_cons rfl rfl (st_call1 hN_0 (by kernel_rfl) (by kernel_rfl) (by kernel_rfl) rfl rfl fun w x v1 hC h1 => ti (z_right (rr h1))) ?_
    refine pk_cons rfl rfl (st_pure [.bool true] [] (.bool false) rfl hN_0 (by kernel_rfl) (by kernel_rfl) (by kernel_rfl) old0 (by kernel_rfl) (by kernel_rfl) (by kernel_rfl) (fun _ => by kernel_rfl)) ?_
    refine pk_cons rfl rfl (st_pure [.bool false, .bool false] [] (.bool false) rfl hN_0 (by kernel_rfl) (by kernel_rfl) (by kernel_rfl) old0 (by kernel_rfl) (by kernel_rfl) (by kernel_rfl) (fun _ => by kernel_rfl)) ?_
    exact pk_nil rfl
  intro W_1 x hC hall
  refine then_n ?_
  obtain ⟨a_1, ha⟩ : ∃ a, a = putE x a_0 [(0, some 3), (1, some 4), (2, some 5), (3, some 6), (4, some 7), (5, some 8), (6, some 9), (7, some 10), (8, some 11), (9, some 12)] := ⟨_, rfl⟩
  rw [← ha]
  have hN_1 := size_behind ha hN_0
  have hD_1 := defers_behind ha hD_0
  have bb_1 := bb_0.trans hC.below
  have e1_1 := slot_old ha (by kernel_rfl) e1_0
  have f1_1 := hC.at0 f1_0
  have f1'_1 := hC.at0 f1'_0
  have e12_1 := (slot_new (t := 12) (i := 9) ha hN_0 (by kernel_rfl) (by kernel_rfl)).trans (show x 9 = .bool false from hall 9 (of_decide_eq_true (by kernel_rfl)))
  clear hall hC ha bb_0 hD_0 e1_0 f1_0 f1'_0
  repeat (first | refine wp_seq ?_ | (refine wp_skip ?_; refine then_n ?_))
  refine wp_cond_false e12_1 ?_
  repeat (first | refine wp_seq ?_ | (refine wp_skip ?_; refine then_n ?_))
  refine wp_region_law hN_1 w.heap.size
    [kIs (.pointer (some ⟨w.heap.size, 2, none⟩)), kZ 19 (zy), kIs (.bool false), kIs (.bool true), kIs (.bool true), kIs (.pointer (some ⟨w.heap.size, 2, none⟩)), kIs (.pointer (some ⟨w.heap.size, 2, none⟩)), kIs (.bool true), kIs (.bool false), kIs (.bool false), kIs (.bool false), kIs undef, kIs undef, kIs undef, kIs undef, kIs undef, kIs undef, kIs undef, kIs (.bool false), kIs (.bool false)]
    [ [], [(0, some 13)], [(1, some 14)], [(2, some 15)], [(3, some 16)], [], [(5, some 18)], [(6, some 19)], [(7, some 20)], [(4, some 17), (8, some 21)], [(9, some 22)], [], [(11, some 24)], [], [(13, some 26)], [(12, some 25), (14, some 27)], [(15, some 28)], [(16, some 29)], [(10, some 23), (17, some 30)], [(18, some 31)] ]
    [(0, some 13), (1, some 14), (2, some 15), (3, some 16), (4, some 17), (5, some 18), (6, some 19), (7, some 20), (8, some 21), (9, some 22), (10, some 23), (11, some 24), (12, some 25), (13, some 26), (14, some 27), (15, some 28), (16, some 29), (17, some 30), (18, some 31), (19, some 2)] [(4, true), (10, false)] [11, 12, 13, 14, 15, 16, 17] (by kernel_rfl) (by kernel_rfl) (by kernel_rfl) (by kernel_rfl) (by kernel_rfl) (by kernel_rfl) (by kernel_rfl) bb_1.size ?_ ?_
  ·
    refine pk_cons rfl rfl (st_pure [] [(1, .pointer (some ⟨w.heap.size, 0, none⟩))] (.pointer (some ⟨w.heap.size, 2, none⟩)) rfl hN_1 (by kernel_rfl) (by kernel_rfl) (by kernel_rfl) (old1 e1_1) (by kernel_rfl) (by kernel_rfl) (by kernel_rfl) (fun _ => by kernel_rfl)) ?_
    refine pk_cons rfl rfl (st_loadA f1'_1 (by simp) hN_1 (by kernel_rfl) (by kernel_rfl) rfl rfl) ?_
    refine pk_cons rfl rfl (st_call1 hN_1 (by kernel_rfl) (by kernel_rfl) (by kernel_rfl) rfl rfl fun w x v1 hC h1 => ti (isNone_z (rr h1) hz)) ?_
    refine pk_cons rfl rfl (st_pure [.bool false] [] (.bool true) rfl hN_1 (by kernel_rfl) (by kernel_rfl) (by kernel_rfl) old0 (by kernel_rfl) (by kernel_rfl) (by kernel_rfl) (fun _ => by kernel_rfl)) ?_
    refine pk_cons rfl rfl (st_pure [.bool true] [] (.bool true) rfl hN_1 (by kernel_rfl) (by kernel_rfl) (by kernel_rfl) old0 (by kernel_rfl) (by kernel_rfl) (by kernel_rfl) (fun _ => by kernel_rfl)) ?_
    refine pk_cons rfl rfl (st_pure [] [(1, .pointer (some ⟨w.heap.size, 0, none⟩))] (.pointer (some ⟨w.heap.size, 2, none⟩)) rfl hN_1 (by kernel_rfl) (by kernel_rfl) (by kernel_rfl) (old1 e1_1) (by kernel_rfl) (by kernel_rfl) (by kernel_rfl) (fun _ => by kernel_rfl)) ?_
    refine pk_cons rfl rfl (st_pure [.pointer (some ⟨w.heap.size, 2, none⟩)] [] (.pointer (some ⟨w.heap.size, 2, none⟩)) rfl hN_1 (by kernel_rfl) (by kernel_rfl) (by kernel_rfl) old0 (by kernel_rfl) (by kernel_rfl) (by kernel_rfl) (fun _ => by kernel_rfl)) ?_
    refine pk_cons rfl rfl (st_loadS (s := true) f1'_1 hs (by simp) hN_1 (by kernel_rfl) (by kernel_rfl) rfl rfl) ?_
    refine pk_cons rfl rfl (st_pure [.bool true] [] (.bool false) rfl hN_1 (by kernel_rfl) (by kernel_rfl) (by kernel_rfl) old0 (by kernel_rfl) (by kernel_rfl) (by kernel_rfl) (fun _ => by kernel_rfl)) ?_
    refine pk_cons rfl rfl (st_pure [.bool true, .bool false] [] (.bool false) rfl hN_1 (by kernel_rfl) (by kernel_rfl) (by kernel_rfl) old0 (by kernel_rfl) (by kernel_rfl) (by kernel_rfl) (fun _ => by kernel_rfl)) ?_
    refine pk_cons rfl rfl (st_pure [.bool false] [] (.bool false) rfl hN_1 (by kernel_rfl) (by kernel_rfl) (by kernel_rfl) old0 (by kernel_rfl) (by kernel_rfl) (by kernel_rfl) (fun _ => by kernel_rfl)) ?_
    refine pk_skip rfl ?_
    refine pk_skip rfl ?_
    refine pk_skip rfl ?_
    refine pk_skip rfl ?_
    refine pk_skip rfl ?_
    refine pk_skip rfl ?_
    refine pk_skip rfl ?_
    refine pk_cons rfl rfl (st_pure [.bool false, undef] [] (.bool false) rfl hN_1 (by kernel_rfl) (by kernel_rfl) (by kernel_rfl) old0 (by kernel_rfl) (by kernel_rfl) (by kernel_rfl) (fun _ => by kernel_rfl)) ?_
    refine pk_cons rfl rfl (st_pure [.bool false] [] (.bool false) rfl hN_1 (by kernel_rfl) (by kernel_rfl) (by kernel_rfl) old0 (by kernel_rfl) (by kernel_rfl) (by kernel_rfl) (fun _ => by kernel_rfl)) ?_
    exact pk_nil rfl
  intro W x hC hall
  refine then_n ?_
  obtain ⟨a1, ha⟩ : ∃ a, a = putE x a_1 [(0, some 13), (1, some 14), (2, some 15), (3, some 16), (4, some 17), (5, some 18), (6, some 19), (7, some 20), (8, some 21), (9, some 22), (10, some 23), (11, some 24), (12, some 25), (13, some 26), (14, some 27), (15, some 28), (16, some 29), (17, some 30), (18, some 31), (19, some 2)] := ⟨_, rfl⟩
  rw [← ha]
  have hD1 := defers_behind ha hD_1
  have bb1 := bb_1.trans hC.below
  have e1 := (slot_new (t := 2) (i := 19) ha hN_1 (by kernel_rfl) (by kernel_rfl)).trans (show x 19 = .bool false from hall 19 (of_decide_eq_true (by kernel_rfl)))
  repeat (first | refine wp_seq ?_ | (refine wp_skip ?_; refine then_n ?_))
  refine wp_ret ?_
  repeat (refine then_r ?_)
  exact ret_one (t := 2) rfl hD1 e1 ⟨rfl, bb1⟩
set_option maxRecDepth 100000 in
set_option maxHeartbeats 4000000 in
theorem right_gcd_19 {w : World} {v1 : Value} {zx zy : Int} (hz : zy ≠ 0) (hs : decide (zy < 0) = false) (hg : 1 < ((zgcd [(zx), (zy)] : Nat) : Int)) (h1 : Pr w v1 19 (zx) (zy)) :
    Calls Tryz.prog 11 #[v1] w (fun e w' => e = .returned (.bool false) ∧ Below w.heap.size w w') := by
  obtain ⟨A1, l1, c1, A1', l1', c1', rfl, ⟨r1, u1⟩, r1', u1'⟩ := h1
  obtain ⟨b1, hb1⟩ : ∃ s, s = decide (zx < 0) := ⟨_, rfl⟩
  obtain ⟨b1', hb1'⟩ : ∃ s, s = decide (zy < 0) := ⟨_, rfl⟩
  rw [← hb1, ← hb1']
  have H1 := Lib.hid (show _ ∧ _ ∧ _ ∧ _ ∧ _ ∧ _ from ⟨hb1, hb1', r1, u1, r1', u1'⟩)
  clear hb1 hb1' r1 u1 r1' u1'
  go_enter Tryz.func11, Tryz.ntmps11
  repeat (refine wp_seq ?_)
  refine region_k ?_
  intro K hK
  have HK := Lib.hid hK
  clear hK
  go_wp2
  refine HK.out _ _ ?_
  clear HK
  refine then_n ?_
  obtain ⟨W_0, hW⟩ : ∃ W, W = w.alloc (Obj.cells #[Value.bool b1, Value.slice A1 l1 c1, Value.bool b1', Value.slice A1' l1' c1'] 27) := ⟨_, rfl⟩
  have bb_0 : Below w.heap.size w W_0 := by rw [hW]; exact bal (Below.refl _ _) _
  have K0 : W_0.heap[w.heap.size]? = some (Obj.cells #[Value.bool b1, Value.slice A1 l1 c1, Value.bool b1', Value.slice A1' l1' c1'] 27) := by rw [hW]; exact new_at (by simp)
  rw [← hW]
  obtain ⟨m1, n1, m1', n1', _, _, _, _⟩ := four_cells K0
  have f1_0 : AtR W_0 (w.heap.size) 0 19 (zx) := ⟨A1, l1, c1, by rw [← H1.out.1]; exact m1, n1, A1, l1, c1, rfl, H1.out.2.2.1.below bb_0, H1.out.2.2.2.1⟩
  have f1'_0 : AtR W_0 (w.heap.size) 2 19 (zy) := ⟨A1', l1', c1', by rw [← H1.out.2.1]; exact m1', n1', A1', l1', c1', rfl, H1.out.2.2.2.2.1.below bb_0, H1.out.2.2.2.2.2⟩
  clear m1 n1 m1' n1'
  clear hW K0
  refine name_frame (G := fun a => Code.wp _ _ _ a _) ?_
  intro a_0 ha
  have hN_0 : a_0.tmps.size = 32 := by subst ha; kernel_rfl
  have hD_0 : a_0.defers = [] := by subst ha; rfl
  have e1_0 : a_0.eval (.tmp 1) = .pointer (some ⟨w.heap.size, 0, none⟩) := by subst ha; kernel_rfl
  clear ha
  repeat (first | refine wp_seq ?_ | (refine wp_skip ?_; refine then_n ?_))
  refine wp_region_law hN_0 w.heap.size
    [kIs (.pointer (some ⟨w.heap.size, 0, none⟩)), kZ 19 (zx), kIs (.bool true), kIs (.bool false), kIs (.bool false), kIs (.pointer (some ⟨w.heap.size, 2, none⟩)), kZ 19 (zy), kIs (.bool true), kIs (.bool false), kIs (.bool false)]
    [ [], [(0, some 3)], [(1, some 4)], [(2, some 5)], [(3, some 6)], [], [(5, some 8)], [(6, some 9)], [(7, some 10)], [(4, some 7), (8, some 11)] ]
    [(0, some 3), (1, some 4), (2, some 5), (3, some 6), (4, some 7), (5, some 8), (6, some 9), (7, some 10), (8, some 11), (9, some 12)] [(4, false)] [] (by kernel_rfl) (by kernel_rfl) (by kernel_rfl) (by kernel_rfl) (by kernel_rfl) (by kernel_rfl) (by kernel_rfl) bb_0.size ?_ ?_
  ·
    refine pk_cons rfl rfl (st_pure [] [(1, .pointer (some ⟨w.heap.size, 0, none⟩))] (.pointer (some ⟨w.heap.size, 0, none⟩)) rfl hN_0 (by kernel_rfl) (by kernel_rfl) (by kernel_rfl) (old1 e1_0) (by kernel_rfl) (by kernel_rfl) (by kernel_rfl) (fun _ => by kernel_rfl)) ?_
    refine pk_cons rfl rfl (st_loadA f1_0 (by simp) hN_0 (by kernel_rfl) (by kernel_rfl) rfl rfl) ?_
    refine pk_cons rfl rfl (st_call1 hN_0 (by kernel_rfl) (by kernel_rfl) (by kernel_rfl) rfl rfl fun w x v1 hC h1 => ti (z_right (rr h1))) ?_
    refine pk_cons rfl rfl (st_pure [.bool true] [] (.bool false) rfl hN_0 (by kernel_rfl) (by kernel_rfl) (by kernel_rfl) old0 (by kernel_rfl) (by kernel_rfl) (by kernel_rfl) (fun _ => by kernel_rfl)) ?_
    refine pk_cons rfl rfl (st_pure [.bool false] [] (.bool false) rfl hN_0 (by kernel_rfl) (by kernel_rfl) (by kernel_rfl) old0 (by kernel_rfl) (by kernel_rfl) (by kernel_rfl) (fun _ => by kernel_rfl)) ?_
    refine pk_cons rfl rfl (st_pure [] [(1, .pointer (some ⟨w.heap.size, 0, none⟩))] (.pointer (some ⟨w.heap.size, 2, none⟩)) rfl hN_0 (by kernel_rfl) (by kernel_rfl) (by kernel_rfl) (old1 e1_0) (by kernel_rfl) (by kernel_rfl) (by kernel_rfl) (fun _ => by kernel_rfl)) ?_
    refine pk_cons rfl rfl (st_loadA f1'_0 (by simp) hN_0 (by kernel_rfl) (by kernel_rfl) rfl rfl) ?_
    refine pk_cons rfl rfl (st_call1 hN_0 (by kernel_rfl) (by kernel_rfl) (by kernel_rfl) rfl rfl fun w x v1 hC h1 => ti (z_right (rr h1))) ?_
    refine pk_cons rfl rfl (st_pure [.bool true] [] (.bool false) rfl hN_0 (by kernel_rfl) (by kernel_rfl) (by kernel_rfl) old0 (by kernel_rfl) (by kernel_rfl) (by kernel_rfl) (fun _ => by kernel_rfl)) ?_
    refine pk_cons rfl rfl (st_pure [.bool false, .bool false] [] (.bool false) rfl hN_0 (by kernel_rfl) (by kernel_rfl) (by kernel_rfl) old0 (by kernel_rfl) (by kernel_rfl) (by kernel_rfl) (fun _ => by kernel_rfl)) ?_
    exact pk_nil rfl
  intro W_1 x hC hall
  refine then_n ?_
  obtain ⟨a_1, ha⟩ : ∃ a, a = putE x a_0 [(0, some 3), (1, some 4), (2, some 5), (3, some 6), (4, some 7), (5, some 8), (6, some 9), (7, some 10), (8, some 11), (9, some 12)] := ⟨_, rfl⟩
  rw [← ha]
  have hN_1 := size_behind ha hN_0
  have hD_1 := defers_behind ha hD_0
  have bb_1 := bb_0.trans hC.below
  have e1_1 := slot_old ha (by kernel_rfl) e1_0
  have f1_1 := hC.at0 f1_0
  have f1'_1 := hC.at0 f1'_0
  have e12_1 := (slot_new (t := 12) (i := 9) ha hN_0 (by kernel_rfl) (by kernel_rfl)).trans (show x 9 = .bool false from hall 9 (of_decide_eq_true (by kernel_rfl)))
  clear hall hC ha bb_0 hD_0 e1_0 f1_0 f1'_0
  repeat (first | refine wp_seq ?_ | (refine wp_skip ?_; refine then_n ?_))
  refine wp_cond_false e12_1 ?_
  repeat (first | refine wp_seq ?_ | (refine wp_skip ?_; refine then_n ?_))
  refine wp_region_law hN_1 w.heap.size
    [kIs (.pointer (some ⟨w.heap.size, 2, none⟩)), kZ 19 (zy), kIs (.bool false), kIs (.bool true), kIs (.bool true), kIs (.pointer (some ⟨w.heap.size, 2, none⟩)), kIs (.pointer (some ⟨w.heap.size, 2, none⟩)), kIs (.bool false), kIs (.bool true), kIs (.bool true), kIs (.bool true), kIs (.pointer (some ⟨w.heap.size, 0, none⟩)), kZ 19 (zx), kIs (.pointer (some ⟨w.heap.size, 2, none⟩)), kZ 19 (zy), kZs [(19, (zx)), (19, (zy))], kZ 19 (((zgcd [(zx), (zy)] : Nat) : Int)), kIs (.bool false), kIs (.bool false), kIs (.bool false)]
    [ [], [(0, some 13)], [(1, some 14)], [(2, some 15)], [(3, some 16)], [], [(5, some 18)], [(6, some 19)], [(7, some 20)], [(4, some 17), (8, some 21)], [(9, some 22)], [], [(11, some 24)], [], [(13, some 26)], [(12, some 25), (14, some 27)], [(15, some 28)], [(16, some 29)], [(10, some 23), (17, some 30)], [(18, some 31)] ]
    [(0, some 13), (1, some 14), (2, some 15), (3, some 16), (4, some 17), (5, some 18), (6, some 19), (7, some 20), (8, some 21), (9, some 22), (10, some 23), (11, some 24), (12, some 25), (13, some 26), (14, some 27), (15, some 28), (16, some 29), (17, some 30), (18, some 31), (19, some 2)] [(4, true), (10, true)] [] (by kernel_rfl) (by kernel_rfl) (by kernel_rfl) (by kernel_rfl) (by kernel_rfl) (by kernel_rfl) (by kernel_rfl) bb_1.size ?_ ?_
  ·
    refine pk_cons rfl rfl (st_pure [] [(1, .pointer (some ⟨w.heap.size, 0, none⟩))] (.pointer (some ⟨w.heap.size, 2, none⟩)) rfl hN_1 (by kernel_rfl) (by kernel_rfl) (by kernel_rfl) (old1 e1_1) (by kernel_rfl) (by kernel_rfl) (by kernel_rfl) (fun _ => by kernel_rfl)) ?_
    refine pk_cons rfl rfl (st_loadA f1'_1 (by simp) hN_1 (by kernel_rfl) (by kernel_rfl) rfl rfl) ?_
    refine pk_cons rfl rfl (st_call1 hN_1 (by kernel_rfl) (by kernel_rfl) (by kernel_rfl) rfl rfl fun w x v1 hC h1 => ti (isNone_z (rr h1) hz)) ?_
    refine pk_cons rfl rfl (st_pure [.bool false] [] (.bool true) rfl hN_1 (by kernel_rfl) (by kernel_rfl) (by kernel_rfl) old0 (by kernel_rfl) (by kernel_rfl) (by kernel_rfl) (fun _ => by kernel_rfl)) ?_
    refine pk_cons rfl rfl (st_pure [.bool true] [] (.bool true) rfl hN_1 (by kernel_rfl) (by kernel_rfl) (by kernel_rfl) old0 (by kernel_rfl) (by kernel_rfl) (by kernel_rfl) (fun _ => by kernel_rfl)) ?_
    refine pk_cons rfl rfl (st_pure [] [(1, .pointer (some ⟨w.heap.size, 0, none⟩))] (.pointer (some ⟨w.heap.size, 2, none⟩)) rfl hN_1 (by kernel_rfl) (by kernel_rfl) (by kernel_rfl) (old1 e1_1) (by kernel_rfl) (by kernel_rfl) (by kernel_rfl) (fun _ => by kernel_rfl)) ?_
    refine pk_cons rfl rfl (st_pure [.pointer (some ⟨w.heap.size, 2, none⟩)] [] (.pointer (some ⟨w.heap.size, 2, none⟩)) rfl hN_1 (by kernel_rfl) (by kernel_rfl) (by kernel_rfl) old0 (by kernel_rfl) (by kernel_rfl) (by kernel_rfl) (fun _ => by kernel_rfl)) ?_
    refine pk_cons rfl rfl (st_loadS (s := false) f1'_1 hs (by simp) hN_1 (by kernel_rfl) (by kernel_rfl) rfl rfl) ?_
    refine pk_cons rfl rfl (st_pure [.bool false] [] (.bool true) rfl hN_1 (by kernel_rfl) (by kernel_rfl) (by kernel_rfl) old0 (by kernel_rfl) (by kernel_rfl) (by kernel_rfl) (fun _ => by kernel_rfl)) ?_
    refine pk_cons rfl rfl (st_pure [.bool true, .bool true] [] (.bool true) rfl hN_1 (by kernel_rfl) (by kernel_rfl) (by kernel_rfl) old0 (by kernel_rfl) (by kernel_rfl) (by kernel_rfl) (fun _ => by kernel_rfl)) ?_
    refine pk_cons rfl rfl (st_pure [.bool true] [] (.bool true) rfl hN_1 (by kernel_rfl) (by kernel_rfl) (by kernel_rfl) old0 (by kernel_rfl) (by kernel_rfl) (by kernel_rfl) (fun _ => by kernel_rfl)) ?_
    refine pk_cons rfl rfl (st_pure [] [(1, .pointer (some ⟨w.heap.size, 0, none⟩))] (.pointer (some ⟨w.heap.size, 0, none⟩)) rfl hN_1 (by kernel_rfl) (by kernel_rfl) (by kernel_rfl) (old1 e1_1) (by kernel_rfl) (by kernel_rfl) (by kernel_rfl) (fun _ => by kernel_rfl)) ?_
    refine pk_cons rfl rfl (st_loadA f1_1 (by simp) hN_1 (by kernel_rfl) (by kernel_rfl) rfl rfl) ?_
    refine pk_cons rfl rfl (st_pure [] [(1, .pointer (some ⟨w.heap.size, 0, none⟩))] (.pointer (some ⟨w.heap.size, 2, none⟩)) rfl hN_1 (by kernel_rfl) (by kernel_rfl) (by kernel_rfl) (old1 e1_1) (by kernel_rfl) (by kernel_rfl) (by kernel_rfl) (fun _ => by kernel_rfl)) ?_
    refine pk_cons rfl rfl (st_loadA f1'_1 (by simp) hN_1 (by kernel_rfl) (by kernel_rfl) rfl rfl) ?_
    refine pk_cons rfl rfl (st_list2 hN_1 (by kernel_rfl) (by kernel_rfl) (by kernel_rfl) (by kernel_rfl) (Nat.le_refl _) asR asR rfl) ?_
    refine pk_cons rfl rfl (st_call1 hN_1 (by kernel_rfl) (by kernel_rfl) (by kernel_rfl) rfl rfl fun w x v1 hC h1 => tz (l_gcd 19 (lz h1) (by kernel_rfl) (by decide) (by simp))) ?_
    refine pk_cons rfl rfl (st_call1 hN_1 (by kernel_rfl) (by kernel_rfl) (by kernel_rfl) rfl rfl fun w x v1 hC h1 => ti (isOne_z0 hg ((rr h1).mono (by decide)))) ?_
    refine pk_cons rfl rfl (st_pure [.bool true, .bool false] [] (.bool false) rfl hN_1 (by kernel_rfl) (by kernel_rfl) (by kernel_rfl) old0 (by kernel_rfl) (by kernel_rfl) (by kernel_rfl) (fun _ => by kernel_rfl)) ?_
    refine pk_cons rfl rfl (st_pure [.bool false] [] (.bool false) rfl hN_1 (by kernel_rfl) (by kernel_rfl) (by kernel_rfl) old0 (by kernel_rfl) (by kernel_rfl) (by kernel_rfl) (fun _ => by kernel_rfl)) ?_
    exact pk_nil rfl
  intro W x hC hall
  refine then_n ?_
  obtain ⟨a1, ha⟩ : ∃ a, a = putE x a_1 [(0, some 13), (1, some 14), (2, some 15), (3, some 16), (4, some 17), (5, some 18), (6, some 19), (7, some 20), (8, some 21), (9, some 22), (10, some 23), (11, some 24), (12, some 25), (13, some 26), (14, some 27), (15, some 28), (16, some 29), (17, some 30), (18, some 31), (19, some 2)] := ⟨_, rfl⟩
  rw [← ha]
  have hD1 := defers_behind ha hD_1
  have bb1 := bb_1.trans hC.below
  have e1 := (slot_new (t := 2) (i := 19) ha hN_1 (by kernel_rfl) (by kernel_rfl)).trans (show x 19 = .bool false from hall 19 (of_decide_eq_true (by kernel_rfl)))
  repeat (first | refine wp_seq ?_ | (refine wp_skip ?_; refine then_n ?_))
  refine wp_ret ?_
  repeat (refine then_r ?_)
  exact ret_one (t := 2) rfl hD1 e1 ⟨rfl, bb1⟩
theorem right_no_19 {w : World} {v1 : Value} {zx zy : Int} (hno : ¬ (0 < zy ∧ ((zgcd [(zx), (zy)] : Nat) : Int) = 1)) (h1 : Pr w v1 19 (zx) (zy)) : Calls Tryz.prog 11 #[v1] w (fun e w' => e = .returned (.bool false) ∧ Below w.heap.size w w') := by
  rcases Int.lt_trichotomy zy 0 with h | h | h
  · exact right_neg_19 (Int.ne_of_lt h) (decide_eq_true h) h1
  · exact right_none_19 h h1
  · refine right_gcd_19 (Int.ne_of_gt h) (decide_eq_false (by omega)) ?_ h1
    have := gcd_pos_of h (x := zx)
    have hn : ((zgcd [(zx), (zy)] : Nat) : Int) ≠ 1 := fun e => hno ⟨h, e⟩
    omega
set_option maxRecDepth 100000 in
set_option maxHeartbeats 4000000 in
theorem of_no_19 {w : World} {v1 : Value} {zx zy : Int} (hno : ¬ (0 < zy ∧ ((zgcd [(zx), (zy)] : Nat) : Int) = 1)) (h1 : Pr w v1 19 (zx) (zy)) :
    Calls Tryz.prog 44 #[v1] w (TellsP w 9 (0) (1)) := by
  obtain ⟨A1, l1, c1, A1', l1', c1', rfl, ⟨r1, u1⟩, r1', u1'⟩ := h1
  obtain ⟨b1, hb1⟩ : ∃ s, s = decide (zx < 0) := ⟨_, rfl⟩
  obtain ⟨b1', hb1'⟩ : ∃ s, s = decide (zy < 0) := ⟨_, rfl⟩
  rw [← hb1, ← hb1']
  have H1 := Lib.hid (show _ ∧ _ ∧ _ ∧ _ ∧ _ ∧ _ from ⟨hb1, hb1', r1, u1, r1', u1'⟩)
  clear hb1 hb1' r1 u1 r1' u1'
  go_enter Tryz.func44, Tryz.ntmps44
  repeat (refine wp_seq ?_)
  refine region_k ?_
  intro K hK
  have HK := Lib.hid hK
  clear hK
  go_wp2
  refine HK.out _ _ ?_
  clear HK
  refine then_n ?_
  obtain ⟨W_0, hW⟩ : ∃ W, W = (w.alloc (Obj.cells #[Value.bool b1, Value.slice A1 l1 c1, Value.bool b1', Value.slice A1' l1' c1'] 27)).alloc (Obj.cells #[Value.bool false, Value.slice none 0 0, Value.bool false, Value.slice none 0 0] 53) := ⟨_, rfl⟩
  have bb_0 : Below w.heap.size w W_0 := by rw [hW]; exact bal (bal (Below.refl _ _) _) _
  have K0 : W_0.heap[w.heap.size]? = some (Obj.cells #[Value.bool b1, Value.slice A1 l1 c1, Value.bool b1', Value.slice A1' l1' c1'] 27) := by rw [hW]; rw [Below.heap_alloc _ _ _ (by simp <;> omega)]; exact new_at (by simp)
  have K1 : W_0.heap[w.heap.size + 1]? = some (Obj.cells #[Value.bool false, Value.slice none 0 0, Value.bool false, Value.slice none 0 0] 53) := by rw [hW]; exact new_at (by simp)
  rw [← hW]
  obtain ⟨m1, n1, m1', n1', _, _, _, _⟩ := four_cells K0
  have f1_0 : AtR W_0 (w.heap.size) 0 19 (zx) := ⟨A1, l1, c1, by rw [← H1.out.1]; exact m1, n1, A1, l1, c1, rfl, H1.out.2.2.1.below bb_0, H1.out.2.2.2.1⟩
  have f1'_0 : AtR W_0 (w.heap.size) 2 19 (zy) := ⟨A1', l1', c1', by rw [← H1.out.2.1]; exact m1', n1', A1', l1', c1', rfl, H1.out.2.2.2.2.1.below bb_0, H1.out.2.2.2.2.2⟩
  clear m1 n1 m1' n1'
  have R_0 : Holds_ W_0 (w.heap.size + 1) #[Value.bool false, Value.slice none 0 0, Value.bool false, Value.slice none 0 0] := ⟨⟨_, K1⟩, by simp [noDig]⟩
  clear hW K0 K1
  refine name_frame (G := fun a => Code.wp _ _ _ a _) ?_
  intro a_0 ha
  have hN_0 : a_0.tmps.size = 17 := by subst ha; kernel_rfl
  have hD_0 : a_0.defers = [] := by subst ha; rfl
  have e1_0 : a_0.eval (.tmp 1) = .pointer (some ⟨w.heap.size, 0, none⟩) := by subst ha; kernel_rfl
  have e2_0 : a_0.eval (.tmp 2) = .pointer (some ⟨w.heap.size + 1, 0, none⟩) := by subst ha; kernel_rfl
  clear ha
  repeat (first | refine wp_seq ?_ | (refine wp_skip ?_; refine then_n ?_))
  refine wp_region_law hN_0 w.heap.size
    [kP 19 (zx) (zy), kIs (.bool false), kIs (.bool true)]
    [ [], [(0, some 3)], [(1, some 4)] ]
    [(0, some 3), (1, some 4), (2, some 5)] [] [] (by kernel_rfl) (by kernel_rfl) (by kernel_rfl) (by kernel_rfl) (by kernel_rfl) (by kernel_rfl) (by kernel_rfl) bb_0.size ?_ ?_
  ·
    refine pk_cons rfl rfl (st_load4P f1_0 f1'_0 (by simp) e1_0 hN_0 (by kernel_rfl) rfl) ?_
    refine pk_cons rfl rfl (st_call1 hN_0 (by kernel_rfl) (by kernel_rfl) (by kernel_rfl) rfl rfl fun w x v1 hC h1 => ti (right_no_19 hno (pm (by decide) h1))) ?_
    refine pk_cons rfl rfl (st_pure [.bool false] [] (.bool true) rfl hN_0 (by kernel_rfl) (by kernel_rfl) (by kernel_rfl) old0 (by kernel_rfl) (by kernel_rfl) (by kernel_rfl) (fun _ => by kernel_rfl)) ?_
    exact pk_nil rfl
  intro W_1 x hC hall
  refine then_n ?_
  obtain ⟨a_1, ha⟩ : ∃ a, a = putE x a_0 [(0, some 3), (1, some 4), (2, some 5)] := ⟨_, rfl⟩
  rw [← ha]
  have hN_1 := size_behind ha hN_0
  have hD_1 := defers_behind ha hD_0
  have bb_1 := bb_0.trans hC.below
  have e1_1 := slot_old ha (by kernel_rfl) e1_0
  have e2_1 := slot_old ha (by kernel_rfl) e2_0
  have f1_1 := hC.at0 f1_0
  have f1'_1 := hC.at0 f1'_0
  have R_1 := hC.holds R_0
  have e5_1 := (slot_new (t := 5) (i := 2) ha hN_0 (by kernel_rfl) (by kernel_rfl)).trans (show x 2 = .bool true from hall 2 (of_decide_eq_true (by kernel_rfl)))
  clear hall hC ha bb_0 hD_0 e1_0 e2_0 f1_0 f1'_0 R_0
  repeat (first | refine wp_seq ?_ | (refine wp_skip ?_; refine then_n ?_))
  refine wp_cond_true e5_1 ?_
  repeat (first | refine wp_seq ?_ | (refine wp_skip ?_; refine then_n ?_))
  refine wp_region_res hN_1 w.heap.size (w.heap.size + 1) R_1 (by omega)
    [kP 9 (0) (1), kRes (w.heap.size + 1) 9 (0) (1)]
    [ [], [(0, some 6)] ]
    [(0, some 6), (1, none)] [] [] (by kernel_rfl) (by kernel_rfl) (by kernel_rfl) (by kernel_rfl) (by kernel_rfl) (by kernel_rfl) (by kernel_rfl) bb_1.size ?_ ?_
  ·
    refine pk_cons rfl rfl (st_call0 [] hN_1 (by kernel_rfl) (by kernel_rfl) rfl rfl fun w x hC => tp none_9) ?_
    refine pk_cons rfl rfl (st_resF R_1 rfl (by simp) e2_1 hN_1 (by kernel_rfl) (by kernel_rfl) rfl rfl) ?_
    exact pk_nil rfl
  intro W x hC hall
  refine then_n ?_
  obtain ⟨a1, ha⟩ : ∃ a, a = putE x a_1 [(0, some 6), (1, none)] := ⟨_, rfl⟩
  rw [← ha]
  have hD1 := defers_behind ha hD_1
  have bb1 := bb_1.trans hC.below
  obtain ⟨cs, hg, hP⟩ := (show (kRes (w.heap.size + 1) 9 (0) (1)).sem _ _ _ _ from hall 1 (of_decide_eq_true (by kernel_rfl)))
  have e1 := slot_old (t := 2) ha (by kernel_rfl) e2_1
  repeat (first | refine wp_seq ?_ | (refine wp_skip ?_; refine then_n ?_))
  refine wp_ret ?_
  repeat (refine then_r ?_)
  exact ret_cellF (t := 2) rfl hD1 e1 hg hP fun v hv => ⟨v, rfl, hv, bb1⟩
set_option maxRecDepth 100000 in
set_option maxHeartbeats 4000000 in
theorem Text_no_19 {w : World} {v1 : Value} {zx zy : Int} (hno : ¬ (0 < zy ∧ ((zgcd [(zx), (zy)] : Nat) : Int) = 1)) (HT : Hid (Tab w ∧ 4 ≤ w.heap.size)) (h1 : Pr w v1 19 (zx) (zy)) :
    Calls Tryz.prog 21 #[v1] w (fun e w' => e = .returned (.string (ztext ((0 : Rat).num))) ∧ Below w.heap.size w w') := by
  obtain ⟨A1, l1, c1, A1', l1', c1', rfl, ⟨r1, u1⟩, r1', u1'⟩ := h1
  obtain ⟨b1, hb1⟩ : ∃ s, s = decide (zx < 0) := ⟨_, rfl⟩
  obtain ⟨b1', hb1'⟩ : ∃ s, s = decide (zy < 0) := ⟨_, rfl⟩
  rw [← hb1, ← hb1']
  have H1 := Lib.hid (show _ ∧ _ ∧ _ ∧ _ ∧ _ ∧ _ from ⟨hb1, hb1', r1, u1, r1', u1'⟩)
  clear hb1 hb1' r1 u1 r1' u1'
  go_enter Tryz.func21, Tryz.ntmps21
  repeat (refine wp_seq ?_)
  refine region_k ?_
  intro K hK
  have HK := Lib.hid hK
  clear hK
  go_wp2
  refine HK.out _ _ ?_
  clear HK
  refine then_n ?_
  obtain ⟨W_0, hW⟩ : ∃ W, W = w.alloc (Obj.cells #[Value.bool b1, Value.slice A1 l1 c1, Value.bool b1', Value.slice A1' l1' c1'] 27) := ⟨_, rfl⟩
  have bb_0 : Below w.heap.size w W_0 := by rw [hW]; exact bal (Below.refl _ _) _
  have K0 : W_0.heap[w.heap.size]? = some (Obj.cells #[Value.bool b1, Value.slice A1 l1 c1, Value.bool b1', Value.slice A1' l1' c1'] 27) := by rw [hW]; exact new_at (by simp)
  rw [← hW]
  obtain ⟨m1, n1, m1', n1', _, _, _, _⟩ := four_cells K0
  have f1_0 : AtR W_0 (w.heap.size) 0 19 (zx) := ⟨A1, l1, c1, by rw [← H1.out.1]; exact m1, n1, A1, l1, c1, rfl, H1.out.2.2.1.below bb_0, H1.out.2.2.2.1⟩
  have f1'_0 : AtR W_0 (w.heap.size) 2 19 (zy) := ⟨A1', l1', c1', by rw [← H1.out.2.1]; exact m1', n1', A1', l1', c1', rfl, H1.out.2.2.2.2.1.below bb_0, H1.out.2.2.2.2.2⟩
  clear m1 n1 m1' n1'
  clear hW K0
  refine name_frame (G := fun a => Code.wp _ _ _ a _) ?_
  intro a_0 ha
  have hN_0 : a_0.tmps.size = 6 := by subst ha; kernel_rfl
  have hD_0 : a_0.defers = [] := by subst ha; rfl
  have e1_0 : a_0.eval (.tmp 1) = .pointer (some ⟨w.heap.size, 0, none⟩) := by subst ha; kernel_rfl
  clear ha
  repeat (first | refine wp_seq ?_ | (refine wp_skip ?_; refine then_n ?_))
  refine wp_region_law hN_0 w.heap.size
    [kP 19 (zx) (zy), kP 9 (0) (1), kIs (.string (ztext ((0 : Rat).num))), kIs (.string (ztext ((0 : Rat).num)))]
    [ [], [(0, some 3)], [(1, some 4)], [(2, some 5)] ]
    [(0, some 3), (1, some 4), (2, some 5), (3, some 2)] [] [] (by kernel_rfl) (by kernel_rfl) (by kernel_rfl) (by kernel_rfl) (by kernel_rfl) (by kernel_rfl) (by kernel_rfl) bb_0.size ?_ ?_
  ·
    refine pk_cons rfl rfl (st_load4P f1_0 f1'_0 (by simp) e1_0 hN_0 (by kernel_rfl) rfl) ?_
    refine pk_cons rfl rfl (st_call1 hN_0 (by kernel_rfl) (by kernel_rfl) (by kernel_rfl) rfl rfl fun w x v1 hC h1 => tp (of_no_19 hno (pm (by decide) h1))) ?_
    refine pk_cons rfl rfl (st_call1 hN_0 (by kernel_rfl) (by kernel_rfl) (by kernel_rfl) rfl rfl fun w x v1 hC h1 => ti (decimal_9w (a := (0 : Rat)) (Lib.hid ⟨HT.out.1.below (bb_0.trans hC.below) HT.out.2, Nat.le_trans HT.out.2 (bb_0.trans hC.below).size⟩) rfl (pe0 h1))) ?_
    refine pk_cons rfl rfl (st_pure [.string (ztext ((0 : Rat).num))] [] (.string (ztext ((0 : Rat).num))) rfl hN_0 (by kernel_rfl) (by kernel_rfl) (by kernel_rfl) old0 (by kernel_rfl) (by kernel_rfl) (by kernel_rfl) (fun _ => by kernel_rfl)) ?_
    exact pk_nil rfl
  intro W x hC hall
  refine then_n ?_
  obtain ⟨a1, ha⟩ : ∃ a, a = putE x a_0 [(0, some 3), (1, some 4), (2, some 5), (3, some 2)] := ⟨_, rfl⟩
  rw [← ha]
  have hD1 := defers_behind ha hD_0
  have bb1 := bb_0.trans hC.below
  have e1 := (slot_new (t := 2) (i := 3) ha hN_0 (by kernel_rfl) (by kernel_rfl)).trans (show x 3 = .string (ztext ((0 : Rat).num)) from hall 3 (of_decide_eq_true (by kernel_rfl)))
  repeat (first | refine wp_seq ?_ | (refine wp_skip ?_; refine then_n ?_))
  refine wp_ret ?_
  repeat (refine then_r ?_)
  exact ret_one (t := 2) rfl hD1 e1 ⟨rfl, bb1⟩
end Go.Proofs.YthgclmkhmcfflaaGreatDoor
namespace Go.Proofs.YthgclmkhmcfflaaGreatDoor
open Go.RowKit
theorem rat_of {x y : Int} (h : 0 < y ∧ ((zgcd [(x), (y)] : Nat) : Int) = 1) : ∃ a : Rat, a.num = x ∧ (a.den : Int) = y := by
  obtain ⟨h1, h2⟩ := h
  rw [zgcd_eq] at h2
  have h3 : Nat.gcd y.natAbs x.natAbs = 1 := by
    have : Int.gcd y x = 1 := by omega
    exact this
  exact ⟨⟨x, y.natAbs, by omega, by unfold Nat.Coprime; rw [Nat.gcd_comm]; exact h3⟩, rfl, by show (y.natAbs : Int) = y; omega⟩
/-- The lengths of ratios that lie in a block. -/
def LensP (W : World) (g : Nat) (l : List (Nat × Nat)) : Prop := ∀ j q, l[j]? = some q → (∃ A c, W.cell? ⟨g, j * 4 + 1, none⟩ = some (.slice A q.1 c)) ∧ ∃ A c, W.cell? ⟨g, j * 4 + 3, none⟩ = some (.slice A q.2 c)
theorem LensP.below {W w' : World} {g : Nat} {l : List (Nat × Nat)} (h : LensP W g l) (hb : Below W.heap.size W w') : LensP w' g l := fun j q hj => by
  obtain ⟨⟨A, c, h1⟩, A', c', h2⟩ := h j q hj
  exact ⟨⟨A, c, (hb.cell (cell_lt h1)).trans h1⟩, A', c', (hb.cell (cell_lt h2)).trans h2⟩
end Go.Proofs.YthgclmkhmcfflaaGreatDoor
namespace Go.Proofs.YthgclmkhmcfflaaGreatDoor
open Go.RowKit
/-- What the bytes of a number's text are. -/
theorem ztext_list (z : Int) : (ztext z).data.toList = if z < 0 then 45 :: Lib.decDigits z.natAbs else Lib.decDigits z.natAbs := by
  have tl : ∀ n, (dtext n).data.toList = Lib.decDigits n := fun n => by unfold dtext; simp
  unfold ztext ntext
  by_cases h : z < 0
  · rw [decide_eq_true h, if_pos rfl, if_pos h, ← tl]; simp
  · rw [decide_eq_false h, if_neg (by decide), if_neg h, tl]
theorem dec_no47 (n : Nat) : (47 : UInt8) ∉ Lib.decDigits n := fun h => by
  have := (decDigits_digs n 47 h).1
  exact absurd this (by decide)
theorem ztext_no47 (z : Int) : (47 : UInt8) ∉ (ztext z).data.toList := by
  rw [ztext_list]
  split
  · intro h
    rcases List.mem_cons.1 h with h | h
    · exact absurd h (by decide)
    · exact dec_no47 _ h
  · exact dec_no47 _
theorem index_no {l : List UInt8} {c : UInt8} (h : c ∉ l) : Lib.index l [c] = -1 := by
  induction l with
  | nil => rfl
  | cons b l ih =>
    have hb : (c == b) = false := beq_eq_false_iff_ne.2 fun e => h (e ▸ List.mem_cons_self)
    have hp : List.isPrefixOf [c] (b :: l) = false := by show ((c == b) && List.isPrefixOf [] l) = false; rw [hb]; rfl
    have := ih fun h' => h (List.mem_cons_of_mem _ h')
    unfold Lib.index
    rw [hp, this]; rfl
theorem index_at {l r : List UInt8} {c : UInt8} (h : c ∉ l) : Lib.index (l ++ c :: r) [c] = l.length := by
  induction l with
  | nil =>
    show Lib.index (c :: r) [c] = _
    unfold Lib.index
    simp
  | cons b l ih =>
    have hb : (c == b) = false := beq_eq_false_iff_ne.2 fun e => h (e ▸ List.mem_cons_self)
    have hp : List.isPrefixOf [c] (b :: (l ++ c :: r)) = false := by show ((c == b) && List.isPrefixOf [] (l ++ c :: r)) = false; rw [hb]; rfl
    have := ih fun h' => h (List.mem_cons_of_mem _ h')
    show Lib.index (b :: (l ++ c :: r)) [c] = _
    unfold Lib.index
    rw [hp, this]
    have hn : (((l.length : Int)) == -1) = false := beq_eq_false_iff_ne.2 (by omega)
    rw [hn]
    simp
theorem cut_no {l : List UInt8} {c : UInt8} (h : c ∉ l) : Lib.cut l [c] = (l, [], false) := by
  unfold Lib.cut
  rw [index_no h, if_neg (by decide)]
theorem cut_at {l r : List UInt8} {c : UInt8} (h : c ∉ l) : Lib.cut (l ++ c :: r) [c] = (l, r, true) := by
  unfold Lib.cut
  rw [index_at h, if_pos (by omega)]
  simp
/-- The text of a broken number. -/
def textQ (a : Rat) : ByteArray := if a.den = 1 then ztext a.num else (ztext a.num ++ ⟨#[47]⟩) ++ ztext (a.den : Int)
theorem textQ_one {a : Rat} (h : a.den = 1) : textQ a = ztext a.num := if_pos h
theorem textQ_more {a : Rat} (h : a.den ≠ 1) : textQ a = (ztext a.num ++ ⟨#[47]⟩) ++ ztext (a.den : Int) := if_neg h
theorem more_list {x y : Int} : ((ztext x ++ ⟨#[47]⟩) ++ ztext y : ByteArray).data.toList = (ztext x).data.toList ++ 47 :: (ztext y).data.toList := by simp
theorem cut_textQ2 {a : Rat} (h : a.den ≠ 1) : Lib.cut (textQ a).data.toList [47] = ((ztext a.num).data.toList, (ztext (a.den : Int)).data.toList, true) := by
  rw [textQ_more h, more_list]; exact cut_at (ztext_no47 _)
end Go.Proofs.YthgclmkhmcfflaaGreatDoor
namespace Go.Proofs.YthgclmkhmcfflaaGreatDoor
open Go.RowKit
/-- The library's cell that its search asks. -/
def MaxL (w : World) : Prop := ∃ m : Int, w.cell? ⟨0, 0, none⟩ = some (.int .i64 m)
theorem MaxL.below {W w' : World} (h : MaxL W) (hb : Below W.heap.size W w') : MaxL w' := by
  obtain ⟨m, h⟩ := h
  exact ⟨m, (hb.cell (cell_lt h)).trans h⟩
theorem called_at {P : Program} {F : FuncId} {v V : Value} {w : World} {c : PK} {S0 : Nat} {x : Nat → Value} (h : (kIs V).sem S0 x v w) (H : Calls P F #[V] w (Told c S0 x w)) : Calls P F #[v] w (Told c S0 x w) := by
  have e : v = V := h
  subst e
  exact H
def CutIs (s A B : ByteArray) (b : Bool) : Prop := ∃ la lb, Lib.cut s.data.toList [47] = (la, lb, b) ∧ A = ⟨la.toArray⟩ ∧ B = ⟨lb.toArray⟩
theorem cut_told {s A B : ByteArray} {b : Bool} {w : World} {v : Value} (hc : CutIs s A B b) (hs : s.size ≤ 1000000) (h1 : v = .string s) (hm : MaxL w) : Calls Tryz.prog 24 #[v, .string ⟨#[47]⟩] w fun e w' => e = .returned (.tuple #[.string A, .string B, .bool b]) ∧ Below w.heap.size w w' := by
  subst h1
  obtain ⟨m, hm⟩ := hm
  obtain ⟨la, lb, hc, rfl, rfl⟩ := hc
  refine (Tryz.strings_Cut s ⟨#[47]⟩ m w (by omega) hm).mono fun e w' h => ?_
  obtain ⟨h, n, hw⟩ := h
  rw [show (⟨#[47]⟩ : ByteArray).data.toList = [47] from rfl, hc] at h
  exact ⟨h, hw ▸ below_drewN (Below.refl _ _) n⟩
section
variable {C : World → Prop} {S0 : Nat} {ks : List PK} {a0 : Act} {i : Nat} {N : Nat} {P : Program} {T : TypeId} {pos : String} {af : Array Edge} {gu : Option (Nat × Bool)} {ats : Array TypeId}
set_option maxRecDepth 100000 in
theorem st_callC {d F j1 t1 : Nat} {V : Value} {c1 c : PK} (hN : a0.tmps.size = N) (hd : decide (d < N) = true) (ht1 : decide (t1 < N) = true) (hF : enters P F = true) (h1 : at_ ks j1 = c1) (hi : at_ ks i = c)
    (h : ∀ w x v1, C w → c1.sem S0 x v1 w → Calls P F #[v1, V] w (Told c S0 x w)) :
    PkStep P C S0 ks a0 i { dst := some d, op := .call { callee := .value (.func F), args := #[.tmp t1, .const V], argTypes := ats }, type := T, pos := pos, after := af, guard := gu } [(j1, some t1)] :=
  st_call (ss := [.dep j1, .val V]) hN (by simp [esIn]; exact of_decide_eq_true ht1) hd hF (by simp [src, slotAt]) fun w x hC hdeps => by
    have g1 := hdeps (j1, some t1) (by simp)
    rw [h1] at g1
    rw [hi]
    exact h w x (x j1) hC g1
end
set_option maxRecDepth 100000 in
set_option maxHeartbeats 8000000 in
theorem parse_cut_yes {w : World} {s A B t : ByteArray} {x y : Int} {okA okB : Bool} (hc : CutIs s A B true) (hs : s.size ≤ 1000000) (HM : Hid (∀ W, Below w.heap.size w W → MaxL W))
    (HA : Hid (∀ (W : World) {S0 : Nat} {x_ : Nat → Value}, Calls Tryz.prog 25 #[.string A] W (Told (kZB 19 (x) okA) S0 x_ W))) (HB : Hid (∀ (W : World) {S0 : Nat} {x_ : Nat → Value}, Calls Tryz.prog 25 #[.string (B)] W (Told (kZB 19 (y) okB) S0 x_ W)))
    (HX : Hid (∀ (W : World) (v : Value), Below w.heap.size w W → Pr W v 19 (x) (y) → Calls Tryz.prog 21 #[v] W fun e w' => e = .returned (.string (t)) ∧ Below W.heap.size W w')) (hne : ((t).toList == (s).toList) = true) :
    Calls Tryz.prog 7 #[.string s] w fun e w' => ∃ v, e = .returned (.tuple #[v, .bool true]) ∧ Pr w' v 19 (x) (y) ∧ Below w.heap.size w w' := by
  have hm0 := HM.out w (Below.refl _ _)
  have hcell := hm0
  go_enter Tryz.func7, Tryz.ntmps7
  repeat (refine wp_seq ?_)
  refine region_k ?_
  intro K hK
  have HK := Lib.hid hK
  clear hK
  go_wp2
  refine HK.out _ _ ?_
  clear HK
  refine then_n ?_
  obtain ⟨W_0, hW⟩ : ∃ W, W = w.alloc (Obj.cells #[Value.bool false, Value.slice none 0 0, Value.bool false, Value.slice none 0 0] 27) := ⟨_, rfl⟩
  have bb_0 : Below w.heap.size w W_0 := by rw [hW]; exact bal (Below.refl _ _) _
  have K0 : W_0.heap[w.heap.size]? = some (Obj.cells #[Value.bool false, Value.slice none 0 0, Value.bool false, Value.slice none 0 0] 27) := by rw [hW]; exact new_at (by simp)
  rw [← hW]
  have R_0 : Holds_ W_0 (w.heap.size) #[Value.bool false, Value.slice none 0 0, Value.bool false, Value.slice none 0 0] := ⟨⟨_, K0⟩, by simp [noDig]⟩
  clear hW K0 hcell
  refine name_frame (G := fun a => Code.wp _ _ _ a _) ?_
  intro a_0 ha
  have hN_0 : a_0.tmps.size = 35 := by subst ha; kernel_rfl
  have hD_0 : a_0.defers = [] := by subst ha; rfl
  have e0_0 : a_0.eval (.tmp 0) = .string s := by subst ha; kernel_rfl
  have e2_0 : a_0.eval (.tmp 2) = .pointer (some ⟨w.heap.size, 0, none⟩) := by subst ha; kernel_rfl
  clear ha
  repeat (first | refine wp_seq ?_ | (refine wp_skip ?_; refine then_n ?_))
  refine wp_region_law hN_0 w.heap.size
    [kIs (.string s), kIs (.tuple #[.string A, .string B, .bool true]), kIs (.tuple #[.string A, .string B, .bool true]), kIs (.string A), kIs (.string B), kIs (.bool true), kIs (.string A), kIs (.string B), kIs (.bool true)]
    [ [], [(0, some 9)], [(1, some 10)], [(2, some 8)], [(2, some 8)], [(2, some 8)], [(3, some 11)], [(4, some 12)], [(5, some 13)] ]
    [(0, some 9), (1, some 10), (2, some 8), (3, some 11), (4, some 12), (5, some 13), (6, some 4), (7, some 5), (8, some 6)] [] [] (by kernel_rfl) (by kernel_rfl) (by kernel_rfl) (by kernel_rfl) (by kernel_rfl) (by kernel_rfl) (by kernel_rfl) bb_0.size ?_ ?_
  ·
    refine pk_cons rfl rfl (st_pure [] [(0, .string s)] (.string s) rfl hN_0 (by kernel_rfl) (by kernel_rfl) (by kernel_rfl) (old1 e0_0) (by kernel_rfl) (by kernel_rfl) (by kernel_rfl) (fun _ => by kernel_rfl)) ?_
    refine pk_cons rfl rfl (st_callC hN_0 (by kernel_rfl) (by kernel_rfl) (by kernel_rfl) rfl rfl fun w x v1 hC h1 => ti (cut_told hc hs h1 (HM.out _ (bb_0.trans hC.below)))) ?_
    refine pk_cons rfl rfl (st_pure [.tuple #[.string A, .string B, .bool true]] [] (.tuple #[.string A, .string B, .bool true]) rfl hN_0 (by kernel_rfl) (by kernel_rfl) (by kernel_rfl) old0 (by kernel_rfl) (by kernel_rfl) (by kernel_rfl) (fun _ => by kernel_rfl)) ?_
    refine pk_cons rfl rfl (st_pure [.tuple #[.string A, .string B, .bool true]] [] (.string A) rfl hN_0 (by kernel_rfl) (by kernel_rfl) (by kernel_rfl) old0 (by kernel_rfl) (by kernel_rfl) (by kernel_rfl) (fun _ => by kernel_rfl)) ?_
    refine pk_cons rfl rfl (st_pure [.tuple #[.string A, .string B, .bool true]] [] (.string B) rfl hN_0 (by kernel_rfl) (by kernel_rfl) (by kernel_rfl) old0 (by kernel_rfl) (by kernel_rfl) (by kernel_rfl) (fun _ => by kernel_rfl)) ?_
    refine pk_cons rfl rfl (st_pure [.tuple #[.string A, .string B, .bool true]] [] (.bool true) rfl hN_0 (by kernel_rfl) (by kernel_rfl) (by kernel_rfl) old0 (by kernel_rfl) (by kernel_rfl) (by kernel_rfl) (fun _ => by kernel_rfl)) ?_
    refine pk_cons rfl rfl (st_pure [.string A] [] (.string A) rfl hN_0 (by kernel_rfl) (by kernel_rfl) (by kernel_rfl) old0 (by kernel_rfl) (by kernel_rfl) (by kernel_rfl) (fun _ => by kernel_rfl)) ?_
    refine pk_cons rfl rfl (st_pure [.string B] [] (.string B) rfl hN_0 (by kernel_rfl) (by kernel_rfl) (by kernel_rfl) old0 (by kernel_rfl) (by kernel_rfl) (by kernel_rfl) (fun _ => by kernel_rfl)) ?_
    refine pk_cons rfl rfl (st_pure [.bool true] [] (.bool true) rfl hN_0 (by kernel_rfl) (by kernel_rfl) (by kernel_rfl) old0 (by kernel_rfl) (by kernel_rfl) (by kernel_rfl) (fun _ => by kernel_rfl)) ?_
    exact pk_nil rfl
  intro W_1 x_ hC hall
  refine then_n ?_
  obtain ⟨a_1, ha⟩ : ∃ a, a = putE x_ a_0 [(0, some 9), (1, some 10), (2, some 8), (3, some 11), (4, some 12), (5, some 13), (6, some 4), (7, some 5), (8, some 6)] := ⟨_, rfl⟩
  rw [← ha]
  have hN_1 := size_behind ha hN_0
  have hD_1 := defers_behind ha hD_0
  have bb_1 := bb_0.trans hC.below
  have e0_1 := slot_old ha (by kernel_rfl) e0_0
  have e2_1 := slot_old ha (by kernel_rfl) e2_0
  have R_1 := hC.holds R_0
  have e4_1 := (slot_new (t := 4) (i := 6) ha hN_0 (by kernel_rfl) (by kernel_rfl)).trans (show x_ 6 = .string A from hall 6 (of_decide_eq_true (by kernel_rfl)))
  have e5_1 := (slot_new (t := 5) (i := 7) ha hN_0 (by kernel_rfl) (by kernel_rfl)).trans (show x_ 7 = .string B from hall 7 (of_decide_eq_true (by kernel_rfl)))
  have e6_1 := (slot_new (t := 6) (i := 8) ha hN_0 (by kernel_rfl) (by kernel_rfl)).trans (show x_ 8 = .bool true from hall 8 (of_decide_eq_true (by kernel_rfl)))
  clear hall hC ha bb_0 hD_0 e0_0 e2_0 R_0
  repeat (first | refine wp_seq ?_ | (refine wp_skip ?_; refine then_n ?_))
  refine wp_region_law hN_1 w.heap.size
    [kIs (.bool true), kIs (.bool false)]
    [ [], [(0, some 14)] ]
    [(0, some 14), (1, some 15)] [] [] (by kernel_rfl) (by kernel_rfl) (by kernel_rfl) (by kernel_rfl) (by kernel_rfl) (by kernel_rfl) (by kernel_rfl) bb_1.size ?_ ?_
  ·
    refine pk_cons rfl rfl (st_pure [] [(6, .bool true)] (.bool true) rfl hN_1 (by kernel_rfl) (by kernel_rfl) (by kernel_rfl) (old1 e6_1) (by kernel_rfl) (by kernel_rfl) (by kernel_rfl) (fun _ => by kernel_rfl)) ?_
    refine pk_cons rfl rfl (st_pure [.bool true] [] (.bool false) rfl hN_1 (by kernel_rfl) (by kernel_rfl) (by kernel_rfl) old0 (by kernel_rfl) (by kernel_rfl) (by kernel_rfl) (fun _ => by kernel_rfl)) ?_
    exact pk_nil rfl
  intro W_2 x_ hC hall
  refine then_n ?_
  obtain ⟨a_2, ha⟩ : ∃ a, a = putE x_ a_1 [(0, some 14), (1, some 15)] := ⟨_, rfl⟩
  rw [← ha]
  have hN_2 := size_behind ha hN_1
  have hD_2 := defers_behind ha hD_1
  have bb_2 := bb_1.trans hC.below
  have e0_2 := slot_old ha (by kernel_rfl) e0_1
  have e2_2 := slot_old ha (by kernel_rfl) e2_1
  have e4_2 := slot_old ha (by kernel_rfl) e4_1
  have e5_2 := slot_old ha (by kernel_rfl) e5_1
  have e6_2 := slot_old ha (by kernel_rfl) e6_1
  have R_2 := hC.holds R_1
  have e15_2 := (slot_new (t := 15) (i := 1) ha hN_1 (by kernel_rfl) (by kernel_rfl)).trans (show x_ 1 = .bool false from hall 1 (of_decide_eq_true (by kernel_rfl)))
  clear hall hC ha bb_1 hD_1 e0_1 e2_1 e4_1 e5_1 e6_1 R_1
  refine wp_cond_false e15_2 ?_
  repeat (first | refine wp_seq ?_ | (refine wp_skip ?_; refine then_n ?_))
  refine wp_region_law hN_2 w.heap.size [PK.fresh 4] [ [] ] [(0, some 7)] [] [] (by kernel_rfl) (by kernel_rfl) (by kernel_rfl) (by kernel_rfl) (by kernel_rfl) (by kernel_rfl) (by kernel_rfl) bb_2.size ?_ ?_
  · refine pk_cons rfl rfl (st_allocP hN_2 (by kernel_rfl) (Nat.le_refl _) rfl) ?_
    exact pk_nil rfl
  intro W_3 x_ hC hall
  refine then_n ?_
  obtain ⟨a_3, ha⟩ : ∃ a, a = putE x_ a_2 [(0, some 7)] := ⟨_, rfl⟩
  rw [← ha]
  have hN_3 := size_behind ha hN_2
  have hD_3 := defers_behind ha hD_2
  have bb_3 := bb_2.trans hC.below
  have e0_3 := slot_old ha (by kernel_rfl) e0_2
  have e2_3 := slot_old ha (by kernel_rfl) e2_2
  have e4_3 := slot_old ha (by kernel_rfl) e4_2
  have e5_3 := slot_old ha (by kernel_rfl) e5_2
  have e6_3 := slot_old ha (by kernel_rfl) e6_2
  have e15_3 := slot_old ha (by kernel_rfl) e15_2
  have R_3 := hC.holds R_2
  obtain ⟨g7, cs, hx, hge, P_3, hsz⟩ := (show (PK.fresh 4).sem _ _ _ _ from hall 0 (of_decide_eq_true (by kernel_rfl)))
  obtain ⟨qa, qb, qc, qd, rfl⟩ := size_four hsz
  have e7_3 := (slot_new (t := 7) (i := 0) ha hN_2 (by kernel_rfl) (by kernel_rfl)).trans hx
  have d7 := Nat.lt_of_lt_of_le R_2.lt hge
  clear hall hC ha hx hge hsz
  repeat (first | refine wp_seq ?_ | (refine wp_skip ?_; refine then_n ?_))
  refine wp_region_keep hN_3 w.heap.size g7 P_3 (by omega) 6 [6]
    [kIs (.string A), kZB 19 (x) okA, kZB 19 (x) okA, kZ 19 (x), kIs (.bool okA), kIs (.pointer (some ⟨g7, 0, none⟩)), kLo g7 19 (x) qc qd]
    [ [], [(0, some 17)], [(1, some 18)], [(2, some 16)], [(2, some 16)], [], [(5, some 21), (3, some 19)] ]
    [(0, some 17), (1, some 18), (2, some 16), (3, some 19), (4, some 20), (5, some 21), (6, none)] [] [] (by kernel_rfl) (by kernel_rfl) (by kernel_rfl) (by kernel_rfl) (by kernel_rfl) (by kernel_rfl) (by kernel_rfl) rfl (by kernel_rfl) bb_3.size ?_ ?_
  ·
    refine pkl_cons rfl rfl (st_pure [] [(4, .string A)] (.string A) rfl hN_3 (by kernel_rfl) (by kernel_rfl) (by kernel_rfl) (old1 e4_3) (by kernel_rfl) (by kernel_rfl) (by kernel_rfl) (fun _ => by kernel_rfl)) ?_
    refine pkl_cons rfl rfl (st_call1 hN_3 (by kernel_rfl) (by kernel_rfl) (by kernel_rfl) rfl rfl fun w x v1 hC h1 => called_at h1 (HA.out _)) ?_
    refine pkl_cons rfl rfl (st_move hN_3 (by kernel_rfl) (by kernel_rfl) rfl rfl) ?_
    refine pkl_cons rfl rfl (st_ext hN_3 (by kernel_rfl) (by kernel_rfl) rfl rfl ext_z) ?_
    refine pkl_cons rfl rfl (st_ext hN_3 (by kernel_rfl) (by kernel_rfl) rfl rfl ext_ok) ?_
    refine pkl_cons rfl rfl (st_pure [] [(7, .pointer (some ⟨g7, 0, none⟩))] (.pointer (some ⟨g7, 0, none⟩)) rfl hN_3 (by kernel_rfl) (by kernel_rfl) (by kernel_rfl) (old1 e7_3) (by kernel_rfl) (by kernel_rfl) (by kernel_rfl) (fun _ => by kernel_rfl)) ?_
    refine pkl_keep rfl rfl rfl ?_ ?_
    · exact st_lo P_3 hN_3 (by kernel_rfl) (by kernel_rfl) (by kernel_rfl) rfl rfl rfl
    exact pkl_nil rfl
  intro W_4 x_ hC hall
  refine then_n ?_
  obtain ⟨a_4, ha⟩ : ∃ a, a = putE x_ a_3 [(0, some 17), (1, some 18), (2, some 16), (3, some 19), (4, some 20), (5, some 21), (6, none)] := ⟨_, rfl⟩
  rw [← ha]
  have hN_4 := size_behind ha hN_3
  have hD_4 := defers_behind ha hD_3
  have bb_4 := bb_3.trans hC.below
  have e0_4 := slot_old ha (by kernel_rfl) e0_3
  have e2_4 := slot_old ha (by kernel_rfl) e2_3
  have e4_4 := slot_old ha (by kernel_rfl) e4_3
  have e5_4 := slot_old ha (by kernel_rfl) e5_3
  have e6_4 := slot_old ha (by kernel_rfl) e6_3
  have e15_4 := slot_old ha (by kernel_rfl) e15_3
  have e7_4 := slot_old ha (by kernel_rfl) e7_3
  have R_4 := hC.holdsG (by simp only [List.mem_singleton]; omega) R_3
  obtain ⟨_, P_4, A5, l5, c5, rfl, Z_4⟩ := (show (kLo g7 19 (x) qc qd).sem _ _ _ _ from hall 6 (of_decide_eq_true (by kernel_rfl)))
  clear hall hC ha
  repeat (first | refine wp_seq ?_ | (refine wp_skip ?_; refine then_n ?_))
  refine wp_region_keep hN_4 w.heap.size g7 P_4 (by omega) 6 [6]
    [kIs (.string B), kZB 19 (y) okB, kZB 19 (y) okB, kZ 19 (y), kIs (.bool okB), kIs (.pointer (some ⟨g7, 2, none⟩)), kRes g7 19 (x) (y)]
    [ [], [(0, some 23)], [(1, some 24)], [(2, some 22)], [(2, some 22)], [], [(5, some 27), (3, some 25)] ]
    [(0, some 23), (1, some 24), (2, some 22), (3, some 25), (4, some 26), (5, some 27), (6, none)] [] [] (by kernel_rfl) (by kernel_rfl) (by kernel_rfl) (by kernel_rfl) (by kernel_rfl) (by kernel_rfl) (by kernel_rfl) rfl (by kernel_rfl) bb_4.size ?_ ?_
  ·
    refine pkl_cons rfl rfl (st_pure [] [(5, .string B)] (.string B) rfl hN_4 (by kernel_rfl) (by kernel_rfl) (by kernel_rfl) (old1 e5_4) (by kernel_rfl) (by kernel_rfl) (by kernel_rfl) (fun _ => by kernel_rfl)) ?_
    refine pkl_cons rfl rfl (st_call1 hN_4 (by kernel_rfl) (by kernel_rfl) (by kernel_rfl) rfl rfl fun w x v1 hC h1 => called_at h1 (HB.out _)) ?_
    refine pkl_cons rfl rfl (st_move hN_4 (by kernel_rfl) (by kernel_rfl) rfl rfl) ?_
    refine pkl_cons rfl rfl (st_ext hN_4 (by kernel_rfl) (by kernel_rfl) rfl rfl ext_z) ?_
    refine pkl_cons rfl rfl (st_ext hN_4 (by kernel_rfl) (by kernel_rfl) rfl rfl ext_ok) ?_
    refine pkl_cons rfl rfl (st_pure [] [(7, .pointer (some ⟨g7, 0, none⟩))] (.pointer (some ⟨g7, 2, none⟩)) rfl hN_4 (by kernel_rfl) (by kernel_rfl) (by kernel_rfl) (old1 e7_4) (by kernel_rfl) (by kernel_rfl) (by kernel_rfl) (fun _ => by kernel_rfl)) ?_
    refine pkl_keep rfl rfl rfl ?_ ?_
    · exact st_hi P_4 Z_4 hN_4 (by kernel_rfl) (by kernel_rfl) (by kernel_rfl) rfl rfl rfl
    exact pkl_nil rfl
  intro W_5 x_ hC hall
  refine then_n ?_
  obtain ⟨a_5, ha⟩ : ∃ a, a = putE x_ a_4 [(0, some 23), (1, some 24), (2, some 22), (3, some 25), (4, some 26), (5, some 27), (6, none)] := ⟨_, rfl⟩
  rw [← ha]
  have hN_5 := size_behind ha hN_4
  have hD_5 := defers_behind ha hD_4
  have bb_5 := bb_4.trans hC.below
  have e0_5 := slot_old ha (by kernel_rfl) e0_4
  have e2_5 := slot_old ha (by kernel_rfl) e2_4
  have e4_5 := slot_old ha (by kernel_rfl) e4_4
  have e5_5 := slot_old ha (by kernel_rfl) e5_4
  have e6_5 := slot_old ha (by kernel_rfl) e6_4
  have e15_5 := slot_old ha (by kernel_rfl) e15_4
  have e7_5 := slot_old ha (by kernel_rfl) e7_4
  have R_5 := hC.holdsG (by simp only [List.mem_singleton]; omega) R_4
  obtain ⟨f7_5, f7'_5⟩ := res_atP (show (kRes g7 19 (x) (y)).sem _ _ _ _ from hall 6 (of_decide_eq_true (by kernel_rfl)))
  clear hall hC ha
  repeat (first | refine wp_seq ?_ | (refine wp_skip ?_; refine then_n ?_))
  refine wp_region_law hN_5 w.heap.size
    [kP 19 (x) (y), kIs (.string (t)), kIs (.string s), kIs (.bool false)]
    [ [], [(0, some 28)], [], [(1, some 29), (2, some 30)] ]
    [(0, some 28), (1, some 29), (2, some 30), (3, some 31)] [] [] (by kernel_rfl) (by kernel_rfl) (by kernel_rfl) (by kernel_rfl) (by kernel_rfl) (by kernel_rfl) (by kernel_rfl) bb_5.size ?_ ?_
  ·
    refine pk_cons rfl rfl (st_load4P f7_5 f7'_5 (by simp) e7_5 hN_5 (by kernel_rfl) rfl) ?_
    refine pk_cons rfl rfl (st_call1 hN_5 (by kernel_rfl) (by kernel_rfl) (by kernel_rfl) rfl rfl fun w x v1 hC h1 => ti (HX.out _ _ (bb_5.trans hC.below) h1)) ?_
    refine pk_cons rfl rfl (st_pure [] [(0, .string s)] (.string s) rfl hN_5 (by kernel_rfl) (by kernel_rfl) (by kernel_rfl) (old1 e0_5) (by kernel_rfl) (by kernel_rfl) (by kernel_rfl) (fun _ => by kernel_rfl)) ?_
    refine pk_cons rfl rfl (st_pureV [.string (t), .string s] [] (.bool (!((t).toList == (s).toList))) (.bool false) (congrArg Value.bool (by rw [hne]; rfl)) rfl hN_5 (by kernel_rfl) (by kernel_rfl) (by kernel_rfl) old0 (by kernel_rfl) (by kernel_rfl) (by kernel_rfl) (fun _ => by kernel_rfl)) ?_
    exact pk_nil rfl
  intro W_6 x_ hC hall
  refine then_n ?_
  obtain ⟨a_6, ha⟩ : ∃ a, a = putE x_ a_5 [(0, some 28), (1, some 29), (2, some 30), (3, some 31)] := ⟨_, rfl⟩
  rw [← ha]
  have hN_6 := size_behind ha hN_5
  have hD_6 := defers_behind ha hD_5
  have bb_6 := bb_5.trans hC.below
  have e0_6 := slot_old ha (by kernel_rfl) e0_5
  have e2_6 := slot_old ha (by kernel_rfl) e2_5
  have e4_6 := slot_old ha (by kernel_rfl) e4_5
  have e5_6 := slot_old ha (by kernel_rfl) e5_5
  have e6_6 := slot_old ha (by kernel_rfl) e6_5
  have e15_6 := slot_old ha (by kernel_rfl) e15_5
  have e7_6 := slot_old ha (by kernel_rfl) e7_5
  have R_6 := hC.holds R_5
  have f7_6 := hC.at0 f7_5
  have f7'_6 := hC.at0 f7'_5
  have e31_6 := (slot_new (t := 31) (i := 3) ha hN_5 (by kernel_rfl) (by kernel_rfl)).trans (show x_ 3 = .bool false from hall 3 (of_decide_eq_true (by kernel_rfl)))
  clear hall hC ha bb_5 hD_5 e0_5 e2_5 e4_5 e5_5 e6_5 e15_5 e7_5 R_5 f7_5 f7'_5
  refine wp_cond_false e31_6 ?_
  repeat (first | refine wp_seq ?_ | (refine wp_skip ?_; refine then_n ?_))
  refine wp_region_res hN_6 w.heap.size (w.heap.size) R_6 (by omega)
    [kP 19 (x) (y), kRes (w.heap.size) 19 (x) (y), kIs (.bool true)]
    [ [], [(0, some 34)], [] ]
    [(0, some 34), (1, none), (2, some 3)] [] [] (by kernel_rfl) (by kernel_rfl) (by kernel_rfl) (by kernel_rfl) (by kernel_rfl) (by kernel_rfl) (by kernel_rfl) bb_6.size ?_ ?_
  ·
    refine pk_cons rfl rfl (st_load4P f7_6 f7'_6 (by simp only [List.mem_singleton]; omega) e7_6 hN_6 (by kernel_rfl) rfl) ?_
    refine pk_cons rfl rfl (st_resP R_6 rfl (by simp) e2_6 hN_6 (by kernel_rfl) (by kernel_rfl) rfl rfl) ?_
    refine pk_cons rfl rfl (st_pure [] [] (.bool true) rfl hN_6 (by kernel_rfl) (by kernel_rfl) (by kernel_rfl) old0 (by kernel_rfl) (by kernel_rfl) (by kernel_rfl) (fun _ => by kernel_rfl)) ?_
    exact pk_nil rfl
  intro W x_ hC hall
  refine then_n ?_
  obtain ⟨a1, ha⟩ : ∃ a, a = putE x_ a_6 [(0, some 34), (1, none), (2, some 3)] := ⟨_, rfl⟩
  rw [← ha]
  have hD1 := defers_behind ha hD_6
  have bb1 := bb_6.trans hC.below
  obtain ⟨cs, hg, hP⟩ := (show (kRes (w.heap.size) 19 (x) (y)).sem _ _ _ _ from hall 1 (of_decide_eq_true (by kernel_rfl)))
  have e1 := slot_old (t := 2) ha (by kernel_rfl) e2_6
  have e2 := (slot_new (t := 3) (i := 2) ha hN_6 (by kernel_rfl) (by kernel_rfl)).trans (show x_ 2 = .bool true from hall 2 (of_decide_eq_true (by kernel_rfl)))
  repeat (first | refine wp_seq ?_ | (refine wp_skip ?_; refine then_n ?_))
  refine wp_ret ?_
  repeat (refine then_r ?_)
  exact ret_cellP2 (t := 2) (u := 3) rfl hD1 e1 e2 hg hP fun v hv => ⟨v, rfl, hv, bb1⟩
set_option maxRecDepth 100000 in
set_option maxHeartbeats 8000000 in
theorem parse_cut_no {w : World} {s A B t : ByteArray} {x y : Int} {okA okB : Bool} (hc : CutIs s A B true) (hs : s.size ≤ 1000000) (HM : Hid (∀ W, Below w.heap.size w W → MaxL W))
    (HA : Hid (∀ (W : World) {S0 : Nat} {x_ : Nat → Value}, Calls Tryz.prog 25 #[.string A] W (Told (kZB 19 (x) okA) S0 x_ W))) (HB : Hid (∀ (W : World) {S0 : Nat} {x_ : Nat → Value}, Calls Tryz.prog 25 #[.string (B)] W (Told (kZB 19 (y) okB) S0 x_ W)))
    (HX : Hid (∀ (W : World) (v : Value), Below w.heap.size w W → Pr W v 19 (x) (y) → Calls Tryz.prog 21 #[v] W fun e w' => e = .returned (.string (t)) ∧ Below W.heap.size W w')) (hne : ((t).toList == (s).toList) = false) :
    Calls Tryz.prog 7 #[.string s] w fun e w' => ∃ v, e = .returned (.tuple #[v, .bool false]) ∧ Pr w' v 9 (0) (1) ∧ Below w.heap.size w w' := by
  have hm0 := HM.out w (Below.refl _ _)
  have hcell := hm0
  go_enter Tryz.func7, Tryz.ntmps7
  repeat (refine wp_seq ?_)
  refine region_k ?_
  intro K hK
  have HK := Lib.hid hK
  clear hK
  go_wp2
  refine HK.out _ _ ?_
  clear HK
  refine then_n ?_
  obtain ⟨W_0, hW⟩ : ∃ W, W = w.alloc (Obj.cells #[Value.bool false, Value.slice none 0 0, Value.bool false, Value.slice none 0 0] 27) := ⟨_, rfl⟩
  have bb_0 : Below w.heap.size w W_0 := by rw [hW]; exact bal (Below.refl _ _) _
  have K0 : W_0.heap[w.heap.size]? = some (Obj.cells #[Value.bool false, Value.slice none 0 0, Value.bool false, Value.slice none 0 0] 27) := by rw [hW]; exact new_at (by simp)
  rw [← hW]
  have R_0 : Holds_ W_0 (w.heap.size) #[Value.bool false, Value.slice none 0 0, Value.bool false, Value.slice none 0 0] := ⟨⟨_, K0⟩, by simp [noDig]⟩
  clear hW K0 hcell
  refine name_frame (G := fun a => Code.wp _ _ _ a _) ?_
  intro a_0 ha
  have hN_0 : a_0.tmps.size = 35 := by subst ha; kernel_rfl
  have hD_0 : a_0.defers = [] := by subst ha; rfl
  have e0_0 : a_0.eval (.tmp 0) = .string s := by subst ha; kernel_rfl
  have e2_0 : a_0.eval (.tmp 2) = .pointer (some ⟨w.heap.size, 0, none⟩) := by subst ha; kernel_rfl
  clear ha
  repeat (first | refine wp_seq ?_ | (refine wp_skip ?_; refine then_n ?_))
  refine wp_region_law hN_0 w.heap.size
    [kIs (.string s), kIs (.tuple #[.string A, .string B, .bool true]), kIs (.tuple #[.string A, .string B, .bool true]), kIs (.string A), kIs (.string B), kIs (.bool true), kIs (.string A), kIs (.string B), kIs (.bool true)]
    [ [], [(0, some 9)], [(1, some 10)], [(2, some 8)], [(2, some 8)], [(2, some 8)], [(3, some 11)], [(4, some 12)], [(5, some 13)] ]
    [(0, some 9), (1, some 10), (2, some 8), (3, some 11), (4, some 12), (5, some 13), (6, some 4), (7, some 5), (8, some 6)] [] [] (by kernel_rfl) (by kernel_rfl) (by kernel_rfl) (by kernel_rfl) (by kernel_rfl) (by kernel_rfl) (by kernel_rfl) bb_0.size ?_ ?_
  ·
    refine pk_cons rfl rfl (st_pure [] [(0, .string s)] (.string s) rfl hN_0 (by kernel_rfl) (by kernel_rfl) (by kernel_rfl) (old1 e0_0) (by kernel_rfl) (by kernel_rfl) (by kernel_rfl) (fun _ => by kernel_rfl)) ?_
    refine pk_cons rfl rfl (st_callC hN_0 (by kernel_rfl) (by kernel_rfl) (by kernel_rfl) rfl rfl fun w x v1 hC h1 => ti (cut_told hc hs h1 (HM.out _ (bb_0.trans hC.below)))) ?_
    refine pk_cons rfl rfl (st_pure [.tuple #[.string A, .string B, .bool true]] [] (.tuple #[.string A, .string B, .bool true]) rfl hN_0 (by kernel_rfl) (by kernel_rfl) (by kernel_rfl) old0 (by kernel_rfl) (by kernel_rfl) (by kernel_rfl) (fun _ => by kernel_rfl)) ?_
    refine pk_cons rfl rfl (st_pure [.tuple #[.string A, .string B, .bool true]] [] (.string A) rfl hN_0 (by kernel_rfl) (by kernel_rfl) (by kernel_rfl) old0 (by kernel_rfl) (by kernel_rfl) (by kernel_rfl) (fun _ => by kernel_rfl)) ?_
    refine pk_cons rfl rfl (st_pure [.tuple #[.string A, .string B, .bool true]] [] (.string B) rfl hN_0 (by kernel_rfl) (by kernel_rfl) (by kernel_rfl) old0 (by kernel_rfl) (by kernel_rfl) (by kernel_rfl) (fun _ => by kernel_rfl)) ?_
    refine pk_cons rfl rfl (st_pure [.tuple #[.string A, .string B, .bool true]] [] (.bool true) rfl hN_0 (by kernel_rfl) (by kernel_rfl) (by kernel_rfl) old0 (by kernel_rfl) (by kernel_rfl) (by kernel_rfl) (fun _ => by kernel_rfl)) ?_
    refine pk_cons rfl rfl (st_pure [.string A] [] (.string A) rfl hN_0 (by kernel_rfl) (by kernel_rfl) (by kernel_rfl) old0 (by kernel_rfl) (by kernel_rfl) (by kernel_rfl) (fun _ => by kernel_rfl)) ?_
    refine pk_cons rfl rfl (st_pure [.string B] [] (.string B) rfl hN_0 (by kernel_rfl) (by kernel_rfl) (by kernel_rfl) old0 (by kernel_rfl) (by kernel_rfl) (by kernel_rfl) (fun _ => by kernel_rfl)) ?_
    refine pk_cons rfl rfl (st_pure [.bool true] [] (.bool true) rfl hN_0 (by kernel_rfl) (by kernel_rfl) (by kernel_rfl) old0 (by kernel_rfl) (by kernel_rfl) (by kernel_rfl) (fun _ => by kernel_rfl)) ?_
    exact pk_nil rfl
  intro W_1 x_ hC hall
  refine then_n ?_
  obtain ⟨a_1, ha⟩ : ∃ a, a = putE x_ a_0 [(0, some 9), (1, some 10), (2, some 8), (3, some 11), (4, some 12), (5, some 13), (6, some 4), (7, some 5), (8, some 6)] := ⟨_, rfl⟩
  rw [← ha]
  have hN_1 := size_behind ha hN_0
  have hD_1 := defers_behind ha hD_0
  have bb_1 := bb_0.trans hC.below
  have e0_1 := slot_old ha (by kernel_rfl) e0_0
  have e2_1 := slot_old ha (by kernel_rfl) e2_0
  have R_1 := hC.holds R_0
  have e4_1 := (slot_new (t := 4) (i := 6) ha hN_0 (by kernel_rfl) (by kernel_rfl)).trans (show x_ 6 = .string A from hall 6 (of_decide_eq_true (by kernel_rfl)))
  have e5_1 := (slot_new (t := 5) (i := 7) ha hN_0 (by kernel_rfl) (by kernel_rfl)).trans (show x_ 7 = .string B from hall 7 (of_decide_eq_true (by kernel_rfl)))
  have e6_1 := (slot_new (t := 6) (i := 8) ha hN_0 (by kernel_rfl) (by kernel_rfl)).trans (show x_ 8 = .bool true from hall 8 (of_decide_eq_true (by kernel_rfl)))
  clear hall hC ha bb_0 hD_0 e0_0 e2_0 R_0
  repeat (first | refine wp_seq ?_ | (refine wp_skip ?_; refine then_n ?_))
  refine wp_region_law hN_1 w.heap.size
    [kIs (.bool true), kIs (.bool false)]
    [ [], [(0, some 14)] ]
    [(0, some 14), (1, some 15)] [] [] (by kernel_rfl) (by kernel_rfl) (by kernel_rfl) (by kernel_rfl) (by kernel_rfl) (by kernel_rfl) (by kernel_rfl) bb_1.size ?_ ?_
  ·
    refine pk_cons rfl rfl (st_pure [] [(6, .bool true)] (.bool true) rfl hN_1 (by kernel_rfl) (by kernel_rfl) (by kernel_rfl) (old1 e6_1) (by kernel_rfl) (by kernel_rfl) (by kernel_rfl) (fun _ => by kernel_rfl)) ?_
    refine pk_cons rfl rfl (st_pure [.bool true] [] (.bool false) rfl hN_1 (by kernel_rfl) (by kernel_rfl) (by kernel_rfl) old0 (by kernel_rfl) (by kernel_rfl) (by kernel_rfl) (fun _ => by kernel_rfl)) ?_
    exact pk_nil rfl
  intro W_2 x_ hC hall
  refine then_n ?_
  obtain ⟨a_2, ha⟩ : ∃ a, a = putE x_ a_1 [(0, some 14), (1, some 15)] := ⟨_, rfl⟩
  rw [← ha]
  have hN_2 := size_behind ha hN_1
  have hD_2 := defers_behind ha hD_1
  have bb_2 := bb_1.trans hC.below
  have e0_2 := slot_old ha (by kernel_rfl) e0_1
  have e2_2 := slot_old ha (by kernel_rfl) e2_1
  have e4_2 := slot_old ha (by kernel_rfl) e4_1
  have e5_2 := slot_old ha (by kernel_rfl) e5_1
  have e6_2 := slot_old ha (by kernel_rfl) e6_1
  have R_2 := hC.holds R_1
  have e15_2 := (slot_new (t := 15) (i := 1) ha hN_1 (by kernel_rfl) (by kernel_rfl)).trans (show x_ 1 = .bool false from hall 1 (of_decide_eq_true (by kernel_rfl)))
  clear hall hC ha bb_1 hD_1 e0_1 e2_1 e4_1 e5_1 e6_1 R_1
  refine wp_cond_false e15_2 ?_
  repeat (first | refine wp_seq ?_ | (refine wp_skip ?_; refine then_n ?_))
  refine wp_region_law hN_2 w.heap.size [PK.fresh 4] [ [] ] [(0, some 7)] [] [] (by kernel_rfl) (by kernel_rfl) (by kernel_rfl) (by kernel_rfl) (by kernel_rfl) (by kernel_rfl) (by kernel_rfl) bb_2.size ?_ ?_
  · refine pk_cons rfl rfl (st_allocP hN_2 (by kernel_rfl) (Nat.le_refl _) rfl) ?_
    exact pk_nil rfl
  intro W_3 x_ hC hall
  refine then_n ?_
  obtain ⟨a_3, ha⟩ : ∃ a, a = putE x_ a_2 [(0, some 7)] := ⟨_, rfl⟩
  rw [← ha]
  have hN_3 := size_behind ha hN_2
  have hD_3 := defers_behind ha hD_2
  have bb_3 := bb_2.trans hC.below
  have e0_3 := slot_old ha (by kernel_rfl) e0_2
  have e2_3 := slot_old ha (by kernel_rfl) e2_2
  have e4_3 := slot_old ha (by kernel_rfl) e4_2
  have e5_3 := slot_old ha (by kernel_rfl) e5_2
  have e6_3 := slot_old ha (by kernel_rfl) e6_2
  have e15_3 := slot_old ha (by kernel_rfl) e15_2
  have R_3 := hC.holds R_2
  obtain ⟨g7, cs, hx, hge, P_3, hsz⟩ := (show (PK.fresh 4).sem _ _ _ _ from hall 0 (of_decide_eq_true (by kernel_rfl)))
  obtain ⟨qa, qb, qc, qd, rfl⟩ := size_four hsz
  have e7_3 := (slot_new (t := 7) (i := 0) ha hN_2 (by kernel_rfl) (by kernel_rfl)).trans hx
  have d7 := Nat.lt_of_lt_of_le R_2.lt hge
  clear hall hC ha hx hge hsz
  repeat (first | refine wp_seq ?_ | (refine wp_skip ?_; refine then_n ?_))
  refine wp_region_keep hN_3 w.heap.size g7 P_3 (by omega) 6 [6]
    [kIs (.string A), kZB 19 (x) okA, kZB 19 (x) okA, kZ 19 (x), kIs (.bool okA), kIs (.pointer (some ⟨g7, 0, none⟩)), kLo g7 19 (x) qc qd]
    [ [], [(0, some 17)], [(1, some 18)], [(2, some 16)], [(2, some 16)], [], [(5, some 21), (3, some 19)] ]
    [(0, some 17), (1, some 18), (2, some 16), (3, some 19), (4, some 20), (5, some 21), (6, none)] [] [] (by kernel_rfl) (by kernel_rfl) (by kernel_rfl) (by kernel_rfl) (by kernel_rfl) (by kernel_rfl) (by kernel_rfl) rfl (by kernel_rfl) bb_3.size ?_ ?_
  ·
    refine pkl_cons rfl rfl (st_pure [] [(4, .string A)] (.string A) rfl hN_3 (by kernel_rfl) (by kernel_rfl) (by kernel_rfl) (old1 e4_3) (by kernel_rfl) (by kernel_rfl) (by kernel_rfl) (fun _ => by kernel_rfl)) ?_
    refine pkl_cons rfl rfl (st_call1 hN_3 (by kernel_rfl) (by kernel_rfl) (by kernel_rfl) rfl rfl fun w x v1 hC h1 => called_at h1 (HA.out _)) ?_
    refine pkl_cons rfl rfl (st_move hN_3 (by kernel_rfl) (by kernel_rfl) rfl rfl) ?_
    refine pkl_cons rfl rfl (st_ext hN_3 (by kernel_rfl) (by kernel_rfl) rfl rfl ext_z) ?_
    refine pkl_cons rfl rfl (st_ext hN_3 (by kernel_rfl) (by kernel_rfl) rfl rfl ext_ok) ?_
    refine pkl_cons rfl rfl (st_pure [] [(7, .pointer (some ⟨g7, 0, none⟩))] (.pointer (some ⟨g7, 0, none⟩)) rfl hN_3 (by kernel_rfl) (by kernel_rfl) (by kernel_rfl) (old1 e7_3) (by kernel_rfl) (by kernel_rfl) (by kernel_rfl) (fun _ => by kernel_rfl)) ?_
    refine pkl_keep rfl rfl rfl ?_ ?_
    · exact st_lo P_3 hN_3 (by kernel_rfl) (by kernel_rfl) (by kernel_rfl) rfl rfl rfl
    exact pkl_nil rfl
  intro W_4 x_ hC hall
  refine then_n ?_
  obtain ⟨a_4, ha⟩ : ∃ a, a = putE x_ a_3 [(0, some 17), (1, some 18), (2, some 16), (3, some 19), (4, some 20), (5, some 21), (6, none)] := ⟨_, rfl⟩
  rw [← ha]
  have hN_4 := size_behind ha hN_3
  have hD_4 := defers_behind ha hD_3
  have bb_4 := bb_3.trans hC.below
  have e0_4 := slot_old ha (by kernel_rfl) e0_3
  have e2_4 := slot_old ha (by kernel_rfl) e2_3
  have e4_4 := slot_old ha (by kernel_rfl) e4_3
  have e5_4 := slot_old ha (by kernel_rfl) e5_3
  have e6_4 := slot_old ha (by kernel_rfl) e6_3
  have e15_4 := slot_old ha (by kernel_rfl) e15_3
  have e7_4 := slot_old ha (by kernel_rfl) e7_3
  have R_4 := hC.holdsG (by simp only [List.mem_singleton]; omega) R_3
  obtain ⟨_, P_4, A5, l5, c5, rfl, Z_4⟩ := (show (kLo g7 19 (x) qc qd).sem _ _ _ _ from hall 6 (of_decide_eq_true (by kernel_rfl)))
  clear hall hC ha
  repeat (first | refine wp_seq ?_ | (refine wp_skip ?_; refine then_n ?_))
  refine wp_region_keep hN_4 w.heap.size g7 P_4 (by omega) 6 [6]
    [kIs (.string B), kZB 19 (y) okB, kZB 19 (y) okB, kZ 19 (y), kIs (.bool okB), kIs (.pointer (some ⟨g7, 2, none⟩)), kRes g7 19 (x) (y)]
    [ [], [(0, some 23)], [(1, some 24)], [(2, some 22)], [(2, some 22)], [], [(5, some 27), (3, some 25)] ]
    [(0, some 23), (1, some 24), (2, some 22), (3, some 25), (4, some 26), (5, some 27), (6, none)] [] [] (by kernel_rfl) (by kernel_rfl) (by kernel_rfl) (by kernel_rfl) (by kernel_rfl) (by kernel_rfl) (by kernel_rfl) rfl (by kernel_rfl) bb_4.size ?_ ?_
  ·
    refine pkl_cons rfl rfl (st_pure [] [(5, .string B)] (.string B) rfl hN_4 (by kernel_rfl) (by kernel_rfl) (by kernel_rfl) (old1 e5_4) (by kernel_rfl) (by kernel_rfl) (by kernel_rfl) (fun _ => by kernel_rfl)) ?_
    refine pkl_cons rfl rfl (st_call1 hN_4 (by kernel_rfl) (by kernel_rfl) (by kernel_rfl) rfl rfl fun w x v1 hC h1 => called_at h1 (HB.out _)) ?_
    refine pkl_cons rfl rfl (st_move hN_4 (by kernel_rfl) (by kernel_rfl) rfl rfl) ?_
    refine pkl_cons rfl rfl (st_ext hN_4 (by kernel_rfl) (by kernel_rfl) rfl rfl ext_z) ?_
    refine pkl_cons rfl rfl (st_ext hN_4 (by kernel_rfl) (by kernel_rfl) rfl rfl ext_ok) ?_
    refine pkl_cons rfl rfl (st_pure [] [(7, .pointer (some ⟨g7, 0, none⟩))] (.pointer (some ⟨g7, 2, none⟩)) rfl hN_4 (by kernel_rfl) (by kernel_rfl) (by kernel_rfl) (old1 e7_4) (by kernel_rfl) (by kernel_rfl) (by kernel_rfl) (fun _ => by kernel_rfl)) ?_
    refine pkl_keep rfl rfl rfl ?_ ?_
    · exact st_hi P_4 Z_4 hN_4 (by kernel_rfl) (by kernel_rfl) (by kernel_rfl) rfl rfl rfl
    exact pkl_nil rfl
  intro W_5 x_ hC hall
  refine then_n ?_
  obtain ⟨a_5, ha⟩ : ∃ a, a = putE x_ a_4 [(0, some 23), (1, some 24), (2, some 22), (3, some 25), (4, some 26), (5, some 27), (6, none)] := ⟨_, rfl⟩
  rw [← ha]
  have hN_5 := size_behind ha hN_4
  have hD_5 := defers_behind ha hD_4
  have bb_5 := bb_4.trans hC.below
  have e0_5 := slot_old ha (by kernel_rfl) e0_4
  have e2_5 := slot_old ha (by kernel_rfl) e2_4
  have e4_5 := slot_old ha (by kernel_rfl) e4_4
  have e5_5 := slot_old ha (by kernel_rfl) e5_4
  have e6_5 := slot_old ha (by kernel_rfl) e6_4
  have e15_5 := slot_old ha (by kernel_rfl) e15_4
  have e7_5 := slot_old ha (by kernel_rfl) e7_4
  have R_5 := hC.holdsG (by simp only [List.mem_singleton]; omega) R_4
  obtain ⟨f7_5, f7'_5⟩ := res_atP (show (kRes g7 19 (x) (y)).sem _ _ _ _ from hall 6 (of_decide_eq_true (by kernel_rfl)))
  clear hall hC ha
  repeat (first | refine wp_seq ?_ | (refine wp_skip ?_; refine then_n ?_))
  refine wp_region_law hN_5 w.heap.size
    [kP 19 (x) (y), kIs (.string (t)), kIs (.string s), kIs (.bool true)]
    [ [], [(0, some 28)], [], [(1, some 29), (2, some 30)] ]
    [(0, some 28), (1, some 29), (2, some 30), (3, some 31)] [] [] (by kernel_rfl) (by kernel_rfl) (by kernel_rfl) (by kernel_rfl) (by kernel_rfl) (by kernel_rfl) (by kernel_rfl) bb_5.size ?_ ?_
  ·
    refine pk_cons rfl rfl (st_load4P f7_5 f7'_5 (by simp) e7_5 hN_5 (by kernel_rfl) rfl) ?_
    refine pk_cons rfl rfl (st_call1 hN_5 (by kernel_rfl) (by kernel_rfl) (by kernel_rfl) rfl rfl fun w x v1 hC h1 => ti (HX.out _ _ (bb_5.trans hC.below) h1)) ?_
    refine pk_cons rfl rfl (st_pure [] [(0, .string s)] (.string s) rfl hN_5 (by kernel_rfl) (by kernel_rfl) (by kernel_rfl) (old1 e0_5) (by kernel_rfl) (by kernel_rfl) (by kernel_rfl) (fun _ => by kernel_rfl)) ?_
    refine pk_cons rfl rfl (st_pureV [.string (t), .string s] [] (.bool (!((t).toList == (s).toList))) (.bool true) (congrArg Value.bool (by rw [hne]; rfl)) rfl hN_5 (by kernel_rfl) (by kernel_rfl) (by kernel_rfl) old0 (by kernel_rfl) (by kernel_rfl) (by kernel_rfl) (fun _ => by kernel_rfl)) ?_
    exact pk_nil rfl
  intro W_6 x_ hC hall
  refine then_n ?_
  obtain ⟨a_6, ha⟩ : ∃ a, a = putE x_ a_5 [(0, some 28), (1, some 29), (2, some 30), (3, some 31)] := ⟨_, rfl⟩
  rw [← ha]
  have hN_6 := size_behind ha hN_5
  have hD_6 := defers_behind ha hD_5
  have bb_6 := bb_5.trans hC.below
  have e0_6 := slot_old ha (by kernel_rfl) e0_5
  have e2_6 := slot_old ha (by kernel_rfl) e2_5
  have e4_6 := slot_old ha (by kernel_rfl) e4_5
  have e5_6 := slot_old ha (by kernel_rfl) e5_5
  have e6_6 := slot_old ha (by kernel_rfl) e6_5
  have e15_6 := slot_old ha (by kernel_rfl) e15_5
  have e7_6 := slot_old ha (by kernel_rfl) e7_5
  have R_6 := hC.holds R_5
  have f7_6 := hC.at0 f7_5
  have f7'_6 := hC.at0 f7'_5
  have e31_6 := (slot_new (t := 31) (i := 3) ha hN_5 (by kernel_rfl) (by kernel_rfl)).trans (show x_ 3 = .bool true from hall 3 (of_decide_eq_true (by kernel_rfl)))
  clear hall hC ha bb_5 hD_5 e0_5 e2_5 e4_5 e5_5 e6_5 e15_5 e7_5 R_5 f7_5 f7'_5
  refine wp_cond_true e31_6 ?_
  repeat (first | refine wp_seq ?_ | (refine wp_skip ?_; refine then_n ?_))
  refine wp_region_res hN_6 w.heap.size (w.heap.size) R_6 (by omega)
    [kP 9 (0) (1), kP 9 (0) (1), kRes (w.heap.size) 9 (0) (1), kIs (.bool false)]
    [ [], [(0, some 32)], [(1, some 33)], [] ]
    [(0, some 32), (1, some 33), (2, none), (3, some 3)] [] [] (by kernel_rfl) (by kernel_rfl) (by kernel_rfl) (by kernel_rfl) (by kernel_rfl) (by kernel_rfl) (by kernel_rfl) bb_6.size ?_ ?_
  ·
    refine pk_cons rfl rfl (st_call0 [] hN_6 (by kernel_rfl) (by kernel_rfl) rfl rfl fun w x hC => tp none_9) ?_
    refine pk_cons rfl rfl (st_fieldF hN_6 (by kernel_rfl) (by kernel_rfl) rfl rfl) ?_
    refine pk_cons rfl rfl (st_resP R_6 rfl (by simp) e2_6 hN_6 (by kernel_rfl) (by kernel_rfl) rfl rfl) ?_
    refine pk_cons rfl rfl (st_pure [] [] (.bool false) rfl hN_6 (by kernel_rfl) (by kernel_rfl) (by kernel_rfl) old0 (by kernel_rfl) (by kernel_rfl) (by kernel_rfl) (fun _ => by kernel_rfl)) ?_
    exact pk_nil rfl
  intro W x_ hC hall
  refine then_n ?_
  obtain ⟨a1, ha⟩ : ∃ a, a = putE x_ a_6 [(0, some 32), (1, some 33), (2, none), (3, some 3)] := ⟨_, rfl⟩
  rw [← ha]
  have hD1 := defers_behind ha hD_6
  have bb1 := bb_6.trans hC.below
  obtain ⟨cs, hg, hP⟩ := (show (kRes (w.heap.size) 9 (0) (1)).sem _ _ _ _ from hall 2 (of_decide_eq_true (by kernel_rfl)))
  have e1 := slot_old (t := 2) ha (by kernel_rfl) e2_6
  have e2 := (slot_new (t := 3) (i := 3) ha hN_6 (by kernel_rfl) (by kernel_rfl)).trans (show x_ 3 = .bool false from hall 3 (of_decide_eq_true (by kernel_rfl)))
  repeat (first | refine wp_seq ?_ | (refine wp_skip ?_; refine then_n ?_))
  refine wp_ret ?_
  repeat (refine then_r ?_)
  exact ret_cellP2 (t := 2) (u := 3) rfl hD1 e1 e2 hg hP fun v hv => ⟨v, rfl, hv, bb1⟩
set_option maxRecDepth 100000 in
set_option maxHeartbeats 8000000 in
theorem parse_whole_yes {w : World} {s A B t : ByteArray} {x y : Int} {okA okB : Bool} (hc : CutIs s A B false) (hs : s.size ≤ 1000000) (HM : Hid (∀ W, Below w.heap.size w W → MaxL W))
    (HA : Hid (∀ (W : World) {S0 : Nat} {x_ : Nat → Value}, Calls Tryz.prog 25 #[.string A] W (Told (kZB 19 (x) okA) S0 x_ W))) (HB : Hid (∀ (W : World) {S0 : Nat} {x_ : Nat → Value}, Calls Tryz.prog 25 #[.string (⟨#[49]⟩)] W (Told (kZB 19 (y) okB) S0 x_ W)))
    (HX : Hid (∀ (W : World) (v : Value), Below w.heap.size w W → Pr W v 19 (x) (y) → Calls Tryz.prog 21 #[v] W fun e w' => e = .returned (.string (t)) ∧ Below W.heap.size W w')) (hne : ((t).toList == (s).toList) = true) :
    Calls Tryz.prog 7 #[.string s] w fun e w' => ∃ v, e = .returned (.tuple #[v, .bool true]) ∧ Pr w' v 19 (x) (y) ∧ Below w.heap.size w w' := by
  have hm0 := HM.out w (Below.refl _ _)
  have hcell := hm0
  go_enter Tryz.func7, Tryz.ntmps7
  repeat (refine wp_seq ?_)
  refine region_k ?_
  intro K hK
  have HK := Lib.hid hK
  clear hK
  go_wp2
  refine HK.out _ _ ?_
  clear HK
  refine then_n ?_
  obtain ⟨W_0, hW⟩ : ∃ W, W = w.alloc (Obj.cells #[Value.bool false, Value.slice none 0 0, Value.bool false, Value.slice none 0 0] 27) := ⟨_, rfl⟩
  have bb_0 : Below w.heap.size w W_0 := by rw [hW]; exact bal (Below.refl _ _) _
  have K0 : W_0.heap[w.heap.size]? = some (Obj.cells #[Value.bool false, Value.slice none 0 0, Value.bool false, Value.slice none 0 0] 27) := by rw [hW]; exact new_at (by simp)
  rw [← hW]
  have R_0 : Holds_ W_0 (w.heap.size) #[Value.bool false, Value.slice none 0 0, Value.bool false, Value.slice none 0 0] := ⟨⟨_, K0⟩, by simp [noDig]⟩
  clear hW K0 hcell
  refine name_frame (G := fun a => Code.wp _ _ _ a _) ?_
  intro a_0 ha
  have hN_0 : a_0.tmps.size = 35 := by subst ha; kernel_rfl
  have hD_0 : a_0.defers = [] := by subst ha; rfl
  have e0_0 : a_0.eval (.tmp 0) = .string s := by subst ha; kernel_rfl
  have e2_0 : a_0.eval (.tmp 2) = .pointer (some ⟨w.heap.size, 0, none⟩) := by subst ha; kernel_rfl
  clear ha
  repeat (first | refine wp_seq ?_ | (refine wp_skip ?_; refine then_n ?_))
  refine wp_region_law hN_0 w.heap.size
    [kIs (.string s), kIs (.tuple #[.string A, .string B, .bool false]), kIs (.tuple #[.string A, .string B, .bool false]), kIs (.string A), kIs (.string B), kIs (.bool false), kIs (.string A), kIs (.string B), kIs (.bool false)]
    [ [], [(0, some 9)], [(1, some 10)], [(2, some 8)], [(2, some 8)], [(2, some 8)], [(3, some 11)], [(4, some 12)], [(5, some 13)] ]
    [(0, some 9), (1, some 10), (2, some 8), (3, some 11), (4, some 12), (5, some 13), (6, some 4), (7, some 5), (8, some 6)] [] [] (by kernel_rfl) (by kernel_rfl) (by kernel_rfl) (by kernel_rfl) (by kernel_rfl) (by kernel_rfl) (by kernel_rfl) bb_0.size ?_ ?_
  ·
    refine pk_cons rfl rfl (st_pure [] [(0, .string s)] (.string s) rfl hN_0 (by kernel_rfl) (by kernel_rfl) (by kernel_rfl) (old1 e0_0) (by kernel_rfl) (by kernel_rfl) (by kernel_rfl) (fun _ => by kernel_rfl)) ?_
    refine pk_cons rfl rfl (st_callC hN_0 (by kernel_rfl) (by kernel_rfl) (by kernel_rfl) rfl rfl fun w x v1 hC h1 => ti (cut_told hc hs h1 (HM.out _ (bb_0.trans hC.below)))) ?_
    refine pk_cons rfl rfl (st_pure [.tuple #[.string A, .string B, .bool false]] [] (.tuple #[.string A, .string B, .bool false]) rfl hN_0 (by kernel_rfl) (by kernel_rfl) (by kernel_rfl) old0 (by kernel_rfl) (by kernel_rfl) (by kernel_rfl) (fun _ => by kernel_rfl)) ?_
    refine pk_cons rfl rfl (st_pure [.tuple #[.string A, .string B, .bool false]] [] (.string A) rfl hN_0 (by kernel_rfl) (by kernel_rfl) (by kernel_rfl) old0 (by kernel_rfl) (by kernel_rfl) (by kernel_rfl) (fun _ => by kernel_rfl)) ?_
    refine pk_cons rfl rfl (st_pure [.tuple #[.string A, .string B, .bool false]] [] (.string B) rfl hN_0 (by kernel_rfl) (by kernel_rfl) (by kernel_rfl) old0 (by kernel_rfl) (by kernel_rfl) (by kernel_rfl) (fun _ => by kernel_rfl)) ?_
    refine pk_cons rfl rfl (st_pure [.tuple #[.string A, .string B, .bool false]] [] (.bool false) rfl hN_0 (by kernel_rfl) (by kernel_rfl) (by kernel_rfl) old0 (by kernel_rfl) (by kernel_rfl) (by kernel_rfl) (fun _ => by kernel_rfl)) ?_
    refine pk_cons rfl rfl (st_pure [.string A] [] (.string A) rfl hN_0 (by kernel_rfl) (by kernel_rfl) (by kernel_rfl) old0 (by kernel_rfl) (by kernel_rfl) (by kernel_rfl) (fun _ => by kernel_rfl)) ?_
    refine pk_cons rfl rfl (st_pure [.string B] [] (.string B) rfl hN_0 (by kernel_rfl) (by kernel_rfl) (by kernel_rfl) old0 (by kernel_rfl) (by kernel_rfl) (by kernel_rfl) (fun _ => by kernel_rfl)) ?_
    refine pk_cons rfl rfl (st_pure [.bool false] [] (.bool false) rfl hN_0 (by kernel_rfl) (by kernel_rfl) (by kernel_rfl) old0 (by kernel_rfl) (by kernel_rfl) (by kernel_rfl) (fun _ => by kernel_rfl)) ?_
    exact pk_nil rfl
  intro W_1 x_ hC hall
  refine then_n ?_
  obtain ⟨a_1, ha⟩ : ∃ a, a = putE x_ a_0 [(0, some 9), (1, some 10), (2, some 8), (3, some 11), (4, some 12), (5, some 13), (6, some 4), (7, some 5), (8, some 6)] := ⟨_, rfl⟩
  rw [← ha]
  have hN_1 := size_behind ha hN_0
  have hD_1 := defers_behind ha hD_0
  have bb_1 := bb_0.trans hC.below
  have e0_1 := slot_old ha (by kernel_rfl) e0_0
  have e2_1 := slot_old ha (by kernel_rfl) e2_0
  have R_1 := hC.holds R_0
  have e4_1 := (slot_new (t := 4) (i := 6) ha hN_0 (by kernel_rfl) (by kernel_rfl)).trans (show x_ 6 = .string A from hall 6 (of_decide_eq_true (by kernel_rfl)))
  have e5_1 := (slot_new (t := 5) (i := 7) ha hN_0 (by kernel_rfl) (by kernel_rfl)).trans (show x_ 7 = .string B from hall 7 (of_decide_eq_true (by kernel_rfl)))
  have e6_1 := (slot_new (t := 6) (i := 8) ha hN_0 (by kernel_rfl) (by kernel_rfl)).trans (show x_ 8 = .bool false from hall 8 (of_decide_eq_true (by kernel_rfl)))
  clear hall hC ha bb_0 hD_0 e0_0 e2_0 R_0
  repeat (first | refine wp_seq ?_ | (refine wp_skip ?_; refine then_n ?_))
  refine wp_region_law hN_1 w.heap.size
    [kIs (.bool false), kIs (.bool true)]
    [ [], [(0, some 14)] ]
    [(0, some 14), (1, some 15)] [] [] (by kernel_rfl) (by kernel_rfl) (by kernel_rfl) (by kernel_rfl) (by kernel_rfl) (by kernel_rfl) (by kernel_rfl) bb_1.size ?_ ?_
  ·
    refine pk_cons rfl rfl (st_pure [] [(6, .bool false)] (.bool false) rfl hN_1 (by kernel_rfl) (by kernel_rfl) (by kernel_rfl) (old1 e6_1) (by kernel_rfl) (by kernel_rfl) (by kernel_rfl) (fun _ => by kernel_rfl)) ?_
    refine pk_cons rfl rfl (st_pure [.bool false] [] (.bool true) rfl hN_1 (by kernel_rfl) (by kernel_rfl) (by kernel_rfl) old0 (by kernel_rfl) (by kernel_rfl) (by kernel_rfl) (fun _ => by kernel_rfl)) ?_
    exact pk_nil rfl
  intro W_2 x_ hC hall
  refine then_n ?_
  obtain ⟨a_2, ha⟩ : ∃ a, a = putE x_ a_1 [(0, some 14), (1, some 15)] := ⟨_, rfl⟩
  rw [← ha]
  have hN_2 := size_behind ha hN_1
  have hD_2 := defers_behind ha hD_1
  have bb_2 := bb_1.trans hC.below
  have e0_2 := slot_old ha (by kernel_rfl) e0_1
  have e2_2 := slot_old ha (by kernel_rfl) e2_1
  have e4_2 := slot_old ha (by kernel_rfl) e4_1
  have e5_2 := slot_old ha (by kernel_rfl) e5_1
  have e6_2 := slot_old ha (by kernel_rfl) e6_1
  have R_2 := hC.holds R_1
  have e15_2 := (slot_new (t := 15) (i := 1) ha hN_1 (by kernel_rfl) (by kernel_rfl)).trans (show x_ 1 = .bool true from hall 1 (of_decide_eq_true (by kernel_rfl)))
  clear hall hC ha bb_1 hD_1 e0_1 e2_1 e4_1 e5_1 e6_1 R_1
  refine wp_cond_true e15_2 ?_
  repeat (first | refine wp_seq ?_ | (refine wp_skip ?_; refine then_n ?_))
  refine wp_region_law hN_2 w.heap.size
    [kIs (.string ⟨#[49]⟩)]
    [ [] ]
    [(0, some 5)] [] [] (by kernel_rfl) (by kernel_rfl) (by kernel_rfl) (by kernel_rfl) (by kernel_rfl) (by kernel_rfl) (by kernel_rfl) bb_2.size ?_ ?_
  ·
    refine pk_cons rfl rfl (st_pure [] [] (.string ⟨#[49]⟩) rfl hN_2 (by kernel_rfl) (by kernel_rfl) (by kernel_rfl) old0 (by kernel_rfl) (by kernel_rfl) (by kernel_rfl) (fun _ => by kernel_rfl)) ?_
    exact pk_nil rfl
  intro W_3 x_ hC hall
  refine then_n ?_
  obtain ⟨a_3, ha⟩ : ∃ a, a = putE x_ a_2 [(0, some 5)] := ⟨_, rfl⟩
  rw [← ha]
  have hN_3 := size_behind ha hN_2
  have hD_3 := defers_behind ha hD_2
  have bb_3 := bb_2.trans hC.below
  have e0_3 := slot_old ha (by kernel_rfl) e0_2
  have e2_3 := slot_old ha (by kernel_rfl) e2_2
  have e4_3 := slot_old ha (by kernel_rfl) e4_2
  have e6_3 := slot_old ha (by kernel_rfl) e6_2
  have e15_3 := slot_old ha (by kernel_rfl) e15_2
  have R_3 := hC.holds R_2
  have e5_3 := (slot_new (t := 5) (i := 0) ha hN_2 (by kernel_rfl) (by kernel_rfl)).trans (show x_ 0 = .string ⟨#[49]⟩ from hall 0 (of_decide_eq_true (by kernel_rfl)))
  clear hall hC ha bb_2 hD_2 e0_2 e2_2 e4_2 e6_2 e15_2 R_2
  repeat (first | refine wp_seq ?_ | (refine wp_skip ?_; refine then_n ?_))
  refine wp_region_law hN_3 w.heap.size [PK.fresh 4] [ [] ] [(0, some 7)] [] [] (by kernel_rfl) (by kernel_rfl) (by kernel_rfl) (by kernel_rfl) (by kernel_rfl) (by kernel_rfl) (by kernel_rfl) bb_3.size ?_ ?_
  · refine pk_cons rfl rfl (st_allocP hN_3 (by kernel_rfl) (Nat.le_refl _) rfl) ?_
    exact pk_nil rfl
  intro W_4 x_ hC hall
  refine then_n ?_
  obtain ⟨a_4, ha⟩ : ∃ a, a = putE x_ a_3 [(0, some 7)] := ⟨_, rfl⟩
  rw [← ha]
  have hN_4 := size_behind ha hN_3
  have hD_4 := defers_behind ha hD_3
  have bb_4 := bb_3.trans hC.below
  have e0_4 := slot_old ha (by kernel_rfl) e0_3
  have e2_4 := slot_old ha (by kernel_rfl) e2_3
  have e4_4 := slot_old ha (by kernel_rfl) e4_3
  have e6_4 := slot_old ha (by kernel_rfl) e6_3
  have e15_4 := slot_old ha (by kernel_rfl) e15_3
  have e5_4 := slot_old ha (by kernel_rfl) e5_3
  have R_4 := hC.holds R_3
  obtain ⟨g7, cs, hx, hge, P_4, hsz⟩ := (show (PK.fresh 4).sem _ _ _ _ from hall 0 (of_decide_eq_true (by kernel_rfl)))
  obtain ⟨qa, qb, qc, qd, rfl⟩ := size_four hsz
  have e7_4 := (slot_new (t := 7) (i := 0) ha hN_3 (by kernel_rfl) (by kernel_rfl)).trans hx
  have d7 := Nat.lt_of_lt_of_le R_3.lt hge
  clear hall hC ha hx hge hsz
  repeat (first | refine wp_seq ?_ | (refine wp_skip ?_; refine then_n ?_))
  refine wp_region_keep hN_4 w.heap.size g7 P_4 (by omega) 6 [6]
    [kIs (.string A), kZB 19 (x) okA, kZB 19 (x) okA, kZ 19 (x), kIs (.bool okA), kIs (.pointer (some ⟨g7, 0, none⟩)), kLo g7 19 (x) qc qd]
    [ [], [(0, some 17)], [(1, some 18)], [(2, some 16)], [(2, some 16)], [], [(5, some 21), (3, some 19)] ]
    [(0, some 17), (1, some 18), (2, some 16), (3, some 19), (4, some 20), (5, some 21), (6, none)] [] [] (by kernel_rfl) (by kernel_rfl) (by kernel_rfl) (by kernel_rfl) (by kernel_rfl) (by kernel_rfl) (by kernel_rfl) rfl (by kernel_rfl) bb_4.size ?_ ?_
  ·
    refine pkl_cons rfl rfl (st_pure [] [(4, .string A)] (.string A) rfl hN_4 (by kernel_rfl) (by kernel_rfl) (by kernel_rfl) (old1 e4_4) (by kernel_rfl) (by kernel_rfl) (by kernel_rfl) (fun _ => by kernel_rfl)) ?_
    refine pkl_cons rfl rfl (st_call1 hN_4 (by kernel_rfl) (by kernel_rfl) (by kernel_rfl) rfl rfl fun w x v1 hC h1 => called_at h1 (HA.out _)) ?_
    refine pkl_cons rfl rfl (st_move hN_4 (by kernel_rfl) (by kernel_rfl) rfl rfl) ?_
    refine pkl_cons rfl rfl (st_ext hN_4 (by kernel_rfl) (by kernel_rfl) rfl rfl ext_z) ?_
    refine pkl_cons rfl rfl (st_ext hN_4 (by kernel_rfl) (by kernel_rfl) rfl rfl ext_ok) ?_
    refine pkl_cons rfl rfl (st_pure [] [(7, .pointer (some ⟨g7, 0, none⟩))] (.pointer (some ⟨g7, 0, none⟩)) rfl hN_4 (by kernel_rfl) (by kernel_rfl) (by kernel_rfl) (old1 e7_4) (by kernel_rfl) (by kernel_rfl) (by kernel_rfl) (fun _ => by kernel_rfl)) ?_
    refine pkl_keep rfl rfl rfl ?_ ?_
    · exact st_lo P_4 hN_4 (by kernel_rfl) (by kernel_rfl) (by kernel_rfl) rfl rfl rfl
    exact pkl_nil rfl
  intro W_5 x_ hC hall
  refine then_n ?_
  obtain ⟨a_5, ha⟩ : ∃ a, a = putE x_ a_4 [(0, some 17), (1, some 18), (2, some 16), (3, some 19), (4, some 20), (5, some 21), (6, none)] := ⟨_, rfl⟩
  rw [← ha]
  have hN_5 := size_behind ha hN_4
  have hD_5 := defers_behind ha hD_4
  have bb_5 := bb_4.trans hC.below
  have e0_5 := slot_old ha (by kernel_rfl) e0_4
  have e2_5 := slot_old ha (by kernel_rfl) e2_4
  have e4_5 := slot_old ha (by kernel_rfl) e4_4
  have e6_5 := slot_old ha (by kernel_rfl) e6_4
  have e15_5 := slot_old ha (by kernel_rfl) e15_4
  have e5_5 := slot_old ha (by kernel_rfl) e5_4
  have e7_5 := slot_old ha (by kernel_rfl) e7_4
  have R_5 := hC.holdsG (by simp only [List.mem_singleton]; omega) R_4
  obtain ⟨_, P_5, A5, l5, c5, rfl, Z_5⟩ := (show (kLo g7 19 (x) qc qd).sem _ _ _ _ from hall 6 (of_decide_eq_true (by kernel_rfl)))
  clear hall hC ha
  repeat (first | refine wp_seq ?_ | (refine wp_skip ?_; refine then_n ?_))
  refine wp_region_keep hN_5 w.heap.size g7 P_5 (by omega) 6 [6]
    [kIs (.string ⟨#[49]⟩), kZB 19 (y) okB, kZB 19 (y) okB, kZ 19 (y), kIs (.bool okB), kIs (.pointer (some ⟨g7, 2, none⟩)), kRes g7 19 (x) (y)]
    [ [], [(0, some 23)], [(1, some 24)], [(2, some 22)], [(2, some 22)], [], [(5, some 27), (3, some 25)] ]
    [(0, some 23), (1, some 24), (2, some 22), (3, some 25), (4, some 26), (5, some 27), (6, none)] [] [] (by kernel_rfl) (by kernel_rfl) (by kernel_rfl) (by kernel_rfl) (by kernel_rfl) (by kernel_rfl) (by kernel_rfl) rfl (by kernel_rfl) bb_5.size ?_ ?_
  ·
    refine pkl_cons rfl rfl (st_pure [] [(5, .string ⟨#[49]⟩)] (.string ⟨#[49]⟩) rfl hN_5 (by kernel_rfl) (by kernel_rfl) (by kernel_rfl) (old1 e5_5) (by kernel_rfl) (by kernel_rfl) (by kernel_rfl) (fun _ => by kernel_rfl)) ?_
    refine pkl_cons rfl rfl (st_call1 hN_5 (by kernel_rfl) (by kernel_rfl) (by kernel_rfl) rfl rfl fun w x v1 hC h1 => called_at h1 (HB.out _)) ?_
    refine pkl_cons rfl rfl (st_move hN_5 (by kernel_rfl) (by kernel_rfl) rfl rfl) ?_
    refine pkl_cons rfl rfl (st_ext hN_5 (by kernel_rfl) (by kernel_rfl) rfl rfl ext_z) ?_
    refine pkl_cons rfl rfl (st_ext hN_5 (by kernel_rfl) (by kernel_rfl) rfl rfl ext_ok) ?_
    refine pkl_cons rfl rfl (st_pure [] [(7, .pointer (some ⟨g7, 0, none⟩))] (.pointer (some ⟨g7, 2, none⟩)) rfl hN_5 (by kernel_rfl) (by kernel_rfl) (by kernel_rfl) (old1 e7_5) (by kernel_rfl) (by kernel_rfl) (by kernel_rfl) (fun _ => by kernel_rfl)) ?_
    refine pkl_keep rfl rfl rfl ?_ ?_
    · exact st_hi P_5 Z_5 hN_5 (by kernel_rfl) (by kernel_rfl) (by kernel_rfl) rfl rfl rfl
    exact pkl_nil rfl
  intro W_6 x_ hC hall
  refine then_n ?_
  obtain ⟨a_6, ha⟩ : ∃ a, a = putE x_ a_5 [(0, some 23), (1, some 24), (2, some 22), (3, some 25), (4, some 26), (5, some 27), (6, none)] := ⟨_, rfl⟩
  rw [← ha]
  have hN_6 := size_behind ha hN_5
  have hD_6 := defers_behind ha hD_5
  have bb_6 := bb_5.trans hC.below
  have e0_6 := slot_old ha (by kernel_rfl) e0_5
  have e2_6 := slot_old ha (by kernel_rfl) e2_5
  have e4_6 := slot_old ha (by kernel_rfl) e4_5
  have e6_6 := slot_old ha (by kernel_rfl) e6_5
  have e15_6 := slot_old ha (by kernel_rfl) e15_5
  have e5_6 := slot_old ha (by kernel_rfl) e5_5
  have e7_6 := slot_old ha (by kernel_rfl) e7_5
  have R_6 := hC.holdsG (by simp only [List.mem_singleton]; omega) R_5
  obtain ⟨f7_6, f7'_6⟩ := res_atP (show (kRes g7 19 (x) (y)).sem _ _ _ _ from hall 6 (of_decide_eq_true (by kernel_rfl)))
  clear hall hC ha
  repeat (first | refine wp_seq ?_ | (refine wp_skip ?_; refine then_n ?_))
  refine wp_region_law hN_6 w.heap.size
    [kP 19 (x) (y), kIs (.string (t)), kIs (.string s), kIs (.bool false)]
    [ [], [(0, some 28)], [], [(1, some 29), (2, some 30)] ]
    [(0, some 28), (1, some 29), (2, some 30), (3, some 31)] [] [] (by kernel_rfl) (by kernel_rfl) (by kernel_rfl) (by kernel_rfl) (by kernel_rfl) (by kernel_rfl) (by kernel_rfl) bb_6.size ?_ ?_
  ·
    refine pk_cons rfl rfl (st_load4P f7_6 f7'_6 (by simp) e7_6 hN_6 (by kernel_rfl) rfl) ?_
    refine pk_cons rfl rfl (st_call1 hN_6 (by kernel_rfl) (by kernel_rfl) (by kernel_rfl) rfl rfl fun w x v1 hC h1 => ti (HX.out _ _ (bb_6.trans hC.below) h1)) ?_
    refine pk_cons rfl rfl (st_pure [] [(0, .string s)] (.string s) rfl hN_6 (by kernel_rfl) (by kernel_rfl) (by kernel_rfl) (old1 e0_6) (by kernel_rfl) (by kernel_rfl) (by kernel_rfl) (fun _ => by kernel_rfl)) ?_
    refine pk_cons rfl rfl (st_pureV [.string (t), .string s] [] (.bool (!((t).toList == (s).toList))) (.bool false) (congrArg Value.bool (by rw [hne]; rfl)) rfl hN_6 (by kernel_rfl) (by kernel_rfl) (by kernel_rfl) old0 (by kernel_rfl) (by kernel_rfl) (by kernel_rfl) (fun _ => by kernel_rfl)) ?_
    exact pk_nil rfl
  intro W_7 x_ hC hall
  refine then_n ?_
  obtain ⟨a_7, ha⟩ : ∃ a, a = putE x_ a_6 [(0, some 28), (1, some 29), (2, some 30), (3, some 31)] := ⟨_, rfl⟩
  rw [← ha]
  have hN_7 := size_behind ha hN_6
  have hD_7 := defers_behind ha hD_6
  have bb_7 := bb_6.trans hC.below
  have e0_7 := slot_old ha (by kernel_rfl) e0_6
  have e2_7 := slot_old ha (by kernel_rfl) e2_6
  have e4_7 := slot_old ha (by kernel_rfl) e4_6
  have e6_7 := slot_old ha (by kernel_rfl) e6_6
  have e15_7 := slot_old ha (by kernel_rfl) e15_6
  have e5_7 := slot_old ha (by kernel_rfl) e5_6
  have e7_7 := slot_old ha (by kernel_rfl) e7_6
  have R_7 := hC.holds R_6
  have f7_7 := hC.at0 f7_6
  have f7'_7 := hC.at0 f7'_6
  have e31_7 := (slot_new (t := 31) (i := 3) ha hN_6 (by kernel_rfl) (by kernel_rfl)).trans (show x_ 3 = .bool false from hall 3 (of_decide_eq_true (by kernel_rfl)))
  clear hall hC ha bb_6 hD_6 e0_6 e2_6 e4_6 e6_6 e15_6 e5_6 e7_6 R_6 f7_6 f7'_6
  refine wp_cond_false e31_7 ?_
  repeat (first | refine wp_seq ?_ | (refine wp_skip ?_; refine then_n ?_))
  refine wp_region_res hN_7 w.heap.size (w.heap.size) R_7 (by omega)
    [kP 19 (x) (y), kRes (w.heap.size) 19 (x) (y), kIs (.bool true)]
    [ [], [(0, some 34)], [] ]
    [(0, some 34), (1, none), (2, some 3)] [] [] (by kernel_rfl) (by kernel_rfl) (by kernel_rfl) (by kernel_rfl) (by kernel_rfl) (by kernel_rfl) (by kernel_rfl) bb_7.size ?_ ?_
  ·
    refine pk_cons rfl rfl (st_load4P f7_7 f7'_7 (by simp only [List.mem_singleton]; omega) e7_7 hN_7 (by kernel_rfl) rfl) ?_
    refine pk_cons rfl rfl (st_resP R_7 rfl (by simp) e2_7 hN_7 (by kernel_rfl) (by kernel_rfl) rfl rfl) ?_
    refine pk_cons rfl rfl (st_pure [] [] (.bool true) rfl hN_7 (by kernel_rfl) (by kernel_rfl) (by kernel_rfl) old0 (by kernel_rfl) (by kernel_rfl) (by kernel_rfl) (fun _ => by kernel_rfl)) ?_
    exact pk_nil rfl
  intro W x_ hC hall
  refine then_n ?_
  obtain ⟨a1, ha⟩ : ∃ a, a = putE x_ a_7 [(0, some 34), (1, none), (2, some 3)] := ⟨_, rfl⟩
  rw [← ha]
  have hD1 := defers_behind ha hD_7
  have bb1 := bb_7.trans hC.below
  obtain ⟨cs, hg, hP⟩ := (show (kRes (w.heap.size) 19 (x) (y)).sem _ _ _ _ from hall 1 (of_decide_eq_true (by kernel_rfl)))
  have e1 := slot_old (t := 2) ha (by kernel_rfl) e2_7
  have e2 := (slot_new (t := 3) (i := 2) ha hN_7 (by kernel_rfl) (by kernel_rfl)).trans (show x_ 2 = .bool true from hall 2 (of_decide_eq_true (by kernel_rfl)))
  repeat (first | refine wp_seq ?_ | (refine wp_skip ?_; refine then_n ?_))
  refine wp_ret ?_
  repeat (refine then_r ?_)
  exact ret_cellP2 (t := 2) (u := 3) rfl hD1 e1 e2 hg hP fun v hv => ⟨v, rfl, hv, bb1⟩
set_option maxRecDepth 100000 in
set_option maxHeartbeats 8000000 in
theorem parse_whole_no {w : World} {s A B t : ByteArray} {x y : Int} {okA okB : Bool} (hc : CutIs s A B false) (hs : s.size ≤ 1000000) (HM : Hid (∀ W, Below w.heap.size w W → MaxL W))
    (HA : Hid (∀ (W : World) {S0 : Nat} {x_ : Nat → Value}, Calls Tryz.prog 25 #[.string A] W (Told (kZB 19 (x) okA) S0 x_ W))) (HB : Hid (∀ (W : World) {S0 : Nat} {x_ : Nat → Value}, Calls Tryz.prog 25 #[.string (⟨#[49]⟩)] W (Told (kZB 19 (y) okB) S0 x_ W)))
    (HX : Hid (∀ (W : World) (v : Value), Below w.heap.size w W → Pr W v 19 (x) (y) → Calls Tryz.prog 21 #[v] W fun e w' => e = .returned (.string (t)) ∧ Below W.heap.size W w')) (hne : ((t).toList == (s).toList) = false) :
    Calls Tryz.prog 7 #[.string s] w fun e w' => ∃ v, e = .returned (.tuple #[v, .bool false]) ∧ Pr w' v 9 (0) (1) ∧ Below w.heap.size w w' := by
  have hm0 := HM.out w (Below.refl _ _)
  have hcell := hm0
  go_enter Tryz.func7, Tryz.ntmps7
  repeat (refine wp_seq ?_)
  refine region_k ?_
  intro K hK
  have HK := Lib.hid hK
  clear hK
  go_wp2
  refine HK.out _ _ ?_
  clear HK
  refine then_n ?_
  obtain ⟨W_0, hW⟩ : ∃ W, W = w.alloc (Obj.cells #[Value.bool false, Value.slice none 0 0, Value.bool false, Value.slice none 0 0] 27) := ⟨_, rfl⟩
  have bb_0 : Below w.heap.size w W_0 := by rw [hW]; exact bal (Below.refl _ _) _
  have K0 : W_0.heap[w.heap.size]? = some (Obj.cells #[Value.bool false, Value.slice none 0 0, Value.bool false, Value.slice none 0 0] 27) := by rw [hW]; exact new_at (by simp)
  rw [← hW]
  have R_0 : Holds_ W_0 (w.heap.size) #[Value.bool false, Value.slice none 0 0, Value.bool false, Value.slice none 0 0] := ⟨⟨_, K0⟩, by simp [noDig]⟩
  clear hW K0 hcell
  refine name_frame (G := fun a => Code.wp _ _ _ a _) ?_
  intro a_0 ha
  have hN_0 : a_0.tmps.size = 35 := by subst ha; kernel_rfl
  have hD_0 : a_0.defers = [] := by subst ha; rfl
  have e0_0 : a_0.eval (.tmp 0) = .string s := by subst ha; kernel_rfl
  have e2_0 : a_0.eval (.tmp 2) = .pointer (some ⟨w.heap.size, 0, none⟩) := by subst ha; kernel_rfl
  clear ha
  repeat (first | refine wp_seq ?_ | (refine wp_skip ?_; refine then_n ?_))
  refine wp_region_law hN_0 w.heap.size
    [kIs (.string s), kIs (.tuple #[.string A, .string B, .bool false]), kIs (.tuple #[.string A, .string B, .bool false]), kIs (.string A), kIs (.string B), kIs (.bool false), kIs (.string A), kIs (.string B), kIs (.bool false)]
    [ [], [(0, some 9)], [(1, some 10)], [(2, some 8)], [(2, some 8)], [(2, some 8)], [(3, some 11)], [(4, some 12)], [(5, some 13)] ]
    [(0, some 9), (1, some 10), (2, some 8), (3, some 11), (4, some 12), (5, some 13), (6, some 4), (7, some 5), (8, some 6)] [] [] (by kernel_rfl) (by kernel_rfl) (by kernel_rfl) (by kernel_rfl) (by kernel_rfl) (by kernel_rfl) (by kernel_rfl) bb_0.size ?_ ?_
  ·
    refine pk_cons rfl rfl (st_pure [] [(0, .string s)] (.string s) rfl hN_0 (by kernel_rfl) (by kernel_rfl) (by kernel_rfl) (old1 e0_0) (by kernel_rfl) (by kernel_rfl) (by kernel_rfl) (fun _ => by kernel_rfl)) ?_
    refine pk_cons rfl rfl (st_callC hN_0 (by kernel_rfl) (by kernel_rfl) (by kernel_rfl) rfl rfl fun w x v1 hC h1 => ti (cut_told hc hs h1 (HM.out _ (bb_0.trans hC.below)))) ?_
    refine pk_cons rfl rfl (st_pure [.tuple #[.string A, .string B, .bool false]] [] (.tuple #[.string A, .string B, .bool false]) rfl hN_0 (by kernel_rfl) (by kernel_rfl) (by kernel_rfl) old0 (by kernel_rfl) (by kernel_rfl) (by kernel_rfl) (fun _ => by kernel_rfl)) ?_
    refine pk_cons rfl rfl (st_pure [.tuple #[.string A, .string B, .bool false]] [] (.string A) rfl hN_0 (by kernel_rfl) (by kernel_rfl) (by kernel_rfl) old0 (by kernel_rfl) (by kernel_rfl) (by kernel_rfl) (fun _ => by kernel_rfl)) ?_
    refine pk_cons rfl rfl (st_pure [.tuple #[.string A, .string B, .bool false]] [] (.string B) rfl hN_0 (by kernel_rfl) (by kernel_rfl) (by kernel_rfl) old0 (by kernel_rfl) (by kernel_rfl) (by kernel_rfl) (fun _ => by kernel_rfl)) ?_
    refine pk_cons rfl rfl (st_pure [.tuple #[.string A, .string B, .bool false]] [] (.bool false) rfl hN_0 (by kernel_rfl) (by kernel_rfl) (by kernel_rfl) old0 (by kernel_rfl) (by kernel_rfl) (by kernel_rfl) (fun _ => by kernel_rfl)) ?_
    refine pk_cons rfl rfl (st_pure [.string A] [] (.string A) rfl hN_0 (by kernel_rfl) (by kernel_rfl) (by kernel_rfl) old0 (by kernel_rfl) (by kernel_rfl) (by kernel_rfl) (fun _ => by kernel_rfl)) ?_
    refine pk_cons rfl rfl (st_pure [.string B] [] (.string B) rfl hN_0 (by kernel_rfl) (by kernel_rfl) (by kernel_rfl) old0 (by kernel_rfl) (by kernel_rfl) (by kernel_rfl) (fun _ => by kernel_rfl)) ?_
    refine pk_cons rfl rfl (st_pure [.bool false] [] (.bool false) rfl hN_0 (by kernel_rfl) (by kernel_rfl) (by kernel_rfl) old0 (by kernel_rfl) (by kernel_rfl) (by kernel_rfl) (fun _ => by kernel_rfl)) ?_
    exact pk_nil rfl
  intro W_1 x_ hC hall
  refine then_n ?_
  obtain ⟨a_1, ha⟩ : ∃ a, a = putE x_ a_0 [(0, some 9), (1, some 10), (2, some 8), (3, some 11), (4, some 12), (5, some 13), (6, some 4), (7, some 5), (8, some 6)] := ⟨_, rfl⟩
  rw [← ha]
  have hN_1 := size_behind ha hN_0
  have hD_1 := defers_behind ha hD_0
  have bb_1 := bb_0.trans hC.below
  have e0_1 := slot_old ha (by kernel_rfl) e0_0
  have e2_1 := slot_old ha (by kernel_rfl) e2_0
  have R_1 := hC.holds R_0
  have e4_1 := (slot_new (t := 4) (i := 6) ha hN_0 (by kernel_rfl) (by kernel_rfl)).trans (show x_ 6 = .string A from hall 6 (of_decide_eq_true (by kernel_rfl)))
  have e5_1 := (slot_new (t := 5) (i := 7) ha hN_0 (by kernel_rfl) (by kernel_rfl)).trans (show x_ 7 = .string B from hall 7 (of_decide_eq_true (by kernel_rfl)))
  have e6_1 := (slot_new (t := 6) (i := 8) ha hN_0 (by kernel_rfl) (by kernel_rfl)).trans (show x_ 8 = .bool false from hall 8 (of_decide_eq_true (by kernel_rfl)))
  clear hall hC ha bb_0 hD_0 e0_0 e2_0 R_0
  repeat (first | refine wp_seq ?_ | (refine wp_skip ?_; refine then_n ?_))
  refine wp_region_law hN_1 w.heap.size
    [kIs (.bool false), kIs (.bool true)]
    [ [], [(0, some 14)] ]
    [(0, some 14), (1, some 15)] [] [] (by kernel_rfl) (by kernel_rfl) (by kernel_rfl) (by kernel_rfl) (by kernel_rfl) (by kernel_rfl) (by kernel_rfl) bb_1.size ?_ ?_
  ·
    refine pk_cons rfl rfl (st_pure [] [(6, .bool false)] (.bool false) rfl hN_1 (by kernel_rfl) (by kernel_rfl) (by kernel_rfl) (old1 e6_1) (by kernel_rfl) (by kernel_rfl) (by kernel_rfl) (fun _ => by kernel_rfl)) ?_
    refine pk_cons rfl rfl (st_pure [.bool false] [] (.bool true) rfl hN_1 (by kernel_rfl) (by kernel_rfl) (by kernel_rfl) old0 (by kernel_rfl) (by kernel_rfl) (by kernel_rfl) (fun _ => by kernel_rfl)) ?_
    exact pk_nil rfl
  intro W_2 x_ hC hall
  refine then_n ?_
  obtain ⟨a_2, ha⟩ : ∃ a, a = putE x_ a_1 [(0, some 14), (1, some 15)] := ⟨_, rfl⟩
  rw [← ha]
  have hN_2 := size_behind ha hN_1
  have hD_2 := defers_behind ha hD_1
  have bb_2 := bb_1.trans hC.below
  have e0_2 := slot_old ha (by kernel_rfl) e0_1
  have e2_2 := slot_old ha (by kernel_rfl) e2_1
  have e4_2 := slot_old ha (by kernel_rfl) e4_1
  have e5_2 := slot_old ha (by kernel_rfl) e5_1
  have e6_2 := slot_old ha (by kernel_rfl) e6_1
  have R_2 := hC.holds R_1
  have e15_2 := (slot_new (t := 15) (i := 1) ha hN_1 (by kernel_rfl) (by kernel_rfl)).trans (show x_ 1 = .bool true from hall 1 (of_decide_eq_true (by kernel_rfl)))
  clear hall hC ha bb_1 hD_1 e0_1 e2_1 e4_1 e5_1 e6_1 R_1
  refine wp_cond_true e15_2 ?_
  repeat (first | refine wp_seq ?_ | (refine wp_skip ?_; refine then_n ?_))
  refine wp_region_law hN_2 w.heap.size
    [kIs (.string ⟨#[49]⟩)]
    [ [] ]
    [(0, some 5)] [] [] (by kernel_rfl) (by kernel_rfl) (by kernel_rfl) (by kernel_rfl) (by kernel_rfl) (by kernel_rfl) (by kernel_rfl) bb_2.size ?_ ?_
  ·
    refine pk_cons rfl rfl (st_pure [] [] (.string ⟨#[49]⟩) rfl hN_2 (by kernel_rfl) (by kernel_rfl) (by kernel_rfl) old0 (by kernel_rfl) (by kernel_rfl) (by kernel_rfl) (fun _ => by kernel_rfl)) ?_
    exact pk_nil rfl
  intro W_3 x_ hC hall
  refine then_n ?_
  obtain ⟨a_3, ha⟩ : ∃ a, a = putE x_ a_2 [(0, some 5)] := ⟨_, rfl⟩
  rw [← ha]
  have hN_3 := size_behind ha hN_2
  have hD_3 := defers_behind ha hD_2
  have bb_3 := bb_2.trans hC.below
  have e0_3 := slot_old ha (by kernel_rfl) e0_2
  have e2_3 := slot_old ha (by kernel_rfl) e2_2
  have e4_3 := slot_old ha (by kernel_rfl) e4_2
  have e6_3 := slot_old ha (by kernel_rfl) e6_2
  have e15_3 := slot_old ha (by kernel_rfl) e15_2
  have R_3 := hC.holds R_2
  have e5_3 := (slot_new (t := 5) (i := 0) ha hN_2 (by kernel_rfl) (by kernel_rfl)).trans (show x_ 0 = .string ⟨#[49]⟩ from hall 0 (of_decide_eq_true (by kernel_rfl)))
  clear hall hC ha bb_2 hD_2 e0_2 e2_2 e4_2 e6_2 e15_2 R_2
  repeat (first | refine wp_seq ?_ | (refine wp_skip ?_; refine then_n ?_))
  refine wp_region_law hN_3 w.heap.size [PK.fresh 4] [ [] ] [(0, some 7)] [] [] (by kernel_rfl) (by kernel_rfl) (by kernel_rfl) (by kernel_rfl) (by kernel_rfl) (by kernel_rfl) (by kernel_rfl) bb_3.size ?_ ?_
  · refine pk_cons rfl rfl (st_allocP hN_3 (by kernel_rfl) (Nat.le_refl _) rfl) ?_
    exact pk_nil rfl
  intro W_4 x_ hC hall
  refine then_n ?_
  obtain ⟨a_4, ha⟩ : ∃ a, a = putE x_ a_3 [(0, some 7)] := ⟨_, rfl⟩
  rw [← ha]
  have hN_4 := size_behind ha hN_3
  have hD_4 := defers_behind ha hD_3
  have bb_4 := bb_3.trans hC.below
  have e0_4 := slot_old ha (by kernel_rfl) e0_3
  have e2_4 := slot_old ha (by kernel_rfl) e2_3
  have e4_4 := slot_old ha (by kernel_rfl) e4_3
  have e6_4 := slot_old ha (by kernel_rfl) e6_3
  have e15_4 := slot_old ha (by kernel_rfl) e15_3
  have e5_4 := slot_old ha (by kernel_rfl) e5_3
  have R_4 := hC.holds R_3
  obtain ⟨g7, cs, hx, hge, P_4, hsz⟩ := (show (PK.fresh 4).sem _ _ _ _ from hall 0 (of_decide_eq_true (by kernel_rfl)))
  obtain ⟨qa, qb, qc, qd, rfl⟩ := size_four hsz
  have e7_4 := (slot_new (t := 7) (i := 0) ha hN_3 (by kernel_rfl) (by kernel_rfl)).trans hx
  have d7 := Nat.lt_of_lt_of_le R_3.lt hge
  clear hall hC ha hx hge hsz
  repeat (first | refine wp_seq ?_ | (refine wp_skip ?_; refine then_n ?_))
  refine wp_region_keep hN_4 w.heap.size g7 P_4 (by omega) 6 [6]
    [kIs (.string A), kZB 19 (x) okA, kZB 19 (x) okA, kZ 19 (x), kIs (.bool okA), kIs (.pointer (some ⟨g7, 0, none⟩)), kLo g7 19 (x) qc qd]
    [ [], [(0, some 17)], [(1, some 18)], [(2, some 16)], [(2, some 16)], [], [(5, some 21), (3, some 19)] ]
    [(0, some 17), (1, some 18), (2, some 16), (3, some 19), (4, some 20), (5, some 21), (6, none)] [] [] (by kernel_rfl) (by kernel_rfl) (by kernel_rfl) (by kernel_rfl) (by kernel_rfl) (by kernel_rfl) (by kernel_rfl) rfl (by kernel_rfl) bb_4.size ?_ ?_
  ·
    refine pkl_cons rfl rfl (st_pure [] [(4, .string A)] (.string A) rfl hN_4 (by kernel_rfl) (by kernel_rfl) (by kernel_rfl) (old1 e4_4) (by kernel_rfl) (by kernel_rfl) (by kernel_rfl) (fun _ => by kernel_rfl)) ?_
    refine pkl_cons rfl rfl (st_call1 hN_4 (by kernel_rfl) (by kernel_rfl) (by kernel_rfl) rfl rfl fun w x v1 hC h1 => called_at h1 (HA.out _)) ?_
    refine pkl_cons rfl rfl (st_move hN_4 (by kernel_rfl) (by kernel_rfl) rfl rfl) ?_
    refine pkl_cons rfl rfl (st_ext hN_4 (by kernel_rfl) (by kernel_rfl) rfl rfl ext_z) ?_
    refine pkl_cons rfl rfl (st_ext hN_4 (by kernel_rfl) (by kernel_rfl) rfl rfl ext_ok) ?_
    refine pkl_cons rfl rfl (st_pure [] [(7, .pointer (some ⟨g7, 0, none⟩))] (.pointer (some ⟨g7, 0, none⟩)) rfl hN_4 (by kernel_rfl) (by kernel_rfl) (by kernel_rfl) (old1 e7_4) (by kernel_rfl) (by kernel_rfl) (by kernel_rfl) (fun _ => by kernel_rfl)) ?_
    refine pkl_keep rfl rfl rfl ?_ ?_
    · exact st_lo P_4 hN_4 (by kernel_rfl) (by kernel_rfl) (by kernel_rfl) rfl rfl rfl
    exact pkl_nil rfl
  intro W_5 x_ hC hall
  refine then_n ?_
  obtain ⟨a_5, ha⟩ : ∃ a, a = putE x_ a_4 [(0, some 17), (1, some 18), (2, some 16), (3, some 19), (4, some 20), (5, some 21), (6, none)] := ⟨_, rfl⟩
  rw [← ha]
  have hN_5 := size_behind ha hN_4
  have hD_5 := defers_behind ha hD_4
  have bb_5 := bb_4.trans hC.below
  have e0_5 := slot_old ha (by kernel_rfl) e0_4
  have e2_5 := slot_old ha (by kernel_rfl) e2_4
  have e4_5 := slot_old ha (by kernel_rfl) e4_4
  have e6_5 := slot_old ha (by kernel_rfl) e6_4
  have e15_5 := slot_old ha (by kernel_rfl) e15_4
  have e5_5 := slot_old ha (by kernel_rfl) e5_4
  have e7_5 := slot_old ha (by kernel_rfl) e7_4
  have R_5 := hC.holdsG (by simp only [List.mem_singleton]; omega) R_4
  obtain ⟨_, P_5, A5, l5, c5, rfl, Z_5⟩ := (show (kLo g7 19 (x) qc qd).sem _ _ _ _ from hall 6 (of_decide_eq_true (by kernel_rfl)))
  clear hall hC ha
  repeat (first | refine wp_seq ?_ | (refine wp_skip ?_; refine then_n ?_))
  refine wp_region_keep hN_5 w.heap.size g7 P_5 (by omega) 6 [6]
    [kIs (.string ⟨#[49]⟩), kZB 19 (y) okB, kZB 19 (y) okB, kZ 19 (y), kIs (.bool okB), kIs (.pointer (some ⟨g7, 2, none⟩)), kRes g7 19 (x) (y)]
    [ [], [(0, some 23)], [(1, some 24)], [(2, some 22)], [(2, some 22)], [], [(5, some 27), (3, some 25)] ]
    [(0, some 23), (1, some 24), (2, some 22), (3, some 25), (4, some 26), (5, some 27), (6, none)] [] [] (by kernel_rfl) (by kernel_rfl) (by kernel_rfl) (by kernel_rfl) (by kernel_rfl) (by kernel_rfl) (by kernel_rfl) rfl (by kernel_rfl) bb_5.size ?_ ?_
  ·
    refine pkl_cons rfl rfl (st_pure [] [(5, .string ⟨#[49]⟩)] (.string ⟨#[49]⟩) rfl hN_5 (by kernel_rfl) (by kernel_rfl) (by kernel_rfl) (old1 e5_5) (by kernel_rfl) (by kernel_rfl) (by kernel_rfl) (fun _ => by kernel_rfl)) ?_
    refine pkl_cons rfl rfl (st_call1 hN_5 (by kernel_rfl) (by kernel_rfl) (by kernel_rfl) rfl rfl fun w x v1 hC h1 => called_at h1 (HB.out _)) ?_
    refine pkl_cons rfl rfl (st_move hN_5 (by kernel_rfl) (by kernel_rfl) rfl rfl) ?_
    refine pkl_cons rfl rfl (st_ext hN_5 (by kernel_rfl) (by kernel_rfl) rfl rfl ext_z) ?_
    refine pkl_cons rfl rfl (st_ext hN_5 (by kernel_rfl) (by kernel_rfl) rfl rfl ext_ok) ?_
    refine pkl_cons rfl rfl (st_pure [] [(7, .pointer (some ⟨g7, 0, none⟩))] (.pointer (some ⟨g7, 2, none⟩)) rfl hN_5 (by kernel_rfl) (by kernel_rfl) (by kernel_rfl) (old1 e7_5) (by kernel_rfl) (by kernel_rfl) (by kernel_rfl) (fun _ => by kernel_rfl)) ?_
    refine pkl_keep rfl rfl rfl ?_ ?_
    · exact st_hi P_5 Z_5 hN_5 (by kernel_rfl) (by kernel_rfl) (by kernel_rfl) rfl rfl rfl
    exact pkl_nil rfl
  intro W_6 x_ hC hall
  refine then_n ?_
  obtain ⟨a_6, ha⟩ : ∃ a, a = putE x_ a_5 [(0, some 23), (1, some 24), (2, some 22), (3, some 25), (4, some 26), (5, some 27), (6, none)] := ⟨_, rfl⟩
  rw [← ha]
  have hN_6 := size_behind ha hN_5
  have hD_6 := defers_behind ha hD_5
  have bb_6 := bb_5.trans hC.below
  have e0_6 := slot_old ha (by kernel_rfl) e0_5
  have e2_6 := slot_old ha (by kernel_rfl) e2_5
  have e4_6 := slot_old ha (by kernel_rfl) e4_5
  have e6_6 := slot_old ha (by kernel_rfl) e6_5
  have e15_6 := slot_old ha (by kernel_rfl) e15_5
  have e5_6 := slot_old ha (by kernel_rfl) e5_5
  have e7_6 := slot_old ha (by kernel_rfl) e7_5
  have R_6 := hC.holdsG (by simp only [List.mem_singleton]; omega) R_5
  obtain ⟨f7_6, f7'_6⟩ := res_atP (show (kRes g7 19 (x) (y)).sem _ _ _ _ from hall 6 (of_decide_eq_true (by kernel_rfl)))
  clear hall hC ha
  repeat (first | refine wp_seq ?_ | (refine wp_skip ?_; refine then_n ?_))
  refine wp_region_law hN_6 w.heap.size
    [kP 19 (x) (y), kIs (.string (t)), kIs (.string s), kIs (.bool true)]
    [ [], [(0, some 28)], [], [(1, some 29), (2, some 30)] ]
    [(0, some 28), (1, some 29), (2, some 30), (3, some 31)] [] [] (by kernel_rfl) (by kernel_rfl) (by kernel_rfl) (by kernel_rfl) (by kernel_rfl) (by kernel_rfl) (by kernel_rfl) bb_6.size ?_ ?_
  ·
    refine pk_cons rfl rfl (st_load4P f7_6 f7'_6 (by simp) e7_6 hN_6 (by kernel_rfl) rfl) ?_
    refine pk_cons rfl rfl (st_call1 hN_6 (by kernel_rfl) (by kernel_rfl) (by kernel_rfl) rfl rfl fun w x v1 hC h1 => ti (HX.out _ _ (bb_6.trans hC.below) h1)) ?_
    refine pk_cons rfl rfl (st_pure [] [(0, .string s)] (.string s) rfl hN_6 (by kernel_rfl) (by kernel_rfl) (by kernel_rfl) (old1 e0_6) (by kernel_rfl) (by kernel_rfl) (by kernel_rfl) (fun _ => by kernel_rfl)) ?_
    refine pk_cons rfl rfl (st_pureV [.string (t), .string s] [] (.bool (!((t).toList == (s).toList))) (.bool true) (congrArg Value.bool (by rw [hne]; rfl)) rfl hN_6 (by kernel_rfl) (by kernel_rfl) (by kernel_rfl) old0 (by kernel_rfl) (by kernel_rfl) (by kernel_rfl) (fun _ => by kernel_rfl)) ?_
    exact pk_nil rfl
  intro W_7 x_ hC hall
  refine then_n ?_
  obtain ⟨a_7, ha⟩ : ∃ a, a = putE x_ a_6 [(0, some 28), (1, some 29), (2, some 30), (3, some 31)] := ⟨_, rfl⟩
  rw [← ha]
  have hN_7 := size_behind ha hN_6
  have hD_7 := defers_behind ha hD_6
  have bb_7 := bb_6.trans hC.below
  have e0_7 := slot_old ha (by kernel_rfl) e0_6
  have e2_7 := slot_old ha (by kernel_rfl) e2_6
  have e4_7 := slot_old ha (by kernel_rfl) e4_6
  have e6_7 := slot_old ha (by kernel_rfl) e6_6
  have e15_7 := slot_old ha (by kernel_rfl) e15_6
  have e5_7 := slot_old ha (by kernel_rfl) e5_6
  have e7_7 := slot_old ha (by kernel_rfl) e7_6
  have R_7 := hC.holds R_6
  have f7_7 := hC.at0 f7_6
  have f7'_7 := hC.at0 f7'_6
  have e31_7 := (slot_new (t := 31) (i := 3) ha hN_6 (by kernel_rfl) (by kernel_rfl)).trans (show x_ 3 = .bool true from hall 3 (of_decide_eq_true (by kernel_rfl)))
  clear hall hC ha bb_6 hD_6 e0_6 e2_6 e4_6 e6_6 e15_6 e5_6 e7_6 R_6 f7_6 f7'_6
  refine wp_cond_true e31_7 ?_
  repeat (first | refine wp_seq ?_ | (refine wp_skip ?_; refine then_n ?_))
  refine wp_region_res hN_7 w.heap.size (w.heap.size) R_7 (by omega)
    [kP 9 (0) (1), kP 9 (0) (1), kRes (w.heap.size) 9 (0) (1), kIs (.bool false)]
    [ [], [(0, some 32)], [(1, some 33)], [] ]
    [(0, some 32), (1, some 33), (2, none), (3, some 3)] [] [] (by kernel_rfl) (by kernel_rfl) (by kernel_rfl) (by kernel_rfl) (by kernel_rfl) (by kernel_rfl) (by kernel_rfl) bb_7.size ?_ ?_
  ·
    refine pk_cons rfl rfl (st_call0 [] hN_7 (by kernel_rfl) (by kernel_rfl) rfl rfl fun w x hC => tp none_9) ?_
    refine pk_cons rfl rfl (st_fieldF hN_7 (by kernel_rfl) (by kernel_rfl) rfl rfl) ?_
    refine pk_cons rfl rfl (st_resP R_7 rfl (by simp) e2_7 hN_7 (by kernel_rfl) (by kernel_rfl) rfl rfl) ?_
    refine pk_cons rfl rfl (st_pure [] [] (.bool false) rfl hN_7 (by kernel_rfl) (by kernel_rfl) (by kernel_rfl) old0 (by kernel_rfl) (by kernel_rfl) (by kernel_rfl) (fun _ => by kernel_rfl)) ?_
    exact pk_nil rfl
  intro W x_ hC hall
  refine then_n ?_
  obtain ⟨a1, ha⟩ : ∃ a, a = putE x_ a_7 [(0, some 32), (1, some 33), (2, none), (3, some 3)] := ⟨_, rfl⟩
  rw [← ha]
  have hD1 := defers_behind ha hD_7
  have bb1 := bb_7.trans hC.below
  obtain ⟨cs, hg, hP⟩ := (show (kRes (w.heap.size) 9 (0) (1)).sem _ _ _ _ from hall 2 (of_decide_eq_true (by kernel_rfl)))
  have e1 := slot_old (t := 2) ha (by kernel_rfl) e2_7
  have e2 := (slot_new (t := 3) (i := 3) ha hN_7 (by kernel_rfl) (by kernel_rfl)).trans (show x_ 3 = .bool false from hall 3 (of_decide_eq_true (by kernel_rfl)))
  repeat (first | refine wp_seq ?_ | (refine wp_skip ?_; refine then_n ?_))
  refine wp_ret ?_
  repeat (refine then_r ?_)
  exact ret_cellP2 (t := 2) (u := 3) rfl hD1 e1 e2 hg hP fun v hv => ⟨v, rfl, hv, bb1⟩
end Go.Proofs.YthgclmkhmcfflaaGreatDoor
namespace Go.Proofs.YthgclmkhmcfflaaGreatDoor
open Go.RowKit
/-- A ratio and what is told with it. -/
def kPT (k : Nat) (x y : Int) (V : Value) : PK := .p (fun v w => ∃ a, v = .tuple #[a, V] ∧ Pr w a k x y) (fun _ _ _ ⟨a, h1, h2⟩ hb => ⟨a, h1, h2.below hb⟩) (fun _ _ _ _ ⟨a, h1, h2⟩ hs => ⟨a, h1, h2.stored hs⟩)
theorem tpt {P : Program} {F : FuncId} {vs : Array Value} {w : World} {S0 : Nat} {x : Nat → Value} {k : Nat} {z1 z2 : Int} {V : Value} (h : Calls P F vs w fun e w' => ∃ v, e = .returned (.tuple #[v, V]) ∧ Pr w' v k z1 z2 ∧ Below w.heap.size w w') : Calls P F vs w (Told (kPT k z1 z2 V) S0 x w) :=
  h.mono fun _ _ ⟨v, e, h1, h2⟩ => ⟨_, e, h2, v, rfl, h1⟩
theorem ext_p {S0 : Nat} {k : Nat} {z1 z2 : Int} {V : Value} : ∀ w x v, (kPT k z1 z2 V).sem S0 x v w → ∃ vs u, v = .tuple vs ∧ vs[0]? = some u ∧ (kP k z1 z2).move S0 x u w w ∧ (kP k z1 z2).sem S0 x u w := fun _ _ _ ⟨a, h1, h2⟩ => ⟨_, a, h1, rfl, Below.refl _ _, h2⟩
theorem ext_v {S0 : Nat} {k : Nat} {z1 z2 : Int} {V : Value} : ∀ w x v, (kPT k z1 z2 V).sem S0 x v w → ∃ vs u, v = .tuple vs ∧ vs[1]? = some u ∧ (kIs V).move S0 x u w w ∧ (kIs V).sem S0 x u w := fun _ _ _ ⟨_, h1, _⟩ => ⟨_, _, h1, rfl, Below.refl _ _, rfl⟩
theorem Text_9 {w : World} {v1 : Value} {a : Rat} (HT : Hid (Tab w ∧ 4 ≤ w.heap.size)) (h1 : Pr w v1 9 a.num (a.den : Int)) : Calls Tryz.prog 21 #[v1] w (fun e w' => e = .returned (.string (textQ a)) ∧ Below w.heap.size w w') := by
  by_cases h : a.den = 1
  · rw [textQ_one h]; exact Text_9w HT h h1
  · rw [textQ_more h]; exact Text_9b HT h h1
theorem Text_19 {w : World} {v1 : Value} {a : Rat} (HT : Hid (Tab w ∧ 4 ≤ w.heap.size)) (h1 : Pr w v1 19 a.num (a.den : Int)) : Calls Tryz.prog 21 #[v1] w (fun e w' => e = .returned (.string (textQ a)) ∧ Below w.heap.size w w') := by
  by_cases h : a.den = 1
  · rw [textQ_one h]; exact Text_19w HT h h1
  · rw [textQ_more h]; exact Text_19b HT h h1
theorem parse_z (z : Int) (hz : z.natAbs < 1000000000 ^ 19) (W : World) {S0 : Nat} {x : Nat → Value} : Calls Tryz.prog 25 #[.string (ztext z)] W (Told (kZB 19 z true) S0 x W) := parse_told 19 rfl hz (by decide)
theorem ztext_one : ztext 1 = ⟨#[49]⟩ := by decide +kernel
section
variable {G : List Nat} {S0 B : Nat} {ks : List PK} {a0 : Act} {i : Nat} {N : Nat} {W0 : World} {T : TypeId} {pos : String} {af : Array Edge} {gu : Option (Nat × Bool)}
end
/-- The chapter's example: 6 by -4. -/
def awQ : Rat := Rat.divInt 6 (-4)
theorem awQ_num : awQ.num = -3 := by decide +kernel
theorem awQ_den : awQ.den = 2 := by decide +kernel
theorem awQ_text : (textQ awQ).toList = (⟨#[45, 51, 47, 50]⟩ : ByteArray).toList := by
  rw [textQ_more (by rw [awQ_den]; decide), awQ_num, awQ_den]; decide +kernel
theorem ztext_six : ztext 6 = ⟨#[54]⟩ := by decide +kernel
theorem ztext_four : ztext 4 = ⟨#[52]⟩ := by decide +kernel
theorem parse_six {w : World} (HT : Hid (Tab w ∧ 4 ≤ w.heap.size)) (hm : MaxL w) :
    Calls Tryz.prog 7 #[.string ⟨#[54, 47, 52]⟩] w fun e w' => ∃ v, e = .returned (.tuple #[v, .bool false]) ∧ Pr w' v 9 0 1 ∧ Below w.heap.size w w' := by
  have HM : Hid (∀ W, Below w.heap.size w W → MaxL W) := Lib.hid fun W hW => hm.below hW
  have hno : ¬ (0 < (4 : Int) ∧ ((zgcd [((6 : Int)), ((4 : Int))] : Nat) : Int) = 1) := by decide
  have HX : Hid (∀ (W : World) (v : Value), Below w.heap.size w W → Pr W v 19 6 4 → Calls Tryz.prog 21 #[v] W fun e w' => e = .returned (.string (ztext ((0 : Rat).num))) ∧ Below W.heap.size W w') :=
    Lib.hid fun W v hW hv => Text_no_19 hno (Lib.hid ⟨HT.out.1.below hW HT.out.2, Nat.le_trans HT.out.2 hW.size⟩) hv
  have HA : Hid (∀ (W : World) {S0 : Nat} {x : Nat → Value}, Calls Tryz.prog 25 #[.string ⟨#[54]⟩] W (Told (kZB 19 6 true) S0 x W)) := Lib.hid fun W {S0} {x} => ztext_six ▸ parse_z 6 (by decide) W
  have HB : Hid (∀ (W : World) {S0 : Nat} {x : Nat → Value}, Calls Tryz.prog 25 #[.string ⟨#[52]⟩] W (Told (kZB 19 4 true) S0 x W)) := Lib.hid fun W {S0} {x} => ztext_four ▸ parse_z 4 (by decide) W
  exact parse_cut_no (s := ⟨#[54, 47, 52]⟩) (A := ⟨#[54]⟩) (B := ⟨#[52]⟩) ⟨[54], [52], by decide +kernel, rfl, rfl⟩ (by decide) HM HA HB HX (by decide +kernel)
theorem bytes_inj {x y : ByteArray} (h : x.toList = y.toList) : x = y := by
  rw [ByteArray.toList_eq, ByteArray.toList_eq] at h
  cases x; cases y
  simp at h
  rw [h]
theorem awQ_floor : zq awQ.num (awQ.den : Int) = -2 := by rw [awQ_num, awQ_den]; decide +kernel
theorem told_of6 {w : World} {v1 v2 : Value} (h1 : Zr w v1 1 (6 : Int)) (h2 : Zr w v2 1 (-4 : Int)) : Calls Tryz.prog 22 #[v1, v2] w (fun e w' => ∃ v, e = .returned (.tuple #[v, .int .i64 (0)]) ∧ Pr w' v 9 (awQ.num) ((awQ.den : Int)) ∧ Below w.heap.size w w') := Of_9 (by decide) (h1.mono (by decide)) (h2.mono (by decide))
end Go.Proofs.YthgclmkhmcfflaaGreatDoor
namespace Go.Proofs.YthgclmkhmcfflaaGreatDoor
open Go.RowKit
theorem add_at8 (g k : Nat) : (⟨g, 0, none⟩ : Addr).add k = ⟨g, k, none⟩ := by
  unfold Addr.add; split
  · rename_i h; subst h; rfl
  · simp
theorem dunique : ∀ {xs ys : List Nat}, dright xs → dright ys → dval xs = dval ys → xs = ys
  | [], ys, _, hy, h => by
    have := dlength_le hy (k := 0) (by rw [← h]; decide)
    exact (List.eq_nil_of_length_eq_zero (by omega)).symm
  | x :: xs, [], hx, _, h => by
    have := dlength_le hx (k := 0) (by rw [h]; decide)
    simp at this
  | x :: xs, y :: ys, hx, hy, h => by
    have tl : ∀ {a : Nat} {us : List Nat}, dright (a :: us) → dright us := fun {a us} h => by
      refine ⟨fun d hd => h.1 d (List.mem_cons_of_mem _ hd), ?_⟩
      rcases h.2 with h1 | h1
      · cases h1
      · cases us with
        | nil => exact .inl rfl
        | cons b bs => rw [List.getLast?_cons_cons] at h1; exact .inr h1
    have h1 := hx.1 x (List.mem_cons_self ..)
    have h2 := hy.1 y (List.mem_cons_self ..)
    simp only [dval] at h
    have e1 : x = y := by omega
    have e2 : dval xs = dval ys := by omega
    rw [e1, dunique (tl hx) (tl hy) e2]
theorem dgl_dright {n : Nat} (hn : 0 < n) : dright (dgl (Lib.decDigits n)) := by
  refine ⟨fun d hd => ?_, .inr ?_⟩
  · simp only [dgl, List.mem_reverse, List.mem_map] at hd
    obtain ⟨a, ⟨b, hb, rfl⟩, rfl⟩ := hd
    have := decDigits_digs n b hb
    omega
  · have h1 := decDigits_head n hn
    have h2 := decDigits_ne n
    rw [dgl, List.getLast?_reverse]
    cases hl : Lib.decDigits n with
    | nil => rw [hl] at h2; simp at h2
    | cons b bs =>
      rw [hl] at h1
      have h3 := decDigits_digs n b (by rw [hl]; exact List.mem_cons_self ..)
      simp at h1 ⊢
      omega
/-- The digits, the highest first, as bytes. -/
theorem digits_text {ds : List Nat} {n : Nat} (h : dright ds) (hv : dval ds = n) (hn : 0 < n) : ds.reverse.map (fun d => UInt8.ofNat (48 + d)) = Lib.decDigits n := by
  have e : ds = dgl (Lib.decDigits n) := dunique h (dgl_dright hn) (by rw [hv, dval_dgl])
  rw [e, dgl, List.reverse_reverse, List.map_map, List.map_map]
  have : ∀ b ∈ Lib.decDigits n, UInt8.ofNat (48 + (b.toNat - 48)) = b := fun b hb => by
    have h1 := decDigits_digs n b hb
    rw [show 48 + (b.toNat - 48) = b.toNat from by omega, UInt8.ofNat_toNat]
  rw [List.map_congr_left (g := id) (fun b hb => by simpa using this b hb), List.map_id]
set_option maxRecDepth 100000 in
set_option maxHeartbeats 1600000 in
theorem refText {w : World} {A : Option Addr} {c k : Nat} {xs : List Nat} (hr : Row w A (u32s xs)) (hd : small 4294967296 xs) (hlen : xs.length ≤ 1000) (hk : val xs < 1000000000 ^ k) (hk2 : k ≤ 2000) :
    Calls Tryz.prog 91 #[.slice A xs.length c] w fun e w' => e = .returned (.string (dtext (val xs))) ∧ Below w.heap.size w w' := by
  obtain ⟨i0, hi, hz0, hz1, hz2⟩ := info_parts info_u8
  have hrd := refRead (c := c) hr hd hlen
  have HRD := Lib.hid hrd
  have HK := Lib.hid hk
  clear hrd hk
  rcases Nat.eq_zero_or_pos (val xs) with hz | hpos
  · have HZ := Lib.hid hz
    clear hz
    go_enter Tryz.func91, Tryz.ntmps91
    go_wp2_with fail
    refine HRD.out.mono ?_
    rintro e w1 ⟨A1, c1, ds, rfl, h1, _, h3, h4, h5⟩
    obtain rfl : ds = [] := by
      have := dlength_le h3 (k := 0) (by rw [h4, HZ.out]; decide)
      exact List.eq_nil_of_length_eq_zero (by omega)
    clear h3 h4
    go_wp2
    go_ret
    refine ⟨?_, h5⟩
    rw [HZ.out, dtext, decDigits_small (by decide)]; rfl
  · have HP := Lib.hid hpos
    clear hpos
    go_enter Tryz.func91, Tryz.ntmps91
    go_wp2_with fail
    refine HRD.out.mono ?_
    rintro e w1 ⟨A1, c1, ds, rfl, h1, _, h3, h4, h5⟩
    have hl := dlen_of h3 h4 HK.out
    have hne : ((ds.length : Int) == 0) = false := by
      rw [beq_eq_false_iff_ne]
      intro h
      have h6 : ds = [] := List.eq_nil_of_length_eq_zero (by omega)
      have h7 := HP.out
      rw [← h4, h6] at h7
      simp [dval] at h7
    obtain ⟨n, hn⟩ : ∃ n, n = ds.length := ⟨_, rfl⟩
    have hn1 : n ≤ 18000 := by omega
    have hn0 : 0 < n := by
      rcases Nat.eq_zero_or_pos n with h | h
      · rw [← hn, h] at hne; simp at hne
      · exact h
    rw [← hn] at hne ⊢
    have HN := Lib.hid hn
    have HD4 := Lib.hid h4
    have hs1 := h5.size
    clear hn h4 hl
    go_wp2_with (at_make; refine wpList_make_full _ rfl _ _ 98 rfl w1.heap.size 5 i0 (.int .u8 0) 1 Tryz.underlying98 hi hz0 hz1 .i64 .i64 (n : Int) (n : Int) n rfl rfl rfl rfl ?b2 ?b3 ?b4 ?_)
    case b2 => first | omega | (rw [hz2]; omega)
    case b3 => unfold maxLen; omega
    case b4 => exact Nat.le_refl _
    intro w2 hown hgrow
    have ho2 := own_zeros8 hown
    have hb2 : Below w1.heap.size w1 w2 := (Below.refl _ _).grown hgrow (Nat.le_refl _) (fun k h => by cases h)
    obtain ⟨g, hg⟩ : ∃ g, g = w1.heap.size := ⟨_, rfl⟩
    rw [← hg] at ho2 ⊢
    have HG := Lib.hid hg
    have h1' := h1.below hb2
    have h1w := h1
    clear hown hgrow hne hg
    go_wp2_with fail
    go_loopw [5] (fun iv wr => ∃ (k : Nat) (bs : List Nat), k ≤ n ∧ iv = .int .i64 (k : Int) ∧ Own wr g 5 (.slice (some ⟨g, 0, none⟩) n n) (u8s bs) ∧ Hid (bs.length = n ∧ ∀ j, j < k → bs.getD (n - 1 - j) 0 = 48 + ds.getD j 0) ∧ Below g w1 wr) (fun iv _ => n - (intOf iv).toNat)
    case atStart => exact ⟨0, List.replicate n 0, Nat.zero_le _, rfl, ho2, ⟨by simp, fun j hj => by omega⟩, HG.out ▸ hb2⟩
    case round =>
      obtain ⟨k, bs, hk, rfl, hob, HO, hb⟩ := hrel
      have hbw : Below w1.heap.size w1 wr := HG.out ▸ hb
      by_cases hlt : k < n
      · obtain ⟨ad, x, rfl, hcx, hxe, hxm⟩ := (h1w.below hbw).byte (k := k) (by rw [← HN.out]; exact hlt)
        have hx10 := h3.1 x hxm
        obtain ⟨q, hq⟩ : ∃ q : Nat, q = n - 1 - k := ⟨_, rfl⟩
        have hqi : (n : Int) - 1 - (k : Int) = (q : Int) := by omega
        have hqn : q < n := by omega
        obtain ⟨hqc, hqf⟩ := own_cell hob (k := q) (by rw [u8s_length, HO.out.1]; exact hqn)
        have hset := own_set8 hob q (48 + x)
        have HSET := Lib.hid hset
        have HQ := Lib.hid hq
        clear hset hxm hq
        go_wp2
        go_roundw
        case rel => exact ⟨k + 1, bs.set q (48 + x), by omega, by go_num, HSET.out, ⟨by rw [List.length_set]; exact HO.out.1, fun j hj => by
          rcases Nat.lt_or_ge j k with h | h
          · rw [getD_lset_ne (48 + x) (by have := HQ.out; omega)]; exact HO.out.2 j h
          · obtain rfl : j = k := by omega
            rw [← HQ.out, hxe.out, List.getD_eq_getElem?_getD, List.getElem?_set_self (by rw [HO.out.1]; exact hqn)]; rfl⟩, hb.setCell (Nat.le_refl _) _⟩
        case measure => simp [intOf]; omega
      · obtain rfl : k = n := by omega
        have hdt := digits_text h3 HD4.out HP.out
        have hll : (Lib.decDigits (val xs)).length = k := by rw [← hdt, List.length_map, List.length_reverse, ← HN.out]
        have hcv := run_convert_bytes_back (P := Tryz.prog) wr 98 9 5 ⟨g, 0, none⟩ k (Lib.decDigits (val xs)) Tryz.underlying98 Tryz.underlying5 Tryz.underlying9 (fun j hj => by
          have hjk : j < k := by rw [← hll]; exact hj
          have h7 := (own_cell hob (k := j) (by rw [u8s_length, HO.out.1]; exact hjk)).1
          have h8 := HO.out.2 (k - 1 - j) (by omega)
          rw [show k - 1 - (k - 1 - j) = j from by omega] at h8
          have h9 : ds.getD (k - 1 - j) 0 < 10 := small_getD h3.1 (by decide) _
          rw [add_at8, h7]
          simp only [u8s, List.getElem_map]
          have h10 : bs[j]'(by rw [HO.out.1]; exact hjk) = 48 + ds.getD (k - 1 - j) 0 := by
            rw [← h8, List.getD_eq_getElem?_getD, List.getElem?_eq_getElem (by rw [HO.out.1]; exact hjk)]; rfl
          have h11 : (Lib.decDigits (val xs))[j] = UInt8.ofNat (48 + ds.getD (k - 1 - j) 0) := by
            have h12 : (Lib.decDigits (val xs))[j]? = some (UInt8.ofNat (48 + ds.getD (k - 1 - j) 0)) := by
              rw [← hdt, List.getElem?_map, List.getElem?_reverse (by rw [← HN.out]; exact hjk), ← HN.out, List.getElem?_eq_getElem (by rw [← HN.out]; omega), List.getD_eq_getElem?_getD, List.getElem?_eq_getElem (by rw [← HN.out]; omega)]
              rfl
            rw [List.getElem?_eq_getElem hj] at h12
            injection h12
          rw [h10, h11, dig_toNat h9])
        rw [hll] at hcv
        have HLL := Lib.hid hll
        have HDT := Lib.hid hdt
        clear hll hdt
        go_wp2
        go_ret
        exact ⟨rfl, bstep h5 hbw⟩
end Go.Proofs.YthgclmkhmcfflaaGreatDoor
namespace Go.Proofs.YthgclmkhmcfflaaGreatDoor
open Go.RowKit
/-- A number of at most 1000 digits, as it comes. -/
def Zc (W : World) (v : Value) (k : Nat) (z : Int) : Prop := ∃ (b : Bool) (A : Option Addr) (c : Nat) (xs : List Nat), v = .agg #[.bool b, .slice A xs.length c] ∧ Row W A (u32s xs) ∧ small 4294967296 xs ∧ xs.length ≤ 1000 ∧ val xs < 1000000000 ^ k ∧ zOf (val xs) b = z
theorem Zc.below {W w' : World} {v : Value} {k : Nat} {z : Int} (h : Zc W v k z) (hb : Below W.heap.size W w') : Zc w' v k z := by
  obtain ⟨b, A, c, xs, h1, h2, h3⟩ := h
  exact ⟨b, A, c, xs, h1, h2.below hb, h3⟩
theorem zOf_natAbs (z : Int) : zOf z.natAbs (decide (z < 0)) = z := by
  unfold zOf
  by_cases h : z < 0
  · rw [decide_eq_true h, if_pos rfl]; omega
  · rw [decide_eq_false h, if_neg (by decide)]; omega
theorem Zr.zc {W : World} {v : Value} {k : Nat} {z : Int} (h : Zr W v k z) (hk : k ≤ 1000) : Zc W v k z := by
  obtain ⟨A, l, c, rfl, h1, h2⟩ := h
  obtain ⟨xs, rfl, hr, hx, hv, hl⟩ := rr_row h1 h2
  exact ⟨_, A, c, xs, rfl, hr, fun d hd => Nat.lt_trans (hx.1 d hd) (by decide), Nat.le_trans hl hk, by rw [hv]; exact h2, by rw [hv, zOf_natAbs]⟩
set_option maxRecDepth 100000 in
set_option maxHeartbeats 1600000 in
theorem r2_norm {w : World} {v : Value} {k : Nat} {z : Int} (h : Zc w v k z) (hk : k ≤ 2000) : Calls Tryz.prog 88 #[v] w (TellsZ w k z) := by
  obtain ⟨b, A, c, xs, rfl, hr, hs, hl, hv, rfl⟩ := h
  have hof := fun (W : World) (hW : Below w.heap.size w W) => ref2of_any (c := c) b (hr.below hW) hs hl hv hk
  have HOF := Lib.hid hof
  obtain ⟨n, hn⟩ : ∃ n, n = xs.length := ⟨_, rfl⟩
  obtain ⟨m, hm⟩ : ∃ m, m = val xs := ⟨_, rfl⟩
  rw [← hn] at HOF ⊢
  rw [← hm] at HOF ⊢
  have HM := Lib.hid (show m < 1000000000 ^ k from hm ▸ hv)
  have hfin : ∀ (e : Ending) (w' : World), RetInt w m (sgn m b) e w' → TellsZ w k (zOf m b) e w' := fun e w' h => tellsZ_of (by rw [zOf_abs]; exact HM.out) (by rw [zOf_abs, zOf_neg]; exact h)
  have HFIN := Lib.hid hfin
  clear hof hr hs hl hv hn hm hfin
  refine Calls.mono ?_ HFIN.out
  obtain ⟨s, hs⟩ : ∃ s, s = sgn m b := ⟨_, rfl⟩
  rw [← hs] at HOF ⊢
  clear hs HFIN HM
  go_enter Tryz.func88, Tryz.ntmps88
  go_wp2_with fail
  refine (HOF.out _ (bal (bal (Below.refl _ _) _) _)).mono ?_
  rintro e w1 ⟨A1, k1, c1, rfl, h1, h2, hb⟩
  have K1 := (hb.block (w.heap.size + 1) (by simp)).trans (new_at (by simp))
  obtain ⟨m1, m2, m3, m4⟩ := cell_of_two K1
  have hb1 := bstep (bal (bal (Below.refl w.heap.size w) _) _) hb
  have hts := fun (b' : Bool) => two_stored (a' := .bool b') (b' := .slice A1 k1 c1) K1 (fun d h => by cases h) (fun d h => by cases h) h1
  have HTS := Lib.hid hts
  have H2 := Lib.hid h2
  clear hts hb h1 h2 K1
  go_wp2
  obtain ⟨n1, n2, n3⟩ := HTS.out s
  refine bodyPost_ret (v := .agg #[.bool s, .slice A1 k1 c1]) (by simp [results, Tryz.results88, go_sem, n1, n2]) rfl ?_
  exact ⟨A1, k1, c1, rfl, n3, H2.out, (hb1.setCell (by simp) _).setCell (by simp) _⟩
set_option maxRecDepth 100000 in
set_option maxHeartbeats 1600000 in
theorem r2_right {w : World} {v : Value} {k : Nat} {z : Int} (h : Zr w v k z) : Calls Tryz.prog 61 #[v] w fun e w' => e = .returned (.bool true) ∧ Below w.heap.size w w' := by
  obtain ⟨A, l, c, rfl, h1, h2⟩ := h
  obtain ⟨hlen, _⟩ := rr_len h1
  obtain ⟨xs, rfl, hr, hx, hv, hl⟩ := rr_row h1 h2
  have hrt := fun (W : World) (hW : Below w.heap.size w W) => (refRight (c := c) (hr.below hW) (fun d hd => Nat.lt_trans (hx.1 d hd) (by decide)) (by omega)).mono fun e w' h => (show e = .returned (.bool true) ∧ W = w' from ⟨h.1.elim (fun a => a.2) (fun a => absurd hx a.1), h.2⟩)
  have HRT := Lib.hid hrt
  obtain ⟨n, hn⟩ : ∃ n, n = xs.length := ⟨_, rfl⟩
  rw [← hn] at HRT ⊢
  obtain ⟨s, hs⟩ : ∃ s, s = decide (z < 0) := ⟨_, rfl⟩
  rw [← hs]
  have hpos : s = true → decide ((0 : Int) < (n : Int)) = true := fun e => decide_eq_true (by
    rw [hs, decide_eq_true_eq] at e
    have : xs.length ≠ 0 := fun h0 => by have := hlen.1 h0; omega
    omega)
  have HPOS := Lib.hid hpos
  clear hrt hr hx hv hl hn hs hlen h1 h2 hpos
  cases s
  · clear HPOS
    go_enter Tryz.func61, Tryz.ntmps61
    go_wp2_with fail
    refine (HRT.out _ (bal (Below.refl _ _) _)).mono ?_
    rintro e w1 ⟨rfl, rfl⟩
    go_wp2
    go_ret
    exact ⟨rfl, bal (Below.refl _ _) _⟩
  · have hp := HPOS.out rfl
    clear HPOS
    go_enter Tryz.func61, Tryz.ntmps61
    go_wp2_with fail
    refine (HRT.out _ (bal (Below.refl _ _) _)).mono ?_
    rintro e w1 ⟨rfl, rfl⟩
    go_wp2
    go_ret
    exact ⟨by have h0 : 0 < n := by simpa using hp
              simp [h0], bal (Below.refl _ _) _⟩
theorem vr_div {w : World} {A1 A2 : Option Addr} {k1 c1 k2 c2 n1 n2 N : Nat} (h1 : Rr w (.slice A1 k1 c1) n1) (h2 : Rr w (.slice A2 k2 c2) n2) (hn1 : n1 < 1000000000 ^ N) (hn2 : n2 < 1000000000 ^ N) (hN : N ≤ 1000) (h0 : 0 < n2) :
    Calls Tryz.prog 90 #[.slice A1 k1 c1, .slice A2 k2 c2] w (RetD w (n1 / n2) (n1 % n2)) := by
  obtain ⟨xs, rfl, r1, x1, rfl, l1⟩ := rr_row h1 hn1
  obtain ⟨ys, rfl, r2, x2, rfl, l2⟩ := rr_row h2 hn2
  exact refDiv_yes r1 r2 (fun d hd => Nat.lt_trans (x1.1 d hd) (by decide)) (fun d hd => Nat.lt_trans (x2.1 d hd) (by decide)) (by omega) (by omega) hn1 hn2 (by omega) h0
/-- A list of numbers of at most 1000 digits each. -/
def IntsC (W : World) (g : Nat) (L : List (Nat × Bool)) : Prop := ∀ j p, L[j]? = some p → ∃ A c xs, W.cell? ⟨g, j * 2, none⟩ = some (.bool p.2) ∧ W.cell? ⟨g, j * 2 + 1, none⟩ = some (.slice A (List.length xs) c) ∧ Row W A (u32s xs) ∧ small 4294967296 xs ∧ xs.length ≤ 1000 ∧ val xs = p.1
theorem IntsC.below {W w' : World} {g : Nat} {L : List (Nat × Bool)} (h : IntsC W g L) (hb : Below W.heap.size W w') : IntsC w' g L := fun j p hp => by
  obtain ⟨A, c, xs, h1, h2, h3, h4⟩ := h j p hp
  exact ⟨A, c, xs, (hb.cell (cell_lt h1)).trans h1, (hb.cell (cell_lt h2)).trans h2, h3.below hb, h4⟩
set_option maxRecDepth 100000 in
set_option maxHeartbeats 3200000 in
theorem ref2Gcd_any {w : World} {g0 c0 N : Nat} {L : List (Nat × Bool)} (hL : IntsC w g0 L) (hLn : ∀ p ∈ L, p.1 < 1000000000 ^ N) (hN : N ≤ 1000) (hlen : L.length ≤ 100000) :
    Calls Tryz.prog 63 #[.slice (some ⟨g0, 0, none⟩) L.length c0] w (RetInt w (gcds L 0) false) := by
  have HL := Lib.hid hL
  have h0 : 0 < 1000000000 ^ N := Nat.pow_pos (by decide)
  have HB := Lib.hid (show (∀ p ∈ L, p.1 < 1000000000 ^ N) ∧ N ≤ 1000 ∧ 0 < 1000000000 ^ N from ⟨hLn, hN, h0⟩)
  obtain ⟨l, hl⟩ : ∃ l, l = L.length := ⟨_, rfl⟩
  rw [← hl] at hlen ⊢
  have HLL := Lib.hid hl
  obtain ⟨G, hG⟩ : ∃ G, G = gcds L 0 := ⟨_, rfl⟩
  rw [← hG]
  have HG := Lib.hid hG
  clear hL hLn hN h0 hl hG
  go_enter Tryz.func63, Tryz.ntmps63
  go_wp2_with fail
  go_loopw [3, 4] (fun gv iv wr => ∃ (k' : Nat) (A' : Option Addr) (j d : Nat), k' ≤ l ∧ iv = .int .i64 k' ∧ gv = .slice A' j d ∧ Hid (Rr wr (.slice A' j d) (gcds (L.take k') 0)) ∧ Below w.heap.size w wr ∧ Hid (wr.heap[w.heap.size]? = some (Obj.cells #[Value.bool false, Value.slice none 0 0] 25 (0, 0)))) (fun _ iv _ => l - (intOf iv).toNat)
  case atStart => exact ⟨0, none, 0, 0, Nat.zero_le _, rfl, rfl, rr_nil _, bal (Below.refl _ _) _, new_at rfl⟩
  case round =>
    obtain ⟨k', A', j, d, hk, rfl, rfl, HR1, hb1, HK1⟩ := hrel
    by_cases hlt2 : k' < l
    · have hkL : k' < L.length := by rw [← HLL.out]; exact hlt2
      obtain ⟨⟨n1, b1⟩, hp⟩ : ∃ p, p = L[k'] := ⟨_, rfl⟩
      obtain ⟨B, e, xs, hc1, hc2, hr, hs, hx, hv⟩ := (HL.out.below hb1) k' (n1, b1) (by rw [List.getElem?_eq_getElem hkL, hp])
      have hv : val xs = n1 := hv
      have hGS := gcds_succ (n := 0) hkL
      rw [← hp] at hGS
      have HGS := Lib.hid hGS
      have HN1 := Lib.hid (HB.out.1 _ (hp ▸ List.getElem_mem hkL : (n1, b1) ∈ L))
      have htr := refTrim (c := e) hr hs hx (k := N) (by rw [hv]; exact HN1.out) (by have := HB.out.2.1; omega)
      rw [hv] at htr
      obtain ⟨m, hm⟩ : ∃ m, m = xs.length := ⟨_, rfl⟩
      rw [← hm] at hc2 htr
      have HTR := Lib.hid htr
      have hltg := gcds_lt (L := L.take k') HB.out.2.2 fun p hp => HB.out.1 p (List.mem_of_mem_take hp)
      have HLG := Lib.hid hltg
      clear hr hs hx hv hm htr hGS hp hc1 hltg
      go_wp2_with fail
      refine HTR.out.mono ?_
      rintro e w2 ⟨A3, k3, c3, rfl, hr3, hb3⟩
      have hb3 := bstep hb1 hb3
      have HR1 := Lib.hid (HR1.out.below (show Below wr.heap.size wr w2 by assumption))
      have HK1 := Lib.hid (((show Below wr.heap.size wr w2 by assumption).block w.heap.size (lt_block HK1.out)).trans HK1.out)
      have HR3 := Lib.hid hr3
      go_wp2_with fail
      go_loopw [3, 5] (fun gv xv wr => ∃ (A : Option Addr) (k c : Nat) (B : Option Addr) (j d a b : Nat), gv = .slice A k c ∧ xv = .slice B j d ∧ Hid (Rr wr (.slice A k c) a) ∧ Hid (Rr wr (.slice B j d) b) ∧ Hid (Nat.gcd a b = gcds (L.take (k' + 1)) 0 ∧ a < 1000000000 ^ N ∧ b < 1000000000 ^ N) ∧ Below w.heap.size w wr ∧ Hid (wr.heap[w.heap.size]? = some (Obj.cells #[Value.bool false, Value.slice none 0 0] 25 (0, 0)))) (fun _ xv wr => valOf wr xv)
      case atStart => exact ⟨_, _, _, _, _, _, _, n1, rfl, rfl, HR1, HR3, ⟨by rw [HGS.out, Nat.gcd_comm], HLG.out, HN1.out⟩, hb3, HK1⟩
      case round =>
        obtain ⟨A, k, c, B, j, d, a, b, rfl, rfl, HA, HBB, HGC, hb, HK⟩ := hrel
        have hj := (rr_len HBB.out).1
        by_cases h0 : b = 0
        · obtain rfl : j = 0 := hj.2 h0
          have hG : a = gcds (L.take (k' + 1)) 0 := by rw [← HGC.out.1, h0, Nat.gcd_zero_right]
          have HGG := Lib.hid hG
          clear hj h0 hG
          go_wp2_with fail
          go_roundw
          case rel => exact ⟨k' + 1, _, _, _, by omega, by go_num, rfl, by show Rr _ _ _; rw [← HGG.out]; exact HA.out, hb, HK⟩
          case measure => simp [intOf]; omega
        · have hk0 : 0 < j := by have : j ≠ 0 := fun e => h0 (hj.1 e); omega
          have hdv := vr_div HA.out HBB.out HGC.out.2.1 HGC.out.2.2 HB.out.2.1 (by omega)
          have HDV := Lib.hid hdv
          have H0 := Lib.hid h0
          clear hj h0 hdv
          go_wp2_with fail
          refine HDV.out.mono ?_
          rintro e w3 ⟨Aq, kq, cq, Ar, kr, cr, rfl, _, hrr, hb4⟩
          have HK4 := Lib.hid ((hb4.block w.heap.size (lt_block HK.out)).trans HK.out)
          have HBB2 := Lib.hid (HBB.out.below hb4)
          have HR := Lib.hid hrr
          have hb5 := bstep hb hb4
          clear hb4 hrr HDV
          go_wp2_with fail
          go_roundw
          case rel =>
            refine ⟨_, _, _, _, _, _, b, a % b, rfl, rfl, HBB2, HR, ⟨?_, HGC.out.2.2, ?_⟩, hb5, HK4⟩
            · rw [← HGC.out.1, Nat.gcd_comm a b, Nat.gcd_rec b a, Nat.gcd_comm]
            · exact Nat.lt_of_lt_of_le (Nat.mod_lt _ (Nat.pos_of_ne_zero H0.out)) (Nat.le_of_lt HGC.out.2.2)
          case measure =>
            rw [valOf_eq HBB.out, valOf_eq HR.out]
            exact Nat.mod_lt _ (Nat.pos_of_ne_zero H0.out)
    · have hk' : k' = l := by omega
      obtain ⟨ys, rfl, r1, x1, v1, l1⟩ := rr_row HR1.out (gcds_lt (L := L.take k') HB.out.2.2 fun p hp => HB.out.1 p (List.mem_of_mem_take hp))
      have e1 : gcds (L.take k') 0 = G := by rw [HG.out, hk', HLL.out, List.take_length]
      rw [e1] at v1
      have hof := fun (W : World) (hW : Below wr.heap.size wr W) => ref2of_any (c := d) (N := N) false (r1.below hW) (fun d hd => Nat.lt_trans (x1.1 d hd) (by decide)) (by have := HB.out.2.1; omega) (by rw [v1, HG.out]; exact gcds_lt HB.out.2.2 HB.out.1) (by have := HB.out.2.1; omega)
      rw [v1] at hof
      have HOF := Lib.hid hof
      obtain ⟨n, hn⟩ : ∃ n, n = ys.length := ⟨_, rfl⟩
      rw [← hn] at HOF ⊢
      have hlt3 := lt_block HK1.out
      clear hof r1 x1 v1 l1 hn hk' e1 HR1
      go_wp2_with fail
      refine (HOF.out _ (Below.refl _ _)).mono ?_
      rintro e w1 ⟨A1, k1, c1, rfl, h1, h2, hb⟩
      have K1 := (hb.block w.heap.size hlt3).trans HK1.out
      obtain ⟨m1, m2, m3, m4⟩ := cell_of_two K1
      have hb2 := bstep hb1 hb
      obtain ⟨n1, n2, n3⟩ := two_stored (a' := .bool (sgn G false)) (b' := .slice A1 k1 c1) K1 (fun d h => by cases h) (fun d h => by cases h) h1
      clear hb h1 K1
      go_wp2
      refine bodyPost_ret (v := .agg #[.bool (sgn G false), .slice A1 k1 c1]) (by simp [results, Tryz.results63, go_sem, n1, n2]) rfl ?_
      exact ⟨A1, k1, c1, by simp [sgn], n3, fun _ => rfl, (hb2.setCell (Nat.le_refl _) _).setCell (Nat.le_refl _) _⟩
theorem ints_of_zrs {W : World} {g : Nat} {l : List (Nat × Int)} (h : ZRs W g l) (hk : ∀ q ∈ l, q.1 ≤ 1000) : IntsC W g (l.map fun q => (q.2.natAbs, decide (q.2 < 0))) := fun j p hp => by
  rw [List.getElem?_map] at hp
  obtain ⟨q, hq, rfl⟩ := Option.map_eq_some_iff.1 hp
  obtain ⟨A, n, c, h1, h2, A', n', c', e, h3, h4⟩ := h j q hq
  injection e with e; injection e with e; injection e with _ e; injection e with e _
  injection e with e1 e2 e3
  subst e1; subst e2; subst e3
  obtain ⟨xs, rfl, hr, hx, hv, hl⟩ := rr_row h3 h4
  exact ⟨A, c, xs, h1, h2, hr, fun d hd => Nat.lt_trans (hx.1 d hd) (by decide), Nat.le_trans hl (hk q (List.mem_of_getElem? hq)), hv⟩
theorem r2_gcd {w : World} {v : Value} (k : Nat) {l : List (Nat × Int)} {S0 : Nat} {x : Nat → Value} (h : (kZRs l).sem S0 x v w) (hk : (l.all fun q => decide (q.1 ≤ k)) = true) (hk2 : k ≤ 1000) (hl : l.length ≤ 100000) : Calls Tryz.prog 63 #[v] w (TellsZ w k (zgcd (l.map (·.2)) : Nat)) := by
  obtain ⟨g, rfl, _, _, hz⟩ := h
  have hk' : ∀ q ∈ l, q.1 ≤ k := fun q hq => of_decide_eq_true (List.all_eq_true.1 hk q hq)
  have hb : ∀ q ∈ l, q.2.natAbs < 1000000000 ^ k := fun q hq => by
    obtain ⟨j, hj⟩ := List.getElem?_of_mem hq
    obtain ⟨_, _, _, _, _, hr⟩ := hz j q hj
    exact Nat.lt_of_lt_of_le hr.lt (pow_le (hk' q hq))
  have hL := ints_of_zrs hz fun q hq => Nat.le_trans (hk' q hq) hk2
  have hLn : ∀ p ∈ l.map (fun q => (q.2.natAbs, decide (q.2 < 0))), p.1 < 1000000000 ^ k := fun p hp => by
    obtain ⟨q, hq, rfl⟩ := List.mem_map.1 hp
    exact hb q hq
  have hg := ref2Gcd_any (c0 := l.length) hL hLn hk2 (by rw [List.length_map]; exact hl)
  rw [List.length_map] at hg
  have e : gcds (l.map fun q => (q.2.natAbs, decide (q.2 < 0))) 0 = zgcd (l.map (·.2)) := by
    rw [gcds_map, List.map_map]
    congr 1
    exact List.map_congr_left fun q _ => zOf_natAbs q.2
  have hlt : zgcd (l.map (·.2)) < 1000000000 ^ k := by
    rw [← e]; exact gcds_lt (Nat.pow_pos (by decide)) hLn
  rw [e] at hg
  exact hg.mono fun _ _ h => tellsZ_nat hlt h
set_option maxRecDepth 100000 in
set_option maxHeartbeats 1600000 in
theorem r2_text {w : World} {v : Value} {k : Nat} {z : Int} (h : Zc w v k z) (hk : k ≤ 1000) : Calls Tryz.prog 65 #[v] w fun e w' => e = .returned (.string (ztext z)) ∧ Below w.heap.size w w' := by
  have hnm := fun (W : World) (hW : Below w.heap.size w W) => r2_norm (h.below hW) (by omega)
  obtain ⟨b, A, c, xs, rfl, _, _, _, hv, hz⟩ := h
  have hzk : z.natAbs < 1000000000 ^ k := by rw [← hz, zOf_abs]; exact hv
  have hsz := dtext_short hzk (by omega)
  obtain ⟨n, hn⟩ : ∃ n, n = xs.length := ⟨_, rfl⟩
  rw [← hn] at hnm ⊢
  have HNM := Lib.hid hnm
  have HZK := Lib.hid hzk
  have HSZ := Lib.hid hsz
  clear hnm hz hzk hv hn hsz
  obtain ⟨s, hs⟩ : ∃ s, s = decide (z < 0) := ⟨_, rfl⟩
  have HS := Lib.hid hs
  unfold ztext
  rw [← hs]
  clear hs
  obtain ⟨t, ht⟩ : ∃ t, t = ntext z.natAbs s := ⟨_, rfl⟩
  rw [← ht]
  have HTT := Lib.hid ht
  clear ht
  go_enter Tryz.func65, Tryz.ntmps65
  go_wp2_with fail
  refine (HNM.out _ (bal (Below.refl _ _) _)).mono ?_
  rintro e w1 ⟨v1, rfl, ⟨A1, k1, c1, rfl, h1, _⟩, hb⟩
  rw [← HS.out]
  obtain ⟨ys, rfl, r1, x1, v1, l1⟩ := rr_row h1 HZK.out
  have hb1 := bstep (bal (Below.refl w.heap.size w) _) hb
  have htx := fun (W : World) (hW : Below w1.heap.size w1 W) => refText (c := c1) (r1.below hW) (fun d hd => Nat.lt_trans (x1.1 d hd) (by decide)) (by omega) (by rw [v1]; exact HZK.out) (by omega)
  rw [v1] at htx
  have HTX := Lib.hid htx
  obtain ⟨m, hm⟩ : ∃ m, m = ys.length := ⟨_, rfl⟩
  rw [← hm] at HTX ⊢
  have K1 := fun (o : Obj) => heap_alloc_new w1 o
  clear hb h1 r1 x1 v1 l1 hm htx
  cases s
  · obtain rfl : t = dtext z.natAbs := HTT.out
    clear HTT
    go_wp2_with fail
    refine (HTX.out _ (bal (Below.refl _ _) _)).mono ?_
    rintro e w2 ⟨rfl, hb2⟩
    have hk := (hb2.block w1.heap.size (by simp)).trans (K1 _)
    obtain ⟨m1, m2, _, _⟩ := cell_of_two hk
    have hb3 := bstep hb1 (bstep (bal (Below.refl _ _) _) hb2)
    clear hb2 hk
    go_wp2
    go_ret
    exact ⟨rfl, hb3⟩
  · obtain rfl : t = ⟨#[45]⟩ ++ dtext z.natAbs := HTT.out
    clear HTT
    go_wp2_with fail
    refine (HTX.out _ (bal (Below.refl _ _) _)).mono ?_
    rintro e w2 ⟨rfl, hb2⟩
    have hk := (hb2.block w1.heap.size (by simp)).trans (K1 _)
    obtain ⟨m1, m2, _, _⟩ := cell_of_two hk
    have hb3 := bstep hb1 (bstep (bal (Below.refl _ _) _) hb2)
    clear hb2 hk
    go_wp2
    · exfalso
      rename_i hh
      have := HSZ.out
      omega
    · go_ret
      exact ⟨rfl, hb3⟩
theorem vr_cmp {w : World} {v1 v2 : Value} {n1 n2 N : Nat} (h1 : Rr w v1 n1) (h2 : Rr w v2 n2) (hn1 : n1 < 1000000000 ^ N) (hn2 : n2 < 1000000000 ^ N) (hN : N ≤ 1000) :
    Calls Tryz.prog 89 #[v1, v2] w fun e w' => e = .returned (.int .i64 (ordI (n1 : Int) (n2 : Int))) ∧ Below w.heap.size w w' := by
  obtain ⟨A1, k1, c1, rfl⟩ := h1.shape
  obtain ⟨A2, k2, c2, rfl⟩ := h2.shape
  obtain ⟨xs, rfl, r1, x1, rfl, l1⟩ := rr_row h1 hn1
  obtain ⟨ys, rfl, r2, x2, rfl, l2⟩ := rr_row h2 hn2
  exact refCmp r1 r2 (fun d hd => Nat.lt_trans (x1.1 d hd) (by decide)) (fun d hd => Nat.lt_trans (x2.1 d hd) (by decide)) (by omega) (by omega) hn1 (by omega)
end Go.Proofs.YthgclmkhmcfflaaGreatDoor

/- Layer 8's awake is true. Premise: the library's tables as they are laid. Layer 8's great: it tells whether facts, or terms, are greater than is gone through. Condition: of sizes. -/
import Derived.Test.YtlikpnaffpngiaaGreatDoorCSame
import Derived.Test.YtlikpnaffpngiaaGreatDoorSameTs
import Derived.Deep.RegionHeld3
import Derived.Test.YtlikpnaffpngiaaGreatDoorCountL
import Derived.BigQuiet
set_option linter.unusedVariables false
set_option linter.unusedSimpArgs false
namespace Go.Proofs.YtlikpnaffpngiaaGreatDoor
open Go.RowKit

theorem bst {a b c : World} (h : Below a.heap.size a b) (k : Below b.heap.size b c) : Below a.heap.size a c := h.trans (k.mono h.size)
theorem bal8 {a b : World} (h : Below a.heap.size a b) (o : Obj) : Below a.heap.size a (b.alloc o) := h.alloc h.size o
/-- A name's cells. -/
abbrev varV (s : ByteArray) : Value := .agg #[.int .u8 1, .string s, .bool false, .slice none 0 0, .slice none 0 0]
/-- An equality's cells. -/
abbrev eqV (B : Addr) (d : Nat) : Value := .agg #[.int .u8 8, .string ⟨#[]⟩, .bool false, .slice none 0 0, .slice (some B) 2 d]
theorem vv8 {w : World} {s : ByteArray} (hs : s.size ≤ 140737488355328) :
    Calls Tryz.prog 9 #[.string s] w fun e w' => e = .returned (varV s) ∧ TmV w' (varV s) (varT s) ∧ Below w.heap.size w w' := v8_ok hs
theorem ee8 {w : World} {a b : Tm} {u v : Value} (hta : TmV w u a) (htb : TmV w v b) :
    Calls Tryz.prog 8 #[u, v] w fun e w' => ∃ (B : Addr) (d : Nat), e = .returned (eqV B d) ∧ TmV w' (eqV B d) (eqTm a b) ∧ Below w.heap.size w w' := by
  obtain ⟨A, K, c, c', rfl⟩ := TmV.five' hta
  obtain ⟨A', K', d, d', rfl⟩ := TmV.five' htb
  exact eq8_ok hta htb
theorem aa8 {w : World} {t : Tm} {u : Value} {name : ByteArray} (hn : name.size ≤ 140737488355328) (ht : TmV w u t) :
    Calls Tryz.prog 13 #[.string name, u] w fun e w' => ∃ (B : Addr) (d : Nat), e = .returned (fiveV (appTm name t) none (some B) 0 d) ∧ TmV w' (fiveV (appTm name t) none (some B) 0 d) (appTm name t) ∧ Below w.heap.size w w' := by
  obtain ⟨A, K, c, c', rfl⟩ := TmV.five' ht
  exact app8_ok hn ht
theorem tms_three {W : World} {B : Nat} {u0 u1 u2 u3 u4 v0 v1 v2 v3 v4 x0 x1 x2 x3 x4 : Value} {T : TypeId} {fz : Nat × Nat} {a b c : Tm} (h : W.heap[B]? = some (.cells #[u0, u1, u2, u3, u4, v0, v1, v2, v3, v4, x0, x1, x2, x3, x4] T fz)) (ha : TmV W (.agg #[u0, u1, u2, u3, u4]) a) (hb : TmV W (.agg #[v0, v1, v2, v3, v4]) b) (hc : TmV W (.agg #[x0, x1, x2, x3, x4]) c) : TmsAt W (some ⟨B, 0, none⟩) [a, b, c] := by
  intro j t hj
  match j, hj with
  | 0, hj =>
    obtain rfl : a = t := by simpa using hj
    refine ⟨⟨B, 0, none⟩, u0, u1, u2, u3, u4, rfl, ?_, ha⟩
    simp only [add_eq, Nat.zero_mul, Nat.zero_add, Nat.add_zero]
    exact ⟨cell_of_row _ _ 0 _ _ _ h, cell_of_row _ _ 1 _ _ _ h, cell_of_row _ _ 2 _ _ _ h, cell_of_row _ _ 3 _ _ _ h, cell_of_row _ _ 4 _ _ _ h⟩
  | 1, hj =>
    obtain rfl : b = t := by simpa using hj
    refine ⟨⟨B, 0, none⟩, v0, v1, v2, v3, v4, rfl, ?_, hb⟩
    simp only [add_eq, Nat.one_mul, Nat.zero_add]
    exact ⟨cell_of_row _ _ 5 _ _ _ h, cell_of_row _ _ 6 _ _ _ h, cell_of_row _ _ 7 _ _ _ h, cell_of_row _ _ 8 _ _ _ h, cell_of_row _ _ 9 _ _ _ h⟩
  | 2, hj =>
    obtain rfl : c = t := by simpa using hj
    refine ⟨⟨B, 0, none⟩, x0, x1, x2, x3, x4, rfl, ?_, hc⟩
    simp only [add_eq, Nat.zero_add]
    exact ⟨cell_of_row _ _ 10 _ _ _ h, cell_of_row _ _ 11 _ _ _ h, cell_of_row _ _ 12 _ _ _ h, cell_of_row _ _ 13 _ _ _ h, cell_of_row _ _ 14 _ _ _ h⟩
  | k + 3, hj => simp at hj
theorem ints_two {W : World} {B : Nat} {a b : Int} {T : TypeId} {fz : Nat × Nat} (h : W.heap[B]? = some (.cells #[.int .i64 a, .int .i64 b] T fz)) : Row W (some ⟨B, 0, none⟩) (IntsV [a, b]) := fun j v hj => by
  refine ⟨_, rfl, ?_⟩
  rw [add_eq, Nat.zero_add]
  match j, hj with
  | 0, hj => exact (cell_of_row _ _ 0 _ _ _ h).trans hj
  | 1, hj => exact (cell_of_row _ _ 1 _ _ _ h).trans hj
  | j + 2, hj => simp [IntsV] at hj
theorem same_yes {w : World} {v1 v2 : Value} {t : Tm} (hw : wtT t ≤ 100000) (h1 : TmV w v1 t) (h2 : TmV w v2 t) : Calls Tryz.prog 7 #[v1, v2] w fun e w' => e = .returned (.bool true) ∧ Below w.heap.size w w' := by
  obtain ⟨r, hr, hC⟩ := sameTm 100000 t t hw (Nat.le_refl _)
  have : r = true := hr.2 rfl
  subst this
  exact hC w v1 v2 h1 h2
/-- Same along two places of the examples. -/
theorem same8 {w : World} {B P : Nat} {cp c : Nat} {p q : Int} (hf : TmsAt w (some ⟨B, 0, none⟩) fs8) (hx : TmV w (varV bX) (varT bX)) (hz : TmV w (varV bZ) (varT bZ)) (hp : Row w (some ⟨P, 0, none⟩) (IntsV [p, q])) (hr : (0 ≤ p ∧ p < 100) ∧ 0 ≤ q ∧ q < 100) (hM : LibM w.heap.size w) :
    Calls Tryz.prog 6 #[.slice (some ⟨B, 0, none⟩) 3 c, varV bX, varV bZ, .slice (some ⟨P, 0, none⟩) 2 cp] w (SameE fs8 (varT bX) (varT bZ) [p, q] w) :=
  same_ok (fs := fs8) (ps := [p, q]) hf hx hz hp (by decide) (by decide) (by decide) (by
    intro r hr'
    simp at hr'
    rcases hr' with rfl | rfl <;> omega) (by show 2 ≤ 100000; decide) hM
theorem same8y {w : World} {B P : Nat} {cp c : Nat} (hf : TmsAt w (some ⟨B, 0, none⟩) fs8) (hx : TmV w (varV bX) (varT bX)) (hz : TmV w (varV bZ) (varT bZ)) (hp : Row w (some ⟨P, 0, none⟩) (IntsV [0, 1])) (hM : LibM w.heap.size w) :
    Calls Tryz.prog 6 #[.slice (some ⟨B, 0, none⟩) 3 c, varV bX, varV bZ, .slice (some ⟨P, 0, none⟩) 2 cp] w fun e w' => ∃ A K c c', e = .returned (.tuple #[.agg #[.int .u8 8, .string ⟨#[]⟩, .bool false, .slice A 0 c, .slice K 2 c'], .int .i64 0]) ∧ TmV w' (.agg #[.int .u8 8, .string ⟨#[]⟩, .bool false, .slice A 0 c, .slice K 2 c']) (eqTm (varT bX) (varT bZ)) ∧ Below w.heap.size w w' :=
  (same8 hf hx hz hp ⟨by decide, by decide⟩ hM).mono fun e w' h => by
    obtain ⟨hb, ⟨h1, _⟩ | ⟨_, A, K, c, c', h1, h2⟩⟩ := h
    · exact absurd path_there h1
    · exact ⟨A, K, c, c', h1, h2, hb⟩
theorem same8n {w : World} {B P : Nat} {cp c : Nat} (hf : TmsAt w (some ⟨B, 0, none⟩) fs8) (hx : TmV w (varV bX) (varT bX)) (hz : TmV w (varV bZ) (varT bZ)) (hp : Row w (some ⟨P, 0, none⟩) (IntsV [1, 0])) (hM : LibM w.heap.size w) :
    Calls Tryz.prog 6 #[.slice (some ⟨B, 0, none⟩) 3 c, varV bX, varV bZ, .slice (some ⟨P, 0, none⟩) 2 cp] w fun e w' => e = .returned (.tuple #[zeroV, .int .i64 31]) ∧ Below w.heap.size w w' :=
  (same8 hf hx hz hp ⟨by decide, by decide⟩ hM).mono fun e w' h => by
    obtain ⟨hb, ⟨_, h1⟩ | ⟨h1, _⟩⟩ := h
    · exact ⟨h1, hb⟩
    · exact absurd h1 path_not
theorem apply8 {w : World} {B c : Nat} {uD uS : Value} (hf : TmsAt w (some ⟨B, 0, none⟩) fs8) (hD : DatasV w uD D8) (hS : ScopeV w uS S8) (hM : LibM w.heap.size w) :
    Calls Tryz.prog 10 #[uD, uS, .slice (some ⟨B, 0, none⟩) 3 c, .int .i64 2, .string sTag] w fun e w' => ∃ A K c c', e = .returned (.tuple #[.agg #[.int .u8 8, .string ⟨#[]⟩, .bool false, .slice A 0 c, .slice K 2 c'], .int .i64 0]) ∧ TmV w' (.agg #[.int .u8 8, .string ⟨#[]⟩, .bool false, .slice A 0 c, .slice K 2 c']) (eqTm (appTm sTag (varT bL)) (appTm sTag (varT bM))) ∧ Below w.heap.size w w' :=
  (applyF_yes (fs := fs8) (p := 2) (name := sTag) (s := bList) (r := sInt) (a := varT bL) (b := varT bM) ⟨⟨hD, hS, few8, by decide⟩, hf, by decide, rfl, sort_l, sort_m, by decide, by decide, sort_tag, by decide, by decide, by decide, by decide⟩ hM).mono fun e w' h => by
    obtain ⟨hb, A, K, c, c', h1, h2⟩ := h
    exact ⟨A, K, c, c', h1, h2, hb⟩
set_option maxRecDepth 100000 in
set_option maxHeartbeats 6400000 in
theorem awake8_ok {w : World} (hM : LibM w.heap.size w) : Calls Tryz.prog 4 #[] w fun e w' => e = .returned (.bool true) ∧ Below w.heap.size w w' := by
  have HM := Lib.hid hM
  clear hM
  go_enter Tryz.func4, Tryz.ntmps4
  go_wp2_with fail
  refine (vv8 (by decide)).mono ?_
  rintro e w1 ⟨rfl, ht1, hb1⟩
  have H1 := Lib.hid (show _ ∧ _ from ⟨ht1, hb1⟩)
  clear ht1 hb1
  go_wp2_with fail
  refine (vv8 (by decide)).mono ?_
  rintro e w2 ⟨rfl, ht2, hb2⟩
  have H2 := Lib.hid (show _ ∧ _ from ⟨ht2, hb2⟩)
  clear ht2 hb2
  go_wp2_with fail
  refine (ee8 (H1.out.1.bel H2.out.2) H2.out.1).mono ?_
  rintro e w3 ⟨B3, d3, rfl, ht3, hb3⟩
  have H3 := Lib.hid (show _ ∧ _ from ⟨ht3, bst (bst H1.out.2 H2.out.2) hb3⟩)
  clear ht3 hb3 H1 H2
  go_wp2_with fail
  refine (vv8 (by decide)).mono ?_
  rintro e w4 ⟨rfl, ht4, hb4⟩
  have H4 := Lib.hid (show _ ∧ _ from ⟨ht4, hb4⟩)
  clear ht4 hb4
  go_wp2_with fail
  refine (vv8 (by decide)).mono ?_
  rintro e w5 ⟨rfl, ht5, hb5⟩
  have H5 := Lib.hid (show _ ∧ _ from ⟨ht5, hb5⟩)
  clear ht5 hb5
  go_wp2_with fail
  refine (ee8 (H4.out.1.bel H5.out.2) H5.out.1).mono ?_
  rintro e w6 ⟨B6, d6, rfl, ht6, hb6⟩
  have H6 := Lib.hid (show _ ∧ _ ∧ _ from ⟨ht6, H3.out.1.bel (bst (bst H4.out.2 H5.out.2) hb6), bst H3.out.2 (bst (bst H4.out.2 H5.out.2) hb6)⟩)
  clear ht6 hb6 H3 H4 H5
  go_wp2_with fail
  refine (vv8 (by decide)).mono ?_
  rintro e w7 ⟨rfl, ht7, hb7⟩
  have H7 := Lib.hid (show _ ∧ _ from ⟨ht7, hb7⟩)
  clear ht7 hb7
  go_wp2_with fail
  refine (vv8 (by decide)).mono ?_
  rintro e w8 ⟨rfl, ht8, hb8⟩
  have H8 := Lib.hid (show _ ∧ _ from ⟨ht8, hb8⟩)
  clear ht8 hb8
  go_wp2_with fail
  refine (ee8 (H7.out.1.bel H8.out.2) H8.out.1).mono ?_
  rintro e w9 ⟨B9, d9, rfl, ht9, hb9⟩
  have H9 := Lib.hid (show _ ∧ _ ∧ _ ∧ _ from ⟨ht9, H6.out.1.bel (bst (bst H7.out.2 H8.out.2) hb9), H6.out.2.1.bel (bst (bst H7.out.2 H8.out.2) hb9), bst H6.out.2.2 (bst (bst H7.out.2 H8.out.2) hb9)⟩)
  clear ht9 hb9 H6 H7 H8
  go_wp2_with fail
  have z := heap_alloc_new w9 (.cells #[.int .u8 8, .string ⟨#[]⟩, .bool false, .slice none 0 0, .slice (some B3) 2 d3, .int .u8 8, .string ⟨#[]⟩, .bool false, .slice none 0 0, .slice (some B6) 2 d6, .int .u8 8, .string ⟨#[]⟩, .bool false, .slice none 0 0, .slice (some B9) 2 d9] 28)
  obtain ⟨wA, hwA⟩ : ∃ wA, wA = w9.alloc (.cells #[.int .u8 8, .string ⟨#[]⟩, .bool false, .slice none 0 0, .slice (some B3) 2 d3, .int .u8 8, .string ⟨#[]⟩, .bool false, .slice none 0 0, .slice (some B6) 2 d6, .int .u8 8, .string ⟨#[]⟩, .bool false, .slice none 0 0, .slice (some B9) 2 d9] 28) := ⟨_, rfl⟩
  rw [← hwA] at z ⊢
  have HF := Lib.hid (show TmsAt wA (some ⟨w9.heap.size, 0, none⟩) fs8 ∧ Below w.heap.size w wA ∧ LibM wA.heap.size wA from by
    obtain ⟨h1, h2, h3, h4⟩ := H9.out
    have hb : Below w9.heap.size w9 wA := by rw [hwA]; exact (Below.refl _ _).alloc (Nat.le_refl _) _
    exact ⟨tms_three z (h3.bel hb) (h2.bel hb) (h1.bel hb), bst h4 hb, HM.out.on (bst h4 hb) (bst h4 hb).size⟩)
  clear hwA H9 HM z
  refine (vv8 (by decide)).mono ?_
  rintro e w10 ⟨rfl, ht10, hb10⟩
  have H10 := Lib.hid (show _ ∧ _ from ⟨ht10, hb10⟩)
  clear ht10 hb10
  go_wp2_with fail
  refine (vv8 (by decide)).mono ?_
  rintro e w11 ⟨rfl, ht11, hb11⟩
  have H11 := Lib.hid (show _ ∧ _ from ⟨ht11, hb11⟩)
  clear ht11 hb11
  go_wp2_with fail
  have b11 : Below wA.heap.size wA (w11.alloc (.cells #[.int .i64 0, .int .i64 1] 3)) := bal8 (bst H10.out.2 H11.out.2) _
  refine (same8y (HF.out.1.below b11) ((H10.out.1.bel H11.out.2).bel ((Below.refl _ _).alloc (Nat.le_refl _) _)) (H11.out.1.bel ((Below.refl _ _).alloc (Nat.le_refl _) _)) (ints_two (heap_alloc_new _ _)) (HF.out.2.2.on b11 b11.size)).mono ?_
  rintro e w12 ⟨A12, K12, c12, d12, rfl, ht12, hb12⟩
  have H12 := Lib.hid (show _ ∧ _ from ⟨ht12, bst b11 hb12⟩)
  clear ht12 hb12 b11 H10 H11
  go_wp2_with fail
  have z := heap_alloc_new w12 (.cells #[.int .u8 8, .string ⟨#[]⟩, .bool false, .slice A12 0 c12, .slice K12 2 d12] 28)
  obtain ⟨wC, hwC⟩ : ∃ wC, wC = w12.alloc (.cells #[.int .u8 8, .string ⟨#[]⟩, .bool false, .slice A12 0 c12, .slice K12 2 d12] 28) := ⟨_, rfl⟩
  have hbC : Below w12.heap.size w12 wC := by rw [hwC]; exact (Below.refl _ _).alloc (Nat.le_refl _) _
  rw [← hwC] at z ⊢
  have HC := Lib.hid (show TmV wC (.agg #[.int .u8 8, .string ⟨#[]⟩, .bool false, .slice A12 0 c12, .slice K12 2 d12]) (eqTm (varT bX) (varT bZ)) ∧ wC.heap[w12.heap.size]? = some (.cells #[.int .u8 8, .string ⟨#[]⟩, .bool false, .slice A12 0 c12, .slice K12 2 d12] 28 (0, 0)) ∧ Below wA.heap.size wA wC from ⟨H12.out.1.bel hbC, z, bst H12.out.2 hbC⟩)
  clear z hwC hbC H12
  refine (vv8 (by decide)).mono ?_
  rintro e w13 ⟨rfl, ht13, hb13⟩
  have H13 := Lib.hid (show _ ∧ _ from ⟨ht13, hb13⟩)
  clear ht13 hb13
  go_wp2_with fail
  refine (vv8 (by decide)).mono ?_
  rintro e w14 ⟨rfl, ht14, hb14⟩
  have H14 := Lib.hid (show _ ∧ _ from ⟨ht14, hb14⟩)
  clear ht14 hb14
  go_wp2_with fail
  have bC : Below wC.heap.size wC (w14.alloc (.cells #[.int .i64 1, .int .i64 0] 3)) := bal8 (bst H13.out.2 H14.out.2) _
  have bA := bst HC.out.2.2 bC
  refine (same8n (HF.out.1.below bA) ((H13.out.1.bel H14.out.2).bel ((Below.refl _ _).alloc (Nat.le_refl _) _)) (H14.out.1.bel ((Below.refl _ _).alloc (Nat.le_refl _) _)) (ints_two (heap_alloc_new _ _)) (HF.out.2.2.on bA bA.size)).mono ?_
  rintro e w15 ⟨rfl, hb15⟩
  have H15 := Lib.hid (bst bC hb15)
  clear hb15 bC bA H13 H14
  go_wp2_with fail
  obtain ⟨wD, hwD⟩ : ∃ wD, wD = w15.alloc (.cells #[.int .u8 0, .string ⟨#[]⟩, .bool false, .slice none 0 0, .slice none 0 0] 28) := ⟨_, rfl⟩
  have HD := Lib.hid (show Below wC.heap.size wC wD from by rw [hwD]; exact bal8 H15.out _)
  rw [← hwD]
  clear hwD H15
  refine lists8_ok.mono ?_
  rintro e w16 ⟨uD, rfl, hD, hb16⟩
  have H16 := Lib.hid (show _ ∧ _ from ⟨hD, hb16⟩)
  clear hD hb16
  go_wp2_with fail
  refine names8_ok.mono ?_
  rintro e w17 ⟨uS, rfl, hS, hb17⟩
  have H17 := Lib.hid (show _ ∧ _ from ⟨hS, hb17⟩)
  clear hS hb17
  go_wp2_with fail
  have bC : Below wC.heap.size wC w17 := bst (bst HD.out H16.out.2) H17.out.2
  have bA := bst HC.out.2.2 bC
  refine (apply8 (HF.out.1.below bA) (H16.out.1.sub (sub_below H17.out.2)) H17.out.1 (HF.out.2.2.on bA bA.size)).mono ?_
  rintro e w18 ⟨A18, K18, c18, d18, rfl, ht18, hb18⟩
  have H18 := Lib.hid (show _ ∧ _ from ⟨ht18, bst bC hb18⟩)
  clear ht18 hb18 bC bA H16 H17 HD
  go_wp2_with fail
  have z := heap_alloc_new w18 (.cells #[.int .u8 8, .string ⟨#[]⟩, .bool false, .slice A18 0 c18, .slice K18 2 d18] 28)
  obtain ⟨wE, hwE⟩ : ∃ wE, wE = w18.alloc (.cells #[.int .u8 8, .string ⟨#[]⟩, .bool false, .slice A18 0 c18, .slice K18 2 d18] 28) := ⟨_, rfl⟩
  have hbE : Below w18.heap.size w18 wE := by rw [hwE]; exact (Below.refl _ _).alloc (Nat.le_refl _) _
  rw [← hwE] at z ⊢
  have HT := Lib.hid (show TmV wE (.agg #[.int .u8 8, .string ⟨#[]⟩, .bool false, .slice A12 0 c12, .slice K12 2 d12]) (eqTm (varT bX) (varT bZ)) ∧ TmV wE (.agg #[.int .u8 8, .string ⟨#[]⟩, .bool false, .slice A18 0 c18, .slice K18 2 d18]) (eqTm (appTm sTag (varT bL)) (appTm sTag (varT bM))) ∧ Below w.heap.size w wE from ⟨HC.out.1.bel (bst H18.out.2 hbE), H18.out.1.bel hbE, bst (bst HF.out.2.1 HC.out.2.2) (bst H18.out.2 hbE)⟩)
  have HK := Lib.hid (show ∀ w' : World, Below wE.heap.size wE w' → w'.cell? ⟨w12.heap.size, 0, none⟩ = some (.int .u8 8) ∧ w'.cell? ⟨w12.heap.size, 1, none⟩ = some (.string ⟨#[]⟩) ∧ w'.cell? ⟨w12.heap.size, 2, none⟩ = some (.bool false) ∧ w'.cell? ⟨w12.heap.size, 3, none⟩ = some (.slice A12 0 c12) ∧ w'.cell? ⟨w12.heap.size, 4, none⟩ = some (.slice K12 2 d12) ∧ w'.cell? ⟨w18.heap.size, 0, none⟩ = some (.int .u8 8) ∧ w'.cell? ⟨w18.heap.size, 1, none⟩ = some (.string ⟨#[]⟩) ∧ w'.cell? ⟨w18.heap.size, 2, none⟩ = some (.bool false) ∧ w'.cell? ⟨w18.heap.size, 3, none⟩ = some (.slice A18 0 c18) ∧ w'.cell? ⟨w18.heap.size, 4, none⟩ = some (.slice K18 2 d18) from fun w' hb' => by
    have q0 : wE.heap[w12.heap.size]? = _ := ((bst H18.out.2 hbE).block _ (Own.lt.cell_lt' HC.out.2.1)).trans HC.out.2.1
    have q1 := (hb'.block _ (Own.lt.cell_lt' q0)).trans q0
    have q2 := (hb'.block _ (Own.lt.cell_lt' z)).trans z
    exact ⟨cell_blk q1, cell_blk q1, cell_blk q1, cell_blk q1, cell_blk q1, cell_blk q2, cell_blk q2, cell_blk q2, cell_blk q2, cell_blk q2⟩)
  clear z hwE hbE HC H18 HF
  go_region_held3 (fun w' => w'.cell? ⟨w12.heap.size, 0, none⟩ = some (.int .u8 8) ∧ w'.cell? ⟨w12.heap.size, 1, none⟩ = some (.string ⟨#[]⟩) ∧ w'.cell? ⟨w12.heap.size, 2, none⟩ = some (.bool false) ∧ w'.cell? ⟨w12.heap.size, 3, none⟩ = some (.slice A12 0 c12) ∧ w'.cell? ⟨w12.heap.size, 4, none⟩ = some (.slice K12 2 d12) ∧ w'.cell? ⟨w18.heap.size, 0, none⟩ = some (.int .u8 8) ∧ w'.cell? ⟨w18.heap.size, 1, none⟩ = some (.string ⟨#[]⟩) ∧ w'.cell? ⟨w18.heap.size, 2, none⟩ = some (.bool false) ∧ w'.cell? ⟨w18.heap.size, 3, none⟩ = some (.slice A18 0 c18) ∧ w'.cell? ⟨w18.heap.size, 4, none⟩ = some (.slice K18 2 d18))
    (first
      | exact HK.out _ X10.out
      | exact HK.out _ X9.out.2
      | exact HK.out _ X8.out.2.2
      | exact HK.out _ X7.out.2.2
      | exact HK.out _ X6.out.2
      | exact HK.out _ X5.out.2
      | exact HK.out _ X4.out
      | exact HK.out _ X3.out.2
      | exact HK.out _ X2.out.2.2
      | exact HK.out _ X1.out.2
      | exact HK.out _ ((Below.refl _ _).drew))
    (first
      | (go_at_call 7; refine (same_yes (t := eqTm (appTm sTag (varT bL)) (appTm sTag (varT bM))) (by decide) (HT.out.2.1.bel X9.out.2) X9.out.1).mono ?_; rintro e wj ⟨rfl, hbj⟩; have X10 := Lib.hid (show Below wE.heap.size wE wj from bst X9.out.2 hbj); clear hbj)
      | (go_at_call 8; refine (ee8 (w := wh) X8.out.2.1 X8.out.1).mono ?_; rintro e wi ⟨Bi, di, rfl, hti, hbi⟩; have X9 := Lib.hid (show TmV wi _ (eqTm (appTm sTag (varT bL)) (appTm sTag (varT bM))) ∧ Below wE.heap.size wE wi from ⟨hti, bst X8.out.2.2 hbi⟩); clear hti hbi)
      | (go_at_call 13; refine (aa8 (w := wg) (name := sTag) (by decide) X7.out.1).mono ?_; rintro e wh ⟨Bh, dh, rfl, hth, hbh⟩; have X8 := Lib.hid (show TmV wh _ (appTm sTag (varT bM)) ∧ TmV wh _ (appTm sTag (varT bL)) ∧ Below wE.heap.size wE wh from ⟨hth, X7.out.2.1.bel hbh, bst X7.out.2.2 hbh⟩); clear hth hbh)
      | (go_at_call 9; refine (vv8 (w := wf) (by decide)).mono ?_; rintro e wg ⟨rfl, htg, hbg⟩; have X7 := Lib.hid (show TmV wg _ (varT bM) ∧ TmV wg _ (appTm sTag (varT bL)) ∧ Below wE.heap.size wE wg from ⟨htg, X6.out.1.bel hbg, bst X6.out.2 hbg⟩); clear htg hbg)
      | (go_at_call 13; refine (aa8 (w := we) (name := sTag) (by decide) X5.out.1).mono ?_; rintro e wf ⟨Bf, df, rfl, htf, hbf⟩; have X6 := Lib.hid (show TmV wf _ (appTm sTag (varT bL)) ∧ Below wE.heap.size wE wf from ⟨htf, bst X5.out.2 hbf⟩); clear htf hbf)
      | (go_at_call 9; refine (vv8 (w := wd) (by decide)).mono ?_; rintro e we ⟨rfl, hte, hbe⟩; have X5 := Lib.hid (show TmV we _ (varT bL) ∧ Below wE.heap.size wE we from ⟨hte, bst X4.out hbe⟩); clear hte hbe)
      | (go_at_call 7; refine (same_yes (t := eqTm (varT bX) (varT bZ)) (by decide) (HT.out.1.bel X3.out.2) X3.out.1).mono ?_; rintro e wd ⟨rfl, hbd⟩; have X4 := Lib.hid (show Below wE.heap.size wE wd from bst X3.out.2 hbd); clear hbd)
      | (go_at_call 8; refine (ee8 (w := wb) X2.out.2.1 X2.out.1).mono ?_; rintro e wc ⟨Bc, dc, rfl, htc, hbc⟩; have X3 := Lib.hid (show TmV wc _ (eqTm (varT bX) (varT bZ)) ∧ Below wE.heap.size wE wc from ⟨htc, bst X2.out.2.2 hbc⟩); clear htc hbc)
      | (go_at_call 9; refine (vv8 (w := wa) (by decide)).mono ?_; rintro e wb ⟨rfl, htb, hbb⟩; have X2 := Lib.hid (show TmV wb _ (varT bZ) ∧ TmV wb _ (varT bX) ∧ Below wE.heap.size wE wb from ⟨htb, X1.out.1.bel hbb, bst X1.out.2 hbb⟩); clear htb hbb)
      | (go_at_call 9; refine (vv8 (w := wE.drew) (by decide)).mono ?_; rintro e wa ⟨rfl, hta, hba⟩; have X1 := Lib.hid (show TmV wa _ (varT bX) ∧ Below wE.heap.size wE wa from ⟨hta, ((Below.refl _ _).drew).trans hba⟩); clear hta hba))
  all_goals (have HE := Lib.hid (bst HT.out.2.2 X10.out); clear HT HK X1 X2 X3 X4 X5 X6 X7 X8 X9 X10)
  all_goals go_wp2
  all_goals go_returns
  all_goals exact ⟨rfl, HE.out⟩
end Go.Proofs.YtlikpnaffpngiaaGreatDoor

namespace Go.Proofs.YtlikpnaffpngiaaGreatDoor
open Go.RowKit

/-- Whether a list is more than 2000. -/
theorem terms_great2 {w : World} {A : Option Addr} {l : List Tm} {c : Nat} (hl : TmsAt w A l) (hll : l.length ≤ 140737488355328) : ∃ k : Int, ((2000 : Int) < k ↔ 2000 < wtL l) ∧ ∀ (W : World), Below w.heap.size w W → Calls Tryz.prog 14 #[.slice A l.length c, .int .i64 2000] W (SaysI W k) := by
  have hf : FitsL l := fitsL_of fun j t hj => by
    obtain ⟨_, _, _, _, _, _, _, _, ht⟩ := hl j t hj
    exact ht.fits
  have h := cnt_Ts l (Cnt.nil (m := 2000) (by decide)) (by decide) (by decide) hf
  rw [Nat.zero_add] at h
  refine ⟨cTs l 0 2000, ⟨fun hk => ?_, fun hk => h.2.2.2 (by omega)⟩, fun W hW => (count_both 2000 (by omega)).2 W A l c (hl.below hW) hll⟩
  rcases Nat.lt_or_ge 2000 (wtL l) with h1 | h1
  · exact h1
  · have := h.2.2.1 (by omega)
    omega
set_option maxRecDepth 100000 in
set_option maxHeartbeats 3200000 in
theorem great8_ok {w : World} {K K' : Option Addr} {c c' : Nat} {l m : List Tm} (hl : TmsAt w K l) (hll : l.length ≤ 140737488355328) (hm : TmsAt w K' m) (hml : m.length ≤ 140737488355328) :
    Calls Tryz.prog 5 #[.slice K l.length c, .slice K' m.length c'] w fun e w' => ∃ g, e = .returned (.bool g) ∧ (g = false → wtL l ≤ 2000 ∧ wtL m ≤ 2000) ∧ Below w.heap.size w w' := by
  obtain ⟨k, hk, hC⟩ := terms_great2 (c := c) hl hll
  obtain ⟨k', hk', hC'⟩ := terms_great2 (c := c') hm hml
  have HC := Lib.hid hC
  have HC' := Lib.hid hC'
  have HK := Lib.hid (show _ ∧ _ from ⟨hk, hk'⟩)
  clear hl hll hm hml hk hk' hC hC'
  by_cases h1 : (2000 : Int) < k
  · have h3 : decide (k > (2000 : Int)) = true := decide_eq_true h1
    have h4 : decide ((2000 : Int) < k) = true := decide_eq_true h1
    go_enter Tryz.func5, Tryz.ntmps5
    go_wp2_with fail
    refine (HC.out w (Below.refl _ _)).mono ?_
    rintro e w1 ⟨rfl, hb1⟩
    have HE := Lib.hid hb1
    clear hb1 HC HC' HK h1
    go_wp2
    go_returns
    exact ⟨true, rfl, (fun h => by cases h), HE.out⟩
  · have h3 : decide (k > (2000 : Int)) = false := decide_eq_false h1
    have h4 : decide ((2000 : Int) < k) = false := decide_eq_false h1
    go_enter Tryz.func5, Tryz.ntmps5
    go_wp2_with fail
    refine (HC.out w (Below.refl _ _)).mono ?_
    rintro e w1 ⟨rfl, hb1⟩
    have HE := Lib.hid hb1
    have HC1 := Lib.hid (HC'.out w1 hb1)
    clear hb1 HC HC'
    go_wp2_with fail
    refine HC1.out.mono ?_
    rintro e w2 ⟨rfl, hb2⟩
    by_cases h5 : (2000 : Int) < k'
    · have h6 : decide (k' > (2000 : Int)) = true := decide_eq_true h5
      have h7 : decide ((2000 : Int) < k') = true := decide_eq_true h5
      have HF := Lib.hid (HE.out.trans (hb2.mono HE.out.size))
      clear hb2 HC1 HE HK h1 h5
      go_wp2
      go_returns
      exact ⟨true, rfl, (fun h => by cases h), HF.out⟩
    · have h6 : decide (k' > (2000 : Int)) = false := decide_eq_false h5
      have h7 : decide ((2000 : Int) < k') = false := decide_eq_false h5
      have HF := Lib.hid (show (wtL l ≤ 2000 ∧ wtL m ≤ 2000) ∧ Below w.heap.size w w2 from ⟨by
        have := HK.out
        omega, HE.out.trans (hb2.mono HE.out.size)⟩)
      clear hb2 HC1 HE HK h1 h5
      go_wp2
      go_returns
      exact ⟨false, rfl, fun _ => HF.out.1, HF.out.2⟩
end Go.Proofs.YtlikpnaffpngiaaGreatDoor

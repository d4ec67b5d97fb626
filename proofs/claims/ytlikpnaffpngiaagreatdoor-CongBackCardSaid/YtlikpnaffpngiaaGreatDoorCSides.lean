/- Paths along facts, as lists: the edge at a place, where it leads, a path, a path back, two paths one behind the other. No condition. Package cong's small parts: need, an edge's other end, the sides of the fact at a place. Premise: facts in memory. -/
import Derived.Test.YtlikpnaffpngiaaGreatDoorKeyP
import Derived.Test.YtlikpnaffpngiaaGreatDoorTOfA
import Derived.BigQuiet
import Derived.RegionDies
import Derived.BigCall
import Derived.StillTailTactics
set_option linter.unusedVariables false
set_option linter.unusedSimpArgs false
namespace Go.Proofs.YtlikpnaffpngiaaGreatDoor
open Go.RowKit Go.Lib

/-- A term's Key, as bytes. -/
def keyT (t : Tm) : List UInt8 := keyK (preT t)
/-- The sides of a fact that is an edge. -/
def sidesT (f : Tm) : Option (Tm × Tm) := if f.kind = 8 then (match f.kids with | [a, b] => some (a, b) | _ => none) else none
/-- The sides of the edge at a place. -/
def sidesAt (fs : List Tm) (at_ : Int) : Option (Tm × Tm) := if 0 ≤ at_ then fs[at_.toNat]?.bind sidesT else none
/-- Where an edge of two Keys leads. -/
def otherK (a b k : List UInt8) : Option (List UInt8) := if k = a then some b else if k = b then some a else none
def stepK (fs : List Tm) (k : List UInt8) (at_ : Int) : Option (List UInt8) := (sidesAt fs at_).bind fun p => otherK (keyT p.1) (keyT p.2) k
def walkK (fs : List Tm) (k : List UInt8) : List Int → Option (List UInt8)
  | [] => some k
  | at_ :: l => (stepK fs k at_).bind fun k' => walkK fs k' l
theorem otherK_back {a b k k' : List UInt8} (h : otherK a b k = some k') : otherK a b k' = some k := by
  unfold otherK at h ⊢
  by_cases h1 : k = a
  · rw [if_pos h1] at h
    injection h with h
    subst h
    by_cases h2 : b = a
    · rw [if_pos h2, h2, h1]
    · rw [if_neg h2, if_pos rfl, h1]
  · rw [if_neg h1] at h
    by_cases h2 : k = b
    · rw [if_pos h2] at h
      injection h with h
      subst h
      rw [if_pos rfl, h2]
    · rw [if_neg h2] at h
      cases h
theorem stepK_back {fs : List Tm} {k k' : List UInt8} {at_ : Int} (h : stepK fs k at_ = some k') : stepK fs k' at_ = some k := by
  unfold stepK at h ⊢
  obtain ⟨p, hp, ho⟩ := Option.bind_eq_some_iff.1 h
  rw [hp]
  exact otherK_back ho
theorem walkK_append (fs : List Tm) : ∀ (l m : List Int) (k : List UInt8), walkK fs k (l ++ m) = (walkK fs k l).bind fun k' => walkK fs k' m
  | [], _, _ => rfl
  | at_ :: l, m, k => by
    show (stepK fs k at_).bind (fun k' => walkK fs k' (l ++ m)) = ((stepK fs k at_).bind fun k' => walkK fs k' l).bind _
    cases stepK fs k at_ with
    | none => rfl
    | some k' => exact walkK_append fs l m k'
theorem walkK_back (fs : List Tm) : ∀ (l : List Int) (k k' : List UInt8), walkK fs k l = some k' → walkK fs k' l.reverse = some k
  | [], k, k', h => by
    injection h with h
    rw [h]; rfl
  | at_ :: l, k, k', h => by
    obtain ⟨k1, h1, h2⟩ := Option.bind_eq_some_iff.1 (show (stepK fs k at_).bind (fun k' => walkK fs k' l) = some k' from h)
    rw [List.reverse_cons, walkK_append, walkK_back fs l k1 k' h2]
    show walkK fs k1 [at_] = some k
    show (stepK fs k1 at_).bind (fun k' => walkK fs k' []) = some k
    rw [stepK_back h1]
    rfl
/-- The equality of two terms. -/
def eqTm (a b : Tm) : Tm := .mk 8 ⟨#[]⟩ false [] [a, b]
theorem walkK_own (a b : Tm) : walkK [eqTm a b] (keyT a) [0] = some (keyT b) := by
  show (stepK [eqTm a b] (keyT a) 0).bind (fun k' => walkK [eqTm a b] k' []) = some (keyT b)
  have h : stepK [eqTm a b] (keyT a) 0 = some (keyT b) := by
    show otherK (keyT a) (keyT b) (keyT a) = some (keyT b)
    unfold otherK
    rw [if_pos rfl]
  rw [h]
  rfl
end Go.Proofs.YtlikpnaffpngiaaGreatDoor

namespace Go.Proofs.YtlikpnaffpngiaaGreatDoor
open Go.RowKit Go.Lib

/-- ErrProof is thrown. -/
def ThrowP (e : Ending) : Prop := e = .panicked [{ v := .iface 32 (.int .i64 31), recovered := false }]
theorem cneed_yes {w : World} {n : Int} : Calls Tryz.prog 35 #[.bool true, .int .i64 n] w fun e w' => e = .returned (.tuple #[]) ∧ w' = w := by
  go_enter Tryz.func35, Tryz.ntmps35
  go_wp2
  go_returns
  exact ⟨rfl, rfl⟩
theorem cneed_no {w : World} {n : Int} : Calls Tryz.prog 35 #[.bool false, .int .i64 n] w fun e w' => e = .panicked [{ v := .iface 32 (.int .i64 n), recovered := false }] ∧ w' = w := by
  go_enter Tryz.func35, Tryz.ntmps35
  go_wp2
  exact ⟨rfl, rfl, rfl⟩
/-- The other end of an edge of two numbers, or ErrProof. -/
def OtherE (a b k : Nat) (w : World) (e : Ending) (w' : World) : Prop := Below w.heap.size w w' ∧ ((k = a ∧ e = .returned (.int .i64 b)) ∨ (k ≠ a ∧ k = b ∧ e = .returned (.int .i64 a)) ∨ (k ≠ a ∧ k ≠ b ∧ ThrowP e))
set_option maxRecDepth 100000 in
set_option maxHeartbeats 3200000 in
theorem other_ok {w : World} {a b k : Nat} :
    Calls Tryz.prog 34 #[.agg #[.int .i64 a, .int .i64 b], .int .i64 k] w (OtherE a b k w) := by
  have z0 := heap_alloc_new w (.cells #[.int .i64 a, .int .i64 b] 79)
  have c0 : (w.alloc (.cells #[.int .i64 a, .int .i64 b] 79)).cell? ⟨w.heap.size, 0, none⟩ = some (.int .i64 a) := (cell_of_row _ _ 0 _ _ _ z0).trans rfl
  have c1 : (w.alloc (.cells #[.int .i64 a, .int .i64 b] 79)).cell? ⟨w.heap.size, 1, none⟩ = some (.int .i64 b) := (cell_of_row _ _ 1 _ _ _ z0).trans rfl
  have HB := hid (show Below w.heap.size w (w.alloc (.cells #[.int .i64 a, .int .i64 b] 79)) from (Below.refl _ _).alloc (Nat.le_refl _) _)
  clear z0
  by_cases h1 : k = a
  · subst h1
    go_enter Tryz.func34, Tryz.ntmps34
    go_wp2
    go_returns
    exact ⟨HB.out, .inl ⟨rfl, rfl⟩⟩
  · have d1 : ((k : Int) == (a : Int)) = false := beq_eq_false_iff_ne.2 (by omega)
    have e1 : decide ((k : Int) = (a : Int)) = false := decide_eq_false (by omega)
    have H1 := hid h1
    clear h1
    by_cases h2 : k = b
    · subst h2
      go_enter Tryz.func34, Tryz.ntmps34
      go_wp2
      go_returns
      exact ⟨HB.out, .inr (.inl ⟨H1.out, rfl, rfl⟩)⟩
    · have d2 : ((k : Int) == (b : Int)) = false := beq_eq_false_iff_ne.2 (by omega)
      have e2 : decide ((k : Int) = (b : Int)) = false := decide_eq_false (by omega)
      have H2 := hid h2
      clear h2
      go_enter Tryz.func34, Tryz.ntmps34
      go_wp2
      exact ⟨rfl, HB.out, .inr (.inr ⟨H1.out, H2.out, rfl⟩)⟩
theorem below_setC {M g o : Nat} (h : M ≤ g) (w : World) (v : Value) : Below M w (w.setCell ⟨g, o, none⟩ v) := ⟨rfl, rfl, rfl, by simp, fun k hk => Below.heap_setCell _ _ _ _ (show k ≠ g by omega)⟩
theorem five_belowC {M N : Nat} (h : M ≤ N) (w : World) (y0 y1 y2 y3 y4 : Value) : Below M w (((((w.setCell ⟨N, 0, none⟩ y0).setCell ⟨N, 1, none⟩ y1).setCell ⟨N, 2, none⟩ y2).setCell ⟨N, 3, none⟩ y3).setCell ⟨N, 4, none⟩ y4) := ((((below_setC h w y0).trans (below_setC h _ y1)).trans (below_setC h _ y2)).trans (below_setC h _ y3)).trans (below_setC h _ y4)
/-- The sides of the edge at a place, or ErrProof. -/
def SidesE (fs : List Tm) (p : Int) (w : World) (e : Ending) (w' : World) : Prop := Below w.heap.size w w' ∧ ((sidesAt fs p = none ∧ ThrowP e) ∨ ∃ a b x0 x1 x2 x3 x4 y0 y1 y2 y3 y4, sidesAt fs p = some (a, b) ∧ e = .returned (.tuple #[.agg #[x0, x1, x2, x3, x4], .agg #[y0, y1, y2, y3, y4]]) ∧ TmV w' (.agg #[x0, x1, x2, x3, x4]) a ∧ TmV w' (.agg #[y0, y1, y2, y3, y4]) b)
/-- The same; the terms stand since W0. -/
def SidesE0 (W0 : World) (fs : List Tm) (p : Int) (w : World) (e : Ending) (w' : World) : Prop := Below w.heap.size w w' ∧ ((sidesAt fs p = none ∧ ThrowP e) ∨ ∃ a b x0 x1 x2 x3 x4 y0 y1 y2 y3 y4, sidesAt fs p = some (a, b) ∧ e = .returned (.tuple #[.agg #[x0, x1, x2, x3, x4], .agg #[y0, y1, y2, y3, y4]]) ∧ TmV W0 (.agg #[x0, x1, x2, x3, x4]) a ∧ TmV W0 (.agg #[y0, y1, y2, y3, y4]) b)
theorem kids_two {l : List Tm} (h : l.length = 2) : ∃ a b, l = [a, b] := by
  match l, h with
  | [a, b], _ => exact ⟨a, b, rfl⟩
theorem TmV.five' {w : World} {u : Value} {t : Tm} (h : TmV w u t) : ∃ A K c c', u = .agg #[.int .u8 t.kind, .string t.name, .bool t.neg, .slice A t.ds.length c, .slice K t.kids.length c'] := by
  obtain ⟨A, K, c, c', e, _⟩ := h.parts
  exact ⟨A, K, c, c', e⟩
set_option maxRecDepth 100000 in
set_option maxHeartbeats 6400000 in
theorem sides_ok0 {W0 w : World} {K : Option Addr} {c : Nat} {fs : List Tm} {p : Int} (hp : -9223372036854775808 ≤ p ∧ p < 9223372036854775808) (hf : TmsAt W0 K fs) (hb0 : Below W0.heap.size W0 w) :
    Calls Tryz.prog 24 #[.slice K fs.length c, .int .i64 p] w (SidesE0 W0 fs p w) := by
  have z0 := heap_alloc_new w (.cells #[.int .u8 0, .string ⟨#[]⟩, .bool false, .slice none 0 0, .slice none 0 0] 28)
  have z1 := heap_alloc_new (w.alloc (.cells #[.int .u8 0, .string ⟨#[]⟩, .bool false, .slice none 0 0, .slice none 0 0] 28)) (.cells #[.int .u8 0, .string ⟨#[]⟩, .bool false, .slice none 0 0, .slice none 0 0] 28)
  obtain ⟨w1, hw1⟩ : ∃ w1, w1 = (w.alloc (.cells #[.int .u8 0, .string ⟨#[]⟩, .bool false, .slice none 0 0, .slice none 0 0] 28)).alloc (.cells #[.int .u8 0, .string ⟨#[]⟩, .bool false, .slice none 0 0, .slice none 0 0] 28) := ⟨_, rfl⟩
  have hb1 : Below w.heap.size w w1 := by
    rw [hw1]
    exact ((Below.refl _ _).alloc (Nat.le_refl _) _).alloc (by rw [World.size_alloc]; omega) _
  have HW := hid hw1
  have HB := hid hb1
  have HH := hid hf
  have HB0 := hid (show Below W0.heap.size W0 w1 ∧ W0.heap.size ≤ w.heap.size from ⟨hb0.trans (hb1.mono hb0.size), hb0.size⟩)
  rw [World.size_alloc] at z1
  have HZ1 := hid (show w1.heap[w.heap.size]? = some (.cells #[.int .u8 0, .string ⟨#[]⟩, .bool false, .slice none 0 0, .slice none 0 0] 28 (0, 0)) ∧ w1.heap[w.heap.size + 1]? = some (.cells #[.int .u8 0, .string ⟨#[]⟩, .bool false, .slice none 0 0, .slice none 0 0] 28 (0, 0)) from by
    rw [hw1]
    exact ⟨(Below.heap_alloc _ _ _ (by rw [World.size_alloc]; omega)).trans z0, z1⟩)
  clear hw1 hb1 z0 z1 hf hb0
  by_cases h0 : 0 ≤ p
  · by_cases h1 : p < fs.length
    · obtain ⟨n, rfl⟩ : ∃ n : Nat, (n : Int) = p := ⟨p.toNat, by omega⟩
      have hn : n < fs.length := by omega
      obtain ⟨f, hf⟩ : ∃ f, fs[n]? = some f := ⟨_, List.getElem?_eq_getElem hn⟩
      obtain ⟨ad, u0, u1, u2, u3, u4, rfl, hc, ht⟩ := HH.out n f hf
      obtain ⟨A, K, c1, c2, e, hkd, hnm, hr, hsm, hdl, hkl, hks⟩ := ht.parts
      simp only [Value.agg.injEq, Array.mk.injEq, List.cons.injEq, and_true] at e
      obtain ⟨rfl, rfl, rfl, rfl, rfl⟩ := e
      obtain ⟨c0, c1', c2', c3, c4⟩ := hc
      replace c0 := (HB0.out.1.cell (cell_lt c0)).trans c0
      replace c1' := (HB0.out.1.cell (cell_lt c1')).trans c1'
      replace c2' := (HB0.out.1.cell (cell_lt c2')).trans c2'
      replace c3 := (HB0.out.1.cell (cell_lt c3)).trans c3
      replace c4 := (HB0.out.1.cell (cell_lt c4)).trans c4
      have HS := hid (show sidesAt fs n = sidesT f from by
        unfold sidesAt
        rw [if_pos h0, show ((n : Int)).toNat = n from rfl, hf]
        rfl)
      have HF := hid hks
      have d0 : decide ((0 : Int) ≤ (n : Int)) = true := decide_eq_true h0
      have hn' : (n : Int) < (fs.length : Int) := h1
      clear ht hkd hnm hr hsm hdl hks h1 h0 hf
      have r1 : w1.cell? { block := (ad.add (n * 5)).block, off := (ad.add (n * 5)).off + 1 } = some (.string f.name) := c1'
      have r2 : w1.cell? { block := (ad.add (n * 5)).block, off := (ad.add (n * 5)).off + 2 } = some (.bool f.neg) := c2'
      have r3 : w1.cell? { block := (ad.add (n * 5)).block, off := (ad.add (n * 5)).off + 3 } = some (.slice A f.ds.length c1) := c3
      have r4 : w1.cell? { block := (ad.add (n * 5)).block, off := (ad.add (n * 5)).off + 4 } = some (.slice K f.kids.length c2) := c4
      clear c1' c2' c3 c4
      rw [HW.out] at c0 r1 r2 r3 r4
      obtain ⟨w3, hw3⟩ : ∃ w3, w3 = w1.alloc (.cells #[.int .u8 f.kind, .string f.name, .bool f.neg, .slice A f.ds.length c1, .slice K f.kids.length c2] 28) := ⟨_, rfl⟩
      have hb3 : Below w1.heap.size w1 w3 := by rw [hw3]; exact (Below.refl _ _).alloc (Nat.le_refl _) _
      have H3 := hid (show Below w.heap.size w w3 ∧ Below w1.heap.size w1 w3 ∧ Below W0.heap.size W0 w3 from ⟨HB.out.trans (hb3.mono HB.out.size), hb3, HB0.out.1.trans (hb3.mono HB0.out.1.size)⟩)
      have q3 : w3.heap[w1.heap.size]? = some (.cells #[.int .u8 f.kind, .string f.name, .bool f.neg, .slice A f.ds.length c1, .slice K f.kids.length c2] 28 (0, 0)) := by rw [hw3]; exact heap_alloc_new _ _
      have HQ := hid q3
      clear hb3 q3
      have HW3 := hid hw3
      clear hw3
      by_cases hk8 : f.kind = 8
      · by_cases hk2 : f.kids.length = 2
        · obtain ⟨ka, kb, hkk⟩ := kids_two hk2
          have HN := hid (show sidesAt fs n = some (ka, kb) from by
            rw [HS.out]
            unfold sidesT
            rw [if_pos hk8, hkk])
          obtain ⟨kd, x0, x1, x2, x3, x4, rfl, ⟨x0c, x1c, x2c, x3c, x4c⟩, xt⟩ := HF.out 0 ka (by rw [hkk]; rfl)
          obtain ⟨kd', y0, y1, y2, y3, y4, e, ⟨y0c, y1c, y2c, y3c, y4c⟩, yt⟩ := HF.out 1 kb (by rw [hkk]; rfl)
          injection e with e
          subst e
          obtain ⟨A1, K1, e1, e1', e⟩ := TmV.five' xt
          simp only [Value.agg.injEq, Array.mk.injEq, List.cons.injEq, and_true] at e
          obtain ⟨rfl, rfl, rfl, rfl, rfl⟩ := e
          obtain ⟨A2, K2, e2, e2', e⟩ := TmV.five' yt
          simp only [Value.agg.injEq, Array.mk.injEq, List.cons.injEq, and_true] at e
          obtain ⟨rfl, rfl, rfl, rfl, rfl⟩ := e
          have hkb : w.heap.size ≠ kd.block := Nat.ne_of_gt (Nat.lt_of_lt_of_le (cell_lt x0c) HB0.out.2)
          have hsz : w1.heap.size = w.heap.size + 2 := by rw [HW.out, World.size_alloc, World.size_alloc]
          have HS3 := hid (show ∀ W, Below w3.heap.size w3 W → True from fun _ _ => trivial)
          replace x0c := (H3.out.2.2.cell (cell_lt x0c)).trans x0c
          replace x1c := (H3.out.2.2.cell (cell_lt x1c)).trans x1c
          replace x2c := (H3.out.2.2.cell (cell_lt x2c)).trans x2c
          replace x3c := (H3.out.2.2.cell (cell_lt x3c)).trans x3c
          replace x4c := (H3.out.2.2.cell (cell_lt x4c)).trans x4c
          replace y0c := (H3.out.2.2.cell (cell_lt y0c)).trans y0c
          replace y1c := (H3.out.2.2.cell (cell_lt y1c)).trans y1c
          replace y2c := (H3.out.2.2.cell (cell_lt y2c)).trans y2c
          replace y3c := (H3.out.2.2.cell (cell_lt y3c)).trans y3c
          replace y4c := (H3.out.2.2.cell (cell_lt y4c)).trans y4c
          have dk : ((f.kids.length : Int) == 2) = true := beq_iff_eq.2 (by omega)
          have d8 : (f.kind == 8) = true := beq_iff_eq.2 hk8
          have hk0 : (0 : Int) < (f.kids.length : Int) := by omega
          have hk1 : (1 : Int) < (f.kids.length : Int) := by omega
          have q4 : w3.cell? ⟨w1.heap.size, 4, none⟩ = some (.slice (some kd) f.kids.length c2) := (cell_of_row _ _ 4 _ _ _ HQ.out).trans rfl
          have HT := hid (show _ ∧ _ from ⟨xt, yt⟩)
          have HZ := hid (show _ ∧ _ from ⟨(H3.out.2.1.block _ (Own.lt.cell_lt' HZ1.out.1)).trans HZ1.out.1, (H3.out.2.1.block _ (Own.lt.cell_lt' HZ1.out.2)).trans HZ1.out.2⟩)
          have H8 := hid (show _ ∧ _ from ⟨hk8, hkk⟩)
          clear hk8 hk2 HS hkk xt yt
          go_enter Tryz.func24, Tryz.ntmps24
          go_wp2_with fail
          refine cneed_yes.mono ?_
          rintro e w' ⟨rfl, rfl⟩
          go_wp2_with fail
          refine cneed_yes.mono ?_
          rintro e w' ⟨rfl, rfl⟩
          go_wp2_with fail
          rw [← HW.out, ← HW3.out]
          have q4' : w3.cell? ⟨w.heap.size + 1 + 1, 4, none⟩ = some (.slice (some kd) f.kids.length c2) := by rw [← q4, hsz]
          obtain ⟨bk, ok, sk⟩ := kd
          replace hkb : ¬ w.heap.size = bk := hkb
          obtain rfl : sk = none := by
            cases sk with
            | none => rfl
            | some v => cases hh : w3.heap[bk]? with
              | none => simp [World.cell?, Addr.add, hh] at x0c
              | some o => cases o <;> simp [World.cell?, Addr.add, hh] at x0c
          simp only [add_eq, Nat.zero_mul, Nat.one_mul, Nat.add_zero] at x0c x1c x2c x3c x4c y0c y1c y2c y3c y4c
          have m0 : w3.heap[w.heap.size]? = some (.cells #[.int .u8 0, .string ⟨#[]⟩, .bool false, .slice none 0 0, .slice none 0 0] 28 (0, 0)) := HZ.out.1
          have m1 : w3.heap[w.heap.size + 1]? = some (.cells #[.int .u8 0, .string ⟨#[]⟩, .bool false, .slice none 0 0, .slice none 0 0] 28 (0, 0)) := HZ.out.2
          have s0 : w3.cell? ⟨w.heap.size, 0, none⟩ = some (.int .u8 0) := (cell_of_row _ _ 0 _ _ _ m0).trans rfl
          have s1 : w3.cell? ⟨w.heap.size, 1, none⟩ = some (.string ⟨#[]⟩) := (cell_of_row _ _ 1 _ _ _ m0).trans rfl
          have s2 : w3.cell? ⟨w.heap.size, 2, none⟩ = some (.bool false) := (cell_of_row _ _ 2 _ _ _ m0).trans rfl
          have s3 : w3.cell? ⟨w.heap.size, 3, none⟩ = some (.slice none 0 0) := (cell_of_row _ _ 3 _ _ _ m0).trans rfl
          have s4 : w3.cell? ⟨w.heap.size, 4, none⟩ = some (.slice none 0 0) := (cell_of_row _ _ 4 _ _ _ m0).trans rfl
          have t0 : w3.cell? ⟨w.heap.size + 1, 0, none⟩ = some (.int .u8 0) := (cell_of_row _ _ 0 _ _ _ m1).trans rfl
          have t1 : w3.cell? ⟨w.heap.size + 1, 1, none⟩ = some (.string ⟨#[]⟩) := (cell_of_row _ _ 1 _ _ _ m1).trans rfl
          have t2 : w3.cell? ⟨w.heap.size + 1, 2, none⟩ = some (.bool false) := (cell_of_row _ _ 2 _ _ _ m1).trans rfl
          have t3 : w3.cell? ⟨w.heap.size + 1, 3, none⟩ = some (.slice none 0 0) := (cell_of_row _ _ 3 _ _ _ m1).trans rfl
          have t4 : w3.cell? ⟨w.heap.size + 1, 4, none⟩ = some (.slice none 0 0) := (cell_of_row _ _ 4 _ _ _ m1).trans rfl
          have ff : ∀ o, w3.frozen? ⟨w.heap.size, o, none⟩ = false := fun o => by simp [World.frozen?, m0]
          have gg : ∀ o, w3.frozen? ⟨w.heap.size + 1, o, none⟩ = false := fun o => by simp [World.frozen?, m1]
          have f0 := ff 0
          have f1 := ff 1
          have f2 := ff 2
          have f3 := ff 3
          have f4 := ff 4
          have g0 := gg 0
          have g1 := gg 1
          have g2 := gg 2
          have g3 := gg 3
          have g4 := gg 4
          clear ff gg m0 m1 q4
          go_region
          rename_i K0 hK0
          refine then_n ?_
          refine hK0 _ _ ?_
          clear hK0 K0
          obtain ⟨wa, hwa⟩ : ∃ wa, wa = ((((w3.setCell ⟨w.heap.size, 0, none⟩ (.int .u8 ka.kind)).setCell ⟨w.heap.size, 1, none⟩ (.string ka.name)).setCell ⟨w.heap.size, 2, none⟩ (.bool ka.neg)).setCell ⟨w.heap.size, 3, none⟩ (.slice A1 ka.ds.length e1)).setCell ⟨w.heap.size, 4, none⟩ (.slice K1 ka.kids.length e1') := ⟨_, rfl⟩
          rw [← hwa]
          obtain ⟨wb, hwb⟩ : ∃ wb, wb = ((((wa.setCell ⟨w.heap.size + 1, 0, none⟩ (.int .u8 kb.kind)).setCell ⟨w.heap.size + 1, 1, none⟩ (.string kb.name)).setCell ⟨w.heap.size + 1, 2, none⟩ (.bool kb.neg)).setCell ⟨w.heap.size + 1, 3, none⟩ (.slice A2 kb.ds.length e2)).setCell ⟨w.heap.size + 1, 4, none⟩ (.slice K2 kb.kids.length e2') := ⟨_, rfl⟩
          rw [← hwb]
          have m0 : wa.heap[w.heap.size]? = some (.cells #[.int .u8 ka.kind, .string ka.name, .bool ka.neg, .slice A1 ka.ds.length e1, .slice K1 ka.kids.length e1'] 28 (0, 0)) := by rw [hwa]; exact five_set HZ.out.1
          have m1 : wa.heap[w.heap.size + 1]? = some (.cells #[.int .u8 0, .string ⟨#[]⟩, .bool false, .slice none 0 0, .slice none 0 0] 28 (0, 0)) := by rw [hwa]; exact (five_off (by omega)).trans HZ.out.2
          have n0 : wb.heap[w.heap.size]? = some (.cells #[.int .u8 ka.kind, .string ka.name, .bool ka.neg, .slice A1 ka.ds.length e1, .slice K1 ka.kids.length e1'] 28 (0, 0)) := by rw [hwb]; exact (five_off (by omega)).trans m0
          have n1 : wb.heap[w.heap.size + 1]? = some (.cells #[.int .u8 kb.kind, .string kb.name, .bool kb.neg, .slice A2 kb.ds.length e2, .slice K2 kb.kids.length e2'] 28 (0, 0)) := by rw [hwb]; exact five_set m1
          have hbf : Below w.heap.size w wb.drew := by
            refine Below.drew ?_
            refine H3.out.1.trans ?_
            refine Below.trans (b := wa) ?_ ?_
            · rw [hwa]; exact five_belowC (Nat.le_refl _) _ _ _ _ _ _
            · rw [hwb]; exact five_belowC (by omega) _ _ _ _ _ _
          obtain ⟨wf, hwf⟩ : ∃ wf, wf = wb.drew := ⟨_, rfl⟩
          rw [← hwf] at hbf ⊢
          rw [show wb.heap = wf.heap from by rw [hwf]; rfl] at n0 n1
          have p0 := cell_of_row wf w.heap.size 0 _ _ _ n0
          have p1 := cell_of_row wf w.heap.size 1 _ _ _ n0
          have p2 := cell_of_row wf w.heap.size 2 _ _ _ n0
          have p3 := cell_of_row wf w.heap.size 3 _ _ _ n0
          have p4 := cell_of_row wf w.heap.size 4 _ _ _ n0
          have o0 := cell_of_row wf (w.heap.size + 1) 0 _ _ _ n1
          have o1 := cell_of_row wf (w.heap.size + 1) 1 _ _ _ n1
          have o2 := cell_of_row wf (w.heap.size + 1) 2 _ _ _ n1
          have o3 := cell_of_row wf (w.heap.size + 1) 3 _ _ _ n1
          have o4 := cell_of_row wf (w.heap.size + 1) 4 _ _ _ n1
          simp at p0 p1 p2 p3 p4 o0 o1 o2 o3 o4
          have hres : SidesE0 W0 fs n w (.returned (.tuple #[.agg #[.int .u8 ka.kind, .string ka.name, .bool ka.neg, .slice A1 ka.ds.length e1, .slice K1 ka.kids.length e1'], .agg #[.int .u8 kb.kind, .string kb.name, .bool kb.neg, .slice A2 kb.ds.length e2, .slice K2 kb.kids.length e2']])) wf := ⟨hbf, .inr ⟨ka, kb, _, _, _, _, _, _, _, _, _, _, HN.out, rfl, HT.out.1, HT.out.2⟩⟩
          have HE := hid hres
          clear hres hbf
          refine wp_ret ?_
          exact bodyPost_ret (v := .tuple #[.agg #[.int .u8 ka.kind, .string ka.name, .bool ka.neg, .slice A1 ka.ds.length e1, .slice K1 ka.kids.length e1'], .agg #[.int .u8 kb.kind, .string kb.name, .bool kb.neg, .slice A2 kb.ds.length e2, .slice K2 kb.kids.length e2']]) (by simp [results, Tryz.results24, go_sem, p0, p1, p2, p3, p4, o0, o1, o2, o3, o4]) rfl HE.out
        · have dk : ((f.kids.length : Int) == 2) = false := beq_eq_false_iff_ne.2 (by omega)
          have d8 : (f.kind == 8) = true := beq_iff_eq.2 hk8
          have HN := hid (show sidesAt fs n = none from by
            rw [HS.out]
            unfold sidesT
            rw [if_pos hk8]
            split
            · next a b e => exact absurd (by rw [e]; rfl) hk2
            · rfl)
          have H8 := hid hk8
          clear hk8 hk2 HS
          go_enter Tryz.func24, Tryz.ntmps24
          go_wp2_with fail
          refine cneed_yes.mono ?_
          rintro e w' ⟨rfl, rfl⟩
          go_wp2_with fail
          refine cneed_no.mono ?_
          rintro e w' ⟨rfl, rfl⟩
          rw [← HW.out, ← HW3.out]
          exact ⟨rfl, H3.out.1, .inl ⟨HN.out, rfl⟩⟩
      · have d8 : (f.kind == 8) = false := beq_eq_false_iff_ne.2 hk8
        have HN := hid (show sidesAt fs n = none from by
          rw [HS.out]
          unfold sidesT
          rw [if_neg hk8])
        clear hk8 HS
        go_enter Tryz.func24, Tryz.ntmps24
        go_wp2_with fail
        refine cneed_yes.mono ?_
        rintro e w' ⟨rfl, rfl⟩
        go_wp2_with fail
        refine cneed_no.mono ?_
        rintro e w' ⟨rfl, rfl⟩
        rw [← HW.out, ← HW3.out]
        exact ⟨rfl, H3.out.1, .inl ⟨HN.out, rfl⟩⟩
    · have d0 : decide ((0 : Int) ≤ p) = true := decide_eq_true h0
      have d1 : decide (p < (fs.length : Int)) = false := decide_eq_false h1
      have HN := hid (show sidesAt fs p = none from by
        unfold sidesAt
        rw [if_pos h0, List.getElem?_eq_none (by omega)]
        rfl)
      clear h0 h1
      go_enter Tryz.func24, Tryz.ntmps24
      go_wp2_with (go_at_call 35; refine cneed_no.mono ?_; rintro e w' ⟨rfl, rfl⟩)
      rw [← HW.out]
      exact ⟨rfl, HB.out, .inl ⟨HN.out, rfl⟩⟩
  · have d0 : decide ((0 : Int) ≤ p) = false := decide_eq_false h0
    have HN := hid (show sidesAt fs p = none from by
      unfold sidesAt
      rw [if_neg h0])
    clear h0
    go_enter Tryz.func24, Tryz.ntmps24
    go_wp2_with (go_at_call 35; refine cneed_no.mono ?_; rintro e w' ⟨rfl, rfl⟩)
    rw [← HW.out]
    exact ⟨rfl, HB.out, .inl ⟨HN.out, rfl⟩⟩
theorem sides_ok {w : World} {K : Option Addr} {c : Nat} {fs : List Tm} {p : Int} (hp : -9223372036854775808 ≤ p ∧ p < 9223372036854775808) (hf : TmsAt w K fs) :
    Calls Tryz.prog 24 #[.slice K fs.length c, .int .i64 p] w (SidesE fs p w) := (sides_ok0 hp hf (Below.refl _ _)).mono fun e w' h => by
  obtain ⟨hb, h | ⟨a, b, x0, x1, x2, x3, x4, y0, y1, y2, y3, y4, h1, h2, h3, h4⟩⟩ := h
  · exact ⟨hb, .inl h⟩
  · exact ⟨hb, .inr ⟨a, b, _, _, _, _, _, _, _, _, _, _, h1, h2, h3.bel hb, h4.bel hb⟩⟩
end Go.Proofs.YtlikpnaffpngiaaGreatDoor

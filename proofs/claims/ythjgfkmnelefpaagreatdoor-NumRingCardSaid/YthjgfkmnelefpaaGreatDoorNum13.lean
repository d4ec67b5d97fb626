/- Contracts of package num's Parse. Contract of the laws' awake of stage 2: the chapter's examples hold. Premise: the table of powers of ten reads as it is laid. -/
import Derived.Test.YthjgfkmnelefpaaGreatDoorNum4
import Derived.Test.YthjgfkmnelefpaaGreatDoorNum2
import Derived.Test.YthjgfkmnelefpaaGreatDoorNum9
import Derived.Test.YthjgfkmnelefpaaGreatDoorNum11
import Derived.Test.YthjgfkmnelefpaaGreatDoorShelf
namespace Go.Proofs.YthjgfkmnelefpaaGreatDoor
open Go.RowKit

/-- A call that tells an api.Int and whether there is one. -/
def RetIntB (w : World) (n : Nat) (b ok : Bool) (e : Ending) (w' : World) : Prop := ∃ A k c, e = .returned (.tuple #[.agg #[.bool b, .slice A k c], .bool ok]) ∧ Rr w' (.slice A k c) n ∧ (n = 0 → b = false) ∧ Below w.heap.size w w'

set_option maxRecDepth 100000 in
set_option maxHeartbeats 1600000 in
/-- The text as it is cut, the digits as they are read, the sign as the number has it: all the rest goes by these three. -/
theorem numParse_core {s t : ByteArray} {neg ok sb : Bool} {v : Nat}
    (hc : ∀ W, Calls Tryz.prog 47 #[.string s, .string ⟨#[45]⟩] W fun e w' => e = .returned (.tuple #[.string t, .bool neg]) ∧ w' = W)
    (hof : ∀ W, Calls Tryz.prog 48 #[.string t] W (RetSB W v ok))
    (hsg : ∀ W A k c, Rr W (.slice A k c) v → Calls Tryz.prog 35 #[.slice A k c, .bool neg] W (RetNumB2 W v sb)) (w : World) :
    Calls Tryz.prog 19 #[.string s] w (RetIntB w (if ok && (sb == neg) then v else 0) (ok && (sb == neg) && neg) (ok && (sb == neg))) := by
  have HC := Lib.hid hc
  have HO := Lib.hid hof
  have HS := Lib.hid hsg
  clear hc hof hsg
  obtain ⟨W0, hW0⟩ : ∃ W0, W0 = w.alloc (Obj.cells #[Value.bool false, Value.slice none 0 0] 29) := ⟨_, rfl⟩
  have bW0 : Below w.heap.size w W0 := by rw [hW0]; exact bal (Below.refl _ _) _
  have K0 : Hid (W0.heap[w.heap.size]? = some (Obj.cells #[Value.bool false, Value.slice none 0 0] 29)) := by show _ = _; rw [hW0]; exact heap_alloc_new _ _
  have hs0 : w.heap.size < W0.heap.size := lt_block K0.out
  have HW0 := Lib.hid hW0
  have hfin : ∀ (w3 : World) (A3 : Option Addr) (k3 c3 n : Nat), Below W0.heap.size W0 w3 → Rr w3 (.slice A3 k3 c3) n → (∀ b' : Bool, ((w3.setCell ⟨w.heap.size, 0, none⟩ (.bool b')).setCell ⟨w.heap.size, 1, none⟩ (.slice A3 k3 c3)).cell? ⟨w.heap.size, 0, none⟩ = some (.bool b') ∧ ((w3.setCell ⟨w.heap.size, 0, none⟩ (.bool b')).setCell ⟨w.heap.size, 1, none⟩ (.slice A3 k3 c3)).cell? ⟨w.heap.size, 1, none⟩ = some (.slice A3 k3 c3) ∧ Rr ((w3.setCell ⟨w.heap.size, 0, none⟩ (.bool b')).setCell ⟨w.heap.size, 1, none⟩ (.slice A3 k3 c3)) (.slice A3 k3 c3) n) ∧ (w3.cell? ⟨w.heap.size, 0, none⟩ = some (.bool false) ∧ w3.cell? ⟨w.heap.size, 1, none⟩ = some (.slice none 0 0) ∧ w3.frozen? ⟨w.heap.size, 0, none⟩ = false ∧ w3.frozen? ⟨w.heap.size, 1, none⟩ = false) := fun w3 A3 k3 c3 n hb hr => by
    have k3' := (hb.block w.heap.size hs0).trans K0.out
    exact ⟨fun b' => two_stored k3' (fun d h => by cases h) (fun d h => by cases h) hr, cell_of_two k3'⟩
  have HFIN := Lib.hid hfin
  clear hW0 hfin
  cases ok <;> cases sb <;> cases neg
  all_goals
    go_enter Tryz.func19, Tryz.ntmps19
    go_wp2_with fail
    rw [← HW0.out]
    refine (HC.out _).mono ?_
    rintro e w1 ⟨rfl, rfl⟩
    go_wp2_with fail
    refine (HO.out _).mono ?_
    rintro e w2 ⟨A1, k1, c1, rfl, h1, hb⟩
    go_wp2_with fail
    refine (HS.out _ _ _ _ h1).mono ?_
    rintro e w3 ⟨A2, k2, c2, rfl, h2, h3, hb2⟩
    have hb30 := bstep hb hb2
    have hA := fun (b' : Bool) => HFIN.out (w3.alloc (Obj.cells #[Value.slice A2 k2 c2, Value.bool b'] 49)) none 0 0 0 (bal hb30 _) (rr_nil _)
    have hB := fun (b' : Bool) (w5 : World) (A5 : Option Addr) (k5 c5 : Nat) (hq : Below (w3.alloc (Obj.cells #[Value.slice A2 k2 c2, Value.bool b'] 49)).heap.size (w3.alloc (Obj.cells #[Value.slice A2 k2 c2, Value.bool b'] 49)) w5) => HFIN.out w5 A5 k5 c5 v (bstep (bal hb30 _) hq)
    have hT := fun (b' : Bool) => told_any (b := b') (h2.alloc (Obj.cells #[Value.slice A2 k2 c2, Value.bool b'] 49))
    have HT := Lib.hid hT
    have HB := Lib.hid hB
    have hbw := fun (o : Obj) (p : Value) (q : Value) => ((bstep bW0 (bal hb30 o)).setCell (p := ⟨w.heap.size, 0, none⟩) (Nat.le_refl _) p).setCell (p := ⟨w.heap.size, 1, none⟩) (Nat.le_refl _) q
    have HBW := Lib.hid hbw
    clear hbw hb hb2 hT hB h2
    obtain ⟨hy, m1, m2, m3, m4⟩ := hA true
    obtain ⟨hn, n1, n2, n3, n4⟩ := hA false
    have HY := Lib.hid hy
    have HN := Lib.hid hn
    clear hy hn hA
    go_wp2_with fail
    first
      | (first
           | refine (HT.out false (fun _ => rfl)).mono ?_
           | refine (HT.out true h3).mono ?_
         rintro e w5 ⟨A5, k5, c5, rfl, h5, h6, hb5⟩
         obtain ⟨hst, j1, j2, j3, j4⟩ := HB.out _ w5 A5 k5 c5 hb5 h5
         have hbx := bstep bW0 (bstep (bal hb30 _) hb5)
         have HST := Lib.hid hst
         clear hst hb5 h5 hb30
         go_wp2)
      | (obtain ⟨i1, i2, _⟩ := HN.out false
         obtain ⟨j1, j2, _⟩ := HY.out false
         refine bodyPost_ret (v := .tuple #[.agg #[.bool false, .slice none 0 0], .bool false]) (by simp [results, Tryz.results19, go_sem, i1, i2, j1, j2]) rfl ?_
         exact ⟨none, 0, 0, rfl, rr_nil _, fun _ => rfl, HBW.out _ _ _⟩)
  · obtain ⟨i1, i2, i3⟩ := HST.out false
    refine bodyPost_ret (v := .tuple #[.agg #[.bool false, .slice A5 k5 c5], .bool true]) (by simp [results, Tryz.results19, go_sem, i1, i2]) rfl ?_
    exact ⟨A5, k5, c5, rfl, i3, fun _ => rfl, (hbx.setCell (Nat.le_refl _) _).setCell (Nat.le_refl _) _⟩
  · obtain ⟨i1, i2, i3⟩ := HST.out true
    refine bodyPost_ret (v := .tuple #[.agg #[.bool true, .slice A5 k5 c5], .bool true]) (by simp [results, Tryz.results19, go_sem, i1, i2]) rfl ?_
    exact ⟨A5, k5, c5, rfl, i3, h6, (hbx.setCell (Nat.le_refl _) _).setCell (Nat.le_refl _) _⟩
end Go.Proofs.YthjgfkmnelefpaaGreatDoor

namespace Go.Proofs.YthjgfkmnelefpaaGreatDoor
open Go.RowKit

/-- A local number: its block. -/
def Loc (W : World) (g n : Nat) (b : Bool) : Prop := ∃ A k c, Holds_ W g #[.bool b, .slice A k c] ∧ Rr W (.slice A k c) n ∧ (n = 0 → b = false)
theorem Loc.below {W w' : World} {g n : Nat} {b : Bool} (h : Loc W g n b) (hb : Below W.heap.size W w') : Loc w' g n b := by
  obtain ⟨A, k, c, h1, h2, h3⟩ := h
  exact ⟨A, k, c, h1.step hb, h2.below hb, h3⟩
theorem Loc.lt {W : World} {g n : Nat} {b : Bool} (h : Loc W g n b) : g < W.heap.size := by
  obtain ⟨A, k, c, h1, _⟩ := h
  exact h1.lt
theorem Reg.loc {B : Nat} {W0 w : World} {G : List Nat} (h : Reg B W0 G w) {g n : Nat} {b : Bool} (hG : g ∉ G) (hl : Loc W0 g n b) : Loc w g n b := by
  obtain ⟨A, k, c, h1, h2, h3⟩ := hl
  have hlt := h1.lt
  obtain ⟨⟨T, h4⟩, h5⟩ := h1
  exact ⟨A, k, c, ⟨⟨T, (h.old g hlt hG).trans h4⟩, h5⟩, h.rr h2, h3⟩
theorem loc_new {W : World} {A : Option Addr} {k c n : Nat} {b : Bool} (h : Rr W (.slice A k c) n) (hb : n = 0 → b = false) (T : TypeId) : Loc (W.alloc (.cells #[.bool b, .slice A k c] T)) W.heap.size n b :=
  ⟨A, k, c, holds_new2 W (noDig_bool _) (noDig_slice _ _ _) T, h.alloc _, hb⟩

theorem litI (n : Int) (a : Nat) (b : Bool) (h1 : -9223372036854775808 ≤ n) (h2 : n ≤ 9223372036854775807) (ha : a = n.natAbs) (hb : decide (n < 0) = b) (W : World) : Calls Tryz.prog 23 #[.int .i64 n] W (RetInt W a b) := hb ▸ numOfInt_any n a h1 h2 ha

theorem isDec48 : isDec (bt ⟨#[48]⟩) := by
  have e : bt ⟨#[48]⟩ = [48] := rfl
  rw [e]
  refine ⟨fun k hk => ?_, .inl rfl⟩
  have : k = 0 := by simpa using hk
  subst this
  exact ⟨by decide, by decide⟩
theorem notDec43 : ¬ isDec (bt ⟨#[43, 49]⟩) := fun h => by
  have h1 := (h.1 0 (by decide)).1
  have e : (bt ⟨#[43, 49]⟩).getD 0 0 = 43 := rfl
  rw [e] at h1
  omega
theorem parse_minus0 (W : World) : Calls Tryz.prog 19 #[.string ⟨#[45, 48]⟩] W (RetIntB W 0 false false) :=
  numParse_core (s := ⟨#[45, 48]⟩) (t := ⟨#[48]⟩) (neg := true) (ok := true) (sb := false) (v := 0) (fun W' => Tryz.strings_CutPrefix ⟨#[45, 48]⟩ ⟨#[45]⟩ W') (fun W' => (of_yes (s := ⟨#[48]⟩) W' (by decide) isDec48).mono fun e w' h => by
    obtain ⟨v, rfl, hv, hb⟩ := h
    have hr := rr_isNat (N := 1) hv (by have e : dval (dg ⟨#[48]⟩) = 0 := rfl
                                        rw [e]; decide) (by decide)
    have e0 : dval (dg ⟨#[48]⟩) = 0 := rfl
    rw [e0] at hr
    obtain ⟨A, k, c, rfl⟩ := hr.shape
    exact ⟨A, k, c, rfl, hr, hb⟩) (fun W' A k c h => signed_any true h) W
theorem parse_plus1 (W : World) : Calls Tryz.prog 19 #[.string ⟨#[43, 49]⟩] W (RetIntB W 0 false false) :=
  numParse_core (s := ⟨#[43, 49]⟩) (t := ⟨#[43, 49]⟩) (neg := false) (ok := false) (sb := false) (v := 0) (fun W' => Tryz.strings_CutPrefix ⟨#[43, 49]⟩ ⟨#[45]⟩ W') (fun W' => (of_no (s := ⟨#[43, 49]⟩) W' (by decide) notDec43).mono fun e w' ⟨a, b⟩ => ⟨none, 0, 0, a, rr_nil _, b ▸ Below.refl _ _⟩) (fun W' A k c h => signed_any false h) W

/-- Three numbers written out one behind the other. -/
theorem ints_lit3 {W : World} {A1 A2 A3 : Option Addr} {k1 c1 k2 c2 k3 c3 n1 n2 n3 : Nat} {b1 b2 b3 : Bool} (h1 : Rd W (.slice A1 k1 c1) n1) (h2 : Rd W (.slice A2 k2 c2) n2) (h3 : Rd W (.slice A3 k3 c3) n3) (T : TypeId) :
    Ints (W.alloc (.cells #[.bool b1, .slice A1 k1 c1, .bool b2, .slice A2 k2 c2, .bool b3, .slice A3 k3 c3] T)) W.heap.size [(n1, b1), (n2, b2), (n3, b3)] := by
  intro j p hp
  match j, hp with
  | 0, hp => simp at hp; subst hp; exact ⟨A1, k1, c1, by simp, by simp, h1.alloc _⟩
  | 1, hp => simp at hp; subst hp; exact ⟨A2, k2, c2, by simp, by simp, h2.alloc _⟩
  | 2, hp => simp at hp; subst hp; exact ⟨A3, k3, c3, by simp, by simp, h3.alloc _⟩

theorem Stored.row {w w' : World} {g : Nat} {A : Option Addr} {xs : List Nat} (h : Row w A (u32s xs)) (hs : Stored g w w') : Row w' A (u32s xs) := by
  intro j v hv
  obtain ⟨ad, e, hc⟩ := h j v hv
  refine ⟨ad, e, ?_⟩
  have hne : (ad.add j).block ≠ g := fun hg => by
    obtain ⟨cs, _, ⟨⟨T, h4⟩, h5⟩, _⟩ := hs.same
    obtain ⟨d, _, hd⟩ := List.mem_map.1 (List.mem_of_getElem? hv)
    simp only [World.cell?, hg, h4] at hc
    split at hc
    · cases hc
    · exact h5 v (Array.mem_of_getElem? hc) d hd.symm
  rw [World.cell?_of_block (hs.other _ hne)]
  exact hc
theorem Stored.ints {w w' : World} {g g' : Nat} {L : List (Nat × Bool)} (h : Ints w g L) (hs : Stored g' w w') (hne : g ≠ g') : Ints w' g L := fun j p hp => by
  obtain ⟨A, k, c, h1, h2, A', c', xs, e, r1, r2⟩ := h j p hp
  exact ⟨A, k, c, (World.cell?_of_block (hs.other g hne)).trans h1, (World.cell?_of_block (hs.other g hne)).trans h2, A', c', xs, e, hs.row r1, r2⟩
/-- A list of numbers, written out in new memory. -/
def kInts (L : List (Nat × Bool)) : PK := .list L.length (fun g w => Ints w g L) (fun _ _ _ h hb => h.below hb) (fun _ _ _ _ h hs hne => hs.ints h hne)

theorem dm_ex2 (b1 b2 : Bool) (q r : Nat) (sq sr : Bool) (h : divQ 7 (sgn 7 b1) 2 b2 = q ∧ sgn (divQ 7 (sgn 7 b1) 2 b2) ((sgn 7 b1) != b2) = sq ∧ divR 7 (sgn 7 b1) 2 b2 = r ∧ sgn (divR 7 (sgn 7 b1) 2 b2) b2 = sr) (W : World) {A1 : Option Addr} {k1 c1 : Nat} {A2 : Option Addr} {k2 c2 : Nat} (h1 : Rr W (.slice A1 k1 c1) 7) (h2 : Rr W (.slice A2 k2 c2) 2) :
    Calls Tryz.prog 24 #[.agg #[.bool b1, .slice A1 k1 c1], .agg #[.bool b2, .slice A2 k2 c2]] W (RetInt2 W q sq r sr) := by
  obtain ⟨e1, e2, e3, e4⟩ := h
  have := divMod_int (N := 1) b1 b2 h1.rd h2.rd (by decide) (by decide) (by decide) (by decide)
  rw [e2, e4, e1, e3] at this
  exact this
theorem gcd_ex (W : World) (g : Nat) (h : Ints W g [(4, true), (6, false), (0, false)]) : Calls Tryz.prog 14 #[.slice (some ⟨g, 0, none⟩) 3 3] W (RetInt W 2 false) :=
  gcd_any (c0 := 3) (N := 1) h (fun p hp => by
    rcases List.mem_cons.1 hp with rfl | hp
    · decide
    rcases List.mem_cons.1 hp with rfl | hp
    · decide
    · rw [List.mem_singleton.1 hp]; decide) (by decide) (by decide)
theorem text_ex (W : World) (htab : Tab W) (hw : 3 ≤ W.heap.size) : Calls Tryz.prog 20 #[.agg #[.bool true, .slice none 0 0]] W fun e w' => e = .returned (.string ⟨#[48]⟩) ∧ Below W.heap.size W w' := by
  have h := numText_any (N := 1) true (rr_nil W).rd (by decide) (by decide) htab hw
  have e : ntext 0 (sgn 0 true) = ⟨#[48]⟩ := by
    show dtext 0 = _
    unfold dtext
    rw [decDigits_small (by decide)]; rfl
  rw [e] at h
  exact h

set_option maxRecDepth 100000 in
theorem awake2_lit {x : Nat → Value} {v0 v1 v2 v3 v4 v5 v6 v7 v8 v9 v10 v11 v12 v13 v14 v15 v16 v17 v18 v19 v20 v21 v22 v23 v24 v25 v26 v27 v28 v29 v30 v31 v32 v33 v34 v35 v36 v37 v38 v39 v40 v41 v42 v43 v44 v45 v46 v47 v48 v49 v50 v51 v52 v53 v54 v55 v56 v57 v58 v59 v60 v61 v62 v63 v64 v65 v66 v67 v68 v69 v70 v71 v72 v73 v74 v75 v76 v77 v78 v79 v80 v81 v82 v83 v84 v85 v86 v87 v88 v89 v90 v91 v92 v93 v94 v95 v96 v97 v98 v99 v100 v101 v102 v103 v104 : Value} {ds : List Deferred} {Q : Exit → Act → World → Prop} {w : World} (h : Q .normal { tmps := #[x 62, v1, v2, v3, v4, v5, v6, v7, v8, v9, v10, v11, v12, v13, v14, v15, v16, v17, v18, v19, v20, v21, v22, v23, v24, v25, v26, v27, v28, v29, v30, v31, v32, v33, v34, v35, v36, v37, v38, v39, v40, v41, v42, x 0, x 1, x 2, x 3, x 4, x 5, x 6, x 7, x 8, x 9, x 10, x 11, x 12, x 13, x 14, x 15, x 16, x 17, x 18, x 19, x 20, x 21, x 22, x 23, x 24, x 25, x 26, x 27, x 28, x 29, x 30, x 31, x 32, x 33, x 34, x 35, x 36, x 37, x 38, x 39, x 40, x 41, x 42, x 43, x 44, x 45, x 46, x 47, x 48, x 49, x 50, x 51, x 52, x 53, x 54, x 55, x 56, x 57, x 58, x 59, x 60, x 61], defers := ds } w) : Q .normal (putE x { tmps := #[v0, v1, v2, v3, v4, v5, v6, v7, v8, v9, v10, v11, v12, v13, v14, v15, v16, v17, v18, v19, v20, v21, v22, v23, v24, v25, v26, v27, v28, v29, v30, v31, v32, v33, v34, v35, v36, v37, v38, v39, v40, v41, v42, v43, v44, v45, v46, v47, v48, v49, v50, v51, v52, v53, v54, v55, v56, v57, v58, v59, v60, v61, v62, v63, v64, v65, v66, v67, v68, v69, v70, v71, v72, v73, v74, v75, v76, v77, v78, v79, v80, v81, v82, v83, v84, v85, v86, v87, v88, v89, v90, v91, v92, v93, v94, v95, v96, v97, v98, v99, v100, v101, v102, v103, v104], defers := ds } [(0, some 43), (1, some 44), (2, some 45), (3, some 46), (4, some 47), (5, some 48), (6, some 49), (7, some 50), (8, some 51), (9, some 52), (10, some 53), (11, some 54), (12, some 55), (13, some 56), (14, some 57), (15, some 58), (16, some 59), (17, some 60), (18, some 61), (19, some 62), (20, some 63), (21, some 64), (22, some 65), (23, some 66), (24, some 67), (25, some 68), (26, some 69), (27, some 70), (28, some 71), (29, some 72), (30, some 73), (31, some 74), (32, some 75), (33, some 76), (34, some 77), (35, some 78), (36, some 79), (37, some 80), (38, some 81), (39, some 82), (40, some 83), (41, some 84), (42, some 85), (43, some 86), (44, some 87), (45, some 88), (46, some 89), (47, some 90), (48, some 91), (49, some 92), (50, some 93), (51, some 94), (52, some 95), (53, some 96), (54, some 97), (55, some 98), (56, some 99), (57, some 100), (58, some 101), (59, some 102), (60, some 103), (61, some 104), (62, some 0)]) w := by
  have e : putE x { tmps := #[v0, v1, v2, v3, v4, v5, v6, v7, v8, v9, v10, v11, v12, v13, v14, v15, v16, v17, v18, v19, v20, v21, v22, v23, v24, v25, v26, v27, v28, v29, v30, v31, v32, v33, v34, v35, v36, v37, v38, v39, v40, v41, v42, v43, v44, v45, v46, v47, v48, v49, v50, v51, v52, v53, v54, v55, v56, v57, v58, v59, v60, v61, v62, v63, v64, v65, v66, v67, v68, v69, v70, v71, v72, v73, v74, v75, v76, v77, v78, v79, v80, v81, v82, v83, v84, v85, v86, v87, v88, v89, v90, v91, v92, v93, v94, v95, v96, v97, v98, v99, v100, v101, v102, v103, v104], defers := ds } [(0, some 43), (1, some 44), (2, some 45), (3, some 46), (4, some 47), (5, some 48), (6, some 49), (7, some 50), (8, some 51), (9, some 52), (10, some 53), (11, some 54), (12, some 55), (13, some 56), (14, some 57), (15, some 58), (16, some 59), (17, some 60), (18, some 61), (19, some 62), (20, some 63), (21, some 64), (22, some 65), (23, some 66), (24, some 67), (25, some 68), (26, some 69), (27, some 70), (28, some 71), (29, some 72), (30, some 73), (31, some 74), (32, some 75), (33, some 76), (34, some 77), (35, some 78), (36, some 79), (37, some 80), (38, some 81), (39, some 82), (40, some 83), (41, some 84), (42, some 85), (43, some 86), (44, some 87), (45, some 88), (46, some 89), (47, some 90), (48, some 91), (49, some 92), (50, some 93), (51, some 94), (52, some 95), (53, some 96), (54, some 97), (55, some 98), (56, some 99), (57, some 100), (58, some 101), (59, some 102), (60, some 103), (61, some 104), (62, some 0)] = { tmps := #[x 62, v1, v2, v3, v4, v5, v6, v7, v8, v9, v10, v11, v12, v13, v14, v15, v16, v17, v18, v19, v20, v21, v22, v23, v24, v25, v26, v27, v28, v29, v30, v31, v32, v33, v34, v35, v36, v37, v38, v39, v40, v41, v42, x 0, x 1, x 2, x 3, x 4, x 5, x 6, x 7, x 8, x 9, x 10, x 11, x 12, x 13, x 14, x 15, x 16, x 17, x 18, x 19, x 20, x 21, x 22, x 23, x 24, x 25, x 26, x 27, x 28, x 29, x 30, x 31, x 32, x 33, x 34, x 35, x 36, x 37, x 38, x 39, x 40, x 41, x 42, x 43, x 44, x 45, x 46, x 47, x 48, x 49, x 50, x 51, x 52, x 53, x 54, x 55, x 56, x 57, x 58, x 59, x 60, x 61], defers := ds } := by kernel_rfl
  rw [e]; exact h

set_option maxRecDepth 100000 in
set_option maxHeartbeats 16000000 in
theorem awake2_any (w : World) (htab : Tab w) (hw : 3 ≤ w.heap.size) :
    Calls Tryz.prog 7 #[] w fun e w' => e = .returned (.bool true) ∧ Below w.heap.size w w' := by
  have HT := Lib.hid htab
  have HM1 := Lib.hid (dm_ex2 true false 4 1 true false (by decide))
  have HM2 := Lib.hid (dm_ex2 false true 4 1 true true (by decide))
  have HM3 := Lib.hid (dm_ex2 true true 3 1 false true (by decide))
  clear htab
  go_enter Tryz.func7, Tryz.ntmps7
  have bb := Below.refl w.heap.size w
  go_wp2_with fail
  refine (litI (-7) 7 true (by decide) (by decide) rfl rfl _).mono ?_
  rintro e w1 ⟨A1, k1, c1, rfl, h1, _, d1⟩
  go_wp2_with fail
  refine (litI (2) 2 false (by decide) (by decide) rfl rfl _).mono ?_
  rintro e w2 ⟨A2, k2, c2, rfl, h2, _, d2⟩
  go_wp2_with fail
  refine (HM1.out _ (h1.below d2) h2).mono ?_
  rintro e w3 ⟨_, _, rfl, ⟨Aq, kq, cq, rfl, q, zq⟩, ⟨Ar, kr, cr, rfl, r, zr⟩, d3⟩
  have bb := (bstep (bstep (bstep bb d1) d2) d3)
  clear h1 h2 d1 d2 d3
  go_wp2_with fail
  obtain ⟨W1, hW⟩ : ∃ W, W = (w3.alloc (Obj.cells #[Value.bool true, Value.slice Aq kq cq] 29)).alloc (Obj.cells #[Value.bool false, Value.slice Ar kr cr] 29) := ⟨_, rfl⟩
  have bw : Below w3.heap.size w3 W1 := by rw [hW]; exact bal (bal (Below.refl _ _) _) _
  have lq1 : Loc W1 w3.heap.size 4 true := by rw [hW]; exact (loc_new q (by decide) _).below (bal (Below.refl _ _) _)
  have lr1 : Loc W1 (w3.heap.size + 1) 1 false := by rw [hW]; have := loc_new (r.alloc (Obj.cells #[Value.bool true, Value.slice Aq kq cq] 29)) (b := false) (by decide) 29; rw [World.size_alloc] at this; exact this
  rw [← hW]
  have bb := bstep bb bw
  clear hW bw q r zq zr
  refine (litI (7) 7 false (by decide) (by decide) rfl rfl _).mono ?_
  rintro e w4 ⟨A4, k4, c4, rfl, h4, _, d4⟩
  go_wp2_with fail
  refine (litI (-2) 2 true (by decide) (by decide) rfl rfl _).mono ?_
  rintro e w5 ⟨A5, k5, c5, rfl, h5, _, d5⟩
  go_wp2_with fail
  refine (HM2.out _ (h4.below d5) h5).mono ?_
  rintro e w6 ⟨_, _, rfl, ⟨Aq, kq, cq, rfl, q, zq⟩, ⟨Ar, kr, cr, rfl, r, zr⟩, d6⟩
  have lq1 := (((lq1.below d4).below d5).below d6)
  have lr1 := (((lr1.below d4).below d5).below d6)
  have bb := (bstep (bstep (bstep bb d4) d5) d6)
  clear h4 h5 d4 d5 d6
  go_wp2_with fail
  obtain ⟨W2, hW⟩ : ∃ W, W = (w6.alloc (Obj.cells #[Value.bool true, Value.slice Aq kq cq] 29)).alloc (Obj.cells #[Value.bool true, Value.slice Ar kr cr] 29) := ⟨_, rfl⟩
  have bw : Below w6.heap.size w6 W2 := by rw [hW]; exact bal (bal (Below.refl _ _) _) _
  have lq2 : Loc W2 w6.heap.size 4 true := by rw [hW]; exact (loc_new q (by decide) _).below (bal (Below.refl _ _) _)
  have lr2 : Loc W2 (w6.heap.size + 1) 1 true := by rw [hW]; have := loc_new (r.alloc (Obj.cells #[Value.bool true, Value.slice Aq kq cq] 29)) (b := true) (by decide) 29; rw [World.size_alloc] at this; exact this
  rw [← hW]
  have lq1 := lq1.below bw
  have lr1 := lr1.below bw
  have bb := bstep bb bw
  clear hW bw q r zq zr
  refine (litI (-7) 7 true (by decide) (by decide) rfl rfl _).mono ?_
  rintro e w7 ⟨A7, k7, c7, rfl, h7, _, d7⟩
  go_wp2_with fail
  refine (litI (-2) 2 true (by decide) (by decide) rfl rfl _).mono ?_
  rintro e w8 ⟨A8, k8, c8, rfl, h8, _, d8⟩
  go_wp2_with fail
  refine (HM3.out _ (h7.below d8) h8).mono ?_
  rintro e w9 ⟨_, _, rfl, ⟨Aq, kq, cq, rfl, q, zq⟩, ⟨Ar, kr, cr, rfl, r, zr⟩, d9⟩
  have lq1 := (((lq1.below d7).below d8).below d9)
  have lr1 := (((lr1.below d7).below d8).below d9)
  have lq2 := (((lq2.below d7).below d8).below d9)
  have lr2 := (((lr2.below d7).below d8).below d9)
  have bb := (bstep (bstep (bstep bb d7) d8) d9)
  clear h7 h8 d7 d8 d9
  go_wp2_with fail
  obtain ⟨W3, hW⟩ : ∃ W, W = (w9.alloc (Obj.cells #[Value.bool false, Value.slice Aq kq cq] 29)).alloc (Obj.cells #[Value.bool true, Value.slice Ar kr cr] 29) := ⟨_, rfl⟩
  have bw : Below w9.heap.size w9 W3 := by rw [hW]; exact bal (bal (Below.refl _ _) _) _
  have lq3 : Loc W3 w9.heap.size 3 false := by rw [hW]; exact (loc_new q (by decide) _).below (bal (Below.refl _ _) _)
  have lr3 : Loc W3 (w9.heap.size + 1) 1 true := by rw [hW]; have := loc_new (r.alloc (Obj.cells #[Value.bool false, Value.slice Aq kq cq] 29)) (b := true) (by decide) 29; rw [World.size_alloc] at this; exact this
  rw [← hW]
  have lq1 := lq1.below bw
  have lr1 := lr1.below bw
  have lq2 := lq2.below bw
  have lr2 := lr2.below bw
  have bb := bstep bb bw
  clear hW bw q r zq zr
  refine (parse_minus0 _).mono ?_
  rintro e w10 ⟨A, k, c, rfl, h, _, d10⟩
  have lq1 := (lq1.below d10)
  have lr1 := (lr1.below d10)
  have lq2 := (lq2.below d10)
  have lr2 := (lr2.below d10)
  have lq3 := (lq3.below d10)
  have lr3 := (lr3.below d10)
  have bb := (bstep bb d10)
  clear h d10
  go_wp2_with fail
  obtain ⟨W4, hW⟩ : ∃ W, W = w10.alloc (Obj.cells #[Value.bool false, Value.slice A k c] 29) := ⟨_, rfl⟩
  have bw : Below w10.heap.size w10 W4 := by rw [hW]; exact bal (Below.refl _ _) _
  rw [← hW]
  have lq1 := lq1.below bw
  have lr1 := lr1.below bw
  have lq2 := lq2.below bw
  have lr2 := lr2.below bw
  have lq3 := lq3.below bw
  have lr3 := lr3.below bw
  have bb := bstep bb bw
  clear hW bw
  refine (parse_plus1 _).mono ?_
  rintro e w11 ⟨A, k, c, rfl, h, _, d11⟩
  have lq1 := (lq1.below d11)
  have lr1 := (lr1.below d11)
  have lq2 := (lq2.below d11)
  have lr2 := (lr2.below d11)
  have lq3 := (lq3.below d11)
  have lr3 := (lr3.below d11)
  have bb := (bstep bb d11)
  clear h d11
  go_wp2_with fail
  obtain ⟨W5, hW⟩ : ∃ W, W = w11.alloc (Obj.cells #[Value.bool false, Value.slice A k c] 29) := ⟨_, rfl⟩
  have bw : Below w11.heap.size w11 W5 := by rw [hW]; exact bal (Below.refl _ _) _
  rw [← hW]
  have lq1 := lq1.below bw
  have lr1 := lr1.below bw
  have lq2 := lq2.below bw
  have lr2 := lr2.below bw
  have lq3 := lq3.below bw
  have lr3 := lr3.below bw
  have bb := bstep bb bw
  clear hW bw
  have hws := bb.size
  go_simp
  refine wp_region_pk (w.heap.size) [kInt 4 true, kInt 4 true, kIs (.bool true), kIs (.bool true), kInt 1 false, kInt 1 false, kIs (.bool true), kIs (.bool true), kIs (.bool true), kIs (.int .i64 0), kIs (.bool true), kIs (.bool true), kIs (.bool true), kInt 4 true, kInt 4 true, kIs (.bool true), kIs (.bool true), kIs (.bool true), kInt 1 true, kInt 1 true, kIs (.bool true), kIs (.bool true), kIs (.bool true), kIs (.int .i64 0), kIs (.bool true), kIs (.bool true), kIs (.bool true), kInt 3 false, kInt 3 false, kIs (.bool true), kIs (.bool true), kIs (.bool true), kInt 1 true, kInt 1 true, kIs (.bool true), kIs (.bool true), kIs (.bool true), kIs (.int .i64 0), kIs (.bool true), kIs (.bool true), kIs (.bool true), kInt 4 true, kInt 6 false, kInt 0 false, kInts [(4, true), (6, false), (0, false)], kInt 2 false, kInt 2 false, kIs (.bool true), kIs (.bool true), kIs (.bool true), kIs (.agg #[.bool true, .slice none 0 0]), kIs (.string ⟨#[48]⟩), kIs (.bool true), kIs (.bool true), kIs (.bool true), kIs (.bool false), kIs (.bool true), kIs (.bool true), kIs (.bool true), kIs (.bool false), kIs (.bool true), kIs (.bool true), kIs (.bool true)] [ [], [], [(0, some 43), (1, some 44)], [(2, some 45)], [], [], [(4, some 47), (5, some 48)], [(3, some 46), (6, some 49)], [(7, some 50)], [], [(9, some 52)], [(8, some 51), (10, some 53)], [(11, some 54)], [], [], [(13, some 56), (14, some 57)], [(12, some 55), (15, some 58)], [(16, some 59)], [], [], [(18, some 61), (19, some 62)], [(17, some 60), (20, some 63)], [(21, some 64)], [], [(23, some 66)], [(22, some 65), (24, some 67)], [(25, some 68)], [], [], [(27, some 70), (28, some 71)], [(26, some 69), (29, some 72)], [(30, some 73)], [], [], [(32, some 75), (33, some 76)], [(31, some 74), (34, some 77)], [(35, some 78)], [], [(37, some 80)], [(36, some 79), (38, some 81)], [(39, some 82)], [], [], [], [(41, some 84), (42, some 85), (43, some 86)], [(44, some 87)], [], [(45, some 88), (46, some 89)], [(40, some 83), (47, some 90)], [(48, some 91)], [], [(50, some 93)], [(51, some 94)], [(49, some 92), (52, some 95)], [(53, some 96)], [], [(55, some 98)], [(54, some 97), (56, some 99)], [(57, some 100)], [], [(59, some 102)], [(58, some 101), (60, some 103)], [(61, some 104)] ] [(0, some 43), (1, some 44), (2, some 45), (3, some 46), (4, some 47), (5, some 48), (6, some 49), (7, some 50), (8, some 51), (9, some 52), (10, some 53), (11, some 54), (12, some 55), (13, some 56), (14, some 57), (15, some 58), (16, some 59), (17, some 60), (18, some 61), (19, some 62), (20, some 63), (21, some 64), (22, some 65), (23, some 66), (24, some 67), (25, some 68), (26, some 69), (27, some 70), (28, some 71), (29, some 72), (30, some 73), (31, some 74), (32, some 75), (33, some 76), (34, some 77), (35, some 78), (36, some 79), (37, some 80), (38, some 81), (39, some 82), (40, some 83), (41, some 84), (42, some 85), (43, some 86), (44, some 87), (45, some 88), (46, some 89), (47, some 90), (48, some 91), (49, some 92), (50, some 93), (51, some 94), (52, some 95), (53, some 96), (54, some 97), (55, some 98), (56, some 99), (57, some 100), (58, some 101), (59, some 102), (60, some 103), (61, some 104), (62, some 0)] [(3, true), (8, true), (12, true), (17, true), (22, true), (26, true), (31, true), (36, true), (40, true), (49, true), (54, true), (58, true)] [] (by kernel_rfl) (by kernel_rfl) (by kernel_rfl) (by kernel_rfl) (by kernel_rfl) (by kernel_rfl) ?n1 ?n2 ?n3 ?n4 ?st ?en
  case n1 => show List.Nodup ([] : List Nat); simp
  case n2 => show ∀ g ∈ ([] : List Nat), _; intro g hg; cases hg
  case n3 => omega
  case n4 =>
    show ∀ g ∈ ([] : List Nat), ∃ cs, Holds_ _ g cs
    intro g hg
    cases hg
  case st =>
    refine pk_cons rfl rfl ?_ ?_
    · intro wr x hC
      simp only [deps, at_, List.getD_cons_zero, PK.sem, PK.move, kInt]
      intro K hK
      obtain ⟨A, k, c, hh, hr1, hr2⟩ := hC.loc (show _ ∉ ([] : List Nat) by simp <;> omega) lq1
      obtain ⟨m1, m2, m3, m4⟩ := hh.two
      simp only [putE, retOf]
      go_simp
      exact hK _ _ (Below.refl _ _) ⟨A, k, c, rfl, hr1, hr2⟩
    refine pk_cons rfl rfl ?_ ?_
    · intro wr x hC
      simp only [deps, at_, List.getD_cons_zero, List.getD_cons_succ, PK.sem, PK.move, kInt]
      intro K hK
      simp only [putE, retOf]
      go_simp
      refine (litI (-4) 4 true (by decide) (by decide) rfl rfl _).mono ?_
      rintro e w2 ⟨A2, k2, c2, rfl, h1, h2, h3⟩
      go_simp
      exact hK _ _ h3 ⟨A2, k2, c2, rfl, h1, h2⟩
    refine pk_cons rfl rfl ?_ ?_
    · intro wr x hC
      simp only [deps, at_, List.getD_cons_zero, List.getD_cons_succ, PK.sem, PK.move, kInt, kIs]
      intro hA hB
      intro K hK
      obtain ⟨A1, k1, c1, hx, hr1, _⟩ := hA
      obtain ⟨A2, k2, c2, hy, hr2, _⟩ := hB
      simp only [putE, retOf, hx, hy]
      go_simp
      refine (same2_yes hr1 hr2).mono ?_
      rintro e w2 ⟨rfl, h3⟩
      go_simp
      exact hK _ _ h3 rfl
    refine pk_cons rfl rfl ?_ ?_
    · intro wr x hC
      simp only [deps, at_, List.getD_cons_zero, List.getD_cons_succ, PK.sem, PK.move, kIs]
      intro h0
      intro K hK
      simp only [putE, retOf, h0]
      go_simp
      exact hK _ _ (Below.refl _ _) rfl
    refine pk_cons rfl rfl ?_ ?_
    · intro wr x hC
      simp only [deps, at_, List.getD_cons_zero, List.getD_cons_succ, PK.sem, PK.move, kInt]
      intro K hK
      obtain ⟨A, k, c, hh, hr1, hr2⟩ := hC.loc (show _ ∉ ([] : List Nat) by simp <;> omega) lr1
      obtain ⟨m1, m2, m3, m4⟩ := hh.two
      simp only [putE, retOf]
      go_simp
      exact hK _ _ (Below.refl _ _) ⟨A, k, c, rfl, hr1, hr2⟩
    refine pk_cons rfl rfl ?_ ?_
    · intro wr x hC
      simp only [deps, at_, List.getD_cons_zero, List.getD_cons_succ, PK.sem, PK.move, kInt]
      intro K hK
      simp only [putE, retOf]
      go_simp
      refine (litI (1) 1 false (by decide) (by decide) rfl rfl _).mono ?_
      rintro e w2 ⟨A2, k2, c2, rfl, h1, h2, h3⟩
      go_simp
      exact hK _ _ h3 ⟨A2, k2, c2, rfl, h1, h2⟩
    refine pk_cons rfl rfl ?_ ?_
    · intro wr x hC
      simp only [deps, at_, List.getD_cons_zero, List.getD_cons_succ, PK.sem, PK.move, kInt, kIs]
      intro hA hB
      intro K hK
      obtain ⟨A1, k1, c1, hx, hr1, _⟩ := hA
      obtain ⟨A2, k2, c2, hy, hr2, _⟩ := hB
      simp only [putE, retOf, hx, hy]
      go_simp
      refine (same2_yes hr1 hr2).mono ?_
      rintro e w2 ⟨rfl, h3⟩
      go_simp
      exact hK _ _ h3 rfl
    refine pk_cons rfl rfl ?_ ?_
    · intro wr x hC
      simp only [deps, at_, List.getD_cons_zero, List.getD_cons_succ, PK.sem, PK.move, kIs]
      intro h0 h1
      intro K hK
      simp only [putE, retOf, h0, h1]
      go_simp
      exact hK _ _ (Below.refl _ _) rfl
    refine pk_cons rfl rfl ?_ ?_
    · intro wr x hC
      simp only [deps, at_, List.getD_cons_zero, List.getD_cons_succ, PK.sem, PK.move, kIs]
      intro h0
      intro K hK
      simp only [putE, retOf, h0]
      go_simp
      exact hK _ _ (Below.refl _ _) rfl
    refine pk_cons rfl rfl ?_ ?_
    · intro wr x hC
      simp only [deps, at_, List.getD_cons_zero, List.getD_cons_succ, PK.sem, PK.move, kIs]
      intro K hK
      simp only [putE, retOf]
      go_simp
      exact hK _ _ (Below.refl _ _) rfl
    refine pk_cons rfl rfl ?_ ?_
    · intro wr x hC
      simp only [deps, at_, List.getD_cons_zero, List.getD_cons_succ, PK.sem, PK.move, kIs]
      intro h0
      intro K hK
      simp only [putE, retOf, h0]
      go_simp
      exact hK _ _ (Below.refl _ _) rfl
    refine pk_cons rfl rfl ?_ ?_
    · intro wr x hC
      simp only [deps, at_, List.getD_cons_zero, List.getD_cons_succ, PK.sem, PK.move, kIs]
      intro h0 h1
      intro K hK
      simp only [putE, retOf, h0, h1]
      go_simp
      exact hK _ _ (Below.refl _ _) rfl
    refine pk_cons rfl rfl ?_ ?_
    · intro wr x hC
      simp only [deps, at_, List.getD_cons_zero, List.getD_cons_succ, PK.sem, PK.move, kIs]
      intro h0
      intro K hK
      simp only [putE, retOf, h0]
      go_simp
      exact hK _ _ (Below.refl _ _) rfl
    refine pk_cons rfl rfl ?_ ?_
    · intro wr x hC
      simp only [deps, at_, List.getD_cons_zero, List.getD_cons_succ, PK.sem, PK.move, kInt]
      intro K hK
      obtain ⟨A, k, c, hh, hr1, hr2⟩ := hC.loc (show _ ∉ ([] : List Nat) by simp <;> omega) lq2
      obtain ⟨m1, m2, m3, m4⟩ := hh.two
      simp only [putE, retOf]
      go_simp
      exact hK _ _ (Below.refl _ _) ⟨A, k, c, rfl, hr1, hr2⟩
    refine pk_cons rfl rfl ?_ ?_
    · intro wr x hC
      simp only [deps, at_, List.getD_cons_zero, List.getD_cons_succ, PK.sem, PK.move, kInt]
      intro K hK
      simp only [putE, retOf]
      go_simp
      refine (litI (-4) 4 true (by decide) (by decide) rfl rfl _).mono ?_
      rintro e w2 ⟨A2, k2, c2, rfl, h1, h2, h3⟩
      go_simp
      exact hK _ _ h3 ⟨A2, k2, c2, rfl, h1, h2⟩
    refine pk_cons rfl rfl ?_ ?_
    · intro wr x hC
      simp only [deps, at_, List.getD_cons_zero, List.getD_cons_succ, PK.sem, PK.move, kInt, kIs]
      intro hA hB
      intro K hK
      obtain ⟨A1, k1, c1, hx, hr1, _⟩ := hA
      obtain ⟨A2, k2, c2, hy, hr2, _⟩ := hB
      simp only [putE, retOf, hx, hy]
      go_simp
      refine (same2_yes hr1 hr2).mono ?_
      rintro e w2 ⟨rfl, h3⟩
      go_simp
      exact hK _ _ h3 rfl
    refine pk_cons rfl rfl ?_ ?_
    · intro wr x hC
      simp only [deps, at_, List.getD_cons_zero, List.getD_cons_succ, PK.sem, PK.move, kIs]
      intro h0 h1
      intro K hK
      simp only [putE, retOf, h0, h1]
      go_simp
      exact hK _ _ (Below.refl _ _) rfl
    refine pk_cons rfl rfl ?_ ?_
    · intro wr x hC
      simp only [deps, at_, List.getD_cons_zero, List.getD_cons_succ, PK.sem, PK.move, kIs]
      intro h0
      intro K hK
      simp only [putE, retOf, h0]
      go_simp
      exact hK _ _ (Below.refl _ _) rfl
    refine pk_cons rfl rfl ?_ ?_
    · intro wr x hC
      simp only [deps, at_, List.getD_cons_zero, List.getD_cons_succ, PK.sem, PK.move, kInt]
      intro K hK
      obtain ⟨A, k, c, hh, hr1, hr2⟩ := hC.loc (show _ ∉ ([] : List Nat) by simp <;> omega) lr2
      obtain ⟨m1, m2, m3, m4⟩ := hh.two
      simp only [putE, retOf]
      go_simp
      exact hK _ _ (Below.refl _ _) ⟨A, k, c, rfl, hr1, hr2⟩
    refine pk_cons rfl rfl ?_ ?_
    · intro wr x hC
      simp only [deps, at_, List.getD_cons_zero, List.getD_cons_succ, PK.sem, PK.move, kInt]
      intro K hK
      simp only [putE, retOf]
      go_simp
      refine (litI (-1) 1 true (by decide) (by decide) rfl rfl _).mono ?_
      rintro e w2 ⟨A2, k2, c2, rfl, h1, h2, h3⟩
      go_simp
      exact hK _ _ h3 ⟨A2, k2, c2, rfl, h1, h2⟩
    refine pk_cons rfl rfl ?_ ?_
    · intro wr x hC
      simp only [deps, at_, List.getD_cons_zero, List.getD_cons_succ, PK.sem, PK.move, kInt, kIs]
      intro hA hB
      intro K hK
      obtain ⟨A1, k1, c1, hx, hr1, _⟩ := hA
      obtain ⟨A2, k2, c2, hy, hr2, _⟩ := hB
      simp only [putE, retOf, hx, hy]
      go_simp
      refine (same2_yes hr1 hr2).mono ?_
      rintro e w2 ⟨rfl, h3⟩
      go_simp
      exact hK _ _ h3 rfl
    refine pk_cons rfl rfl ?_ ?_
    · intro wr x hC
      simp only [deps, at_, List.getD_cons_zero, List.getD_cons_succ, PK.sem, PK.move, kIs]
      intro h0 h1
      intro K hK
      simp only [putE, retOf, h0, h1]
      go_simp
      exact hK _ _ (Below.refl _ _) rfl
    refine pk_cons rfl rfl ?_ ?_
    · intro wr x hC
      simp only [deps, at_, List.getD_cons_zero, List.getD_cons_succ, PK.sem, PK.move, kIs]
      intro h0
      intro K hK
      simp only [putE, retOf, h0]
      go_simp
      exact hK _ _ (Below.refl _ _) rfl
    refine pk_cons rfl rfl ?_ ?_
    · intro wr x hC
      simp only [deps, at_, List.getD_cons_zero, List.getD_cons_succ, PK.sem, PK.move, kIs]
      intro K hK
      simp only [putE, retOf]
      go_simp
      exact hK _ _ (Below.refl _ _) rfl
    refine pk_cons rfl rfl ?_ ?_
    · intro wr x hC
      simp only [deps, at_, List.getD_cons_zero, List.getD_cons_succ, PK.sem, PK.move, kIs]
      intro h0
      intro K hK
      simp only [putE, retOf, h0]
      go_simp
      exact hK _ _ (Below.refl _ _) rfl
    refine pk_cons rfl rfl ?_ ?_
    · intro wr x hC
      simp only [deps, at_, List.getD_cons_zero, List.getD_cons_succ, PK.sem, PK.move, kIs]
      intro h0 h1
      intro K hK
      simp only [putE, retOf, h0, h1]
      go_simp
      exact hK _ _ (Below.refl _ _) rfl
    refine pk_cons rfl rfl ?_ ?_
    · intro wr x hC
      simp only [deps, at_, List.getD_cons_zero, List.getD_cons_succ, PK.sem, PK.move, kIs]
      intro h0
      intro K hK
      simp only [putE, retOf, h0]
      go_simp
      exact hK _ _ (Below.refl _ _) rfl
    refine pk_cons rfl rfl ?_ ?_
    · intro wr x hC
      simp only [deps, at_, List.getD_cons_zero, List.getD_cons_succ, PK.sem, PK.move, kInt]
      intro K hK
      obtain ⟨A, k, c, hh, hr1, hr2⟩ := hC.loc (show _ ∉ ([] : List Nat) by simp <;> omega) lq3
      obtain ⟨m1, m2, m3, m4⟩ := hh.two
      simp only [putE, retOf]
      go_simp
      exact hK _ _ (Below.refl _ _) ⟨A, k, c, rfl, hr1, hr2⟩
    refine pk_cons rfl rfl ?_ ?_
    · intro wr x hC
      simp only [deps, at_, List.getD_cons_zero, List.getD_cons_succ, PK.sem, PK.move, kInt]
      intro K hK
      simp only [putE, retOf]
      go_simp
      refine (litI (3) 3 false (by decide) (by decide) rfl rfl _).mono ?_
      rintro e w2 ⟨A2, k2, c2, rfl, h1, h2, h3⟩
      go_simp
      exact hK _ _ h3 ⟨A2, k2, c2, rfl, h1, h2⟩
    refine pk_cons rfl rfl ?_ ?_
    · intro wr x hC
      simp only [deps, at_, List.getD_cons_zero, List.getD_cons_succ, PK.sem, PK.move, kInt, kIs]
      intro hA hB
      intro K hK
      obtain ⟨A1, k1, c1, hx, hr1, _⟩ := hA
      obtain ⟨A2, k2, c2, hy, hr2, _⟩ := hB
      simp only [putE, retOf, hx, hy]
      go_simp
      refine (same2_yes hr1 hr2).mono ?_
      rintro e w2 ⟨rfl, h3⟩
      go_simp
      exact hK _ _ h3 rfl
    refine pk_cons rfl rfl ?_ ?_
    · intro wr x hC
      simp only [deps, at_, List.getD_cons_zero, List.getD_cons_succ, PK.sem, PK.move, kIs]
      intro h0 h1
      intro K hK
      simp only [putE, retOf, h0, h1]
      go_simp
      exact hK _ _ (Below.refl _ _) rfl
    refine pk_cons rfl rfl ?_ ?_
    · intro wr x hC
      simp only [deps, at_, List.getD_cons_zero, List.getD_cons_succ, PK.sem, PK.move, kIs]
      intro h0
      intro K hK
      simp only [putE, retOf, h0]
      go_simp
      exact hK _ _ (Below.refl _ _) rfl
    refine pk_cons rfl rfl ?_ ?_
    · intro wr x hC
      simp only [deps, at_, List.getD_cons_zero, List.getD_cons_succ, PK.sem, PK.move, kInt]
      intro K hK
      obtain ⟨A, k, c, hh, hr1, hr2⟩ := hC.loc (show _ ∉ ([] : List Nat) by simp <;> omega) lr3
      obtain ⟨m1, m2, m3, m4⟩ := hh.two
      simp only [putE, retOf]
      go_simp
      exact hK _ _ (Below.refl _ _) ⟨A, k, c, rfl, hr1, hr2⟩
    refine pk_cons rfl rfl ?_ ?_
    · intro wr x hC
      simp only [deps, at_, List.getD_cons_zero, List.getD_cons_succ, PK.sem, PK.move, kInt]
      intro K hK
      simp only [putE, retOf]
      go_simp
      refine (litI (-1) 1 true (by decide) (by decide) rfl rfl _).mono ?_
      rintro e w2 ⟨A2, k2, c2, rfl, h1, h2, h3⟩
      go_simp
      exact hK _ _ h3 ⟨A2, k2, c2, rfl, h1, h2⟩
    refine pk_cons rfl rfl ?_ ?_
    · intro wr x hC
      simp only [deps, at_, List.getD_cons_zero, List.getD_cons_succ, PK.sem, PK.move, kInt, kIs]
      intro hA hB
      intro K hK
      obtain ⟨A1, k1, c1, hx, hr1, _⟩ := hA
      obtain ⟨A2, k2, c2, hy, hr2, _⟩ := hB
      simp only [putE, retOf, hx, hy]
      go_simp
      refine (same2_yes hr1 hr2).mono ?_
      rintro e w2 ⟨rfl, h3⟩
      go_simp
      exact hK _ _ h3 rfl
    refine pk_cons rfl rfl ?_ ?_
    · intro wr x hC
      simp only [deps, at_, List.getD_cons_zero, List.getD_cons_succ, PK.sem, PK.move, kIs]
      intro h0 h1
      intro K hK
      simp only [putE, retOf, h0, h1]
      go_simp
      exact hK _ _ (Below.refl _ _) rfl
    refine pk_cons rfl rfl ?_ ?_
    · intro wr x hC
      simp only [deps, at_, List.getD_cons_zero, List.getD_cons_succ, PK.sem, PK.move, kIs]
      intro h0
      intro K hK
      simp only [putE, retOf, h0]
      go_simp
      exact hK _ _ (Below.refl _ _) rfl
    refine pk_cons rfl rfl ?_ ?_
    · intro wr x hC
      simp only [deps, at_, List.getD_cons_zero, List.getD_cons_succ, PK.sem, PK.move, kIs]
      intro K hK
      simp only [putE, retOf]
      go_simp
      exact hK _ _ (Below.refl _ _) rfl
    refine pk_cons rfl rfl ?_ ?_
    · intro wr x hC
      simp only [deps, at_, List.getD_cons_zero, List.getD_cons_succ, PK.sem, PK.move, kIs]
      intro h0
      intro K hK
      simp only [putE, retOf, h0]
      go_simp
      exact hK _ _ (Below.refl _ _) rfl
    refine pk_cons rfl rfl ?_ ?_
    · intro wr x hC
      simp only [deps, at_, List.getD_cons_zero, List.getD_cons_succ, PK.sem, PK.move, kIs]
      intro h0 h1
      intro K hK
      simp only [putE, retOf, h0, h1]
      go_simp
      exact hK _ _ (Below.refl _ _) rfl
    refine pk_cons rfl rfl ?_ ?_
    · intro wr x hC
      simp only [deps, at_, List.getD_cons_zero, List.getD_cons_succ, PK.sem, PK.move, kIs]
      intro h0
      intro K hK
      simp only [putE, retOf, h0]
      go_simp
      exact hK _ _ (Below.refl _ _) rfl
    refine pk_cons rfl rfl ?_ ?_
    · intro wr x hC
      simp only [deps, at_, List.getD_cons_zero, List.getD_cons_succ, PK.sem, PK.move, kInt]
      intro K hK
      simp only [putE, retOf]
      go_simp
      refine (litI (-4) 4 true (by decide) (by decide) rfl rfl _).mono ?_
      rintro e w2 ⟨A2, k2, c2, rfl, h1, h2, h3⟩
      go_simp
      exact hK _ _ h3 ⟨A2, k2, c2, rfl, h1, h2⟩
    refine pk_cons rfl rfl ?_ ?_
    · intro wr x hC
      simp only [deps, at_, List.getD_cons_zero, List.getD_cons_succ, PK.sem, PK.move, kInt]
      intro K hK
      simp only [putE, retOf]
      go_simp
      refine (litI (6) 6 false (by decide) (by decide) rfl rfl _).mono ?_
      rintro e w2 ⟨A2, k2, c2, rfl, h1, h2, h3⟩
      go_simp
      exact hK _ _ h3 ⟨A2, k2, c2, rfl, h1, h2⟩
    refine pk_cons rfl rfl ?_ ?_
    · intro wr x hC
      simp only [deps, at_, List.getD_cons_zero, List.getD_cons_succ, PK.sem, PK.move, kInt]
      intro K hK
      simp only [putE, retOf]
      go_simp
      refine (litI (0) 0 false (by decide) (by decide) rfl rfl _).mono ?_
      rintro e w2 ⟨A2, k2, c2, rfl, h1, h2, h3⟩
      go_simp
      exact hK _ _ h3 ⟨A2, k2, c2, rfl, h1, h2⟩
    refine pk_cons rfl rfl ?_ ?_
    · intro wr x hC
      simp only [deps, at_, List.getD_cons_zero, List.getD_cons_succ, PK.sem, PK.move, kInt, kInts]
      intro hA hB hD
      intro K hK
      obtain ⟨A1, k1, c1, hx, hr1, _⟩ := hA
      obtain ⟨A2, k2, c2, hy, hr2, _⟩ := hB
      obtain ⟨A3, k3, c3, hz, hr3, _⟩ := hD
      have hsz := hC.below.size
      simp only [putE, retOf, hx, hy, hz]
      go_simp
      exact hK _ _ ⟨(Below.refl _ _).alloc (Nat.le_refl _) _, _, rfl, Nat.le_refl _⟩ ⟨_, rfl, hsz, lt_alloc _ _, ints_lit3 hr1.rd hr2.rd hr3.rd _⟩
    refine pk_cons rfl rfl ?_ ?_
    · intro wr x hC
      simp only [deps, at_, List.getD_cons_zero, List.getD_cons_succ, PK.sem, PK.move, kInt, kInts]
      intro hA
      intro K hK
      obtain ⟨g, hx, _, _, hi⟩ := hA
      simp only [List.length_cons, List.length_nil, Nat.reduceAdd] at hx
      simp only [putE, retOf, hx]
      go_simp
      refine (gcd_ex _ _ hi).mono ?_
      rintro e w2 ⟨A2, k2, c2, rfl, h1, h2, h3⟩
      go_simp
      exact hK _ _ h3 ⟨A2, k2, c2, rfl, h1, h2⟩
    refine pk_cons rfl rfl ?_ ?_
    · intro wr x hC
      simp only [deps, at_, List.getD_cons_zero, List.getD_cons_succ, PK.sem, PK.move, kInt]
      intro K hK
      simp only [putE, retOf]
      go_simp
      refine (litI (2) 2 false (by decide) (by decide) rfl rfl _).mono ?_
      rintro e w2 ⟨A2, k2, c2, rfl, h1, h2, h3⟩
      go_simp
      exact hK _ _ h3 ⟨A2, k2, c2, rfl, h1, h2⟩
    refine pk_cons rfl rfl ?_ ?_
    · intro wr x hC
      simp only [deps, at_, List.getD_cons_zero, List.getD_cons_succ, PK.sem, PK.move, kInt, kIs]
      intro hA hB
      intro K hK
      obtain ⟨A1, k1, c1, hx, hr1, _⟩ := hA
      obtain ⟨A2, k2, c2, hy, hr2, _⟩ := hB
      simp only [putE, retOf, hx, hy]
      go_simp
      refine (same2_yes hr1 hr2).mono ?_
      rintro e w2 ⟨rfl, h3⟩
      go_simp
      exact hK _ _ h3 rfl
    refine pk_cons rfl rfl ?_ ?_
    · intro wr x hC
      simp only [deps, at_, List.getD_cons_zero, List.getD_cons_succ, PK.sem, PK.move, kIs]
      intro h0 h1
      intro K hK
      simp only [putE, retOf, h0, h1]
      go_simp
      exact hK _ _ (Below.refl _ _) rfl
    refine pk_cons rfl rfl ?_ ?_
    · intro wr x hC
      simp only [deps, at_, List.getD_cons_zero, List.getD_cons_succ, PK.sem, PK.move, kIs]
      intro h0
      intro K hK
      simp only [putE, retOf, h0]
      go_simp
      exact hK _ _ (Below.refl _ _) rfl
    refine pk_cons rfl rfl ?_ ?_
    · intro wr x hC
      simp only [deps, at_, List.getD_cons_zero, List.getD_cons_succ, PK.sem, PK.move, kIs]
      intro K hK
      simp only [putE, retOf]
      go_simp
      exact hK _ _ (Below.refl _ _) rfl
    refine pk_cons rfl rfl ?_ ?_
    · intro wr x hC
      simp only [deps, at_, List.getD_cons_zero, List.getD_cons_succ, PK.sem, PK.move, kIs]
      intro hA
      intro K hK
      have htw : Tab wr := HT.out.below (bb.trans hC.below) hw
      have hsz := hC.below.size
      simp only [putE, retOf, hA]
      go_simp
      refine (text_ex _ htw (by omega)).mono ?_
      rintro e w2 ⟨rfl, h3⟩
      go_simp
      exact hK _ _ h3 rfl
    refine pk_cons rfl rfl ?_ ?_
    · intro wr x hC
      simp only [deps, at_, List.getD_cons_zero, List.getD_cons_succ, PK.sem, PK.move, kIs]
      intro h0
      intro K hK
      simp only [putE, retOf, h0]
      go_simp
      exact hK _ _ (Below.refl _ _) rfl
    refine pk_cons rfl rfl ?_ ?_
    · intro wr x hC
      simp only [deps, at_, List.getD_cons_zero, List.getD_cons_succ, PK.sem, PK.move, kIs]
      intro h0 h1
      intro K hK
      simp only [putE, retOf, h0, h1]
      go_simp
      exact hK _ _ (Below.refl _ _) rfl
    refine pk_cons rfl rfl ?_ ?_
    · intro wr x hC
      simp only [deps, at_, List.getD_cons_zero, List.getD_cons_succ, PK.sem, PK.move, kIs]
      intro h0
      intro K hK
      simp only [putE, retOf, h0]
      go_simp
      exact hK _ _ (Below.refl _ _) rfl
    refine pk_cons rfl rfl ?_ ?_
    · intro wr x hC
      simp only [deps, at_, List.getD_cons_zero, List.getD_cons_succ, PK.sem, PK.move, kIs]
      intro K hK
      simp only [putE, retOf]
      go_simp
      exact hK _ _ (Below.refl _ _) rfl
    refine pk_cons rfl rfl ?_ ?_
    · intro wr x hC
      simp only [deps, at_, List.getD_cons_zero, List.getD_cons_succ, PK.sem, PK.move, kIs]
      intro h0
      intro K hK
      simp only [putE, retOf, h0]
      go_simp
      exact hK _ _ (Below.refl _ _) rfl
    refine pk_cons rfl rfl ?_ ?_
    · intro wr x hC
      simp only [deps, at_, List.getD_cons_zero, List.getD_cons_succ, PK.sem, PK.move, kIs]
      intro h0 h1
      intro K hK
      simp only [putE, retOf, h0, h1]
      go_simp
      exact hK _ _ (Below.refl _ _) rfl
    refine pk_cons rfl rfl ?_ ?_
    · intro wr x hC
      simp only [deps, at_, List.getD_cons_zero, List.getD_cons_succ, PK.sem, PK.move, kIs]
      intro h0
      intro K hK
      simp only [putE, retOf, h0]
      go_simp
      exact hK _ _ (Below.refl _ _) rfl
    refine pk_cons rfl rfl ?_ ?_
    · intro wr x hC
      simp only [deps, at_, List.getD_cons_zero, List.getD_cons_succ, PK.sem, PK.move, kIs]
      intro K hK
      simp only [putE, retOf]
      go_simp
      exact hK _ _ (Below.refl _ _) rfl
    refine pk_cons rfl rfl ?_ ?_
    · intro wr x hC
      simp only [deps, at_, List.getD_cons_zero, List.getD_cons_succ, PK.sem, PK.move, kIs]
      intro h0
      intro K hK
      simp only [putE, retOf, h0]
      go_simp
      exact hK _ _ (Below.refl _ _) rfl
    refine pk_cons rfl rfl ?_ ?_
    · intro wr x hC
      simp only [deps, at_, List.getD_cons_zero, List.getD_cons_succ, PK.sem, PK.move, kIs]
      intro h0 h1
      intro K hK
      simp only [putE, retOf, h0, h1]
      go_simp
      exact hK _ _ (Below.refl _ _) rfl
    refine pk_cons rfl rfl ?_ ?_
    · intro wr x hC
      simp only [deps, at_, List.getD_cons_zero, List.getD_cons_succ, PK.sem, PK.move, kIs]
      intro h0
      intro K hK
      simp only [putE, retOf, h0]
      go_simp
      exact hK _ _ (Below.refl _ _) rfl
    exact pk_nil rfl
  case en =>
    intro wr x hC hall
    have hL := hall 62 (of_decide_eq_true (by kernel_rfl))
    clear hall
    simp only [at_, List.getD_cons_zero, List.getD_cons_succ, PK.sem, kIs] at hL
    have hbw := bb.trans hC.below
    refine awake2_lit ?_
    rw [hL]
    clear hL hC
    go_wp2
    go_returns
    exact ⟨rfl, hbw⟩
end Go.Proofs.YthjgfkmnelefpaaGreatDoor

/- whetstonekit.SameTerms over lists of terms in memory; SameTerm and SameTerms together. Condition: at most 1000000 digits a number of the first. -/
import Derived.Test.YtlikpnaffpngiaaGreatDoorSameT
set_option linter.unusedVariables false
set_option linter.unusedSimpArgs false
namespace Go.Proofs.YtlikpnaffpngiaaGreatDoor
open Go.RowKit

theorem told_same2 {W0 w : World} {S0 : Nat} {F : FuncId} {x : Nat → Value} {v1 v2 u1 u2 : Value} {q : Bool} (HQ : Hid (∀ W, Below W0.heap.size W0 W → Calls Tryz.prog F #[u1, u2] W (SaysB W q))) (hb : Below W0.heap.size W0 w) (h1 : (kIs u1).sem S0 x v1 w) (h2 : (kIs u2).sem S0 x v2 w) : Calls Tryz.prog F #[v1, v2] w (Told (kIs (.bool q)) S0 x w) := by
  obtain rfl : v1 = u1 := h1
  obtain rfl : v2 = u2 := h2
  exact ti (HQ.out w hb)
set_option maxRecDepth 100000 in
set_option maxHeartbeats 8000000 in
theorem sameTerms_step {w : World} {l1 l2 : List Tm} {A1 A2 : Option Addr} {n1 n2 c1 c2 : Nat} (h1 : TmsAt w A1 l1) (h2 : TmsAt w A2 l2) (hn1 : n1 = l1.length) (hn2 : n2 = l2.length) (hnl : n1 ≤ 140737488355328) (f : Nat → Bool) (hf : ∀ (j : Nat) (t1 t2 : Tm), l1[j]? = some t1 → l2[j]? = some t2 → (f j = true ↔ t1 = t2))
    (HT : Hid (∀ (W : World) (v1 v2 : Value) (j : Nat) (t1 t2 : Tm), Below w.heap.size w W → l1[j]? = some t1 → l2[j]? = some t2 → TmV W v1 t1 → TmV W v2 t2 → Calls Tryz.prog 7 #[v1, v2] W (SaysB W (f j)))) (r : Bool) (hr : r = true ↔ l1 = l2) :
    Calls Tryz.prog 22 #[.slice A1 n1 c1, .slice A2 n2 c2] w (SaysB w r) := by
  by_cases hn : n1 = n2
  · have HL1 := Lib.hid h1
    have HL2 := Lib.hid h2
    have HN := Lib.hid (show _ ∧ _ ∧ _ from ⟨hn1, hn2, hn⟩)
    have HF := Lib.hid hf
    have HR := Lib.hid hr
    subst hn
    clear h1 h2 hn1 hn2 hf hr
    go_enter Tryz.func22, Tryz.ntmps22
    go_wp2
    go_loopw [5] (fun iv wr => ∃ (i : Nat), i ≤ n1 ∧ iv = .int .i64 (i : Int) ∧ Hid (∀ j, j < i → f j = true) ∧ Hid (Below w.heap.size w wr)) (fun iv _ => n1 - (intOf iv).toNat)
    case atStart => exact ⟨0, Nat.zero_le _, rfl, (fun j hj => absurd hj (Nat.not_lt_zero _)), Below.refl _ _⟩
    case round =>
      obtain ⟨i, hi7, rfl, HI, HW⟩ := hrel
      by_cases hi : i < n1
      · have hlt' : decide ((i : Int) < (n1 : Int)) = true := decide_eq_true (by omega)
        have hil1 : i < l1.length := by rw [← HN.out.1]; exact hi
        have hil2 : i < l2.length := by rw [← HN.out.2.1]; exact hi
        obtain ⟨t1, ht1⟩ : ∃ t, l1[i]? = some t := ⟨_, List.getElem?_eq_getElem hil1⟩
        obtain ⟨t2, ht2⟩ : ∃ t, l2[i]? = some t := ⟨_, List.getElem?_eq_getElem hil2⟩
        obtain ⟨ad1, x0, x1, x2, x3, x4, rfl, ⟨q0, q1, q2, q3, q4⟩, htm1⟩ := (HL1.out.below HW.out) i t1 ht1
        obtain ⟨ad2, y0, y1, y2, y3, y4, rfl, ⟨p0, p1, p2, p3, p4⟩, htm2⟩ := (HL2.out.below HW.out) i t2 ht2
        have HT2 := Lib.hid fun (W : World) (hW : Below wr.heap.size wr W) => HT.out W _ _ i t1 t2 (HW.out.trans (hW.mono HW.out.size)) ht1 ht2 (htm1.bel hW) (htm2.bel hW)
        have HC := Lib.hid (show _ ∧ _ ∧ _ ∧ _ ∧ _ ∧ _ ∧ _ ∧ _ ∧ _ ∧ _ from ⟨q0, q1, q2, q3, q4, p0, p1, p2, p3, p4⟩)
        obtain ⟨q, hq⟩ : ∃ q, q = f i := ⟨_, rfl⟩
        rw [← hq] at HT2
        have HQ := Lib.hid hq
        clear htm1 htm2 ht1 ht2 hil1 hil2 q0 q1 q2 q3 q4 p0 p1 p2 p3 p4 hq
        go_wp2
        obtain ⟨q0, q1, q2, q3, q4, p0, p1, p2, p3, p4⟩ := HC.out
        refine name_frame (G := fun a => Code.wp _ _ _ a _) ?_
        intro a0 ha
        have hN : a0.tmps.size = 27 := by subst ha; kernel_rfl
        have e0 : a0.eval (.tmp 0) = .slice (some ad1) n1 c1 := by subst ha; kernel_rfl
        have e1 : a0.eval (.tmp 1) = .slice (some ad2) n1 c2 := by subst ha; kernel_rfl
        have e5 : a0.eval (.tmp 5) = .int .i64 (i : Int) := by subst ha; kernel_rfl
        refine wp_region_law hN wr.heap.size
          [kIs (.slice (some ad1) n1 c1), kIs (.int .i64 (i : Int)), kIs (.pointer (some (ad1.add (i * 5)))), kIs (.agg #[x0, x1, x2, x3, x4]), kIs (.slice (some ad2) n1 c2), kIs (.int .i64 (i : Int)), kIs (.pointer (some (ad2.add (i * 5)))), kIs (.agg #[y0, y1, y2, y3, y4]), kIs (.bool q), kIs (.bool (!q))]
          [ [], [], [(0, some 17), (1, some 18)], [(2, some 19)], [], [], [(4, some 21), (5, some 22)], [(6, some 23)], [(3, some 20), (7, some 24)], [(8, some 25)] ]
          [(0, some 17), (1, some 18), (2, some 19), (3, some 20), (4, some 21), (5, some 22), (6, some 23), (7, some 24), (8, some 25), (9, some 26)] [] [] (by kernel_rfl) (by kernel_rfl) (by kernel_rfl) (by kernel_rfl) (by kernel_rfl) (by kernel_rfl) (by kernel_rfl) (Nat.le_refl _) ?_ ?_
        ·
          refine pk_cons rfl rfl ?_ ?_
          · exact st_pure [] [(0, .slice (some ad1) n1 c1)] (.slice (some ad1) n1 c1) rfl hN (by kernel_rfl) (by kernel_rfl) (by kernel_rfl) (old1 e0) (by kernel_rfl) (by kernel_rfl) (by kernel_rfl) (fun _ => by kernel_rfl)
          refine pk_cons rfl rfl ?_ ?_
          · exact st_pure [] [(5, .int .i64 (i : Int))] (.int .i64 (i : Int)) rfl hN (by kernel_rfl) (by kernel_rfl) (by kernel_rfl) (old1 e5) (by kernel_rfl) (by kernel_rfl) (by kernel_rfl) (fun _ => by kernel_rfl)
          refine pk_cons rfl rfl ?_ ?_
          · exact st_idxT hi hN (by kernel_rfl) (by kernel_rfl) (by kernel_rfl) (by kernel_rfl) rfl rfl rfl
          refine pk_cons rfl rfl ?_ ?_
          · exact st_loadT q0 q1 q2 q3 q4 (by simp) hN (by kernel_rfl) (by kernel_rfl) rfl rfl
          refine pk_cons rfl rfl ?_ ?_
          · exact st_pure [] [(1, .slice (some ad2) n1 c2)] (.slice (some ad2) n1 c2) rfl hN (by kernel_rfl) (by kernel_rfl) (by kernel_rfl) (old1 e1) (by kernel_rfl) (by kernel_rfl) (by kernel_rfl) (fun _ => by kernel_rfl)
          refine pk_cons rfl rfl ?_ ?_
          · exact st_pure [] [(5, .int .i64 (i : Int))] (.int .i64 (i : Int)) rfl hN (by kernel_rfl) (by kernel_rfl) (by kernel_rfl) (old1 e5) (by kernel_rfl) (by kernel_rfl) (by kernel_rfl) (fun _ => by kernel_rfl)
          refine pk_cons rfl rfl ?_ ?_
          · exact st_idxT hi hN (by kernel_rfl) (by kernel_rfl) (by kernel_rfl) (by kernel_rfl) rfl rfl rfl
          refine pk_cons rfl rfl ?_ ?_
          · exact st_loadT p0 p1 p2 p3 p4 (by simp) hN (by kernel_rfl) (by kernel_rfl) rfl rfl
          refine pk_cons rfl rfl ?_ ?_
          · exact st_call2 hN (by kernel_rfl) (by kernel_rfl) (by kernel_rfl) (by kernel_rfl) (by kernel_rfl) rfl rfl rfl fun w x v1 v2 hC h1 h2 => told_same2 HT2 hC.full h1 h2
          refine pk_cons rfl rfl ?_ ?_
          · exact st_pure [.bool q] [] (.bool (!q)) rfl hN (by kernel_rfl) (by kernel_rfl) (by kernel_rfl) old0 (by kernel_rfl) (by kernel_rfl) (by kernel_rfl) (fun _ => by kernel_rfl)
          exact pk_nil rfl
        intro W1 z hC hall
        have hf : putE z a0 [(0, some 17), (1, some 18), (2, some 19), (3, some 20), (4, some 21), (5, some 22), (6, some 23), (7, some 24), (8, some 25), (9, some 26)] = { tmps := #[Value.slice (some ad1) n1 c1, Value.slice (some ad2) n1 c2, undef, undef, u4, Value.int IntKind.i64 ↑i, Value.slice (some ad1) n1 c1, Value.int IntKind.i64 ↑n1, Value.slice (some ad2) n1 c2, Value.int IntKind.i64 ↑n1, Value.bool false, Value.int IntKind.i64 ↑i, Value.slice (some ad1) n1 c1, Value.int IntKind.i64 ↑n1, Value.bool true, u15, u16, z 0, z 1, z 2, z 3, z 4, z 5, z 6, z 7, z 8, z 9], defers := [] } := by subst ha; kernel_rfl
        rw [hf]
        have e26 : z 9 = .bool (!q) := hall 9 (of_decide_eq_true (by kernel_rfl))
        have hbW := hC.below
        clear hall hC hf ha hN e0 e1 e5 q0 q1 q2 q3 q4 p0 p1 p2 p3 p4
        rw [e26]
        have HW2 := Lib.hid (HW.out.trans (hbW.mono HW.out.size))
        clear hbW e26
        cases q with
        | true =>
          have HI2 := Lib.hid (show ∀ j, j < i + 1 → f j = true from fun j hj => by
            by_cases h : j < i
            · exact HI.out j h
            · rw [show j = i by omega]; exact HQ.out.symm)
          go_wp2
          go_roundw
          case rel => exact ⟨i + 1, by omega, by go_num, HI2.out, HW2.out⟩
          case measure => simp [intOf]; omega
        | false =>
          have hrf : r = false := bool_no HR.out fun h => by
            have h1 : i < l1.length := by rw [← HN.out.1]; exact hi
            have h2 : l1[i]? = some l1[i] := List.getElem?_eq_getElem h1
            have h3 := (HF.out i l1[i] l1[i] h2 (by rw [← h]; exact h2)).2 rfl
            rw [← HQ.out] at h3
            cases h3
          clear HR
          subst hrf
          go_wp2
          go_ret
          exact ⟨rfl, HW2.out⟩
      · have hrt : r = true := HR.out.2 (List.ext_getElem (by rw [← HN.out.1, ← HN.out.2.1]) fun j h1 h2 => (HF.out j _ _ (List.getElem?_eq_getElem h1) (List.getElem?_eq_getElem h2)).1 (HI.out j (by have := HN.out.1; omega)))
        have hlt' : decide ((i : Int) < (n1 : Int)) = false := decide_eq_false (by omega)
        clear HR
        subst hrt
        go_wp2
        go_ret
        exact ⟨rfl, HW.out⟩
  · have hnf : ((n1 : Int) == (n2 : Int)) = false := by rw [beq_eq_false_iff_ne]; omega
    have hnn : ¬ (n1 : Int) = (n2 : Int) := by omega
    have hrf : r = false := bool_no hr fun h => hn (by rw [hn1, hn2, h])
    subst hrf
    clear h1 h2 hn1 hn2 hr hf HT
    go_enter Tryz.func22, Tryz.ntmps22
    go_wp2
    go_ret
    exact ⟨rfl, Below.refl _ _⟩
/-- The same: both, for all terms. -/
theorem sameTm : ∀ (d : Nat) (t1 t2 : Tm), wtT t1 ≤ d → d ≤ 100000 → ∃ r : Bool, (r = true ↔ t1 = t2) ∧ ∀ (W : World) (v1 v2 : Value), TmV W v1 t1 → TmV W v2 t2 → Calls Tryz.prog 7 #[v1, v2] W (SaysB W r) := by
  intro d
  induction d using Nat.strongRecOn with
  | _ d ih =>
    intro t1 t2 hd hdm
    cases t1 with
    | mk k1 s1 b1 ds1 l1 =>
    cases t2 with
    | mk k2 s2 b2 ds2 l2 =>
    have hw := wtT_eq (.mk k1 s1 b1 ds1 l1)
    have hw2 : wtT (.mk k1 s1 b1 ds1 l1) = 1 + s1.size / 8 + ds1.length + wtL l1 := hw
    have hex : ∀ j : Nat, ∃ q : Bool, ∀ (a b : Tm), l1[j]? = some a → l2[j]? = some b → (q = true ↔ a = b) ∧ ∀ (W : World) (v1 v2 : Value), TmV W v1 a → TmV W v2 b → Calls Tryz.prog 7 #[v1, v2] W (SaysB W q) := fun j => by
      cases h1 : l1[j]? with
      | none => exact ⟨true, fun a b h => by cases h⟩
      | some a =>
        cases h2 : l2[j]? with
        | none => exact ⟨true, fun a b _ h => by cases h⟩
        | some b =>
          have hm := wtL_mem (List.mem_of_getElem? h1)
          obtain ⟨q, hq⟩ := ih (wtT a) (by omega) a b (Nat.le_refl _) (by omega)
          exact ⟨q, fun a' b' ha hb => by
            obtain rfl := Option.some.inj ha
            obtain rfl := Option.some.inj hb
            exact hq⟩
    obtain ⟨f, hf⟩ := Classical.axiomOfChoice hex
    obtain ⟨r4, hr4⟩ : ∃ r4 : Bool, r4 = true ↔ l1 = l2 := by
      by_cases h : l1 = l2
      · exact ⟨true, fun _ => h, fun _ => rfl⟩
      · exact ⟨false, (by simp), fun h' => absurd h' h⟩
    obtain ⟨r, hr⟩ : ∃ r : Bool, r = true ↔ (k1 = k2 ∧ s1 = s2 ∧ (b1 = b2 ∧ ds1 = ds2) ∧ r4 = true) := by
      by_cases h : k1 = k2 ∧ s1 = s2 ∧ (b1 = b2 ∧ ds1 = ds2) ∧ r4 = true
      · exact ⟨true, fun _ => h, fun _ => rfl⟩
      · exact ⟨false, (by simp), fun h' => absurd h' h⟩
    refine ⟨r, ⟨fun h => ?_, fun h => ?_⟩, fun W v1 v2 ht1 ht2 => ?_⟩
    · obtain ⟨rfl, rfl, ⟨rfl, rfl⟩, h4⟩ := hr.1 h
      obtain rfl := hr4.1 h4
      rfl
    · injection h with e1 e2 e3 e4 e5
      exact hr.2 ⟨e1, e2, ⟨e3, e4⟩, hr4.2 e5⟩
    · obtain ⟨A1, K1, c1, c1', rfl, _, _, r1, _, _, hkl1, hts1⟩ := ht1.parts
      obtain ⟨A2, K2, c2, c2', rfl, _, _, r2, _, _, hkl2, hts2⟩ := ht2.parts
      exact sameTerm_step r1 r2 (show ds1.length ≤ 1000000 by omega) r4 (Lib.hid fun W' hW => sameTerms_step (hts1.below hW) (hts2.below hW) rfl rfl hkl1 f (fun j a b ha hb => (hf j a b ha hb).1) (Lib.hid fun W'' u1 u2 j a b _ ha hb hu1 hu2 => (hf j a b ha hb).2 W'' u1 u2 hu1 hu2) r4 hr4) r hr
end Go.Proofs.YtlikpnaffpngiaaGreatDoor

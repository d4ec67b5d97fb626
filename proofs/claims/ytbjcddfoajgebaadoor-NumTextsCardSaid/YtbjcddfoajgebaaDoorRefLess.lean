/- Contract of whetstoneref01.order: the order of what two rows of decimal digits without noughts behind stand for; at most 1000000 digits. Contract of whetstoneref01.less: the difference of what two rows of decimal digits stand for, the second one at most as great and as long; at most 100000 digits. -/
import Derived.Test.YtbjcddfoajgebaaDoorRefPlus
import Derived.Test.YtbjcddfoajgebaaDoorOrd
import Derived.Test.YtbjcddfoajgebaaDoorRefRead
import Derived.Test.YtbjcddfoajgebaaDoorAppRow
import Derived.Test.YtbjcddfoajgebaaDoorRefOf
namespace Go.Proofs.YtbjcddfoajgebaaDoor
open Go.RowKit

theorem dval_split (ds : List Nat) (k : Nat) (hk : k ≤ ds.length) : dval ds = dval (ds.take k) + 10 ^ k * dval (ds.drop k) := by
  have := dval_append (ds.take k) (ds.drop k)
  rw [List.take_append_drop, List.length_take, Nat.min_eq_left hk] at this
  exact this
theorem dval_lt_of {xs ys : List Nat} (hx : small 10 xs) (hl : xs.length = ys.length) {k : Nat} (hk : k < xs.length) (h : ∀ j, k + 1 ≤ j → xs.getD j 0 = ys.getD j 0) (hlt : xs.getD k 0 < ys.getD k 0) : dval xs < dval ys := by
  rw [dval_split xs k (by omega), dval_split ys k (by omega), dval_getD xs k hk, dval_getD ys k (by omega), drop_eq_of hl h]
  have h1 := dval_lt (small_take hx k)
  rw [List.length_take, Nat.min_eq_left (by omega)] at h1
  have h2 : 10 ^ k * (xs.getD k 0 + 1 + 10 * dval (ys.drop (k + 1))) ≤ 10 ^ k * (ys.getD k 0 + 10 * dval (ys.drop (k + 1))) := Nat.mul_le_mul_left _ (by omega)
  have h3 : 10 ^ k * (xs.getD k 0 + 1 + 10 * dval (ys.drop (k + 1))) = 10 ^ k * (xs.getD k 0 + 10 * dval (ys.drop (k + 1))) + 10 ^ k := by
    rw [← Nat.mul_succ]; congr 1; omega
  omega
theorem dlength_le {xs : List Nat} (hx : dright xs) {k : Nat} (h : dval xs < 10 ^ k) : xs.length ≤ k := by
  rcases Nat.lt_or_ge k xs.length with h1 | h1
  · exfalso
    have hne : xs ≠ [] := fun e => by rw [e] at h1; simp at h1
    have h2 := dval_split xs k (by omega)
    have h3 := dval_pos (ds := xs.drop k) (by intro e; have := congrArg List.length e; rw [List.length_drop] at this; simp at this; omega) (by
      rw [List.getLast?_drop, if_neg (by omega)]
      rcases hx.2 with h | h
      · exact absurd h hne
      · exact h)
    have h4 : 10 ^ k * 1 ≤ 10 ^ k * dval (xs.drop k) := Nat.mul_le_mul_left _ h3
    omega
  · exact h1
theorem dval_lt_length {xs ys : List Nat} (hx : dright xs) (hy : dright ys) (h : xs.length < ys.length) : dval xs < dval ys := by
  rcases Nat.lt_or_ge (dval xs) (dval ys) with h1 | h1
  · exact h1
  · have h2 := dval_lt hx.1
    have h3 := dlength_le hy (k := xs.length) (by omega)
    omega

set_option maxRecDepth 100000 in
set_option maxHeartbeats 4000000 in
theorem refOrder {w : World} {A1 A2 : Option Addr} {c1 c2 : Nat} {xs ys : List Nat} (hr1 : Row w A1 (u8s xs)) (hr2 : Row w A2 (u8s ys)) (hx : dright xs) (hy : dright ys) (hlen : xs.length ≤ 1000000) :
    Calls Tryd.prog 54 #[.slice A1 xs.length c1, .slice A2 ys.length c2] w fun e w' => e = .returned (.int .i64 (ordI (dval xs : Int) (dval ys : Int))) ∧ Drawn w w' := by
  by_cases hl : xs.length = ys.length
  · have hne : ((xs.length : Int) != (ys.length : Int)) = false := by rw [bne_eq_false_iff_eq]; omega
    have HL := Lib.hid hl
    clear hl
    go_enter Tryd.func54, Tryd.ntmps54
    go_wp2
    go_loopw [5] (fun i wr => ∃ k : Nat, k ≤ xs.length ∧ i = .int .i64 ((k : Int) - 1) ∧ Hid (∀ j, k ≤ j → xs.getD j 0 = ys.getD j 0) ∧ Hid (Drawn w wr)) (fun i _ => (intOf i + 1).toNat)
    case atStart => exact ⟨xs.length, Nat.le_refl _, rfl, fun j hj => by
      rw [List.getD_eq_getElem?_getD, List.getD_eq_getElem?_getD, List.getElem?_eq_none hj, List.getElem?_eq_none (by rw [← HL.out]; exact hj)], Drawn.refl _⟩
    case round =>
      obtain ⟨k, hk, rfl, HE, HW⟩ := hrel
      rcases Nat.eq_zero_or_pos k with rfl | hpos
      · go_wp2
        go_ret
        refine ⟨ret_of ?_, HW.out⟩
        have : xs = ys := by simpa using drop_eq_of HL.out HE.out
        rw [this]; unfold ordI; rw [if_neg (by omega), if_neg (by omega)]
      · obtain ⟨p, rfl⟩ : ∃ p, k = p + 1 := ⟨k - 1, by omega⟩
        rw [show ((p + 1 : Nat) : Int) - 1 = (p : Int) from by omega]
        have hlt2 : p < ys.length := by rw [← HL.out]; omega
        obtain ⟨ad1, x, rfl, hc1, hx1, _⟩ := (hr1.drawn HW.out).byte (k := p) (by omega)
        obtain ⟨ad2, y, rfl, hc2, hy1, _⟩ := (hr2.drawn HW.out).byte (k := p) hlt2
        have hi1 : (p : Int) < xs.length := by omega
        have hi2 : (p : Int) < ys.length := by omega
        have hi0 : 0 ≤ (p : Int) := by omega
        rcases Nat.lt_trichotomy x y with h | h | h
        · have ht : (x : Int) < (y : Int) := by omega
          go_wp2
          go_region
          all_goals
            go_wp2
            go_ret
            refine ⟨ret_of ?_, HW.out.more 1⟩
            have e2 := dval_lt_of hx.1 HL.out (k := p) (by omega) (fun j hj => HE.out j hj) (by rw [hx1.out, hy1.out]; exact h)
            unfold ordI; rw [if_pos (by omega)]
        · subst h
          go_wp2
          go_region
          all_goals
            go_wp2
            go_region
            all_goals
              go_wp2
              go_roundw
              case rel => exact ⟨p, by omega, by go_num, fun j hj => by
                rcases Nat.lt_or_ge j (p + 1) with h | h
                · have : j = p := by omega
                  rw [this, hx1.out, hy1.out]
                · exact HE.out j h, (HW.out.more 1).more 1⟩
              case measure => first | (simp [intOf]; done) | (simp [intOf]; omega)
        · have ht : ¬ (x : Int) < (y : Int) := by omega
          have ht2 : (y : Int) < (x : Int) := by omega
          go_wp2
          go_region
          all_goals
            go_wp2
            go_region
            all_goals
              go_wp2
              go_ret
              refine ⟨ret_of ?_, (HW.out.more 1).more 1⟩
              have e2 := dval_lt_of hy.1 HL.out.symm (k := p) hlt2 (fun j hj => (HE.out j hj).symm) (by rw [hx1.out, hy1.out]; exact h)
              unfold ordI; rw [if_neg (by omega), if_pos (by omega)]
  · have hne : ((xs.length : Int) != (ys.length : Int)) = true := by rw [bne_iff_ne]; omega
    rcases Nat.lt_or_ge xs.length ys.length with h | h
    · have h2 := dval_lt_length hx hy h
      have h3 : (xs.length : Int) < (ys.length : Int) := by omega
      have h4 : (-1 : Int) = ordI (dval xs : Int) (dval ys : Int) := by unfold ordI; rw [if_pos (by omega)]
      have H4 := Lib.hid h4
      clear h4 h2
      go_enter Tryd.func54, Tryd.ntmps54
      go_wp2
      go_ret
      exact ⟨ret_of H4.out, Drawn.refl _⟩
    · have h2 := dval_lt_length hy hx (by omega)
      have h3 : ¬ (xs.length : Int) < (ys.length : Int) := by omega
      have h4 : (1 : Int) = ordI (dval xs : Int) (dval ys : Int) := by unfold ordI; rw [if_neg (by omega), if_pos (by omega)]
      have H4 := Lib.hid h4
      clear h4 h2
      go_enter Tryd.func54, Tryd.ntmps54
      go_wp2
      go_ret
      exact ⟨ret_of H4.out, Drawn.refl _⟩
end Go.Proofs.YtbjcddfoajgebaaDoor

namespace Go.Proofs.YtbjcddfoajgebaaDoor
open Go.RowKit

theorem refWrite {w : World} {A : Option Addr} {c : Nat} {ds : List Nat} (hr : Row w A (u8s ds)) (hd : dright ds) (hlen : ds.length ≤ 1000000) :
    Calls Tryd.prog 55 #[.slice A ds.length c] w (RetNat w (dval ds)) :=
  (write_any (c := c) hr hd.1 hlen).mono fun _ _ ⟨v, n, he, ho, hb, h1, h2⟩ => ⟨v, he, ⟨chunks ds n, chunks_right hd h1 h2, chunks_all h1, ho⟩, hb⟩
theorem own_empty8 (w : World) : Own (w.alloc (.cells #[] 5)) w.heap.size 5 (.slice (some ⟨w.heap.size, 0, none⟩) 0 0) (u8s []) :=
  Own.mk_ (World.ownsRow_lit w #[] 0 (Nat.le_refl _) (by decide) rfl)
theorem strip_take (ds : List Nat) : strip ds = ds.take (strip ds).length := by
  induction ds with
  | nil => rfl
  | cons d ds ih =>
    rw [strip]
    split
    · split
      · rfl
      · rfl
    · rename_i r hr
      rw [List.length_cons, List.take_succ_cons, ← ih]
theorem take_set8 {os : List Nat} {k d : Nat} (h : k < os.length) : (os.set k d).take (k + 1) = os.take k ++ [d] := by
  rw [List.take_add_one, List.take_set_of_le (Nat.le_refl _)]; simp [h]
theorem drop_set8 {os ps : List Nat} {k d : Nat} (h : os.drop k = ps.drop k) : (os.set k d).drop (k + 1) = ps.drop (k + 1) := by
  rw [List.drop_set_of_lt (by omega), ← List.drop_drop, ← List.drop_drop, h]
theorem getD_of_drop {os ps : List Nat} {k : Nat} (h : os.drop k = ps.drop k) : os.getD k 0 = ps.getD k 0 := by
  have h1 : (os.drop k)[0]? = (ps.drop k)[0]? := by rw [h]
  rw [List.getElem?_drop, List.getElem?_drop, Nat.add_zero] at h1
  rw [List.getD_eq_getElem?_getD, List.getD_eq_getElem?_getD, h1]
theorem dsub_step {os xs ys : List Nat} {k bo bo' s x y : Nat} (hk : k < os.length) (hx : xs.getD k 0 = x) (hy : ys.getD k 0 = y) (hs : s + y + bo = x + 10 * bo') (h : dval (os.take k) + dval (ys.take k) = dval (xs.take k) + 10 ^ k * bo) :
    dval ((os.set k s).take (k + 1)) + dval (ys.take (k + 1)) = dval (xs.take (k + 1)) + 10 ^ (k + 1) * bo' := by
  rw [take_set8 hk, dval_append, List.length_take, Nat.min_eq_left (by omega), dval_take_succ ys, dval_take_succ xs, hx, hy, Nat.pow_succ, Nat.mul_assoc]
  have h2 : 10 ^ k * (s + y + bo) = 10 ^ k * (x + 10 * bo') := by rw [hs]
  rw [Nat.mul_add, Nat.mul_add, Nat.mul_add] at h2
  simp only [dval, Nat.mul_zero, Nat.add_zero]
  omega

/-- A call that tells the decimal digits of n in memory of its own. -/
def RetDecO (w : World) (n : Nat) (e : Ending) (w' : World) : Prop := ∃ A c ds, e = .returned (.slice A ds.length c) ∧ Own w' w.heap.size 5 (.slice A ds.length c) (u8s ds) ∧ dright ds ∧ dval ds = n ∧ Below w.heap.size w w'

set_option maxRecDepth 100000 in
set_option maxHeartbeats 4000000 in
theorem refLess {w : World} {A1 A2 : Option Addr} {c1 c2 : Nat} {xs ys : List Nat} (hr1 : Row w A1 (u8s xs)) (hr2 : Row w A2 (u8s ys)) (hx : small 10 xs) (hy : small 10 ys) (hl1 : xs.length ≤ 100000) (hl2 : ys.length ≤ xs.length) (hle : dval ys ≤ dval xs) :
    Calls Tryd.prog 56 #[.slice A1 xs.length c1, .slice A2 ys.length c2] w (RetDecO w (dval xs - dval ys)) := by
  obtain ⟨i0, hi, hz0, hz1, hz2⟩ := info_parts info_u8
  obtain ⟨n, hn⟩ : ∃ n : Nat, n = xs.length := ⟨_, rfl⟩
  obtain ⟨m, hm⟩ : ∃ m : Nat, m = ys.length := ⟨_, rfl⟩
  have hn1 : n ≤ 100000 := by omega
  have hmn : m ≤ n := by omega
  rw [← hn, ← hm]
  have HN := Lib.hid hn
  have HM := Lib.hid hm
  have HLE := Lib.hid hle
  have hoe := own_empty8 w
  have hra := hr1.alloc (.cells #[] 5)
  clear hn hm hl1 hl2 hle
  go_enter Tryd.func56, Tryd.ntmps56
  go_wp2_with (at_builtin; refine wpList_append_row rfl _ _ 75 rfl w.heap.size 5 i0 (.int .u8 0) 1 Tryd.underlying75 hi hz0 hz1 hz2 rfl _ _ _ rfl hoe A1 n c1 (u8s xs) rfl (by rw [u8s_length, ← HN.out]) hra (u8s_one xs) (by rw [u8s_length]; unfold maxLen; simp; omega) (by rw [u8s_length]; simp; omega) (by simp) ?_)
  intro v2 w2 hown2 hgrow2
  have ho2 : Own w2 w.heap.size 5 v2 (u8s xs) := by
    have := Own.mk_ hown2
    simpa [u8s] using this
  have hb2 : Below w.heap.size w w2 := ((Below.refl _ _).alloc (Nat.le_refl _) _).grown hgrow2 (by simp) (fun k hk => ((show (w.alloc (.cells #[] 5)).ownsRow w.heap.size 5 1 _ _ _ from hoe).lt k hk).1)
  obtain ⟨A3, c3, rfl, hr3, hc3, _⟩ := ho2.slice8
  rw [← HN.out] at ho2 hc3 ⊢
  clear hown2 hgrow2 hoe hra hr3
  go_wp2_with fail
  go_loopw [6, 7] (fun cv iv wr => ∃ (k bo : Nat) (ds : List Nat), k ≤ n ∧ iv = .int .i64 (k : Int) ∧ cv = .int .i64 (bo : Int) ∧ bo ≤ 1 ∧ Own wr w.heap.size 5 (.slice A3 n c3) (u8s ds) ∧
      Hid (ds.length = n ∧ ds.drop k = xs.drop k ∧ small 10 ds ∧ dval (ds.take k) + dval (ys.take k) = dval (xs.take k) + 10 ^ k * bo) ∧ Below w.heap.size w wr)
    (fun _ iv _ => n - (intOf iv).toNat)
  case atStart => exact ⟨0, 0, xs, Nat.zero_le _, rfl, rfl, by omega, ho2, ⟨HN.out.symm, rfl, hx, by simp [dval]⟩, hb2⟩
  case round =>
    obtain ⟨k, bo, ds, hk, rfl, rfl, hbo, hown, HO, hb⟩ := hrel
    by_cases hlt : k < n
    · obtain ⟨ad, e3, _⟩ := hown.row8.at_ (k := k) (by rw [u8s_length, HO.out.1]; exact hlt)
      obtain ⟨g, rfl, hg, _⟩ := hown.lt.2 ad e3
      subst e3
      have hcx := own_cell hown (k := k) (by rw [u8s_length, HO.out.1]; exact hlt)
      obtain ⟨x, hxe⟩ : ∃ x, x = xs.getD k 0 := ⟨_, rfl⟩
      have hx10 : x < 10 := by rw [hxe]; exact small_getD hx (by decide) k
      have hcx1 : wr.cell? ⟨g, k, none⟩ = some (.int .u8 (x : Int)) := by
        rw [hcx.1]
        have h1 := getD_of_drop HO.out.2.1
        rw [List.getD_eq_getElem?_getD, List.getElem?_eq_getElem (by rw [HO.out.1]; exact hlt)] at h1
        simp only [u8s, List.getElem_map]
        rw [hxe, ← h1]; rfl
      have hcx2 := hcx.2
      have hkc : k < c3 := by omega
      have hd1 : ∀ s, (ds.set k s).length = n := fun s => by rw [List.length_set]; exact HO.out.1
      have hd2 : ∀ s, (ds.set k s).drop (k + 1) = xs.drop (k + 1) := fun s => drop_set8 HO.out.2.1
      have hd3 : ∀ s, s < 10 → small 10 (ds.set k s) := fun s hs => by
        intro d hd
        rcases List.mem_or_eq_of_mem_set hd with h | h
        · exact HO.out.2.2.1 d h
        · rw [h]; exact hs
      have hset := fun s => own_set8 hown k s
      have HSET := Lib.hid hset
      have HD1 := Lib.hid hd1
      have HD2 := Lib.hid hd2
      have HD3 := Lib.hid hd3
      have HXE := Lib.hid hxe
      clear hcx hd1 hd2 hd3 hset hxe hown
      by_cases hkm : k < m
      · obtain ⟨ad2, y, rfl, hcy, hye, hym⟩ := (hr2.below hb).byte (k := k) (by rw [← HM.out]; exact hkm)
        have hy10 := hy y hym
        clear hym
        by_cases hneg : x < bo + y
        · obtain ⟨s, hs⟩ : ∃ s : Nat, s = x + 10 - bo - y := ⟨_, rfl⟩
          have hsi : (x : Int) - (bo : Int) - (y : Int) + 10 = (s : Int) := by omega
          have hst := dsub_step (os := ds) (xs := xs) (ys := ys) (bo' := 1) (by rw [HO.out.1]; exact hlt) HXE.out.symm hye.out (show s + y + bo = x + 10 * 1 by omega) HO.out.2.2.2
          have HST := Lib.hid hst
          have hs10 : s < 10 := by omega
          have hn1' : decide ((x : Int) - (bo : Int) - (y : Int) < 0) = true := by rw [decide_eq_true_eq]; omega
          clear hs hst hneg
          go_wp2
          go_roundw
          case rel => exact ⟨k + 1, 1, ds.set k s, by omega, by go_num, rfl, by omega, HSET.out s, ⟨HD1.out s, HD2.out s, HD3.out s hs10, HST.out⟩, hb.setCell hg _⟩
          case measure => simp [intOf]; omega
        · obtain ⟨s, hs⟩ : ∃ s : Nat, s = x - bo - y := ⟨_, rfl⟩
          have hsi : (x : Int) - (bo : Int) - (y : Int) = (s : Int) := by omega
          have hst := dsub_step (os := ds) (xs := xs) (ys := ys) (bo' := 0) (by rw [HO.out.1]; exact hlt) HXE.out.symm hye.out (show s + y + bo = x + 10 * 0 by omega) HO.out.2.2.2
          have HST := Lib.hid hst
          have hs10 : s < 10 := by omega
          have hn1' : decide ((s : Int) < 0) = false := by rw [decide_eq_false_iff_not]; omega
          clear hs hst hneg
          go_wp2
          go_roundw
          case rel => exact ⟨k + 1, 0, ds.set k s, by omega, by go_num, rfl, by omega, HSET.out s, ⟨HD1.out s, HD2.out s, HD3.out s hs10, HST.out⟩, hb.setCell hg _⟩
          case measure => simp [intOf]; omega
      · have hye : ys.getD k 0 = 0 := getD_out (by rw [← HM.out]; exact hkm)
        have HYE := Lib.hid hye
        clear hye
        by_cases hneg : x < bo
        · obtain ⟨s, hs⟩ : ∃ s : Nat, s = x + 10 - bo := ⟨_, rfl⟩
          have hsi : (x : Int) - (bo : Int) + 10 = (s : Int) := by omega
          have hst := dsub_step (os := ds) (xs := xs) (ys := ys) (bo' := 1) (by rw [HO.out.1]; exact hlt) HXE.out.symm HYE.out (show s + 0 + bo = x + 10 * 1 by omega) HO.out.2.2.2
          have HST := Lib.hid hst
          have hs10 : s < 10 := by omega
          have hn1' : decide ((x : Int) - (bo : Int) < 0) = true := by rw [decide_eq_true_eq]; omega
          clear hs hst hneg
          go_wp2
          go_roundw
          case rel => exact ⟨k + 1, 1, ds.set k s, by omega, by go_num, rfl, by omega, HSET.out s, ⟨HD1.out s, HD2.out s, HD3.out s hs10, HST.out⟩, hb.setCell hg _⟩
          case measure => simp [intOf]; omega
        · obtain ⟨s, hs⟩ : ∃ s : Nat, s = x - bo := ⟨_, rfl⟩
          have hsi : (x : Int) - (bo : Int) = (s : Int) := by omega
          have hst := dsub_step (os := ds) (xs := xs) (ys := ys) (bo' := 0) (by rw [HO.out.1]; exact hlt) HXE.out.symm HYE.out (show s + 0 + bo = x + 10 * 0 by omega) HO.out.2.2.2
          have HST := Lib.hid hst
          have hs10 : s < 10 := by omega
          have hn1' : decide ((s : Int) < 0) = false := by rw [decide_eq_false_iff_not]; omega
          clear hs hst hneg
          go_wp2
          go_roundw
          case rel => exact ⟨k + 1, 0, ds.set k s, by omega, by go_num, rfl, by omega, HSET.out s, ⟨HD1.out s, HD2.out s, HD3.out s hs10, HST.out⟩, hb.setCell hg _⟩
          case measure => simp [intOf]; omega
    · obtain rfl : k = n := by omega
      have hv := HO.out.2.2.2
      rw [List.take_of_length_le (by rw [HO.out.1]; exact Nat.le_refl _), List.take_of_length_le (by rw [← HM.out]; exact hmn), List.take_of_length_le (by rw [← HN.out]; exact Nat.le_refl _)] at hv
      have hdl := dval_lt HO.out.2.2.1
      rw [HO.out.1] at hdl
      have hbo0 : dval ds = dval xs - dval ys := by
        have := HLE.out
        rcases (show bo = 0 ∨ bo = 1 by omega) with h | h
        · rw [h, Nat.mul_zero, Nat.add_zero] at hv; omega
        · rw [h, Nat.mul_one] at hv; omega
      have HV := Lib.hid hbo0
      have htr := trim_any (w := wr) (A := A3) (c := c3) (ds := ds) hown.row8 (by rw [HO.out.1]; omega) (by rw [HO.out.1]; exact hc3)
      rw [HO.out.1] at htr
      have HTR := Lib.hid htr
      clear hv hdl hbo0 htr
      go_wp2_with fail
      refine HTR.out.mono ?_
      rintro e w3 ⟨⟨rfl, _⟩, hw3⟩
      subst hw3
      go_wp2
      go_ret
      have hcut := hown.cut (strip ds).length (by rw [u8s_length]; exact strip_length ds)
      rw [u8s_take, ← strip_take] at hcut
      exact ⟨A3, c3, strip ds, rfl, hcut, strip_dright HO.out.2.2.1, by rw [dval_strip]; exact HV.out, hb⟩
end Go.Proofs.YtbjcddfoajgebaaDoor

/- Contract of whetstoneref01.order: the order of what two rows of decimal digits without noughts behind stand for; at most 1000000 digits. Contract of whetstoneref01.less: the difference of what two rows of decimal digits stand for, the second one at most as great and as long; at most 100000 digits. Contract of whetstoneref01.parted: the quotient and the rest of what two rows of decimal digits stand for, one digit after the other; at most 50000 digits each. Contracts of whetstoneref01.Trim, Cmp, Sub, DivMod: what the document's answer tells of any rows of at most 1000 digits. -/
import Derived.Test.YtffcacpffamjfaaDoorRefPlus
import Derived.Test.YtffcacpffamjfaaDoorNat1
import Derived.Test.YtffcacpffamjfaaDoorRefRead
import Derived.Test.YtffcacpffamjfaaDoorAppRow
import Derived.Test.YtffcacpffamjfaaDoorDivide
import Derived.Test.YtffcacpffamjfaaDoorVal
namespace Go.Proofs.YtffcacpffamjfaaDoor
open Go.RowKit

theorem dval_split (ds : List Nat) (k : Nat) (hk : k ≤ ds.length) : dval ds = dval (ds.take k) + 10 ^ k * dval (ds.drop k) := by
  have := dval_append (ds.take k) (ds.drop k)
  rw [List.take_append_drop, List.length_take, Nat.min_eq_left hk] at this
  exact this
theorem dval_lt_of {xs ys : List Nat} (hx : small 10 xs) (hl : xs.length = ys.length) {k : Nat} (hk : k < xs.length) (h : ∀ j, k + 1 ≤ j → xs.getD j 0 = ys.getD j 0) (hlt : xs.getD k 0 < ys.getD k 0) : dval xs < dval ys := by
  rw [dval_split xs k (by omega), dval_split ys k (by omega), dval_getD xs k hk, dval_getD ys k (by omega), drop_eq_of hl h]
  have h1 := dval_lt (small_take hx k)
  rw [List.length_take, Nat.min_eq_left (by omega)] at h1
  have h2 : 10 ^ k * (xs.getD k 0 + 1 + 10 * dval (ys.drop (k + 1))) ≤ 10 ^ k * (ys.getD k 0 + 10 * dval (ys.drop (k + 1))) := Nat.mul_le_mul_left _ (by omega)
  have h3 : 10 ^ k * (xs.getD k 0 + 1 + 10 * dval (ys.drop (k + 1))) = 10 ^ k * (xs.getD k 0 + 10 * dval (ys.drop (k + 1))) + 10 ^ k := by
    rw [← Nat.mul_succ]; congr 1; omega
  omega
theorem dlength_le {xs : List Nat} (hx : dright xs) {k : Nat} (h : dval xs < 10 ^ k) : xs.length ≤ k := by
  rcases Nat.lt_or_ge k xs.length with h1 | h1
  · exfalso
    have hne : xs ≠ [] := fun e => by rw [e] at h1; simp at h1
    have h2 := dval_split xs k (by omega)
    have h3 := dval_pos (ds := xs.drop k) (by intro e; have := congrArg List.length e; rw [List.length_drop] at this; simp at this; omega) (by
      rw [List.getLast?_drop, if_neg (by omega)]
      rcases hx.2 with h | h
      · exact absurd h hne
      · exact h)
    have h4 : 10 ^ k * 1 ≤ 10 ^ k * dval (xs.drop k) := Nat.mul_le_mul_left _ h3
    omega
  · exact h1
theorem dval_lt_length {xs ys : List Nat} (hx : dright xs) (hy : dright ys) (h : xs.length < ys.length) : dval xs < dval ys := by
  rcases Nat.lt_or_ge (dval xs) (dval ys) with h1 | h1
  · exact h1
  · have h2 := dval_lt hx.1
    have h3 := dlength_le hy (k := xs.length) (by omega)
    omega

set_option maxRecDepth 100000 in
set_option maxHeartbeats 4000000 in
theorem refOrder {w : World} {A1 A2 : Option Addr} {c1 c2 : Nat} {xs ys : List Nat} (hr1 : Row w A1 (u8s xs)) (hr2 : Row w A2 (u8s ys)) (hx : dright xs) (hy : dright ys) (hlen : xs.length ≤ 1000000) :
    Calls Tryd.prog 38 #[.slice A1 xs.length c1, .slice A2 ys.length c2] w fun e w' => e = .returned (.int .i64 (ordI (dval xs : Int) (dval ys : Int))) ∧ Drawn w w' := by
  by_cases hl : xs.length = ys.length
  · have hne : ((xs.length : Int) != (ys.length : Int)) = false := by rw [bne_eq_false_iff_eq]; omega
    have HL := Lib.hid hl
    clear hl
    go_enter Tryd.func38, Tryd.ntmps38
    go_wp2
    go_loopw [5] (fun i wr => ∃ k : Nat, k ≤ xs.length ∧ i = .int .i64 ((k : Int) - 1) ∧ Hid (∀ j, k ≤ j → xs.getD j 0 = ys.getD j 0) ∧ Hid (Drawn w wr)) (fun i _ => (intOf i + 1).toNat)
    case atStart => exact ⟨xs.length, Nat.le_refl _, rfl, fun j hj => by
      rw [List.getD_eq_getElem?_getD, List.getD_eq_getElem?_getD, List.getElem?_eq_none hj, List.getElem?_eq_none (by rw [← HL.out]; exact hj)], Drawn.refl _⟩
    case round =>
      obtain ⟨k, hk, rfl, HE, HW⟩ := hrel
      rcases Nat.eq_zero_or_pos k with rfl | hpos
      · go_wp2
        go_ret
        refine ⟨ret_of ?_, HW.out⟩
        have : xs = ys := by simpa using drop_eq_of HL.out HE.out
        rw [this]; unfold ordI; rw [if_neg (by omega), if_neg (by omega)]
      · obtain ⟨p, rfl⟩ : ∃ p, k = p + 1 := ⟨k - 1, by omega⟩
        rw [show ((p + 1 : Nat) : Int) - 1 = (p : Int) from by omega]
        have hlt2 : p < ys.length := by rw [← HL.out]; omega
        obtain ⟨ad1, x, rfl, hc1, hx1, _⟩ := (hr1.drawn HW.out).byte (k := p) (by omega)
        obtain ⟨ad2, y, rfl, hc2, hy1, _⟩ := (hr2.drawn HW.out).byte (k := p) hlt2
        have hi1 : (p : Int) < xs.length := by omega
        have hi2 : (p : Int) < ys.length := by omega
        have hi0 : 0 ≤ (p : Int) := by omega
        rcases Nat.lt_trichotomy x y with h | h | h
        · have ht : (x : Int) < (y : Int) := by omega
          go_wp2
          go_region
          all_goals
            go_wp2
            go_ret
            refine ⟨ret_of ?_, HW.out.more 1⟩
            have e2 := dval_lt_of hx.1 HL.out (k := p) (by omega) (fun j hj => HE.out j hj) (by rw [hx1.out, hy1.out]; exact h)
            unfold ordI; rw [if_pos (by omega)]
        · subst h
          go_wp2
          go_region
          all_goals
            go_wp2
            go_region
            all_goals
              go_wp2
              go_roundw
              case rel => exact ⟨p, by omega, by go_num, fun j hj => by
                rcases Nat.lt_or_ge j (p + 1) with h | h
                · have : j = p := by omega
                  rw [this, hx1.out, hy1.out]
                · exact HE.out j h, (HW.out.more 1).more 1⟩
              case measure => first | (simp [intOf]; done) | (simp [intOf]; omega)
        · have ht : ¬ (x : Int) < (y : Int) := by omega
          have ht2 : (y : Int) < (x : Int) := by omega
          go_wp2
          go_region
          all_goals
            go_wp2
            go_region
            all_goals
              go_wp2
              go_ret
              refine ⟨ret_of ?_, (HW.out.more 1).more 1⟩
              have e2 := dval_lt_of hy.1 HL.out.symm (k := p) hlt2 (fun j hj => (HE.out j hj).symm) (by rw [hx1.out, hy1.out]; exact h)
              unfold ordI; rw [if_neg (by omega), if_pos (by omega)]
  · have hne : ((xs.length : Int) != (ys.length : Int)) = true := by rw [bne_iff_ne]; omega
    rcases Nat.lt_or_ge xs.length ys.length with h | h
    · have h2 := dval_lt_length hx hy h
      have h3 : (xs.length : Int) < (ys.length : Int) := by omega
      have h4 : (-1 : Int) = ordI (dval xs : Int) (dval ys : Int) := by unfold ordI; rw [if_pos (by omega)]
      have H4 := Lib.hid h4
      clear h4 h2
      go_enter Tryd.func38, Tryd.ntmps38
      go_wp2
      go_ret
      exact ⟨ret_of H4.out, Drawn.refl _⟩
    · have h2 := dval_lt_length hy hx (by omega)
      have h3 : ¬ (xs.length : Int) < (ys.length : Int) := by omega
      have h4 : (1 : Int) = ordI (dval xs : Int) (dval ys : Int) := by unfold ordI; rw [if_neg (by omega), if_pos (by omega)]
      have H4 := Lib.hid h4
      clear h4 h2
      go_enter Tryd.func38, Tryd.ntmps38
      go_wp2
      go_ret
      exact ⟨ret_of H4.out, Drawn.refl _⟩
end Go.Proofs.YtffcacpffamjfaaDoor

namespace Go.Proofs.YtffcacpffamjfaaDoor
open Go.RowKit

theorem refWrite {w : World} {A : Option Addr} {c : Nat} {ds : List Nat} (hr : Row w A (u8s ds)) (hd : dright ds) (hlen : ds.length ≤ 1000000) :
    Calls Tryd.prog 39 #[.slice A ds.length c] w (RetNat w (dval ds)) :=
  (write_any (c := c) hr hd.1 hlen).mono fun _ _ ⟨v, n, he, ho, hb, h1, h2⟩ => ⟨v, he, ⟨chunks ds n, chunks_right hd h1 h2, chunks_all h1, ho⟩, hb⟩
theorem own_empty8 (w : World) : Own (w.alloc (.cells #[] 5)) w.heap.size 5 (.slice (some ⟨w.heap.size, 0, none⟩) 0 0) (u8s []) :=
  Own.mk_ (World.ownsRow_lit w #[] 0 (Nat.le_refl _) (by decide) rfl)
theorem strip_take (ds : List Nat) : strip ds = ds.take (strip ds).length := by
  induction ds with
  | nil => rfl
  | cons d ds ih =>
    rw [strip]
    split
    · split
      · rfl
      · rfl
    · rename_i r hr
      rw [List.length_cons, List.take_succ_cons, ← ih]
theorem take_set8 {os : List Nat} {k d : Nat} (h : k < os.length) : (os.set k d).take (k + 1) = os.take k ++ [d] := by
  rw [List.take_add_one, List.take_set_of_le (Nat.le_refl _)]; simp [h]
theorem drop_set8 {os ps : List Nat} {k d : Nat} (h : os.drop k = ps.drop k) : (os.set k d).drop (k + 1) = ps.drop (k + 1) := by
  rw [List.drop_set_of_lt (by omega), ← List.drop_drop, ← List.drop_drop, h]
theorem getD_of_drop {os ps : List Nat} {k : Nat} (h : os.drop k = ps.drop k) : os.getD k 0 = ps.getD k 0 := by
  have h1 : (os.drop k)[0]? = (ps.drop k)[0]? := by rw [h]
  rw [List.getElem?_drop, List.getElem?_drop, Nat.add_zero] at h1
  rw [List.getD_eq_getElem?_getD, List.getD_eq_getElem?_getD, h1]
theorem dsub_step {os xs ys : List Nat} {k bo bo' s x y : Nat} (hk : k < os.length) (hx : xs.getD k 0 = x) (hy : ys.getD k 0 = y) (hs : s + y + bo = x + 10 * bo') (h : dval (os.take k) + dval (ys.take k) = dval (xs.take k) + 10 ^ k * bo) :
    dval ((os.set k s).take (k + 1)) + dval (ys.take (k + 1)) = dval (xs.take (k + 1)) + 10 ^ (k + 1) * bo' := by
  rw [take_set8 hk, dval_append, List.length_take, Nat.min_eq_left (by omega), dval_take_succ ys, dval_take_succ xs, hx, hy, Nat.pow_succ, Nat.mul_assoc]
  have h2 : 10 ^ k * (s + y + bo) = 10 ^ k * (x + 10 * bo') := by rw [hs]
  rw [Nat.mul_add, Nat.mul_add, Nat.mul_add] at h2
  simp only [dval, Nat.mul_zero, Nat.add_zero]
  omega

/-- A call that tells the decimal digits of n in memory of its own. -/
def RetDecO (w : World) (n : Nat) (e : Ending) (w' : World) : Prop := ∃ A c ds, e = .returned (.slice A ds.length c) ∧ Own w' w.heap.size 5 (.slice A ds.length c) (u8s ds) ∧ dright ds ∧ dval ds = n ∧ Below w.heap.size w w'

set_option maxRecDepth 100000 in
set_option maxHeartbeats 4000000 in
theorem refLess {w : World} {A1 A2 : Option Addr} {c1 c2 : Nat} {xs ys : List Nat} (hr1 : Row w A1 (u8s xs)) (hr2 : Row w A2 (u8s ys)) (hx : small 10 xs) (hy : small 10 ys) (hl1 : xs.length ≤ 100000) (hl2 : ys.length ≤ xs.length) (hle : dval ys ≤ dval xs) :
    Calls Tryd.prog 40 #[.slice A1 xs.length c1, .slice A2 ys.length c2] w (RetDecO w (dval xs - dval ys)) := by
  obtain ⟨i0, hi, hz0, hz1, hz2⟩ := info_parts info_u8
  obtain ⟨n, hn⟩ : ∃ n : Nat, n = xs.length := ⟨_, rfl⟩
  obtain ⟨m, hm⟩ : ∃ m : Nat, m = ys.length := ⟨_, rfl⟩
  have hn1 : n ≤ 100000 := by omega
  have hmn : m ≤ n := by omega
  rw [← hn, ← hm]
  have HN := Lib.hid hn
  have HM := Lib.hid hm
  have HLE := Lib.hid hle
  have hoe := own_empty8 w
  have hra := hr1.alloc (.cells #[] 5)
  clear hn hm hl1 hl2 hle
  go_enter Tryd.func40, Tryd.ntmps40
  go_wp2_with (at_builtin; refine wpList_append_row rfl _ _ 53 rfl w.heap.size 5 i0 (.int .u8 0) 1 Tryd.underlying53 hi hz0 hz1 hz2 rfl _ _ _ rfl hoe A1 n c1 (u8s xs) rfl (by rw [u8s_length, ← HN.out]) hra (u8s_one xs) (by rw [u8s_length]; unfold maxLen; simp; omega) (by rw [u8s_length]; simp; omega) (by simp) ?_)
  intro v2 w2 hown2 hgrow2
  have ho2 : Own w2 w.heap.size 5 v2 (u8s xs) := by
    have := Own.mk_ hown2
    simpa [u8s] using this
  have hb2 : Below w.heap.size w w2 := ((Below.refl _ _).alloc (Nat.le_refl _) _).grown hgrow2 (by simp) (fun k hk => ((show (w.alloc (.cells #[] 5)).ownsRow w.heap.size 5 1 _ _ _ from hoe).lt k hk).1)
  obtain ⟨A3, c3, rfl, hr3, hc3, _⟩ := ho2.slice8
  rw [← HN.out] at ho2 hc3 ⊢
  clear hown2 hgrow2 hoe hra hr3
  go_wp2_with fail
  go_loopw [6, 7] (fun cv iv wr => ∃ (k bo : Nat) (ds : List Nat), k ≤ n ∧ iv = .int .i64 (k : Int) ∧ cv = .int .i64 (bo : Int) ∧ bo ≤ 1 ∧ Own wr w.heap.size 5 (.slice A3 n c3) (u8s ds) ∧
      Hid (ds.length = n ∧ ds.drop k = xs.drop k ∧ small 10 ds ∧ dval (ds.take k) + dval (ys.take k) = dval (xs.take k) + 10 ^ k * bo) ∧ Below w.heap.size w wr)
    (fun _ iv _ => n - (intOf iv).toNat)
  case atStart => exact ⟨0, 0, xs, Nat.zero_le _, rfl, rfl, by omega, ho2, ⟨HN.out.symm, rfl, hx, by simp [dval]⟩, hb2⟩
  case round =>
    obtain ⟨k, bo, ds, hk, rfl, rfl, hbo, hown, HO, hb⟩ := hrel
    by_cases hlt : k < n
    · obtain ⟨ad, e3, _⟩ := hown.row8.at_ (k := k) (by rw [u8s_length, HO.out.1]; exact hlt)
      obtain ⟨g, rfl, hg, _⟩ := hown.lt.2 ad e3
      subst e3
      have hcx := own_cell hown (k := k) (by rw [u8s_length, HO.out.1]; exact hlt)
      obtain ⟨x, hxe⟩ : ∃ x, x = xs.getD k 0 := ⟨_, rfl⟩
      have hx10 : x < 10 := by rw [hxe]; exact small_getD hx (by decide) k
      have hcx1 : wr.cell? ⟨g, k, none⟩ = some (.int .u8 (x : Int)) := by
        rw [hcx.1]
        have h1 := getD_of_drop HO.out.2.1
        rw [List.getD_eq_getElem?_getD, List.getElem?_eq_getElem (by rw [HO.out.1]; exact hlt)] at h1
        simp only [u8s, List.getElem_map]
        rw [hxe, ← h1]; rfl
      have hcx2 := hcx.2
      have hkc : k < c3 := by omega
      have hd1 : ∀ s, (ds.set k s).length = n := fun s => by rw [List.length_set]; exact HO.out.1
      have hd2 : ∀ s, (ds.set k s).drop (k + 1) = xs.drop (k + 1) := fun s => drop_set8 HO.out.2.1
      have hd3 : ∀ s, s < 10 → small 10 (ds.set k s) := fun s hs => by
        intro d hd
        rcases List.mem_or_eq_of_mem_set hd with h | h
        · exact HO.out.2.2.1 d h
        · rw [h]; exact hs
      have hset := fun s => own_set8 hown k s
      have HSET := Lib.hid hset
      have HD1 := Lib.hid hd1
      have HD2 := Lib.hid hd2
      have HD3 := Lib.hid hd3
      have HXE := Lib.hid hxe
      clear hcx hd1 hd2 hd3 hset hxe hown
      by_cases hkm : k < m
      · obtain ⟨ad2, y, rfl, hcy, hye, hym⟩ := (hr2.below hb).byte (k := k) (by rw [← HM.out]; exact hkm)
        have hy10 := hy y hym
        clear hym
        by_cases hneg : x < bo + y
        · obtain ⟨s, hs⟩ : ∃ s : Nat, s = x + 10 - bo - y := ⟨_, rfl⟩
          have hsi : (x : Int) - (bo : Int) - (y : Int) + 10 = (s : Int) := by omega
          have hst := dsub_step (os := ds) (xs := xs) (ys := ys) (bo' := 1) (by rw [HO.out.1]; exact hlt) HXE.out.symm hye.out (show s + y + bo = x + 10 * 1 by omega) HO.out.2.2.2
          have HST := Lib.hid hst
          have hs10 : s < 10 := by omega
          have hn1' : decide ((x : Int) - (bo : Int) - (y : Int) < 0) = true := by rw [decide_eq_true_eq]; omega
          clear hs hst hneg
          go_wp2
          go_roundw
          case rel => exact ⟨k + 1, 1, ds.set k s, by omega, by go_num, rfl, by omega, HSET.out s, ⟨HD1.out s, HD2.out s, HD3.out s hs10, HST.out⟩, hb.setCell hg _⟩
          case measure => simp [intOf]; omega
        · obtain ⟨s, hs⟩ : ∃ s : Nat, s = x - bo - y := ⟨_, rfl⟩
          have hsi : (x : Int) - (bo : Int) - (y : Int) = (s : Int) := by omega
          have hst := dsub_step (os := ds) (xs := xs) (ys := ys) (bo' := 0) (by rw [HO.out.1]; exact hlt) HXE.out.symm hye.out (show s + y + bo = x + 10 * 0 by omega) HO.out.2.2.2
          have HST := Lib.hid hst
          have hs10 : s < 10 := by omega
          have hn1' : decide ((s : Int) < 0) = false := by rw [decide_eq_false_iff_not]; omega
          clear hs hst hneg
          go_wp2
          go_roundw
          case rel => exact ⟨k + 1, 0, ds.set k s, by omega, by go_num, rfl, by omega, HSET.out s, ⟨HD1.out s, HD2.out s, HD3.out s hs10, HST.out⟩, hb.setCell hg _⟩
          case measure => simp [intOf]; omega
      · have hye : ys.getD k 0 = 0 := getD_out (by rw [← HM.out]; exact hkm)
        have HYE := Lib.hid hye
        clear hye
        by_cases hneg : x < bo
        · obtain ⟨s, hs⟩ : ∃ s : Nat, s = x + 10 - bo := ⟨_, rfl⟩
          have hsi : (x : Int) - (bo : Int) + 10 = (s : Int) := by omega
          have hst := dsub_step (os := ds) (xs := xs) (ys := ys) (bo' := 1) (by rw [HO.out.1]; exact hlt) HXE.out.symm HYE.out (show s + 0 + bo = x + 10 * 1 by omega) HO.out.2.2.2
          have HST := Lib.hid hst
          have hs10 : s < 10 := by omega
          have hn1' : decide ((x : Int) - (bo : Int) < 0) = true := by rw [decide_eq_true_eq]; omega
          clear hs hst hneg
          go_wp2
          go_roundw
          case rel => exact ⟨k + 1, 1, ds.set k s, by omega, by go_num, rfl, by omega, HSET.out s, ⟨HD1.out s, HD2.out s, HD3.out s hs10, HST.out⟩, hb.setCell hg _⟩
          case measure => simp [intOf]; omega
        · obtain ⟨s, hs⟩ : ∃ s : Nat, s = x - bo := ⟨_, rfl⟩
          have hsi : (x : Int) - (bo : Int) = (s : Int) := by omega
          have hst := dsub_step (os := ds) (xs := xs) (ys := ys) (bo' := 0) (by rw [HO.out.1]; exact hlt) HXE.out.symm HYE.out (show s + 0 + bo = x + 10 * 0 by omega) HO.out.2.2.2
          have HST := Lib.hid hst
          have hs10 : s < 10 := by omega
          have hn1' : decide ((s : Int) < 0) = false := by rw [decide_eq_false_iff_not]; omega
          clear hs hst hneg
          go_wp2
          go_roundw
          case rel => exact ⟨k + 1, 0, ds.set k s, by omega, by go_num, rfl, by omega, HSET.out s, ⟨HD1.out s, HD2.out s, HD3.out s hs10, HST.out⟩, hb.setCell hg _⟩
          case measure => simp [intOf]; omega
    · obtain rfl : k = n := by omega
      have hv := HO.out.2.2.2
      rw [List.take_of_length_le (by rw [HO.out.1]; exact Nat.le_refl _), List.take_of_length_le (by rw [← HM.out]; exact hmn), List.take_of_length_le (by rw [← HN.out]; exact Nat.le_refl _)] at hv
      have hdl := dval_lt HO.out.2.2.1
      rw [HO.out.1] at hdl
      have hbo0 : dval ds = dval xs - dval ys := by
        have := HLE.out
        rcases (show bo = 0 ∨ bo = 1 by omega) with h | h
        · rw [h, Nat.mul_zero, Nat.add_zero] at hv; omega
        · rw [h, Nat.mul_one] at hv; omega
      have HV := Lib.hid hbo0
      have htr := trim_any (w := wr) (A := A3) (c := c3) (ds := ds) hown.row8 (by rw [HO.out.1]; omega) (by rw [HO.out.1]; exact hc3)
      rw [HO.out.1] at htr
      have HTR := Lib.hid htr
      clear hv hdl hbo0 htr
      go_wp2_with fail
      refine HTR.out.mono ?_
      rintro e w3 ⟨⟨rfl, _⟩, hw3⟩
      subst hw3
      go_wp2
      go_ret
      have hcut := hown.cut (strip ds).length (by rw [u8s_length]; exact strip_length ds)
      rw [u8s_take, ← strip_take] at hcut
      exact ⟨A3, c3, strip ds, rfl, hcut, strip_dright HO.out.2.2.1, by rw [dval_strip]; exact HV.out, hb⟩
end Go.Proofs.YtffcacpffamjfaaDoor

namespace Go.Proofs.YtffcacpffamjfaaDoor
open Go.RowKit

theorem own_lit8 (w : World) {B : Nat} (d : Nat) (hB : B ≤ w.heap.size) : Own (w.alloc (.cells #[Value.int .u8 (d : Int)] 5)) B 5 (.slice (some ⟨w.heap.size, 0, none⟩) 1 1) (u8s [d]) :=
  Own.mk_ (World.ownsRow_lit w #[Value.int .u8 (d : Int)] 1 hB (by decide) rfl)
/-- The row at A lies in another block than g. -/
def Apart (A : Option Addr) (g : Nat) : Prop := ∀ g', A = some ⟨g', 0, none⟩ → g' ≠ g
theorem Own.set_apart {w : World} {B T n c g k : Nat} {A : Option Addr} {xs : List Value} (h : Own w B T (.slice A n c) xs) (ha : Apart A g) (u : Value) : Own (w.setCell ⟨g, k, none⟩ u) B T (.slice A n c) xs := by
  have hh : w.ownsRow B T 1 (.slice A n c) xs.length xs := h
  refine ⟨hh.1, ?_⟩
  rcases hh.2 with h0 | ⟨g', cap, cur, e, hB, hg, r⟩
  · exact .inl h0
  · refine .inr ⟨g', cap, cur, e, hB, ?_, r⟩
    have e1 : A = some ⟨g', 0, none⟩ := by injection e
    exact (Below.heap_setCell _ _ _ _ (ha g' e1)).trans hg
theorem apart_new {w : World} {B T n c g : Nat} {A : Option Addr} {xs : List Value} (h : Own w B T (.slice A n c) xs) (hg : g < B) : Apart A g := by
  intro g' e
  obtain ⟨g2, e2, h2, _⟩ := h.lt.2 _ e
  injection e2 with e2
  omega

theorem part_bound {x r Y : Nat} (hx : x < 10) (hr : r < Y) : x + 10 * r < 10 * Y := by omega
theorem part_step {xs qs : List Nat} {p x r r' t Y : Nat} (hp : p < xs.length) (hq : qs.length = xs.length) (hx : xs.getD p 0 = x) (ht : r' + t * Y = x + 10 * r) (h : dval (qs.drop (p + 1)) * Y + r = dval (xs.drop (p + 1))) :
    dval ((qs.set p t).drop p) * Y + r' = dval (xs.drop p) := by
  have e1 : (qs.set p t).drop p = t :: qs.drop (p + 1) := by
    have hl : p < (qs.set p t).length := by rw [List.length_set]; omega
    rw [List.drop_eq_getElem_cons hl]
    congr 1
    · simp
    · rw [List.drop_set_of_lt (by omega)]
  rw [e1, dval_getD xs p hp, hx, ← h, dval, Nat.add_mul, Nat.mul_add, Nat.mul_assoc]
  omega

def RetPart (w : World) (q r : Nat) (e : Ending) (w' : World) : Prop := ∃ A c ds B d es, e = .returned (.tuple #[.slice A ds.length c, .slice B es.length d]) ∧ Row w' A (u8s ds) ∧ dright ds ∧ dval ds = q ∧ Row w' B (u8s es) ∧ dright es ∧ dval es = r ∧ Below w.heap.size w w'

set_option maxRecDepth 100000 in
set_option maxHeartbeats 4000000 in
theorem refParted {w : World} {A1 A2 : Option Addr} {c1 c2 : Nat} {xs ys : List Nat} (hr1 : Row w A1 (u8s xs)) (hr2 : Row w A2 (u8s ys)) (hx : small 10 xs) (hy : dright ys) (hl1 : xs.length ≤ 50000) (hl2 : ys.length ≤ 50000) (h0 : 0 < dval ys) :
    Calls Tryd.prog 41 #[.slice A1 xs.length c1, .slice A2 ys.length c2] w (RetPart w (dval xs / dval ys) (dval xs % dval ys)) := by
  obtain ⟨i0, hi, hz0, hz1, hz2⟩ := info_parts info_u8
  obtain ⟨n, hn⟩ : ∃ n : Nat, n = xs.length := ⟨_, rfl⟩
  obtain ⟨m, hm⟩ : ∃ m : Nat, m = ys.length := ⟨_, rfl⟩
  obtain ⟨Y, hY⟩ : ∃ Y, Y = dval ys := ⟨_, rfl⟩
  have hn1 : n ≤ 50000 := by omega
  have hm1 : m ≤ 50000 := by omega
  have hYm := dval_lt hy.1
  rw [← hY, ← hm] at hYm
  rw [← hn, ← hm, ← hY]
  have hY0 : 0 < Y := by omega
  have HN := Lib.hid hn
  have HM := Lib.hid hm
  have HY := Lib.hid hY
  have HYM := Lib.hid hYm
  clear hn hm hY hYm hl1 hl2 h0
  go_enter Tryd.func41, Tryd.ntmps41
  go_wp2_with (at_make; refine wpList_make_full _ rfl _ _ 53 rfl w.heap.size 5 i0 (.int .u8 0) 1 Tryd.underlying53 hi hz0 hz1 .i64 .i64 (n : Int) (n : Int) n rfl rfl rfl rfl ?b2 ?b3 ?b4 ?_)
  case b2 => first | omega | (rw [hz2]; omega)
  case b3 => unfold maxLen; omega
  case b4 => exact Nat.le_refl _
  intro w1 hown hgrow
  have ho1 := own_zeros8 hown
  have hb1 : Below w.heap.size w w1 := (Below.refl _ _).grown hgrow (Nat.le_refl _) (fun k h => by cases h)
  obtain ⟨gq, hgq⟩ : ∃ g, g = w.heap.size := ⟨_, rfl⟩
  rw [← hgq] at ho1 ⊢
  have hgw : gq < w1.heap.size := by
    have := ho1.lt.2 _ rfl
    obtain ⟨g, e, _, h⟩ := this
    injection e with e
    omega
  have hgq' : gq ≤ gq := Nat.le_refl _
  have HGQ := Lib.hid hgq
  clear hown hgrow hgq hgq'
  go_wp2_with fail
  go_loopw [7, 8] (fun rv iv wr => ∃ (k : Nat) (Ar : Option Addr) (cr : Nat) (rs qs : List Nat), k ≤ n ∧ iv = .int .i64 ((k : Int) - 1) ∧ rv = .slice Ar rs.length cr ∧ Own wr gq 5 (.slice Ar rs.length cr) (u8s rs) ∧ Hid (Apart Ar gq) ∧ Own wr gq 5 (.slice (some ⟨gq, 0, none⟩) n n) (u8s qs) ∧
      Hid (qs.length = n ∧ small 10 qs ∧ dright rs ∧ dval rs < Y ∧ dval (qs.drop k) * Y + dval rs = dval (xs.drop k) ∧ ∀ j, j < k → qs.getD j 0 = 0) ∧ Below gq w wr ∧ gq < wr.heap.size)
    (fun _ iv _ => (intOf iv + 1).toNat)
  case atStart =>
    refine ⟨n, none, 0, [], List.replicate n 0, Nat.le_refl _, rfl, rfl, Own.nil _ _ _, (fun g' e => by cases e), ho1, ⟨by simp, small_replicate _ _ (by decide), ⟨small_nil _, .inl rfl⟩, by simpa [dval] using hY0, ?_, fun j hj => by simp [List.getD, hj]⟩, HGQ.out ▸ hb1, hgw⟩
    rw [List.drop_of_length_le (by simp), List.drop_of_length_le (by rw [HN.out]; exact Nat.le_refl _)]; simp [dval]
  case round =>
    obtain ⟨k, Ar, cr, rs, qs, hk, rfl, rfl, hor, HA, hoq, HO, hb, hsz⟩ := hrel
    rcases Nat.eq_zero_or_pos k with rfl | hpos
    · have h := HO.out.2.2.2.2.1
      rw [List.drop_zero, List.drop_zero] at h
      have hrl := HO.out.2.2.2.1
      have e1 : dval qs = dval xs / Y := by rw [← h, Nat.mul_comm, Nat.mul_add_div hY0, Nat.div_eq_of_lt hrl, Nat.add_zero]
      have e2 : dval rs = dval xs % Y := by rw [← h, Nat.mul_comm, Nat.mul_add_mod, Nat.mod_eq_of_lt hrl]
      have htr := trim_any (w := wr) (A := some ⟨gq, 0, none⟩) (c := n) (ds := qs) hoq.row8 (by rw [HO.out.1]; omega) (by rw [HO.out.1]; exact Nat.le_refl _)
      rw [HO.out.1] at htr
      have HTR := Lib.hid htr
      have E1 := Lib.hid e1
      have E2 := Lib.hid e2
      clear h hrl e1 e2 htr
      go_wp2_with fail
      refine HTR.out.mono ?_
      rintro e w3 ⟨⟨rfl, hrq⟩, hw3⟩
      subst hw3
      go_wp2
      go_ret2
      exact ⟨_, _, strip qs, _, _, rs, rfl, hrq, strip_dright HO.out.2.1, by rw [dval_strip]; exact E1.out, hor.row8, HO.out.2.2.1, E2.out, HGQ.out ▸ hb⟩
    · obtain ⟨p, rfl⟩ : ∃ p, k = p + 1 := ⟨k - 1, by omega⟩
      rw [show ((p + 1 : Nat) : Int) - 1 = (p : Int) from by omega]
      have hbW : Below w.heap.size w wr := HGQ.out ▸ hb
      obtain ⟨ad, x, rfl, hcx, hxe, hxm⟩ := (hr1.below hbW).byte (k := p) (by rw [← HN.out]; omega)
      have hx10 := hx x hxm
      have hpn : p < n := by omega
      clear hxm hpos
      have hrl : rs.length ≤ m := dlength_le HO.out.2.2.1 (Nat.lt_trans HO.out.2.2.2.1 HYM.out)
      go_wp2_with (at_builtin; refine wpList_append_row rfl _ _ 53 rfl wr.heap.size 5 i0 (.int .u8 0) 1 Tryd.underlying53 hi hz0 hz1 hz2 rfl _ _ _ rfl (own_lit8 wr x (Nat.le_refl _)) Ar rs.length cr (u8s rs) rfl (by rw [u8s_length]) (hor.row8.alloc _) (u8s_one rs) (by rw [u8s_length]; unfold maxLen; simp; omega) (by rw [u8s_length]; simp; omega) (by simp) ?_)
      intro v2 w2 hown2 hgrow2
      have ho2 : Own w2 wr.heap.size 5 v2 (u8s (x :: rs)) := by
        have := Own.mk_ hown2
        simpa [u8s] using this
      have hb2 : Below wr.heap.size wr w2 := ((Below.refl _ _).alloc (Nat.le_refl _) _).grown hgrow2 (by simp) (fun k hk => ((show (wr.alloc (.cells #[Value.int .u8 (x : Int)] 5)).ownsRow wr.heap.size 5 1 _ _ _ from own_lit8 wr x (Nat.le_refl _)).lt k hk).1)
      obtain ⟨A4, c4, rfl, hr4, hc4, _⟩ := ho2.slice8
      have hxl : (x :: rs).length ≤ 100000 := by rw [List.length_cons]; omega
      have htr := trim_any (w := w2) (A := A4) (c := c4) (ds := x :: rs) hr4 (by omega) hc4
      have HTR := Lib.hid htr
      have hoq2 := hoq.below hb2
      have hb3 : Below gq w w2 := hb.trans (hb2.mono (by omega))
      have hs2 : gq < w2.heap.size := Nat.lt_of_lt_of_le hsz hb2.size
      have hsm : small 10 (x :: rs) := fun d hd => by
        rcases List.mem_cons.1 hd with h | h
        · rw [h]; exact hx10
        · exact HO.out.2.2.1.1 d h
      have hcut := ho2.cut (strip (x :: rs)).length (by rw [u8s_length]; exact strip_length _)
      rw [u8s_take, ← strip_take] at hcut
      have hap : Apart A4 gq := apart_new hcut hsz
      have hcut' := hcut.mono (Nat.le_of_lt hsz)
      obtain ⟨rs1, hrs1⟩ : ∃ rs1, rs1 = strip (x :: rs) := ⟨_, rfl⟩
      have hd1 : dright rs1 := by rw [hrs1]; exact strip_dright hsm
      have hv1 : dval rs1 = x + 10 * dval rs := by rw [hrs1, dval_strip]; rfl
      rw [← hrs1] at hcut' HTR
      obtain ⟨V, hV⟩ : ∃ V, V = x + 10 * dval rs := ⟨_, rfl⟩
      rw [← hV] at hv1
      have hV10 : V < 10 * Y := by rw [hV]; exact part_bound hx10 HO.out.2.2.2.1
      have hqp : qs.getD p 0 = 0 := HO.out.2.2.2.2.2 p (Nat.lt_succ_self p)
      have hset0 : qs.set p 0 = qs := by
        have hl : p < qs.length := by rw [HO.out.1]; exact hpn
        rw [List.getD_eq_getElem?_getD, List.getElem?_eq_getElem hl] at hqp
        apply List.ext_getElem (by simp)
        intro i h1 h2
        rw [List.getElem_set]
        split
        · rename_i h; subst h; exact hqp.symm
        · rfl
      have hoq3 : Own w2 gq 5 (.slice (some ⟨gq, 0, none⟩) n n) (u8s (qs.set p 0)) := by rw [hset0]; exact hoq2
      have HAP := Lib.hid hap
      have HV := Lib.hid hV
      have HV1 := Lib.hid hv1
      have HXE := Lib.hid hxe.out
      clear hown2 hgrow2 ho2 hb2 hr4 hc4 htr hoq hoq2 hb hsz hsm hcut hap hrs1 hV hv1 hqp hset0 hor hbW
      go_wp2_with fail
      refine HTR.out.mono ?_
      rintro e w3 ⟨⟨rfl, _⟩, hw3⟩
      subst hw3
      go_wp2_with fail
      go_loopw [7] (fun rv wr => ∃ (t : Nat) (Ar : Option Addr) (cr : Nat) (rt : List Nat), t ≤ 9 ∧ rv = .slice Ar rt.length cr ∧ Own wr gq 5 (.slice Ar rt.length cr) (u8s rt) ∧ Hid (Apart Ar gq) ∧ Hid (dright rt ∧ dval rt + t * Y = V) ∧ Own wr gq 5 (.slice (some ⟨gq, 0, none⟩) n n) (u8s (qs.set p t)) ∧ Below gq w wr ∧ gq < wr.heap.size)
        (fun _ wr => 10 - (intOf ((wr.cell? ⟨gq, p, none⟩).getD (.int .u8 0))).toNat)
      case atStart => exact ⟨0, A4, c4, rs1, by omega, rfl, hcut', HAP.out, ⟨hd1, by rw [HV1.out]; omega⟩, hoq3, hb3, hs2⟩
      case round =>
        obtain ⟨t, Ar, cr, rt, ht9, rfl, hort, HA2, HT, hoqt, hbt, hst⟩ := hrel
        have hbW2 : Below w.heap.size w wr := HGQ.out ▸ hbt
        have hrl2 : rt.length ≤ m + 1 := dlength_le HT.out.1 (by
          have h1 := HT.out.2
          have h2 := HYM.out
          rw [Nat.pow_succ]; omega)
        obtain ⟨o, ho⟩ : ∃ o, o = ordI (dval rt : Int) (Y : Int) := ⟨_, rfl⟩
        have hord := refOrder (w := wr) (c1 := cr) (c2 := c2) hort.row8 (hr2.below hbW2) HT.out.1 hy (by omega)
        rw [← HY.out, ← HM.out, ← ho] at hord
        have HORD := Lib.hid hord
        have hqp := own_cell hoqt (k := p) (by rw [u8s_length, List.length_set, HO.out.1]; exact hpn)
        have hqpv : (u8s (qs.set p t))[p]'(by rw [u8s_length, List.length_set, HO.out.1]; exact hpn) = .int .u8 (t : Int) := by
          simp only [u8s, List.getElem_map, List.getElem_set_self]
        rw [hqpv] at hqp
        have hcell1 := hqp.1
        have HC1 := Lib.hid hcell1
        clear hord hqpv hqp hcell1 hbW2
        by_cases hge : Y ≤ dval rt
        · have hon : decide (0 ≤ o) = true := by
            rw [decide_eq_true_eq, ho]; unfold ordI; rw [if_neg (by omega)]; split <;> omega
          have ht8 : t ≤ 8 := by
            have h1 := HT.out.2
            rcases Nat.lt_or_ge t 9 with h | h
            · omega
            · exfalso
              have : 9 * Y ≤ t * Y := Nat.mul_le_mul_right _ h
              omega
          have hyl : ys.length ≤ rt.length := by
            rcases Nat.lt_or_ge rt.length ys.length with h | h
            · have h1 := dval_lt_length HT.out.1 hy h
              rw [← HY.out] at h1; omega
            · exact h
          have HGE := Lib.hid hge
          have HYL := Lib.hid hyl
          clear ho hge hyl
          go_wp2_with fail
          refine HORD.out.mono ?_
          rintro e w4 ⟨rfl, hd4⟩
          have hb4 : Below wr.heap.size wr w4 := hd4.below
          have hort4 := hort.below hb4
          have hoqt4 := hoqt.below hb4
          have hbt4 : Below gq w w4 := hbt.trans (hb4.mono (by omega))
          have hst4 : gq < w4.heap.size := Nat.lt_of_lt_of_le hst hb4.size
          have hls := refLess (w := w4) (c1 := cr) (c2 := c2) hort4.row8 (hr2.below (HGQ.out ▸ hbt4)) HT.out.1.1 hy.1 (by omega) HYL.out (by rw [← HY.out]; exact HGE.out)
          rw [← HM.out, ← HY.out] at hls
          have HLS := Lib.hid hls
          clear hls hd4 hb4 hort hoqt hbt hst hort4
          go_wp2_with fail
          refine HLS.out.mono ?_
          rintro e w5 ⟨A5, c5, ds5, rfl, ho5, hd5, hv5, hb5⟩
          have hap5 : Apart A5 gq := apart_new ho5 hst4
          have ho5' := ho5.mono (Nat.le_of_lt hst4)
          have hoqt5 := hoqt4.below hb5
          have hbt5 : Below gq w w5 := hbt4.trans (hb5.mono (by omega))
          have hst5 : gq < w5.heap.size := Nat.lt_of_lt_of_le hst4 hb5.size
          have hq5 := own_cell hoqt5 (k := p) (by rw [u8s_length, List.length_set, HO.out.1]; exact hpn)
          have hq5v : (u8s (qs.set p t))[p]'(by rw [u8s_length, List.length_set, HO.out.1]; exact hpn) = .int .u8 (t : Int) := by
            simp only [u8s, List.getElem_map, List.getElem_set_self]
          rw [hq5v] at hq5
          obtain ⟨hq5a, hq5b⟩ := hq5
          have hset5 := own_set8 hoqt5 p (t + 1)
          rw [List.set_set] at hset5
          have HSET := Lib.hid hset5
          have hr5 := fun u => ho5'.set_apart (k := p) hap5 u
          have HR5 := Lib.hid hr5
          have HAP5 := Lib.hid hap5
          have HV5 := Lib.hid hv5
          clear hq5v hset5 hr5 hap5 hv5 ho5 ho5' hoqt4 hoqt5 hb5 HLS
          go_wp2
          go_roundw
          case rel => exact ⟨t + 1, A5, c5, ds5, by omega, rfl, HR5.out _, HAP5.out, ⟨hd5, by
            have h1 := HT.out.2
            have h2 := HGE.out
            rw [HV5.out, Nat.add_mul, Nat.one_mul]; omega⟩, HSET.out, hbt5.setCell (Nat.le_refl _) _, by rw [World.size_setCell]; exact hst5⟩
          case measure =>
            have h1 := (own_cell HSET.out (k := p) (by rw [u8s_length, List.length_set, HO.out.1]; exact hpn)).1
            have h2 : (u8s (qs.set p (t + 1)))[p]'(by rw [u8s_length, List.length_set, HO.out.1]; exact hpn) = .int .u8 ((t + 1 : Nat) : Int) := by
              simp only [u8s, List.getElem_map, List.getElem_set_self]
            rw [h2] at h1
            have h3 := HC1.out
            have h4 : ((t + 1 : Nat) : Int) = (t : Int) + 1 := by omega
            rw [h4] at h1
            rw [h3, h1]
            simp [intOf]; omega
        · have hon : decide (0 ≤ o) = false := by
            rw [decide_eq_false_iff_not, ho]; unfold ordI; rw [if_pos (by omega)]; omega
          have hps := part_step (xs := xs) (qs := qs) (p := p) (r := dval rs) (r' := dval rt) (t := t) (Y := Y) (by rw [← HN.out]; exact hpn) (by rw [HO.out.1, HN.out]) HXE.out (by rw [HT.out.2, HV.out]) HO.out.2.2.2.2.1
          have HPS := Lib.hid hps
          have HGE := Lib.hid (Nat.lt_of_not_le hge)
          clear ho hge hps
          go_wp2_with fail
          refine HORD.out.mono ?_
          rintro e w4 ⟨rfl, hd4⟩
          have hb4 : Below wr.heap.size wr w4 := hd4.below
          have hort4 := hort.below hb4
          have hoqt4 := hoqt.below hb4
          have hbt4 : Below gq w w4 := hbt.trans (hb4.mono (by omega))
          have hst4 : gq < w4.heap.size := Nat.lt_of_lt_of_le hst hb4.size
          clear hd4 hb4 hort hoqt hbt hst
          go_wp2
          go_roundw
          case rel => exact ⟨p, Ar, cr, rt, qs.set p t, by omega, by go_num, rfl, hort4, HA2.out, hoqt4, ⟨by rw [List.length_set]; exact HO.out.1, small_set HO.out.2.1 p (by omega), HT.out.1, HGE.out, HPS.out, fun j hj => by
            rw [getD_set_ne t (by omega)]; exact HO.out.2.2.2.2.2 j (by omega)⟩, hbt4, hst4⟩
          case measure => first | (simp [intOf]; done) | (simp [intOf]; omega)
end Go.Proofs.YtffcacpffamjfaaDoor

namespace Go.Proofs.YtffcacpffamjfaaDoor
open Go.RowKit

theorem dlen_of {ds : List Nat} {n k : Nat} (h : dright ds) (hv : dval ds = n) (hn : n < 1000000000 ^ k) : ds.length ≤ 9 * k :=
  dlength_le h (by rw [hv, Nat.pow_mul]; exact hn)

set_option maxRecDepth 100000 in
set_option maxHeartbeats 1000000 in
theorem refTrim {w : World} {A : Option Addr} {c k : Nat} {xs : List Nat} (hr : Row w A (u32s xs)) (hd : small 4294967296 xs) (hlen : xs.length ≤ 1000) (hk : val xs < 1000000000 ^ k) (hk2 : k ≤ 2000) :
    Calls Tryd.prog 21 #[.slice A xs.length c] w (RetR w (val xs)) := by
  have hrd := refRead (c := c) hr hd hlen
  have HRD := Lib.hid hrd
  have HK := Lib.hid hk
  clear hrd hk
  go_enter Tryd.func21, Tryd.ntmps21
  go_wp2_with fail
  refine HRD.out.mono ?_
  rintro e w1 ⟨A1, c1, ds, rfl, h1, _, h3, h4, h5⟩
  have hl := dlen_of h3 h4 HK.out
  have hwr := refWrite (c := c1) h1 h3 (by omega)
  rw [h4] at hwr
  have HWR := Lib.hid hwr
  clear hwr h1 h3 h4
  go_wp2_with fail
  refine HWR.out.mono ?_
  rintro e w2 h
  obtain ⟨A2, j2, c2, rfl, hr2, hb2⟩ := retR_of h HK.out (by omega)
  have hb := bstep h5 hb2
  clear h hb2
  go_wp2
  go_ret
  exact ⟨A2, j2, c2, rfl, hr2, hb⟩

set_option maxRecDepth 100000 in
set_option maxHeartbeats 1000000 in
theorem refCmp {w : World} {A1 A2 : Option Addr} {c1 c2 k : Nat} {xs ys : List Nat} (hr1 : Row w A1 (u32s xs)) (hr2 : Row w A2 (u32s ys)) (hx : small 4294967296 xs) (hy : small 4294967296 ys) (hl1 : xs.length ≤ 1000) (hl2 : ys.length ≤ 1000) (hk : val xs < 1000000000 ^ k) (hk2 : k ≤ 2000) :
    Calls Tryd.prog 17 #[.slice A1 xs.length c1, .slice A2 ys.length c2] w fun e w' => e = .returned (.int .i64 (ordI (val xs : Int) (val ys : Int))) ∧ Below w.heap.size w w' := by
  have hrd := refRead (c := c1) hr1 hx hl1
  have hrd2 := fun (W : World) (hW : Below w.heap.size w W) => refRead (c := c2) (hr2.below hW) hy hl2
  have HRD := Lib.hid hrd
  have HRD2 := Lib.hid hrd2
  have HK := Lib.hid hk
  clear hrd hrd2 hk
  go_enter Tryd.func17, Tryd.ntmps17
  go_wp2_with fail
  refine HRD.out.mono ?_
  rintro e w1 ⟨A3, c3, ds, rfl, h1, _, h3, h4, h5⟩
  go_wp2_with fail
  refine (HRD2.out _ h5).mono ?_
  rintro e w2 ⟨A4, c4, es, rfl, g1, _, g3, g4, g5⟩
  have hl := dlen_of h3 h4 HK.out
  have hor := refOrder (c1 := c3) (c2 := c4) (h1.below g5) g1 h3 g3 (by omega)
  rw [h4, g4] at hor
  have HOR := Lib.hid hor
  have hb := bstep h5 g5
  clear hor h1 h3 h4 h5 g1 g3 g4 g5
  go_wp2_with fail
  refine HOR.out.mono ?_
  rintro e w3 ⟨rfl, hd⟩
  have hb3 := bstep hb hd.below
  clear hb hd
  go_wp2
  go_ret
  exact ⟨rfl, hb3⟩

set_option maxRecDepth 100000 in
set_option maxHeartbeats 1000000 in
theorem refSub_yes {w : World} {A1 A2 : Option Addr} {c1 c2 k : Nat} {xs ys : List Nat} (hr1 : Row w A1 (u32s xs)) (hr2 : Row w A2 (u32s ys)) (hx : small 4294967296 xs) (hy : small 4294967296 ys) (hl1 : xs.length ≤ 1000) (hl2 : ys.length ≤ 1000) (hk : val xs < 1000000000 ^ k) (hk2 : k ≤ 2000) (hle : val ys ≤ val xs) :
    Calls Tryd.prog 14 #[.slice A1 xs.length c1, .slice A2 ys.length c2] w (RetS w (val xs - val ys)) := by
  have hrd := refRead (c := c1) hr1 hx hl1
  have hrd2 := fun (W : World) (hW : Below w.heap.size w W) => refRead (c := c2) (hr2.below hW) hy hl2
  have HRD := Lib.hid hrd
  have HRD2 := Lib.hid hrd2
  have HK := Lib.hid hk
  have HLE := Lib.hid hle
  obtain ⟨o, ho⟩ : ∃ o, o = ordI (val xs : Int) (val ys : Int) := ⟨_, rfl⟩
  have hon : decide (o < 0) = false := by
    rw [decide_eq_false_iff_not, ho]; unfold ordI; rw [if_neg (by omega)]; split <;> omega
  have HO := Lib.hid ho
  clear hrd hrd2 hk hle ho
  go_enter Tryd.func14, Tryd.ntmps14
  go_wp2_with fail
  refine HRD.out.mono ?_
  rintro e w1 ⟨A3, c3, ds, rfl, h1, _, h3, h4, h5⟩
  go_wp2_with fail
  refine (HRD2.out _ h5).mono ?_
  rintro e w2 ⟨A4, c4, es, rfl, g1, _, g3, g4, g5⟩
  have hl := dlen_of h3 h4 HK.out
  have h1' := h1.below g5
  have hor := refOrder (c1 := c3) (c2 := c4) h1' g1 h3 g3 (by omega)
  rw [h4, g4, ← HO.out] at hor
  have HOR := Lib.hid hor
  have hb := bstep h5 g5
  have hll : es.length ≤ ds.length := by
    rcases Nat.lt_or_ge ds.length es.length with h | h
    · have h2 := dval_lt_length h3 g3 h
      have := HLE.out
      rw [h4, g4] at h2; omega
    · exact h
  clear hor h1 h5 g5
  go_wp2_with fail
  refine HOR.out.mono ?_
  rintro e w3 ⟨rfl, hd⟩
  have hb3 := bstep hb hd.below
  have hls := refLess (c1 := c3) (c2 := c4) (h1'.drawn hd) (g1.drawn hd) h3.1 g3.1 (by omega) hll (by rw [h4, g4]; exact HLE.out)
  rw [h4, g4] at hls
  have HLS := Lib.hid hls
  clear hb hd h1' g1 h3 g3 h4 g4 hls
  go_wp2_with fail
  refine HLS.out.mono ?_
  rintro e w4 ⟨A5, c5, fs, rfl, f1, f2, f3, f4⟩
  have hb4 := bstep hb3 f4
  have hfl := dlen_of f2 f3 (Nat.lt_of_le_of_lt (Nat.sub_le _ _) HK.out)
  have hwr := refWrite (c := c5) f1.row8 f2 (by omega)
  rw [f3] at hwr
  have HWR := Lib.hid hwr
  clear hwr f1 f2 f3 f4 hb3
  go_wp2_with fail
  refine HWR.out.mono ?_
  rintro e w5 h
  obtain ⟨A6, j6, c6, rfl, hr6, hb6⟩ := retR_of h (Nat.lt_of_le_of_lt (Nat.sub_le _ _) HK.out) (by omega)
  have hb5 := bstep hb4 hb6
  clear h hb6
  go_wp2
  go_ret2
  exact ⟨A6, j6, c6, rfl, hr6, hb5⟩

set_option maxRecDepth 100000 in
set_option maxHeartbeats 1000000 in
theorem refSub_no {w : World} {A1 A2 : Option Addr} {c1 c2 k : Nat} {xs ys : List Nat} (hr1 : Row w A1 (u32s xs)) (hr2 : Row w A2 (u32s ys)) (hx : small 4294967296 xs) (hy : small 4294967296 ys) (hl1 : xs.length ≤ 1000) (hl2 : ys.length ≤ 1000) (hk : val xs < 1000000000 ^ k) (hk2 : k ≤ 2000) (hle : val xs < val ys) :
    Calls Tryd.prog 14 #[.slice A1 xs.length c1, .slice A2 ys.length c2] w fun e w' => e = .returned (.tuple #[.slice none 0 0, .bool false]) ∧ Below w.heap.size w w' := by
  have hrd := refRead (c := c1) hr1 hx hl1
  have hrd2 := fun (W : World) (hW : Below w.heap.size w W) => refRead (c := c2) (hr2.below hW) hy hl2
  have HRD := Lib.hid hrd
  have HRD2 := Lib.hid hrd2
  have HK := Lib.hid hk
  obtain ⟨o, ho⟩ : ∃ o, o = ordI (val xs : Int) (val ys : Int) := ⟨_, rfl⟩
  have hon : decide (o < 0) = true := by
    rw [decide_eq_true_eq, ho]; unfold ordI; rw [if_pos (by omega)]; omega
  have HO := Lib.hid ho
  clear hrd hrd2 hk hle ho
  go_enter Tryd.func14, Tryd.ntmps14
  go_wp2_with fail
  refine HRD.out.mono ?_
  rintro e w1 ⟨A3, c3, ds, rfl, h1, _, h3, h4, h5⟩
  go_wp2_with fail
  refine (HRD2.out _ h5).mono ?_
  rintro e w2 ⟨A4, c4, es, rfl, g1, _, g3, g4, g5⟩
  have hl := dlen_of h3 h4 HK.out
  have hor := refOrder (c1 := c3) (c2 := c4) (h1.below g5) g1 h3 g3 (by omega)
  rw [h4, g4, ← HO.out] at hor
  have HOR := Lib.hid hor
  have hb := bstep h5 g5
  clear hor h1 h3 h4 h5 g1 g3 g4 g5
  go_wp2_with fail
  refine HOR.out.mono ?_
  rintro e w3 ⟨rfl, hd⟩
  have hb3 := bstep hb hd.below
  clear hb hd
  go_wp2
  go_ret2
  exact ⟨rfl, hb3⟩

set_option maxRecDepth 100000 in
set_option maxHeartbeats 1000000 in
theorem refDiv_no {w : World} {A1 A2 : Option Addr} {n1 c1 c2 : Nat} {ys : List Nat} (hr2 : Row w A2 (u32s ys)) (hy : small 4294967296 ys) (hl2 : ys.length ≤ 1000) (h0 : val ys = 0) :
    Calls Tryd.prog 15 #[.slice A1 n1 c1, .slice A2 ys.length c2] w fun e w' => e = .returned (.tuple #[.slice none 0 0, .slice none 0 0, .bool false]) ∧ Below w.heap.size w w' := by
  have hrd := refRead (c := c2) hr2 hy hl2
  have HRD := Lib.hid hrd
  have H0 := Lib.hid h0
  clear hrd h0
  go_enter Tryd.func15, Tryd.ntmps15
  go_wp2_with fail
  refine HRD.out.mono ?_
  rintro e w1 ⟨A3, c3, ds, rfl, h1, _, h3, h4, h5⟩
  have hnil : ds = [] := by
    have := dlength_le h3 (k := 0) (by rw [h4, H0.out]; decide)
    exact List.eq_nil_of_length_eq_zero (by omega)
  subst hnil
  clear h3 h4
  go_wp2
  go_returns
  exact ⟨rfl, h5⟩

set_option maxRecDepth 100000 in
set_option maxHeartbeats 1000000 in
theorem refDiv_yes {w : World} {A1 A2 : Option Addr} {c1 c2 k : Nat} {xs ys : List Nat} (hr1 : Row w A1 (u32s xs)) (hr2 : Row w A2 (u32s ys)) (hx : small 4294967296 xs) (hy : small 4294967296 ys) (hl1 : xs.length ≤ 1000) (hl2 : ys.length ≤ 1000) (hk : val xs < 1000000000 ^ k) (hky : val ys < 1000000000 ^ k) (hk2 : k ≤ 2000) (h0 : 0 < val ys) :
    Calls Tryd.prog 15 #[.slice A1 xs.length c1, .slice A2 ys.length c2] w (RetD w (val xs / val ys) (val xs % val ys)) := by
  have hrd := refRead (c := c2) hr2 hy hl2
  have hrd2 := fun (W : World) (hW : Below w.heap.size w W) => refRead (c := c1) (hr1.below hW) hx hl1
  have HRD := Lib.hid hrd
  have HRD2 := Lib.hid hrd2
  have HK := Lib.hid hk
  have HKY := Lib.hid hky
  have H0 := Lib.hid h0
  clear hrd hrd2 hk hky h0
  go_enter Tryd.func15, Tryd.ntmps15
  go_wp2_with fail
  refine HRD.out.mono ?_
  rintro e w1 ⟨A3, c3, ds, rfl, h1, _, h3, h4, h5⟩
  have hne : ((ds.length : Int) == 0) = false := by
    rw [beq_eq_false_iff_ne]
    intro h
    have h6 : ds = [] := List.eq_nil_of_length_eq_zero (by omega)
    have h7 := H0.out
    rw [← h4, h6] at h7
    simp [dval] at h7
  go_wp2_with fail
  refine (HRD2.out _ h5).mono ?_
  rintro e w2 ⟨A4, c4, es, rfl, g1, _, g3, g4, g5⟩
  have hl := dlen_of h3 h4 HKY.out
  have hle := dlen_of g3 g4 HK.out
  have hpa := refParted (c1 := c4) (c2 := c3) g1 (h1.below g5) g3.1 h3 (by omega) (by omega) (by rw [h4]; exact H0.out)
  rw [h4, g4] at hpa
  have HPA := Lib.hid hpa
  have hb := bstep h5 g5
  clear hpa h1 h3 h4 h5 g1 g3 g4 g5 hne
  go_wp2_with fail
  refine HPA.out.mono ?_
  rintro e w3 ⟨A5, c5, qs, A6, c6, rs, rfl, q1, q2, q3, r1, r2, r3, hb3⟩
  have hb4 := bstep hb hb3
  have hql := dlen_of q2 q3 (Nat.lt_of_le_of_lt (Nat.div_le_self _ _) HK.out)
  have hrl := dlen_of r2 r3 (Nat.lt_of_le_of_lt (Nat.mod_le _ _) HK.out)
  have hw1 := refWrite (c := c5) q1 q2 (by omega)
  have hw2 := fun (W : World) (hW : Below w3.heap.size w3 W) => refWrite (c := c6) (r1.below hW) r2 (by omega)
  rw [q3] at hw1
  rw [r3] at hw2
  have HW1 := Lib.hid hw1
  have HW2 := Lib.hid hw2
  clear hw1 hw2 q1 q2 q3 r1 r2 r3 hb hb3
  go_wp2_with fail
  refine HW1.out.mono ?_
  rintro e w4 h
  obtain ⟨A7, j7, c7, rfl, hr7, hb7⟩ := retR_of h (Nat.lt_of_le_of_lt (Nat.div_le_self _ _) HK.out) (by omega)
  have hb5 := bstep hb4 hb7
  clear h
  go_wp2_with fail
  refine (HW2.out _ hb7).mono ?_
  rintro e w5 h
  obtain ⟨A8, j8, c8, rfl, hr8, hb8⟩ := retR_of h (Nat.lt_of_le_of_lt (Nat.mod_le _ _) HK.out) (by omega)
  have hb6 := bstep hb5 hb8
  have hr7' := hr7.below hb8
  clear h hb8 hb7 hr7 hb5 hb4
  go_wp2
  go_returns
  exact ⟨A7, j7, c7, A8, j8, c8, rfl, hr7', hr8, hb6⟩
theorem all_refSub {w : World} {A1 A2 : Option Addr} {c1 c2 k : Nat} {xs ys : List Nat} (hr1 : Row w A1 (u32s xs)) (hr2 : Row w A2 (u32s ys)) (hx : small 4294967296 xs) (hy : small 4294967296 ys) (hl1 : xs.length ≤ 1000) (hl2 : ys.length ≤ 1000) (hk : val xs < 1000000000 ^ k) (hk2 : k ≤ 2000) :
    Calls Tryd.prog 14 #[.slice A1 xs.length c1, .slice A2 ys.length c2] w (RetSB w (val xs - val ys) (decide (val ys ≤ val xs))) := by
  by_cases h : val ys ≤ val xs
  · rw [decide_eq_true h]; exact refSub_yes hr1 hr2 hx hy hl1 hl2 hk hk2 h
  · rw [decide_eq_false h, Nat.sub_eq_zero_of_le (by omega)]
    exact (refSub_no hr1 hr2 hx hy hl1 hl2 hk hk2 (by omega)).mono fun _ _ ⟨a, b⟩ => ⟨none, 0, 0, a, rr_nil _, b⟩
theorem all_refDiv {w : World} {A1 A2 : Option Addr} {c1 c2 k : Nat} {xs ys : List Nat} (hr1 : Row w A1 (u32s xs)) (hr2 : Row w A2 (u32s ys)) (hx : small 4294967296 xs) (hy : small 4294967296 ys) (hl1 : xs.length ≤ 1000) (hl2 : ys.length ≤ 1000) (hk : val xs < 1000000000 ^ k) (hky : val ys < 1000000000 ^ k) (hk2 : k ≤ 2000) :
    Calls Tryd.prog 15 #[.slice A1 xs.length c1, .slice A2 ys.length c2] w (RetDB w (val xs / val ys) (restOf (val xs) (val ys)) (decide (0 < val ys))) := by
  by_cases h : val ys = 0
  · rw [h, decide_eq_false (by omega), Nat.div_zero, restOf, if_pos rfl]
    exact (refDiv_no hr2 hy hl2 h).mono fun _ _ ⟨a, b⟩ => ⟨none, 0, 0, none, 0, 0, a, rr_nil _, rr_nil _, b⟩
  · rw [decide_eq_true (show 0 < val ys by omega), restOf, if_neg h]; exact refDiv_yes hr1 hr2 hx hy hl1 hl2 hk hky hk2 (by omega)
end Go.Proofs.YtffcacpffamjfaaDoor

/- Contract of nat.number.divideShort: quotient and rest by one digit above 0. At most 100000 digits. Contract of nat.number.divide: quotient and rest by a number above 0; the division by two digits or more comes in as a premise ('LongSpec'), wanted only there. At most 100000 digits. -/
import Derived.Test.YtffcacpffamjfaaDoorNat1
import Derived.Deep.RegionWith
import Derived.Outline
import Derived.RegionTactic
namespace Go.Proofs.YtffcacpffamjfaaDoor
open Go.RowKit

theorem getD_set_ne {ds : List Nat} {p k : Nat} (v : Nat) (h : p ≠ k) : (ds.set p v).getD k 0 = ds.getD k 0 := by
  rw [List.getD_eq_getElem?_getD, List.getD_eq_getElem?_getD, List.getElem?_set_ne h]
theorem small_set {b : Nat} {ds : List Nat} (h : small b ds) (k : Nat) {d : Nat} (hd : d < b) : small b (ds.set k d) := by
  intro x hx
  rcases List.mem_or_eq_of_mem_set hx with h1 | h1
  · exact h x h1
  · rw [h1]; exact hd
theorem small_replicate (b n : Nat) (hb : 0 < b) : small b (List.replicate n 0) := fun d hd => by rw [(List.mem_replicate.1 hd).2]; exact hb

/-- One digit more of the quotient. -/
theorem div_step {xs qs : List Nat} {p d left : Nat} (hp : p < xs.length) (hq : qs.length = xs.length) (h : val (qs.drop (p + 1)) * d + left = val (xs.drop (p + 1))) :
    val ((qs.set p ((left * 1000000000 + xs.getD p 0) / d)).drop p) * d + (left * 1000000000 + xs.getD p 0) % d = val (xs.drop p) := by
  have e1 : (qs.set p ((left * 1000000000 + xs.getD p 0) / d)).drop p = ((left * 1000000000 + xs.getD p 0) / d) :: qs.drop (p + 1) := by
    have hl : p < (qs.set p ((left * 1000000000 + xs.getD p 0) / d)).length := by rw [List.length_set]; omega
    rw [List.drop_eq_getElem_cons hl]
    congr 1
    · simp
    · rw [List.drop_set_of_lt (by omega)]
  rw [e1, val_drop xs p hp, ← h, val]
  have h2 := Nat.mod_add_div (left * 1000000000 + xs.getD p 0) d
  rw [Nat.add_mul, Nat.mul_add, Nat.mul_comm _ d, Nat.mul_assoc]
  omega

theorem div_lt {left d x : Nat} (h : left < d) (hx : x < 1000000000) : (left * 1000000000 + x) / d < 1000000000 := by
  rw [Nat.div_lt_iff_lt_mul (by omega)]
  have := Nat.mul_le_mul_right 1000000000 (show left + 1 ≤ d from h)
  rw [Nat.mul_comm 1000000000 d]
  omega

/-- Two numbers, each a right row of its own from block B on. -/
def RetTwo (w : World) (B q r : Nat) (e : Ending) (w' : World) : Prop := ∃ v u, e = .returned (.tuple #[.agg #[v], .agg #[u]]) ∧ IsNat w' B v q ∧ IsNat w' B u r ∧ Below w.heap.size w w'

set_option maxRecDepth 100000 in
set_option maxHeartbeats 2000000 in
theorem divideShort_any {w : World} {A1 : Option Addr} {c1 d : Nat} {xs : List Nat} (hr1 : Row w A1 (u32s xs)) (hx : small 1000000000 xs) (hl1 : xs.length ≤ 100000) (hd0 : 0 < d) (hd : d < 1000000000) :
    Calls Tryd.prog 46 #[.agg #[.slice A1 xs.length c1], .int .u64 d] w (RetTwo w w.heap.size (val xs / d) (val xs % d)) := by
  obtain ⟨i0, hi, hz0, hz1, hz2⟩ := info_parts info_u32
  obtain ⟨n, hn⟩ : ∃ n : Nat, n = xs.length := ⟨_, rfl⟩
  have hn1 : n ≤ 100000 := by omega
  rw [← hn]
  have HN := Lib.hid hn
  clear hn
  go_enter Tryd.func46, Tryd.ntmps46
  go_wp2_with (at_make; refine wpList_make_full _ rfl _ _ 40 rfl (w.heap.size + 3) 23 i0 (.int .u32 0) 1 Tryd.underlying40 hi hz0 hz1 .i64 .i64 (n : Int) (n : Int) n rfl rfl rfl rfl ?b2 ?b3 ?b4 ?_)
  case b2 => rw [hz2]; omega
  case b3 => unfold maxLen; omega
  case b4 => simp
  intro w1 hown hgrow
  have ho1 := own_zeros hown
  obtain ⟨hb1, hs1, hA, hB, hC⟩ := three_new hgrow
  have HA := Lib.hid hA
  have HB := Lib.hid hB
  have HC := Lib.hid hC
  clear hown hgrow hA hB hC
  have hx' := small_mono hx (show 1000000000 ≤ 4294967296 by decide)
  go_wp2_with fail
  go_loopw [7, 8] (fun cv i wr => ∃ (k left : Nat) (qs : List Nat), k ≤ n ∧ i = .int .i64 ((k : Int) - 1) ∧ cv = .int .u64 left ∧ left < d ∧ Own wr (w.heap.size + 3) 23 (.slice (some ⟨w.heap.size + 1 + 1 + 1, 0, none⟩) n n) (u32s qs) ∧ Hid (qs.length = n ∧ small 1000000000 qs ∧ val (qs.drop k) * d + left = val (xs.drop k)) ∧ Below (w.heap.size + 3) w1 wr)
    (fun _ i _ => (intOf i + 1).toNat)
  case atStart =>
    refine ⟨n, 0, List.replicate n 0, Nat.le_refl _, rfl, rfl, hd0, ho1, ⟨by simp, small_replicate _ _ (by decide), ?_⟩, Below.refl _ _⟩
    rw [List.drop_of_length_le (by simp), List.drop_of_length_le (by rw [HN.out]; exact Nat.le_refl _)]; simp [val]
  case round =>
    obtain ⟨k, left, qs, hk, rfl, rfl, hleft, hq, HO, hb⟩ := hrel
    have hsz := hb.size
    rcases Nat.eq_zero_or_pos k with rfl | hpos
    · have hl : qs.length ≤ 1000000 := by rw [HO.out.1]; omega
      go_wp2_with fail
      refine (stripped_any hq hl).mono ?_
      rintro e w3 ⟨⟨v, rfl, hv⟩, rfl⟩
      obtain ⟨A3, c3, rfl, _⟩ := hv.slice32
      go_wp2_with fail
      refine (stripped_any (own_lit32 wr (B := w.heap.size + 3) left (by omega)) (by simp)).mono ?_
      rintro e w4 ⟨⟨v2, rfl, hv2⟩, hw4⟩
      obtain ⟨A4, c4, rfl, _⟩ := hv2.slice32
      have hb4 : Below (w.heap.size + 3) w1 w4 := by rw [← hw4]; exact hb.alloc (by omega) _
      have hv' : Own w4 (w.heap.size + 3) 23 (.slice A3 (strip qs).length c3) (u32s (strip qs)) := by rw [← hw4]; exact hv.below ((Below.refl _ _).alloc (Nat.le_refl _) _)
      have hv2' : Own w4 (w.heap.size + 3) 23 (.slice A4 (strip [left]).length c4) (u32s (strip [left])) := by rw [← hw4]; exact hv2
      clear hv hv2 hw4
      have hB4 := (hb4.block (w.heap.size + 1) (by omega)).trans HB.out
      have hC4 := (hb4.block (w.heap.size + 1 + 1) (by omega)).trans HC.out
      obtain ⟨t1, t2, t3⟩ := two_cells (u1 := .slice A3 (strip qs).length c3) (u2 := .slice A4 (strip [left]).length c4) hB4 hC4 (by omega)
      have k1 := cell_of_one hB4
      have k2 := free_of_one hB4
      have k3 := cell_of_one t1
      have k4 := free_of_one t1
      have k5 := cell_of_one t2
      have k6 := cell_of_one t3
      clear hB4 hC4 t1 t2 t3
      go_wp2
      refine bodyPost_ret (v := .tuple #[.agg #[.slice A3 (strip qs).length c3], .agg #[.slice A4 (strip [left]).length c4]]) (by simp [results, Tryd.results46, go_sem, k5, k6]) rfl ?_
      have h := HO.out
      have hv3 : val qs * d + left = val xs := by simpa using h.2.2
      refine ⟨_, _, rfl, ⟨_, strip_right h.2.1, ?_, ((hv'.setBelow (show w.heap.size + 1 < w.heap.size + 3 by omega) _).setBelow (show w.heap.size + 1 + 1 < w.heap.size + 3 by omega) _).mono (by omega)⟩, ⟨_, strip_right (ds := [left]) (fun y hy => by rw [List.mem_singleton.1 hy]; omega), ?_, ((hv2'.setBelow (show w.heap.size + 1 < w.heap.size + 3 by omega) _).setBelow (show w.heap.size + 1 + 1 < w.heap.size + 3 by omega) _).mono (by omega)⟩, ((below_trans hb1 hb4 (by omega)).setCell (Nat.le_succ _) _).setCell (Nat.le_succ_of_le (Nat.le_succ _)) _⟩
      · rw [strip_val, ← hv3, Nat.mul_comm, Nat.mul_add_div hd0, Nat.div_eq_of_lt hleft, Nat.add_zero]
      · rw [strip_val, ← hv3, Nat.mul_comm, Nat.mul_add_mod, Nat.mod_eq_of_lt hleft]; simp [val]
    · obtain ⟨p, rfl⟩ : ∃ p, k = p + 1 := ⟨k - 1, by omega⟩
      rw [show ((p + 1 : Nat) : Int) - 1 = (p : Int) from by omega]
      have bW := below_trans hb1 hb (by omega)
      have hcA := cell_of_one ((hb.block w.heap.size (by omega)).trans HA.out)
      obtain ⟨x, hxe⟩ : ∃ x, x = xs.getD p 0 := ⟨_, rfl⟩
      have hxb : x < 1000000000 := by rw [hxe]; exact small_getD hx (by decide) p
      have q1 : ∀ W, Below w.heap.size w W → Calls Tryd.prog 47 #[.slice A1 n c1, .int .i64 p] W (fun e w' => e = .returned (.int .u64 (x : Int)) ∧ W = w') := fun W hW => by
        have := at_any (c := c1) (hr1.below hW) hx' p (by omega)
        rw [Int.toNat_natCast, ← hxe, ← HN.out] at this; exact this
      have HX := Lib.hid hxe
      have Q1 := Lib.hid q1
      clear hxe q1
      obtain ⟨hqc, hqf⟩ := own_cell hq (k := p) (by rw [u32s_length, HO.out.1]; omega)
      obtain ⟨q, hqe⟩ : ∃ q, q = (left * 1000000000 + x) / d := ⟨_, rfl⟩
      obtain ⟨r, hre⟩ : ∃ r, r = (left * 1000000000 + x) % d := ⟨_, rfl⟩
      have hql : q < 1000000000 := by rw [hqe]; exact div_lt hleft hxb
      have hrl : r < d := by rw [hre]; exact Nat.mod_lt _ hd0
      have hdq : ((left : Int) * 1000000000 + (x : Int)) / (d : Int) = (q : Int) := by rw [hqe]; simp
      have hdr : ((left : Int) * 1000000000 + (x : Int)) % (d : Int) = (r : Int) := by rw [hre]; simp
      have HQ := Lib.hid hqe
      have HR := Lib.hid hre
      clear hqe hre
      have hi1 : (p : Int) < n := by omega
      go_wp2_with (go_at_call 47; refine (Q1.out _ bW).mono ?_; rintro e w' ⟨rfl, rfl⟩)
      have HDR := Lib.hid hdr
      clear hdq hdr
      go_roundw
      case rel =>
        refine ⟨p, r, qs.set p q, by omega, by go_num, int_eq HDR.out, hrl, own_set32 hq p q, ?_, hb.setCell (show w.heap.size + 3 ≤ w.heap.size + 1 + 1 + 1 by omega) _⟩
        have h := HO.out
        refine ⟨by rw [List.length_set]; exact h.1, small_set h.2.1 p hql, ?_⟩
        rw [HQ.out, HR.out, HX.out]
        exact div_step (by rw [← HN.out]; omega) (by rw [h.1, HN.out]) h.2.2
      case measure => first | (simp [intOf]; done) | (simp [intOf]; omega)
end Go.Proofs.YtffcacpffamjfaaDoor

namespace Go.Proofs.YtffcacpffamjfaaDoor
open Go.RowKit

theorem IsNat.setOther {w : World} {B n : Nat} {v u0 : Value} (h : IsNat w B v n) {g : Nat} (hg : w.heap[g]? = some (.cells #[u0] 42 (0, 0))) (u : Value) : IsNat (w.setCell ⟨g, 0, none⟩ u) B v n := by
  obtain ⟨rs, h1, h2, h3⟩ := h
  exact ⟨rs, h1, h2, h3.setOther hg (by decide) u⟩
theorem IsNat.below {w w' : World} {B n : Nat} {v : Value} (h : IsNat w B v n) (hb : Below w.heap.size w w') : IsNat w' B v n := by
  obtain ⟨rs, h1, h2, h3⟩ := h
  exact ⟨rs, h1, h2, h3.below hb⟩
theorem IsNat.alloc {w : World} {B n : Nat} {v : Value} (h : IsNat w B v n) (o : Obj) : IsNat (w.alloc o) B v n := h.below ((Below.refl _ _).alloc (Nat.le_refl _) _)
theorem Own.alloc {w : World} {B T : Nat} {v : Value} {xs : List Value} (h : Own w B T v xs) (o : Obj) : Own (w.alloc o) B T v xs := h.below ((Below.refl _ _).alloc (Nat.le_refl _) _)
theorem IsNat.mono {w : World} {B B' n : Nat} {v : Value} (h : IsNat w B v n) (hB : B' ≤ B) : IsNat w B' v n := by
  obtain ⟨rs, h1, h2, h3⟩ := h
  exact ⟨rs, h1, h2, h3.mono hB⟩
/-- Two numbers stored into the two cells of the results. -/
theorem close_two {w W : World} {B0 q r g3 g4 : Nat} {v u v0 u0 : Value} (h3 : W.heap[g3]? = some (.cells #[v0] 42 (0, 0))) (h4 : W.heap[g4]? = some (.cells #[u0] 42 (0, 0))) (hne : g3 ≠ g4) (hg3 : w.heap.size ≤ g3) (hg4 : w.heap.size ≤ g4)
    (hv : IsNat W B0 v q) (hu : IsNat W B0 u r) (hb : Below w.heap.size w W) :
    (IsNat ((W.setCell ⟨g3, 0, none⟩ v).setCell ⟨g4, 0, none⟩ u) B0 v q ∧ IsNat ((W.setCell ⟨g3, 0, none⟩ v).setCell ⟨g4, 0, none⟩ u) B0 u r ∧ Below w.heap.size w ((W.setCell ⟨g3, 0, none⟩ v).setCell ⟨g4, 0, none⟩ u)) ∧
    ((W.setCell ⟨g3, 0, none⟩ v).setCell ⟨g4, 0, none⟩ u).cell? ⟨g3, 0, none⟩ = some v ∧ ((W.setCell ⟨g3, 0, none⟩ v).setCell ⟨g4, 0, none⟩ u).cell? ⟨g4, 0, none⟩ = some u := by
  obtain ⟨t1, t2, t3⟩ := two_cells (u1 := v) (u2 := u) h3 h4 hne
  exact ⟨⟨(hv.setOther h3 v).setOther t1 u, (hu.setOther h3 v).setOther t1 u, (hb.setCell hg3 _).setCell hg4 _⟩, cell_of_one t2, cell_of_one t3⟩
theorem IsNat.shape {w : World} {B n : Nat} {v : Value} (h : IsNat w B v n) : ∃ A m c, v = .slice A m c := by
  obtain ⟨rs, _, _, h3⟩ := h
  obtain ⟨A, c, rfl, _⟩ := h3.slice
  exact ⟨A, _, c, rfl⟩

/-- What divideLong tells. -/
def LongSpec : Prop := ∀ (w : World) (A1 A2 : Option Addr) (c1 c2 : Nat) (xs ys : List Nat), Row w A1 (u32s xs) → Row w A2 (u32s ys) → right xs → right ys → 2 ≤ ys.length → val ys ≤ val xs → xs.length ≤ 100000 →
  Calls Tryd.prog 48 #[.agg #[.slice A1 xs.length c1], .agg #[.slice A2 ys.length c2]] w (RetTwo w w.heap.size (val xs / val ys) (val xs % val ys))

set_option maxRecDepth 100000 in
set_option maxHeartbeats 4000000 in
theorem divide_any {w : World} {B0 : Nat} {A1 A2 : Option Addr} {c1 c2 : Nat} {xs ys : List Nat} (ho1 : Own w B0 23 (.slice A1 xs.length c1) (u32s xs)) (hB0 : B0 ≤ w.heap.size) (hr2 : Row w A2 (u32s ys)) (hx : right xs) (hy : right ys) (hne : ys ≠ []) (hl1 : xs.length ≤ 100000) (hL : ys.length = 1 ∨ LongSpec) :
    Calls Tryd.prog 29 #[.agg #[.slice A1 xs.length c1], .agg #[.slice A2 ys.length c2]] w (RetTwo w B0 (val xs / val ys) (val xs % val ys)) := by
  have hr1 := ho1.row32
  have HL := Lib.hid hL
  have HNE := Lib.hid hne
  clear hL hne
  obtain ⟨W, hW⟩ : ∃ W, W = (((w.alloc (Obj.cells #[Value.slice A1 xs.length c1] 42)).alloc (Obj.cells #[Value.slice A2 ys.length c2] 42)).alloc (Obj.cells #[Value.slice none 0 0] 42)).alloc (Obj.cells #[Value.slice none 0 0] 42) := ⟨_, rfl⟩
  obtain ⟨hbW, hsW, b1, b2, b3, b4⟩ := four_new hW
  have bB1 := Lib.hid b1
  have bB2 := Lib.hid b2
  have bB3 := Lib.hid b3
  have bB4 := Lib.hid b4
  have HSW := Lib.hid hsW
  have HW := Lib.hid hW
  have hs4 : w.heap.size + 4 ≤ W.heap.size := by omega
  have hcmp := compare_any (c1 := c1) (c2 := c2) (hr1.below hbW) (hr2.below hbW) hx hy (by omega)
  have HC := Lib.hid hcmp
  clear b1 b2 b3 b4 hsW hW hcmp
  by_cases hlt : val xs < val ys
  · have ht : decide (ordI (val xs : Int) (val ys : Int) < 0) = true := by unfold ordI; rw [if_pos (by omega)]; rfl
    have HLT := Lib.hid hlt
    clear hlt
    go_enter Tryd.func29, Tryd.ntmps29
    go_wp2_with fail
    rw [← HW.out]
    refine HC.out.mono ?_
    rintro e W2 ⟨rfl, hd2⟩
    have hb2 := hd2.below
    have k1 := (hb2.block _ (by omega)).trans bB1.out
    have k3 := (hb2.block _ (by omega)).trans bB3.out
    have k4 := (hb2.block _ (by omega)).trans bB4.out
    have c1' := cell_of_one k1
    have c3' := cell_of_one k3
    have c4' := cell_of_one k4
    have f3' := free_of_one k3
    have f4' := free_of_one k4
    have K3 := Lib.hid k3
    have K4 := Lib.hid k4
    clear k1 k3 k4
    go_wp2
    go_region
    obtain ⟨⟨n1, n2, n3⟩, n4, n5⟩ := close_two (w := w) (v := .slice none 0 0) (u := .slice A1 xs.length c1) K3.out K4.out (by omega) (by omega) (by omega) ⟨[], right_nil, rfl, Own.nil _ B0 _⟩ ⟨xs, hx, rfl, (ho1.below hbW).below hb2⟩ (hbW.trans (hb2.mono (by omega)))
    go_wp2
    refine bodyPost_ret (v := .tuple #[.agg #[.slice none 0 0], .agg #[.slice A1 xs.length c1]]) (by simp [results, Tryd.results29, go_sem, n4, n5]) rfl ?_
    rw [Nat.div_eq_of_lt HLT.out, Nat.mod_eq_of_lt HLT.out]
    exact ⟨_, _, rfl, n1, n2, n3.drew⟩
  · have ht : decide (ordI (val xs : Int) (val ys : Int) < 0) = false := by
      unfold ordI
      rw [if_neg (by omega)]
      split <;> rfl
    have HGE := Lib.hid (Nat.le_of_not_lt hlt)
    clear hlt
    by_cases h1 : ys.length = 1
    · have hl : ((ys.length : Int) == 1) = true := by rw [h1]; rfl
      obtain ⟨d, hyd⟩ : ∃ d, ys = [d] := by
        match ys, h1 with
        | [d], _ => exact ⟨d, rfl⟩
      have hd : d < 1000000000 := hy.1 d (by rw [hyd]; simp)
      have hd0 : 0 < d := by
        rcases hy.2 with h | h
        · rw [hyd] at h; cases h
        · rw [hyd] at h; simp at h; omega
      have hq : ∀ W2, Below w.heap.size w W2 → Calls Tryd.prog 47 #[.slice A2 ys.length c2, .int .i64 0] W2 fun e w' => e = .returned (.int .u64 (d : Int)) ∧ W2 = w' := fun W2 hb => by
        have := at_any (c := c2) (hr2.below hb) (small_mono hy.1 (by decide)) 0 (by omega)
        rw [show ys.getD (Int.toNat 0) 0 = d from by rw [hyd]; rfl] at this
        exact this
      have HQ := Lib.hid hq
      have HYD : Hid (val ys = d) := by show _ = _; rw [hyd]; simp [val]
      have hw2 : ∀ W2, Below W.heap.size W W2 → W2.heap[w.heap.size]? = some (Obj.cells #[Value.slice A1 xs.length c1] 42) ∧ W2.heap[w.heap.size + 1]? = some (Obj.cells #[Value.slice A2 ys.length c2] 42) ∧ W2.heap[w.heap.size + 1 + 1]? = some (Obj.cells #[Value.slice none 0 0] 42) ∧ W2.heap[w.heap.size + 1 + 1 + 1]? = some (Obj.cells #[Value.slice none 0 0] 42) := fun W2 hb => ⟨(hb.block _ (by omega)).trans bB1.out, (hb.block _ (by omega)).trans bB2.out, (hb.block _ (by omega)).trans bB3.out, (hb.block _ (by omega)).trans bB4.out⟩
      have HW2 := Lib.hid hw2
      clear hw2 hyd h1 hq
      go_enter Tryd.func29, Tryd.ntmps29
      go_wp2_with fail
      rw [← HW.out]
      refine HC.out.mono ?_
      rintro e W2 ⟨rfl, hd2⟩
      have hb2 := hd2.below
      obtain ⟨k1, k2, k3, k4⟩ := HW2.out W2 hb2
      have c1' := cell_of_one k1
      have c2' := cell_of_one k2
      have bA2 : Below w.heap.size w W2.drew := (hbW.trans (hb2.mono (by omega))).drew
      have hs2 : w.heap.size + 4 ≤ W2.heap.size := Nat.le_trans hs4 hb2.size
      clear k1 k2 k3 k4
      go_wp2
      go_region_with (first
        | (go_at_call 47; refine (HQ.out _ bA2).mono ?_; rintro e w' ⟨rfl, rfl⟩)
        | (go_at_call 46; refine (divideShort_any (w := W2.drew) (hr1.below bA2) hx.1 hl1 hd0 hd).mono ?_; rintro e W3 ⟨v, u, rfl, hv, hu, hb3⟩; obtain ⟨Av, nv, cv, rfl⟩ := hv.shape; obtain ⟨Au, nu, cu, rfl⟩ := hu.shape; have hk := HW2.out W3 (hb2.drew.trans (hb3.mono hb2.size)); have j3 := cell_of_one hk.2.2.1; have j4 := free_of_one hk.2.2.1; have j5 := cell_of_one hk.2.2.2; have j6 := free_of_one hk.2.2.2; have HK := Lib.hid hk; clear hk))
      all_goals
        obtain ⟨⟨n1, n2, n3⟩, n4, n5⟩ := close_two (w := w) HK.out.2.2.1 HK.out.2.2.2 (by omega) (by omega) (by omega) (hv.mono (Nat.le_trans hB0 (show w.heap.size ≤ W2.heap.size by omega))) (hu.mono (Nat.le_trans hB0 (show w.heap.size ≤ W2.heap.size by omega))) (bA2.trans (hb3.mono (show w.heap.size ≤ W2.heap.size by omega)))
        go_wp2
        refine bodyPost_ret (v := .tuple #[.agg #[.slice Av nv cv], .agg #[.slice Au nu cu]]) (by simp [results, Tryd.results29, go_sem, n4, n5]) rfl ?_
        rw [HYD.out]
        exact ⟨_, _, rfl, n1, n2, n3⟩
    · have hl : ((ys.length : Int) == 1) = false := by rw [beq_eq_false_iff_ne]; omega
      have hl2 : 2 ≤ ys.length := by
        rcases Nat.lt_or_ge ys.length 1 with h | h
        · exact absurd (List.eq_nil_of_length_eq_zero (by omega)) HNE.out
        · omega
      have HS : Hid LongSpec := HL.out.resolve_left h1
      have hw2 : ∀ W2, Below W.heap.size W W2 → W2.heap[w.heap.size]? = some (Obj.cells #[Value.slice A1 xs.length c1] 42) ∧ W2.heap[w.heap.size + 1]? = some (Obj.cells #[Value.slice A2 ys.length c2] 42) ∧ W2.heap[w.heap.size + 1 + 1]? = some (Obj.cells #[Value.slice none 0 0] 42) ∧ W2.heap[w.heap.size + 1 + 1 + 1]? = some (Obj.cells #[Value.slice none 0 0] 42) := fun W2 hb => ⟨(hb.block _ (by omega)).trans bB1.out, (hb.block _ (by omega)).trans bB2.out, (hb.block _ (by omega)).trans bB3.out, (hb.block _ (by omega)).trans bB4.out⟩
      have HW2 := Lib.hid hw2
      clear hw2 h1
      go_enter Tryd.func29, Tryd.ntmps29
      go_wp2_with fail
      rw [← HW.out]
      refine HC.out.mono ?_
      rintro e W2 ⟨rfl, hd2⟩
      have hb2 := hd2.below
      obtain ⟨k1, k2, k3, k4⟩ := HW2.out W2 hb2
      have c1' := cell_of_one k1
      have c2' := cell_of_one k2
      have bA2 : Below w.heap.size w W2 := hbW.trans (hb2.mono (by omega))
      have hs2 : w.heap.size + 4 ≤ W2.heap.size := Nat.le_trans hs4 hb2.size
      clear k1 k2 k3 k4
      go_wp2_with fail
      refine (HS.out W2 A1 A2 c1 c2 xs ys (hr1.below bA2) (hr2.below bA2) hx hy hl2 HGE.out hl1).mono ?_
      rintro e W3 ⟨v, u, rfl, hv, hu, hb3⟩
      obtain ⟨Av, nv, cv, rfl⟩ := hv.shape
      obtain ⟨Au, nu, cu, rfl⟩ := hu.shape
      have hk := HW2.out W3 (hb2.trans (hb3.mono hb2.size))
      have j3 := cell_of_one hk.2.2.1
      have j4 := free_of_one hk.2.2.1
      have j5 := cell_of_one hk.2.2.2
      have j6 := free_of_one hk.2.2.2
      obtain ⟨⟨n1, n2, n3⟩, n4, n5⟩ := close_two (w := w) hk.2.2.1 hk.2.2.2 (by omega) (by omega) (by omega) (hv.mono (Nat.le_trans hB0 (show w.heap.size ≤ W2.heap.size by omega))) (hu.mono (Nat.le_trans hB0 (show w.heap.size ≤ W2.heap.size by omega))) (bA2.trans (hb3.mono (show w.heap.size ≤ W2.heap.size by omega)))
      clear hk
      have N4 := Lib.hid n4
      have N5 := Lib.hid n5
      clear n4 n5
      go_wp2
      refine bodyPost_ret (v := .tuple #[.agg #[.slice Av nv cv], .agg #[.slice Au nu cu]]) (by simp [results, Tryd.results29, go_sem, N4.out, N5.out]) rfl ?_
      exact ⟨_, _, rfl, n1, n2, n3⟩
end Go.Proofs.YtffcacpffamjfaaDoor

/- Contract of whetstoneref01.parted: the quotient and the rest of what two rows of decimal digits stand for, one digit after the other; at most 50000 digits each. -/
import Derived.Test.YtbjcddfoajgebaaDoorRefLess
import Derived.Test.YtbjcddfoajgebaaDoorDivS
namespace Go.Proofs.YtbjcddfoajgebaaDoor
open Go.RowKit

theorem own_lit8 (w : World) {B : Nat} (d : Nat) (hB : B ≤ w.heap.size) : Own (w.alloc (.cells #[Value.int .u8 (d : Int)] 5)) B 5 (.slice (some ⟨w.heap.size, 0, none⟩) 1 1) (u8s [d]) :=
  Own.mk_ (World.ownsRow_lit w #[Value.int .u8 (d : Int)] 1 hB (by decide) rfl)
/-- The row at A lies in another block than g. -/
def Apart (A : Option Addr) (g : Nat) : Prop := ∀ g', A = some ⟨g', 0, none⟩ → g' ≠ g
theorem Own.set_apart {w : World} {B T n c g k : Nat} {A : Option Addr} {xs : List Value} (h : Own w B T (.slice A n c) xs) (ha : Apart A g) (u : Value) : Own (w.setCell ⟨g, k, none⟩ u) B T (.slice A n c) xs := by
  have hh : w.ownsRow B T 1 (.slice A n c) xs.length xs := h
  refine ⟨hh.1, ?_⟩
  rcases hh.2 with h0 | ⟨g', cap, cur, e, hB, hg, r⟩
  · exact .inl h0
  · refine .inr ⟨g', cap, cur, e, hB, ?_, r⟩
    have e1 : A = some ⟨g', 0, none⟩ := by injection e
    exact (Below.heap_setCell _ _ _ _ (ha g' e1)).trans hg
theorem apart_new {w : World} {B T n c g : Nat} {A : Option Addr} {xs : List Value} (h : Own w B T (.slice A n c) xs) (hg : g < B) : Apart A g := by
  intro g' e
  obtain ⟨g2, e2, h2, _⟩ := h.lt.2 _ e
  injection e2 with e2
  omega

theorem part_bound {x r Y : Nat} (hx : x < 10) (hr : r < Y) : x + 10 * r < 10 * Y := by omega
theorem part_step {xs qs : List Nat} {p x r r' t Y : Nat} (hp : p < xs.length) (hq : qs.length = xs.length) (hx : xs.getD p 0 = x) (ht : r' + t * Y = x + 10 * r) (h : dval (qs.drop (p + 1)) * Y + r = dval (xs.drop (p + 1))) :
    dval ((qs.set p t).drop p) * Y + r' = dval (xs.drop p) := by
  have e1 : (qs.set p t).drop p = t :: qs.drop (p + 1) := by
    have hl : p < (qs.set p t).length := by rw [List.length_set]; omega
    rw [List.drop_eq_getElem_cons hl]
    congr 1
    · simp
    · rw [List.drop_set_of_lt (by omega)]
  rw [e1, dval_getD xs p hp, hx, ← h, dval, Nat.add_mul, Nat.mul_add, Nat.mul_assoc]
  omega

def RetPart (w : World) (q r : Nat) (e : Ending) (w' : World) : Prop := ∃ A c ds B d es, e = .returned (.tuple #[.slice A ds.length c, .slice B es.length d]) ∧ Row w' A (u8s ds) ∧ dright ds ∧ dval ds = q ∧ Row w' B (u8s es) ∧ dright es ∧ dval es = r ∧ Below w.heap.size w w'

set_option maxRecDepth 100000 in
set_option maxHeartbeats 4000000 in
theorem refParted {w : World} {A1 A2 : Option Addr} {c1 c2 : Nat} {xs ys : List Nat} (hr1 : Row w A1 (u8s xs)) (hr2 : Row w A2 (u8s ys)) (hx : small 10 xs) (hy : dright ys) (hl1 : xs.length ≤ 50000) (hl2 : ys.length ≤ 50000) (h0 : 0 < dval ys) :
    Calls Tryd.prog 57 #[.slice A1 xs.length c1, .slice A2 ys.length c2] w (RetPart w (dval xs / dval ys) (dval xs % dval ys)) := by
  obtain ⟨i0, hi, hz0, hz1, hz2⟩ := info_parts info_u8
  obtain ⟨n, hn⟩ : ∃ n : Nat, n = xs.length := ⟨_, rfl⟩
  obtain ⟨m, hm⟩ : ∃ m : Nat, m = ys.length := ⟨_, rfl⟩
  obtain ⟨Y, hY⟩ : ∃ Y, Y = dval ys := ⟨_, rfl⟩
  have hn1 : n ≤ 50000 := by omega
  have hm1 : m ≤ 50000 := by omega
  have hYm := dval_lt hy.1
  rw [← hY, ← hm] at hYm
  rw [← hn, ← hm, ← hY]
  have hY0 : 0 < Y := by omega
  have HN := Lib.hid hn
  have HM := Lib.hid hm
  have HY := Lib.hid hY
  have HYM := Lib.hid hYm
  clear hn hm hY hYm hl1 hl2 h0
  go_enter Tryd.func57, Tryd.ntmps57
  go_wp2_with (at_make; refine wpList_make_full _ rfl _ _ 75 rfl w.heap.size 5 i0 (.int .u8 0) 1 Tryd.underlying75 hi hz0 hz1 .i64 .i64 (n : Int) (n : Int) n rfl rfl rfl rfl ?b2 ?b3 ?b4 ?_)
  case b2 => first | omega | (rw [hz2]; omega)
  case b3 => unfold maxLen; omega
  case b4 => exact Nat.le_refl _
  intro w1 hown hgrow
  have ho1 := own_zeros8 hown
  have hb1 : Below w.heap.size w w1 := (Below.refl _ _).grown hgrow (Nat.le_refl _) (fun k h => by cases h)
  obtain ⟨gq, hgq⟩ : ∃ g, g = w.heap.size := ⟨_, rfl⟩
  rw [← hgq] at ho1 ⊢
  have hgw : gq < w1.heap.size := by
    have := ho1.lt.2 _ rfl
    obtain ⟨g, e, _, h⟩ := this
    injection e with e
    omega
  have hgq' : gq ≤ gq := Nat.le_refl _
  have HGQ := Lib.hid hgq
  clear hown hgrow hgq hgq'
  go_wp2_with fail
  go_loopw [7, 8] (fun rv iv wr => ∃ (k : Nat) (Ar : Option Addr) (cr : Nat) (rs qs : List Nat), k ≤ n ∧ iv = .int .i64 ((k : Int) - 1) ∧ rv = .slice Ar rs.length cr ∧ Own wr gq 5 (.slice Ar rs.length cr) (u8s rs) ∧ Hid (Apart Ar gq) ∧ Own wr gq 5 (.slice (some ⟨gq, 0, none⟩) n n) (u8s qs) ∧
      Hid (qs.length = n ∧ small 10 qs ∧ dright rs ∧ dval rs < Y ∧ dval (qs.drop k) * Y + dval rs = dval (xs.drop k) ∧ ∀ j, j < k → qs.getD j 0 = 0) ∧ Below gq w wr ∧ gq < wr.heap.size)
    (fun _ iv _ => (intOf iv + 1).toNat)
  case atStart =>
    refine ⟨n, none, 0, [], List.replicate n 0, Nat.le_refl _, rfl, rfl, Own.nil _ _ _, (fun g' e => by cases e), ho1, ⟨by simp, small_replicate _ _ (by decide), ⟨small_nil _, .inl rfl⟩, by simpa [dval] using hY0, ?_, fun j hj => by simp [List.getD, hj]⟩, HGQ.out ▸ hb1, hgw⟩
    rw [List.drop_of_length_le (by simp), List.drop_of_length_le (by rw [HN.out]; exact Nat.le_refl _)]; simp [dval]
  case round =>
    obtain ⟨k, Ar, cr, rs, qs, hk, rfl, rfl, hor, HA, hoq, HO, hb, hsz⟩ := hrel
    rcases Nat.eq_zero_or_pos k with rfl | hpos
    · have h := HO.out.2.2.2.2.1
      rw [List.drop_zero, List.drop_zero] at h
      have hrl := HO.out.2.2.2.1
      have e1 : dval qs = dval xs / Y := by rw [← h, Nat.mul_comm, Nat.mul_add_div hY0, Nat.div_eq_of_lt hrl, Nat.add_zero]
      have e2 : dval rs = dval xs % Y := by rw [← h, Nat.mul_comm, Nat.mul_add_mod, Nat.mod_eq_of_lt hrl]
      have htr := trim_any (w := wr) (A := some ⟨gq, 0, none⟩) (c := n) (ds := qs) hoq.row8 (by rw [HO.out.1]; omega) (by rw [HO.out.1]; exact Nat.le_refl _)
      rw [HO.out.1] at htr
      have HTR := Lib.hid htr
      have E1 := Lib.hid e1
      have E2 := Lib.hid e2
      clear h hrl e1 e2 htr
      go_wp2_with fail
      refine HTR.out.mono ?_
      rintro e w3 ⟨⟨rfl, hrq⟩, hw3⟩
      subst hw3
      go_wp2
      go_ret2
      exact ⟨_, _, strip qs, _, _, rs, rfl, hrq, strip_dright HO.out.2.1, by rw [dval_strip]; exact E1.out, hor.row8, HO.out.2.2.1, E2.out, HGQ.out ▸ hb⟩
    · obtain ⟨p, rfl⟩ : ∃ p, k = p + 1 := ⟨k - 1, by omega⟩
      rw [show ((p + 1 : Nat) : Int) - 1 = (p : Int) from by omega]
      have hbW : Below w.heap.size w wr := HGQ.out ▸ hb
      obtain ⟨ad, x, rfl, hcx, hxe, hxm⟩ := (hr1.below hbW).byte (k := p) (by rw [← HN.out]; omega)
      have hx10 := hx x hxm
      have hpn : p < n := by omega
      clear hxm hpos
      have hrl : rs.length ≤ m := dlength_le HO.out.2.2.1 (Nat.lt_trans HO.out.2.2.2.1 HYM.out)
      go_wp2_with (at_builtin; refine wpList_append_row rfl _ _ 75 rfl wr.heap.size 5 i0 (.int .u8 0) 1 Tryd.underlying75 hi hz0 hz1 hz2 rfl _ _ _ rfl (own_lit8 wr x (Nat.le_refl _)) Ar rs.length cr (u8s rs) rfl (by rw [u8s_length]) (hor.row8.alloc _) (u8s_one rs) (by rw [u8s_length]; unfold maxLen; simp; omega) (by rw [u8s_length]; simp; omega) (by simp) ?_)
      intro v2 w2 hown2 hgrow2
      have ho2 : Own w2 wr.heap.size 5 v2 (u8s (x :: rs)) := by
        have := Own.mk_ hown2
        simpa [u8s] using this
      have hb2 : Below wr.heap.size wr w2 := ((Below.refl _ _).alloc (Nat.le_refl _) _).grown hgrow2 (by simp) (fun k hk => ((show (wr.alloc (.cells #[Value.int .u8 (x : Int)] 5)).ownsRow wr.heap.size 5 1 _ _ _ from own_lit8 wr x (Nat.le_refl _)).lt k hk).1)
      obtain ⟨A4, c4, rfl, hr4, hc4, _⟩ := ho2.slice8
      have hxl : (x :: rs).length ≤ 100000 := by rw [List.length_cons]; omega
      have htr := trim_any (w := w2) (A := A4) (c := c4) (ds := x :: rs) hr4 (by omega) hc4
      have HTR := Lib.hid htr
      have hoq2 := hoq.below hb2
      have hb3 : Below gq w w2 := hb.trans (hb2.mono (by omega))
      have hs2 : gq < w2.heap.size := Nat.lt_of_lt_of_le hsz hb2.size
      have hsm : small 10 (x :: rs) := fun d hd => by
        rcases List.mem_cons.1 hd with h | h
        · rw [h]; exact hx10
        · exact HO.out.2.2.1.1 d h
      have hcut := ho2.cut (strip (x :: rs)).length (by rw [u8s_length]; exact strip_length _)
      rw [u8s_take, ← strip_take] at hcut
      have hap : Apart A4 gq := apart_new hcut hsz
      have hcut' := hcut.mono (Nat.le_of_lt hsz)
      obtain ⟨rs1, hrs1⟩ : ∃ rs1, rs1 = strip (x :: rs) := ⟨_, rfl⟩
      have hd1 : dright rs1 := by rw [hrs1]; exact strip_dright hsm
      have hv1 : dval rs1 = x + 10 * dval rs := by rw [hrs1, dval_strip]; rfl
      rw [← hrs1] at hcut' HTR
      obtain ⟨V, hV⟩ : ∃ V, V = x + 10 * dval rs := ⟨_, rfl⟩
      rw [← hV] at hv1
      have hV10 : V < 10 * Y := by rw [hV]; exact part_bound hx10 HO.out.2.2.2.1
      have hqp : qs.getD p 0 = 0 := HO.out.2.2.2.2.2 p (Nat.lt_succ_self p)
      have hset0 : qs.set p 0 = qs := by
        have hl : p < qs.length := by rw [HO.out.1]; exact hpn
        rw [List.getD_eq_getElem?_getD, List.getElem?_eq_getElem hl] at hqp
        apply List.ext_getElem (by simp)
        intro i h1 h2
        rw [List.getElem_set]
        split
        · rename_i h; subst h; exact hqp.symm
        · rfl
      have hoq3 : Own w2 gq 5 (.slice (some ⟨gq, 0, none⟩) n n) (u8s (qs.set p 0)) := by rw [hset0]; exact hoq2
      have HAP := Lib.hid hap
      have HV := Lib.hid hV
      have HV1 := Lib.hid hv1
      have HXE := Lib.hid hxe.out
      clear hown2 hgrow2 ho2 hb2 hr4 hc4 htr hoq hoq2 hb hsz hsm hcut hap hrs1 hV hv1 hqp hset0 hor hbW
      go_wp2_with fail
      refine HTR.out.mono ?_
      rintro e w3 ⟨⟨rfl, _⟩, hw3⟩
      subst hw3
      go_wp2_with fail
      go_loopw [7] (fun rv wr => ∃ (t : Nat) (Ar : Option Addr) (cr : Nat) (rt : List Nat), t ≤ 9 ∧ rv = .slice Ar rt.length cr ∧ Own wr gq 5 (.slice Ar rt.length cr) (u8s rt) ∧ Hid (Apart Ar gq) ∧ Hid (dright rt ∧ dval rt + t * Y = V) ∧ Own wr gq 5 (.slice (some ⟨gq, 0, none⟩) n n) (u8s (qs.set p t)) ∧ Below gq w wr ∧ gq < wr.heap.size)
        (fun _ wr => 10 - (intOf ((wr.cell? ⟨gq, p, none⟩).getD (.int .u8 0))).toNat)
      case atStart => exact ⟨0, A4, c4, rs1, by omega, rfl, hcut', HAP.out, ⟨hd1, by rw [HV1.out]; omega⟩, hoq3, hb3, hs2⟩
      case round =>
        obtain ⟨t, Ar, cr, rt, ht9, rfl, hort, HA2, HT, hoqt, hbt, hst⟩ := hrel
        have hbW2 : Below w.heap.size w wr := HGQ.out ▸ hbt
        have hrl2 : rt.length ≤ m + 1 := dlength_le HT.out.1 (by
          have h1 := HT.out.2
          have h2 := HYM.out
          rw [Nat.pow_succ]; omega)
        obtain ⟨o, ho⟩ : ∃ o, o = ordI (dval rt : Int) (Y : Int) := ⟨_, rfl⟩
        have hord := refOrder (w := wr) (c1 := cr) (c2 := c2) hort.row8 (hr2.below hbW2) HT.out.1 hy (by omega)
        rw [← HY.out, ← HM.out, ← ho] at hord
        have HORD := Lib.hid hord
        have hqp := own_cell hoqt (k := p) (by rw [u8s_length, List.length_set, HO.out.1]; exact hpn)
        have hqpv : (u8s (qs.set p t))[p]'(by rw [u8s_length, List.length_set, HO.out.1]; exact hpn) = .int .u8 (t : Int) := by
          simp only [u8s, List.getElem_map, List.getElem_set_self]
        rw [hqpv] at hqp
        have hcell1 := hqp.1
        have HC1 := Lib.hid hcell1
        clear hord hqpv hqp hcell1 hbW2
        by_cases hge : Y ≤ dval rt
        · have hon : decide (0 ≤ o) = true := by
            rw [decide_eq_true_eq, ho]; unfold ordI; rw [if_neg (by omega)]; split <;> omega
          have ht8 : t ≤ 8 := by
            have h1 := HT.out.2
            rcases Nat.lt_or_ge t 9 with h | h
            · omega
            · exfalso
              have : 9 * Y ≤ t * Y := Nat.mul_le_mul_right _ h
              omega
          have hyl : ys.length ≤ rt.length := by
            rcases Nat.lt_or_ge rt.length ys.length with h | h
            · have h1 := dval_lt_length HT.out.1 hy h
              rw [← HY.out] at h1; omega
            · exact h
          have HGE := Lib.hid hge
          have HYL := Lib.hid hyl
          clear ho hge hyl
          go_wp2_with fail
          refine HORD.out.mono ?_
          rintro e w4 ⟨rfl, hd4⟩
          have hb4 : Below wr.heap.size wr w4 := hd4.below
          have hort4 := hort.below hb4
          have hoqt4 := hoqt.below hb4
          have hbt4 : Below gq w w4 := hbt.trans (hb4.mono (by omega))
          have hst4 : gq < w4.heap.size := Nat.lt_of_lt_of_le hst hb4.size
          have hls := refLess (w := w4) (c1 := cr) (c2 := c2) hort4.row8 (hr2.below (HGQ.out ▸ hbt4)) HT.out.1.1 hy.1 (by omega) HYL.out (by rw [← HY.out]; exact HGE.out)
          rw [← HM.out, ← HY.out] at hls
          have HLS := Lib.hid hls
          clear hls hd4 hb4 hort hoqt hbt hst hort4
          go_wp2_with fail
          refine HLS.out.mono ?_
          rintro e w5 ⟨A5, c5, ds5, rfl, ho5, hd5, hv5, hb5⟩
          have hap5 : Apart A5 gq := apart_new ho5 hst4
          have ho5' := ho5.mono (Nat.le_of_lt hst4)
          have hoqt5 := hoqt4.below hb5
          have hbt5 : Below gq w w5 := hbt4.trans (hb5.mono (by omega))
          have hst5 : gq < w5.heap.size := Nat.lt_of_lt_of_le hst4 hb5.size
          have hq5 := own_cell hoqt5 (k := p) (by rw [u8s_length, List.length_set, HO.out.1]; exact hpn)
          have hq5v : (u8s (qs.set p t))[p]'(by rw [u8s_length, List.length_set, HO.out.1]; exact hpn) = .int .u8 (t : Int) := by
            simp only [u8s, List.getElem_map, List.getElem_set_self]
          rw [hq5v] at hq5
          obtain ⟨hq5a, hq5b⟩ := hq5
          have hset5 := own_set8 hoqt5 p (t + 1)
          rw [List.set_set] at hset5
          have HSET := Lib.hid hset5
          have hr5 := fun u => ho5'.set_apart (k := p) hap5 u
          have HR5 := Lib.hid hr5
          have HAP5 := Lib.hid hap5
          have HV5 := Lib.hid hv5
          clear hq5v hset5 hr5 hap5 hv5 ho5 ho5' hoqt4 hoqt5 hb5 HLS
          go_wp2
          go_roundw
          case rel => exact ⟨t + 1, A5, c5, ds5, by omega, rfl, HR5.out _, HAP5.out, ⟨hd5, by
            have h1 := HT.out.2
            have h2 := HGE.out
            rw [HV5.out, Nat.add_mul, Nat.one_mul]; omega⟩, HSET.out, hbt5.setCell (Nat.le_refl _) _, by rw [World.size_setCell]; exact hst5⟩
          case measure =>
            have h1 := (own_cell HSET.out (k := p) (by rw [u8s_length, List.length_set, HO.out.1]; exact hpn)).1
            have h2 : (u8s (qs.set p (t + 1)))[p]'(by rw [u8s_length, List.length_set, HO.out.1]; exact hpn) = .int .u8 ((t + 1 : Nat) : Int) := by
              simp only [u8s, List.getElem_map, List.getElem_set_self]
            rw [h2] at h1
            have h3 := HC1.out
            have h4 : ((t + 1 : Nat) : Int) = (t : Int) + 1 := by omega
            rw [h4] at h1
            rw [h3, h1]
            simp [intOf]; omega
        · have hon : decide (0 ≤ o) = false := by
            rw [decide_eq_false_iff_not, ho]; unfold ordI; rw [if_pos (by omega)]; omega
          have hps := part_step (xs := xs) (qs := qs) (p := p) (r := dval rs) (r' := dval rt) (t := t) (Y := Y) (by rw [← HN.out]; exact hpn) (by rw [HO.out.1, HN.out]) HXE.out (by rw [HT.out.2, HV.out]) HO.out.2.2.2.2.1
          have HPS := Lib.hid hps
          have HGE := Lib.hid (Nat.lt_of_not_le hge)
          clear ho hge hps
          go_wp2_with fail
          refine HORD.out.mono ?_
          rintro e w4 ⟨rfl, hd4⟩
          have hb4 : Below wr.heap.size wr w4 := hd4.below
          have hort4 := hort.below hb4
          have hoqt4 := hoqt.below hb4
          have hbt4 : Below gq w w4 := hbt.trans (hb4.mono (by omega))
          have hst4 : gq < w4.heap.size := Nat.lt_of_lt_of_le hst hb4.size
          clear hd4 hb4 hort hoqt hbt hst
          go_wp2
          go_roundw
          case rel => exact ⟨p, Ar, cr, rt, qs.set p t, by omega, by go_num, rfl, hort4, HA2.out, hoqt4, ⟨by rw [List.length_set]; exact HO.out.1, small_set HO.out.2.1 p (by omega), HT.out.1, HGE.out, HPS.out, fun j hj => by
            rw [getD_set_ne t (by omega)]; exact HO.out.2.2.2.2.2 j (by omega)⟩, hbt4, hst4⟩
          case measure => first | (simp [intOf]; done) | (simp [intOf]; omega)
end Go.Proofs.YtbjcddfoajgebaaDoor

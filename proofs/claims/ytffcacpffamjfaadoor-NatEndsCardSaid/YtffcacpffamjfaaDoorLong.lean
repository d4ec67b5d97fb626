/- Contract of slices.Clone at nat.digits: a copy in new memory of a row that is not nil; at most 1000000 digits. Contract of nat.number.divideLong: quotient and rest by a number of two digits or more that is at most as great. At most 100000 digits. -/
import Derived.Test.YtffcacpffamjfaaDoorNat1
import Derived.Lib.SliceRun
import Derived.Test.YtffcacpffamjfaaDoorGuess
import Derived.Test.YtffcacpffamjfaaDoorPlain
import Derived.Test.YtffcacpffamjfaaDoorDivide
namespace Go.Proofs.YtffcacpffamjfaaDoor
open Go.RowKit

theorem u32s_one (ds : List Nat) : ∀ u ∈ u32s ds, u.oneCell' = true := by
  intro u hu
  obtain ⟨d, _, rfl⟩ := List.mem_map.1 hu
  rfl
theorem own_empty32 (w : World) : Own (w.alloc (.cells #[] 23)) w.heap.size 23 (.slice (some ⟨w.heap.size, 0, none⟩) 0 0) (u32s []) :=
  Own.mk_ (World.ownsRow_lit w #[] 0 (Nat.le_refl _) (by decide) rfl)

set_option maxRecDepth 100000 in
set_option maxHeartbeats 2000000 in
theorem clone_any {w : World} {ad : Addr} {c : Nat} {xs : List Nat} (hr : Row w (some ad) (u32s xs)) (hlen : xs.length ≤ 1000000) :
    Calls Tryd.prog 57 #[.slice (some ad) xs.length c] w fun e w' => ∃ v, e = .returned v ∧ Own w' w.heap.size 23 v (u32s xs) ∧ Below w.heap.size w w' := by
  obtain ⟨i0, hi, hz0, hz1, hz2⟩ := info_parts info_u32
  have ho := own_empty32 w
  have heq : (binOp .eql 40 (.slice (some ad) xs.length c) (.slice none 0 0)).run Tryd.prog w = .ok (.bool false) w := Lib.run_eql_slice_nil w 40 23 (some ad) xs.length c 0 0 Tryd.underlying40
  have hr' := hr.alloc (.cells #[] 23)
  go_enter Tryd.func57, Tryd.ntmps57
  go_wp2_with (at_builtin; refine wpList_append_own _ rfl _ _ 40 rfl w.heap.size 23 i0 (.int .u32 0) 1 4 Tryd.underlying40 hi hz0 hz1 hz2 rfl (by decide) _ _ _ rfl ho ad xs.length c (u32s xs) rfl (by rw [u32s_length]; omega) (fun j u hj => by obtain ⟨ad', e', hc'⟩ := hr' j u hj; injection e' with e'; subst e'; exact hc') (u32s_one xs) (by rw [u32s_length]; unfold maxLen; simp; omega) (by rw [u32s_length]; simp; omega) (by simp) ?_)
  intro v' w2 hown' hgrow' _
  have ho2 : Own w2 w.heap.size 23 v' (u32s xs) := by
    have := Own.mk_ hown'
    simpa [u32s] using this
  have hb2 : Below w.heap.size w w2 := ((Below.refl _ _).alloc (Nat.le_refl _) _).grown hgrow' (by simp) (fun k hk => ((show (w.alloc (.cells #[] 23)).ownsRow w.heap.size 23 1 _ _ _ from ho).lt k hk).1)
  clear hown' hgrow'
  go_wp2
  go_ret
  exact ⟨_, rfl, ho2, hb2⟩
end Go.Proofs.YtffcacpffamjfaaDoor

namespace Go.Proofs.YtffcacpffamjfaaDoor
open Go.RowKit

/-- A row of the call's own of which no block was written stays. -/
theorem Own.only {w w' : World} {B T g n c : Nat} {xs : List Value} (h : Own w B T (.slice (some ⟨g, 0, none⟩) n c) xs) (hk : w'.heap[g]? = w.heap[g]?) : Own w' B T (.slice (some ⟨g, 0, none⟩) n c) xs := by
  have hh : w.ownsRow B T 1 (.slice (some ⟨g, 0, none⟩) n c) xs.length xs := h
  refine ⟨hh.1, ?_⟩
  rcases hh.2 with ⟨e, _⟩ | ⟨g', cap, cur, e, hB, hg, r⟩
  · cases e
  · refine .inr ⟨g', cap, cur, e, hB, ?_, r⟩
    have : g' = g := by
      injection e with e1
      injection e1 with e1
      injection e1 with e1
      exact e1.symm
    subst this
    rw [hk]; exact hg

set_option maxRecDepth 100000 in
set_option maxHeartbeats 800000 in
theorem long_any : LongSpec := by
  intro w A1 A2 c1 c2 xs ys hr1 hr2 hx hy h2 hle hlen
  obtain ⟨i0, hi, hz0, hz1, hz2⟩ := info_parts info_u32
  have hyl := val_lt hy.1
  have hypos := right_pos hy (fun e => by rw [e] at h2; simp at h2)
  have hy0 : 0 < val ys := Nat.lt_of_lt_of_le (Nat.pow_pos (by decide)) hypos
  have hxy : ys.length ≤ xs.length := by
    rcases Nat.lt_or_ge xs.length ys.length with h | h
    · have := right_lt_of_length hx hy h; omega
    · exact h
  obtain ⟨m, hm⟩ : ∃ m, m = ys.length := ⟨_, rfl⟩
  obtain ⟨n, hn⟩ : ∃ n, n = xs.length := ⟨_, rfl⟩
  have hA1 : ∃ ad, A1 = some ad := by
    obtain ⟨ad, h, _⟩ := hr1.at_ (k := 0) (by rw [u32s_length]; omega)
    exact ⟨ad, h⟩
  obtain ⟨ad1, rfl⟩ := hA1
  have hm2 : 2 ≤ m := by omega
  have hmn : m ≤ n := by omega
  have hn1 : n ≤ 100000 := by omega
  rw [← hm, ← hn]
  obtain ⟨W, hW⟩ : ∃ W, W = (((w.alloc (Obj.cells #[Value.slice (some ad1) n c1] 42)).alloc (Obj.cells #[Value.slice A2 m c2] 42)).alloc (Obj.cells #[Value.slice none 0 0] 42)).alloc (Obj.cells #[Value.slice none 0 0] 42) := ⟨_, rfl⟩
  obtain ⟨hbW, hsW, b1, b2, b3, b4⟩ := four_new hW
  have hcl := clone_any (w := W) (c := c1) (hr1.below hbW) (by omega)
  rw [← hn] at hcl
  have HCL := Lib.hid hcl
  have B1 := Lib.hid b1
  have B2 := Lib.hid b2
  have B3 := Lib.hid b3
  have B4 := Lib.hid b4
  have c1' := cell_of_one b1
  have HW := Lib.hid hW
  have HM := Lib.hid hm
  have HN := Lib.hid hn
  have HSW := Lib.hid hsW
  clear hcl b1 b2 b3 b4 hW hm hn hsW hxy h2 hlen
  go_enter Tryd.func48, Tryd.ntmps48
  go_wp2_with fail
  rw [← HW.out]
  go_wp2_with fail
  refine HCL.out.mono ?_
  rintro e w1 ⟨v1, rfl, ho1, hb1⟩
  obtain ⟨Ac, cc, rfl, hrc, hx1⟩ := ho1.slice32
  rw [← HN.out] at ho1 ⊢
  go_wp2_with (at_builtin; refine wpList_append_own _ rfl _ _ 40 rfl W.heap.size 23 i0 (.int .u32 0) 1 4 Tryd.underlying40 hi hz0 hz1 hz2 rfl (by decide) _ _ _ rfl (ho1.alloc _) ⟨w1.heap.size, 0, none⟩ 1 1 [.int .u32 ((0 : Nat) : Int)] rfl rfl ?c1 ?c2 ?c3 ?c4 ?c5 ?_)
  case c1 => exact one_news rfl
  case c2 => exact one_cell
  case c3 => rw [u32s_length, ← HN.out]; unfold maxLen; omega
  case c4 => rw [u32s_length, ← HN.out]; omega
  case c5 => have := hb1.size; simp; omega
  intro v' w2 hown' hgrow' _
  have ho2 := own_app32 hown'
  have hb2 := below_app' hb1 ho1 (Nat.le_refl _) hgrow'
  clear hown' hgrow' ho1 hb1 hrc hx1
  obtain ⟨Al, cl, rfl, hrl, hcl, hx2⟩ := ho2.slice32
  have hl0 : (xs ++ [0]).length = n + 1 := by rw [List.length_append, ← HN.out]; rfl
  obtain ⟨al, rfl, hx3⟩ := hrl.at_ (k := 0) (by rw [u32s_length, hl0]; omega)
  obtain ⟨g1, rfl, hg1, hg1s⟩ := ho2.lt.2 al rfl
  rw [hl0] at ho2 hcl ⊢
  obtain ⟨K, hK⟩ : ∃ K : Nat, K = n + 1 - m := ⟨_, rfl⟩
  have hKi : (n : Int) + 1 - (m : Int) = (K : Int) := by omega
  have hK1 : K + m = n + 1 := by omega
  have HL0 := Lib.hid hl0
  have hcell2 := cell_of_one ((hb2.block (w.heap.size + 1) (by have := HSW.out; omega)).trans B2.out)
  have hs2 := hb2.size
  clear hK hx3 hx2 hl0 hrl
  go_wp2_with (at_make; refine wpList_make_full _ rfl _ _ 40 rfl W.heap.size 23 i0 (.int .u32 0) 1 Tryd.underlying40 hi hz0 hz1 .i64 .i64 (K : Int) (K : Int) K rfl rfl rfl rfl ?b2 ?b3 ?b4 ?_)
  case b2 => first | omega | (rw [hz2]; omega)
  case b3 => unfold maxLen; omega
  intro w3 hown3 hgrow3
  have ho3 := own_zeros hown3
  have hb3' : Below w2.heap.size w2 w3 := (Below.refl _ _).grown hgrow3 (Nat.le_refl _) (fun k h => by cases h)
  have hb3 := hb2.trans (hb3'.mono hs2)
  have ho2' := ho2.below hb3'
  obtain ⟨g2, hg2⟩ : ∃ g2, g2 = w2.heap.size := ⟨_, rfl⟩
  rw [← hg2] at ho3 ⊢
  have hg12 : g1 ≠ g2 := by omega
  have hg2W : W.heap.size ≤ g2 := by omega
  have hstart : val ((List.replicate K 0).drop K) * val ys * 1000000000 ^ K + val (xs ++ [0]) = val xs ∧ val ((xs ++ [0]).drop K) < val ys := by
    have e1 : (xs ++ [0]).drop K = xs.drop K ++ [0] := List.drop_append_of_le_length (by rw [← HN.out]; omega)
    refine ⟨?_, ?_⟩
    · rw [List.drop_of_length_le (by simp), val_snoc]; simp [val]
    · rw [e1, val_snoc, Nat.mul_zero, Nat.add_zero]
      have h1 := val_lt (small_drop hx.1 K)
      rw [List.length_drop, ← HN.out, show n - K = ys.length - 1 from by have := HM.out; omega] at h1
      omega
  have HST := Lib.hid hstart
  clear hown3 hgrow3 hb3' ho2 hg2 hstart hs2 hcell2 hb2
  go_wp2_with fail
  go_loopw [8] (fun iv wr => ∃ (k : Nat) (L qs : List Nat), k ≤ K ∧ iv = .int .i64 ((k : Int) - 1) ∧ Own wr W.heap.size 23 (.slice (some ⟨g1, 0, none⟩) (n + 1) cl) (u32s L) ∧ Own wr W.heap.size 23 (.slice (some ⟨g2, 0, none⟩) K K) (u32s qs) ∧
      Hid (L.length = n + 1 ∧ small 1000000000 L ∧ qs.length = K ∧ small 1000000000 qs ∧ val (qs.drop k) * val ys * 1000000000 ^ k + val L = val xs ∧ val (L.drop k) < val ys) ∧ Below W.heap.size W wr)
    (fun iv _ => (intOf iv + 1).toNat)
  case atStart =>
    exact ⟨K, xs ++ [0], List.replicate K 0, Nat.le_refl _, rfl, ho2', ho3, ⟨HL0.out, small_snoc hx.1 (by decide), by simp, small_replicate _ _ (by decide), HST.out.1, HST.out.2⟩, hb3⟩
  case round =>
    obtain ⟨k, L, qs, hk, rfl, hoL, hoQ, HO, hb⟩ := hrel
    rcases Nat.eq_zero_or_pos k with rfl | hpos
    · have hlq : qs.length ≤ 1000000 := by rw [HO.out.2.2.1]; omega
      have hlL : L.length ≤ 1000000 := by rw [HO.out.1]; omega
      have hst1 := stripped_any hoQ hlq
      have hst2 := stripped_any hoL hlL
      have HS1 := Lib.hid hst1
      have HS2 := Lib.hid hst2
      have hB4 := (hb.block (w.heap.size + 1 + 1) (by have := HSW.out; omega)).trans B3.out
      have hC4 := (hb.block (w.heap.size + 1 + 1 + 1) (by have := HSW.out; omega)).trans B4.out
      clear hst1 hst2
      go_wp2_with fail
      with_reducible refine HS1.out.mono ?_
      rintro e w5 ⟨⟨v, rfl, hv⟩, hw5⟩
      subst hw5
      obtain ⟨A3, c3, rfl, _⟩ := hv.slice32
      go_wp2_with fail
      with_reducible refine HS2.out.mono ?_
      rintro e w6 ⟨⟨v2, rfl, hv2⟩, hw6⟩
      subst hw6
      obtain ⟨A4, c4, rfl, _⟩ := hv2.slice32
      have h := HO.out
      have hq1 := h.2.2.2.2.1
      rw [List.drop_zero, Nat.pow_zero, Nat.mul_one] at hq1
      have hq2 := h.2.2.2.2.2
      rw [List.drop_zero] at hq2
      obtain ⟨⟨n1, n2, n3⟩, n4, n5⟩ := close_two (w := w) (B0 := w.heap.size) (q := val xs / val ys) (r := val xs % val ys) (v := .slice A3 (strip qs).length c3) (u := .slice A4 (strip L).length c4) hB4 hC4 (by omega) (by omega) (by omega)
        ⟨strip qs, strip_right h.2.2.2.1, by rw [strip_val, ← hq1, Nat.mul_comm, Nat.mul_add_div hy0, Nat.div_eq_of_lt hq2, Nat.add_zero], hv.mono hbW.size⟩
        ⟨strip L, strip_right h.2.1, by rw [strip_val, ← hq1, Nat.mul_comm, Nat.mul_add_mod, Nat.mod_eq_of_lt hq2], hv2.mono hbW.size⟩ (hbW.trans (hb.mono hbW.size))
      obtain ⟨t1, t2, t3⟩ := two_cells (u1 := .slice A3 (strip qs).length c3) (u2 := .slice A4 (strip L).length c4) hB4 hC4 (by omega)
      have k1 := cell_of_one hB4
      have k2 := free_of_one hB4
      have k3 := cell_of_one t1
      have k4 := free_of_one t1
      have N4 := Lib.hid n4
      have N5 := Lib.hid n5
      clear hB4 hC4 t1 t2 t3 n4 n5 hq1 hq2 h
      go_wp2
      refine bodyPost_ret (v := .tuple #[.agg #[.slice A3 (strip qs).length c3], .agg #[.slice A4 (strip L).length c4]]) (by simp [results, Tryd.results48, go_sem, N4.out, N5.out]) rfl ?_
      exact ⟨_, _, rfl, n1, n2, n3⟩
    · obtain ⟨p, rfl⟩ : ∃ p, k = p + 1 := ⟨k - 1, by omega⟩
      rw [show ((p + 1 : Nat) : Int) - 1 = (p : Int) from by omega]
      obtain ⟨P, part, T, rfl, hP, hpart⟩ := three_parts (L := L) (p := p) (m := m + 1) (by rw [HO.out.1]; omega)
      have hcell2 := cell_of_one ((hb.block (w.heap.size + 1) (by have := HSW.out; omega)).trans B2.out)
      have hpc : p + m + 1 ≤ cl := by omega
      have HP := Lib.hid hP
      have HPT := Lib.hid hpart
      have hpm : p + m + 1 - p = m + 1 := by omega
      have hsL : small 1000000000 (P ++ part ++ T) := HO.out.2.1
      have hsP : small 1000000000 P := fun d hd => hsL d (by rw [List.append_assoc]; exact List.mem_append_left _ hd)
      have hsp : small 1000000000 part := fun d hd => hsL d (List.mem_append_left _ (List.mem_append_right _ hd))
      have hsT : small 1000000000 T := fun d hd => hsL d (List.mem_append_right _ hd)
      have hlp := long_part hP hpart hsp (m := m) (Y := val ys) (by rw [HM.out]; exact hyl) HO.out.2.2.2.2.2
      have hM : val ys * 1000000000 < 1000000000 ^ m * 1000000000 := by
        have : val ys < 1000000000 ^ m := by rw [HM.out]; exact hyl
        omega
      have hvp := val_lt hsp
      rw [hpart, Nat.pow_succ] at hvp
      have bW : Below w.heap.size w wr := hbW.trans (hb.mono hbW.size)
      have hg := guess_any (w := wr) (A1 := some ⟨g1, p, none⟩) (c1 := cl - p) (c2 := c2) (by rw [← hP]; exact own_mid hoL) (hr2.below bW) hsp hy.1 (by rw [hpart, HM.out]) (by rw [← HM.out]; exact hm2) (by rw [← HM.out]; omega) (fun h => by
        rcases hy.2 with h1 | h1
        · have := HM.out; rw [h1] at this; simp at this; omega
        · apply h1
          rw [List.getLast?_eq_getElem?]
          rw [List.getD_eq_getElem?_getD] at h
          rw [List.getElem?_eq_getElem (by rw [← HM.out]; omega)] at h ⊢
          simpa using h) hlp.1
      rw [hpart, ← HM.out] at hg
      have HG := Lib.hid hg
      have HLP := Lib.hid hlp
      have HMM := Lib.hid hM
      have HVP := Lib.hid hvp
      have hsw := hb.size
      clear hP hpart hpos hg hlp hM hvp hsL
      go_wp2_with fail
      with_reducible refine HG.out.mono ?_
      rintro e w4 ⟨⟨dg, rfl, hdg⟩, hd4⟩
      have hb4 : Below wr.heap.size wr w4 := hd4.below
      have hoL4 := hoL.below hb4
      have hoQ4 := hoQ.below hb4
      have bW4 := hb.trans (hb4.mono hsw)
      have hc4 := cell_of_one ((bW4.block (w.heap.size + 1) (by have := HSW.out; omega)).trans B2.out)
      have hs4 := bW4.size
      have HDG := Lib.hid hdg
      have htk := take_any (w0 := w) (w := w4) (cap := cl - p) (c2 := c2) hoL4 (by rw [HP.out, HPT.out]; omega) hr2 (hbW.trans (bW4.mono hbW.size)) (by have := HSW.out; omega) hg1 hsp hy.1 (by rw [HPT.out, ← HM.out]; omega) hdg.2.2
      rw [HP.out, HPT.out, ← HM.out] at htk
      have HTK := Lib.hid htk
      clear hdg htk hd4 hb4 hoL hoQ hb hcell2 hoL4 bW
      go_wp2_with fail
      with_reducible refine HTK.out.mono ?_
      rintro e w5 ⟨part', bo, ca, rfl, hp', hsp', hbo, ⟨hv1, hv2⟩, ho5, hb5, hfr5⟩
      have hv3 := val_lt hsp'
      rw [hp', Nat.pow_succ] at hv3
      rw [Nat.pow_succ] at hv1 hv2
      have bW5 := bW4.trans hb5
      have hc5 := cell_of_one ((bW5.block (w.heap.size + 1) (by have := HSW.out; omega)).trans B2.out)
      have hoQ5 := hoQ4.only (hfr5.out g2 (fun h => hg12 h.symm))
      have hs5 := bW5.size
      have h01 : bo = 0 ∨ bo = 1 := by omega
      rcases h01 with rfl | rfl
      · have hr := long_right HMM.out HDG.out.2.2 HDG.out.1 hv1 hv2 rfl hy0
        have HR := Lib.hid hr
        have hst := long_step (T := T) (part' := part') (Y := val ys) (X := val xs) HP.out (by rw [HO.out.2.2.1]; omega) HLP.out.2 hr.2 HO.out.2.2.2.2.1
        rw [← hr.1] at hst
        have htp := long_top (T := T) (Y := val ys) HP.out HLP.out.2 (part' := part') (by rw [hr.2]; exact Nat.mod_lt _ hy0)
        have HS := Lib.hid hst
        have HT := Lib.hid htp
        have hdl : dg < 1000000000 := by rw [hr.1, Nat.div_lt_iff_lt_mul hy0, Nat.mul_comm]; exact HLP.out.1
        obtain ⟨vold, hq0⟩ := own_cell hoQ5 (k := p) (by rw [u32s_length, HO.out.2.2.1]; omega)
        have hset := own_set32 hoQ5 p dg
        have HSET := Lib.hid hset
        have ho5' : ∀ u, Own (w5.setCell ⟨g2, p, none⟩ u) W.heap.size 23 (.slice (some ⟨g1, 0, none⟩) (n + 1) cl) (u32s (P ++ part' ++ T)) := fun u => ho5.only (Below.heap_setCell _ _ _ _ hg12)
        have HO5 := Lib.hid ho5'
        have hlen5 : (P ++ part' ++ T).length = n + 1 := by
          have := HO.out.1
          rw [List.length_append, List.length_append, HPT.out] at this
          rw [List.length_append, List.length_append, hp']; exact this
        have hsm5 : small 1000000000 (P ++ part' ++ T) := by
          intro d hd
          rcases List.mem_append.1 hd with h | h
          · rcases List.mem_append.1 h with h | h
            · exact hsP d h
            · exact hsp' d h
          · exact hsT d h
        have HL5 := Lib.hid hlen5
        clear hr hst htp hset ho5' hlen5 hoQ5 ho5 hoQ4 HTK hv1 hv2 hv3 hp' hfr5
        go_wp2
        go_roundw
        case rel => exact ⟨p, P ++ part' ++ T, qs.set p dg, by omega, by go_num, HO5.out _, HSET.out, ⟨HL5.out, hsm5, by rw [List.length_set]; exact HO.out.2.2.1, small_set HO.out.2.2.2.1 p hdl, HS.out, HT.out⟩, bW5.setCell hg2W _⟩
        case measure => first | (simp [intOf]; done) | (simp [intOf]; omega)
      · have hgv := give_any (w0 := w) (w := w5) (cap := cl - p) (c2 := c2) ho5 (by rw [HP.out, hp']; omega) hr2 (hbW.trans (bW5.mono hbW.size)) (by have := HSW.out; omega) hg1 hsp' hy.1 (by rw [hp', ← HM.out]; omega)
        rw [HP.out, hp', ← HM.out] at hgv
        have HGV := Lib.hid hgv
        have hd1 : 1 ≤ dg := dg_pos hv1 hv3 rfl
        have HV1 := Lib.hid hv1
        have HV2 := Lib.hid hv2
        have HV3 := Lib.hid hv3
        have hdg2 := HDG.out.2.2
        clear hgv hv1 hv2 hv3 ho5 hoQ4 HTK hfr5
        go_wp2_with fail
        with_reducible refine HGV.out.mono ?_
        rintro e w6 ⟨⟨vv, rfl⟩, part2, cy, hp2, hsp2, hcy, hv4, ho6, hb6, hfr6⟩
        have hv5 := val_lt hsp2
        rw [hp2, Nat.pow_succ] at hv5
        rw [Nat.pow_succ] at hv4
        have bW6 := bW5.trans hb6
        have hoQ6 := hoQ5.only (hfr6.out g2 (fun h => hg12 h.symm))
        have hr := long_back HMM.out HDG.out.2.2 HDG.out.1 HDG.out.2.1 HV1.out HV2.out HV3.out rfl hy0 hv4 hv5 hcy
        have hst := long_step (T := T) (part' := part2) (Y := val ys) (X := val xs) HP.out (by rw [HO.out.2.2.1]; omega) HLP.out.2 hr.2.2 HO.out.2.2.2.2.1
        rw [← hr.2.1] at hst
        have htp := long_top (T := T) (Y := val ys) HP.out HLP.out.2 (part' := part2) (by rw [hr.2.2]; exact Nat.mod_lt _ hy0)
        have HS := Lib.hid hst
        have HT := Lib.hid htp
        have hdl : dg - 1 < 1000000000 := by omega
        obtain ⟨vold, hq0⟩ := own_cell hoQ6 (k := p) (by rw [u32s_length, HO.out.2.2.1]; omega)
        have hset := own_set32 hoQ6 p (dg - 1)
        have HSET := Lib.hid hset
        have ho6' : ∀ u, Own (w6.setCell ⟨g2, p, none⟩ u) W.heap.size 23 (.slice (some ⟨g1, 0, none⟩) (n + 1) cl) (u32s (P ++ part2 ++ T)) := fun u => ho6.only (Below.heap_setCell _ _ _ _ hg12)
        have HO6 := Lib.hid ho6'
        have hlen6 : (P ++ part2 ++ T).length = n + 1 := by
          have := HO.out.1
          rw [List.length_append, List.length_append, HPT.out] at this
          rw [List.length_append, List.length_append, hp2]; exact this
        have hsm6 : small 1000000000 (P ++ part2 ++ T) := by
          intro d hd
          rcases List.mem_append.1 hd with h | h
          · rcases List.mem_append.1 h with h | h
            · exact hsP d h
            · exact hsp2 d h
          · exact hsT d h
        have HL6 := Lib.hid hlen6
        clear hr hst htp hset ho6' hlen6 hoQ6 hoQ5 ho6 hv4 hv5 hp2 hfr6 hp'
        go_wp2
        go_roundw
        case rel => exact ⟨p, P ++ part2 ++ T, qs.set p (dg - 1), by omega, by go_num, HO6.out _, by
          have := HSET.out
          rw [show ((dg - 1 : Nat) : Int) = (dg : Int) - 1 from by omega] at this
          exact this, ⟨HL6.out, hsm6, by rw [List.length_set]; exact HO.out.2.2.1, small_set HO.out.2.2.2.1 p hdl, HS.out, HT.out⟩, bW6.setCell hg2W _⟩
        case measure => first | (simp [intOf]; done) | (simp [intOf]; omega)
end Go.Proofs.YtffcacpffamjfaaDoor

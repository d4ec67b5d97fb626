/- Contract of whetstoneref01.read: the decimal digits of what a row of digits of 32 bits stands for; at most 1000 digits. -/
import Derived.Test.YtffcacpffamjfaaDoorRefPlus
import Derived.Test.YtffcacpffamjfaaDoorNat1
namespace Go.Proofs.YtffcacpffamjfaaDoor
open Go.RowKit

theorem dright_length {ds : List Nat} (h : dright ds) {k : Nat} (hk : dval ds < 10 ^ k) : ds.length ≤ k := by
  rcases Nat.lt_or_ge k ds.length with h1 | h1
  · exfalso
    have hne : ds ≠ [] := fun e => by subst e; simp at h1
    have h2 : dval ds = dval (ds.take k) + 10 ^ k * dval (ds.drop k) := by
      have := dval_append (ds.take k) (ds.drop k)
      rw [List.take_append_drop, List.length_take, Nat.min_eq_left (by omega)] at this
      exact this
    have h3 := dval_pos (ds := ds.drop k) (by intro e; have := congrArg List.length e; rw [List.length_drop] at this; simp at this; omega) (by
      rw [List.getLast?_drop, if_neg (by omega)]
      rcases h.2 with h | h
      · exact absurd h hne
      · exact h)
    have h4 : 10 ^ k * 1 ≤ 10 ^ k * dval (ds.drop k) := Nat.mul_le_mul_left _ h3
    omega
  · exact h1

theorem zeros9 : dval (List.replicate 9 0) = 0 := by simp [List.replicate, dval]
theorem u8s_one (ds : List Nat) : ∀ u ∈ u8s ds, u.oneCell' = true := by
  intro u hu
  obtain ⟨d, _, rfl⟩ := List.mem_map.1 hu
  rfl

set_option maxRecDepth 100000 in
set_option maxHeartbeats 16000000 in
theorem refRead {w : World} {A : Option Addr} {c : Nat} {ds : List Nat} (hr : Row w A (u32s ds)) (hd : small 4294967296 ds) (hlen : ds.length ≤ 1000) :
    Calls Tryd.prog 37 #[.slice A ds.length c] w (RetDec w (val ds)) := by
  obtain ⟨i0, hi, hz0, hz1, hz2⟩ := info_parts info_u8
  obtain ⟨n, hn⟩ : ∃ n : Nat, n = ds.length := ⟨_, rfl⟩
  have hn1 : n ≤ 1000 := by omega
  rw [← hn]
  have HN := Lib.hid hn
  clear hn
  obtain ⟨E, hE1, hE2⟩ : ∃ E : Nat, E ≤ 9009 ∧ 9009 ≤ E := ⟨9009, Nat.le_refl _, Nat.le_refl _⟩
  have hbd : ∀ k, val (ds.drop k) < 10 ^ E := fun k => by
    refine Nat.lt_of_lt_of_le (val_lt32 (small_drop hd k)) ?_
    rw [show (1000000000 : Nat) = 10 ^ 9 from by decide, ← Nat.pow_mul]
    exact Nat.pow_le_pow_right (by decide) (by rw [List.length_drop, ← HN.out]; omega)
  have HBD := Lib.hid hbd
  clear hbd
  go_enter Tryd.func37, Tryd.ntmps37
  go_wp2
  go_loopw [3, 4] (fun v iv wr => ∃ (k : Nat) (A' : Option Addr) (c' : Nat) (os : List Nat), k ≤ n ∧ iv = .int .i64 ((k : Int) - 1) ∧ v = .slice A' os.length c' ∧ Row wr A' (u8s os) ∧ os.length ≤ c' ∧ dright os ∧ Hid (val (ds.drop k) = dval os) ∧ Below w.heap.size w wr)
    (fun _ iv _ => (intOf iv + 1).toNat)
  case atStart => exact ⟨n, none, 0, [], Nat.le_refl _, rfl, rfl, Row.nil _ _, Nat.le_refl _, ⟨small_nil _, .inl rfl⟩, by
    show _ = _
    rw [List.drop_of_length_le (by rw [HN.out]; exact Nat.le_refl _)]; rfl, Below.refl _ _⟩
  case round =>
    obtain ⟨k, A', c', os, hk, rfl, rfl, hro, hoc, hos, HO, hb⟩ := hrel
    have hsz := hb.size
    have hol : os.length ≤ E := dright_length hos (by rw [← HO.out]; exact HBD.out k)
    rcases Nat.eq_zero_or_pos k with rfl | hkp
    · go_wp2
      go_ret
      exact ⟨_, _, _, rfl, hro, hoc, hos, by rw [← HO.out]; rfl, hb⟩
    · obtain ⟨p, rfl⟩ : ∃ p, k = p + 1 := ⟨k - 1, by omega⟩
      rw [show ((p + 1 : Nat) : Int) - 1 = (p : Int) from by omega]
      rcases Nat.eq_zero_or_pos os.length with ho0 | hop
      · obtain rfl : os = [] := List.eq_nil_of_length_eq_zero ho0
        obtain ⟨ad, x, rfl, hcx, hx, hxm⟩ := (hr.below hb).dig (k := p) (by rw [← HN.out]; omega)
        have hxb := hd x hxm
        clear hxm ho0
        have hpn : (p : Int) < n := by omega
        obtain ⟨W2, hW2⟩ : ∃ W2, W2 = wr := ⟨_, rfl⟩
        have hes : small 10 ([] : List Nat) := small_nil _
        have hre : Row W2 A' (u8s []) := Row.nil _ _
        have HE : Hid (dval ([] : List Nat) = 1000000000 * dval ([] : List Nat)) := rfl
        have hbW : Below w.heap.size w W2 := hW2 ▸ hb
        have hsW : w.heap.size ≤ W2.heap.size := hbW.size
        rw [← hW2] at hcx ⊢
        clear hW2 hb hsz hro
        rw [show ([] : List Nat).length = 0 from rfl] at hol hoc ⊢
        go_wp2_with fail
        obtain ⟨B2, hB2⟩ : ∃ B2, B2 = W2.heap.size := ⟨_, rfl⟩
        have HB2 := Lib.hid hB2
        clear hB2
        go_loopw [5, 6] (fun dv nv wr => ∃ (dd : List Nat) (nn : Nat), nv = .int .u32 (nn : Int) ∧ nn < 4294967296 ∧ Own wr B2 5 dv (u8s dd) ∧ dd.length ≤ 10 ∧ (0 < nn → dd.length ≤ 9) ∧ Hid (small 10 dd ∧ dval dd + 10 ^ dd.length * nn = x) ∧ Below W2.heap.size W2 wr)
          (fun _ nv _ => (intOf nv).toNat)
        case atStart => exact ⟨[], x, rfl, hxb, Own.nil _ _ _, by simp, fun _ => by simp, ⟨small_nil _, by simp [dval]⟩, Below.refl _ _⟩
        case round =>
          obtain ⟨dd, nn, rfl, hnn, hdd, hl10, hl9, HD, hbr⟩ := hrel
          have hsr := hbr.size
          rcases Nat.eq_zero_or_pos nn with rfl | hnp
          · obtain ⟨A4, c4, rfl, hr4, hlc4, _⟩ := hdd.slice8
            have hpl := refPlus (c1 := c') (c2 := c4) (hre.below hbr) hr4 hes HD.out.1 (by simp) (by omega)
            rw [show ([] : List Nat).length = 0 from rfl] at hpl
            have HP := Lib.hid hpl
            have HV : Hid (dval ([] : List Nat) + dval dd = val (ds.drop p)) := by
              show _ = _
              have h2 := HD.out.2
              rw [Nat.mul_zero, Nat.add_zero] at h2
              rw [HE.out, h2, val_drop ds p (by rw [← HN.out]; omega), hx.out, ← HO.out]
              omega
            clear hpl hl10 hl9
            go_wp2_with fail
            refine HP.out.mono ?_
            rintro e w5 ⟨A5, c5, fs, rfl, hr5, hlc5, hf5, hv5, hb5⟩
            have hb6 : Below w.heap.size w w5 := (hbW.trans (hbr.mono hsW)).trans (hb5.mono (by omega))
            clear hb5 hbr
            go_wp2
            go_roundw
            case rel => exact ⟨p, A5, c5, fs, by omega, by go_num, rfl, hr5, hlc5, hf5, by rw [HV.out] at hv5; exact hv5.symm, hb6⟩
            case measure => first | (simp [intOf]; done) | (simp [intOf]; omega)
          · have hl9' := hl9 hnp
            have hstep : dval (dd ++ [nn % 10]) + 10 ^ (dd ++ [nn % 10]).length * (nn / 10) = x := by
              have h2 := Nat.mod_add_div nn 10
              rw [dval_append, List.length_append, ← HD.out.2]
              simp only [dval, List.length_singleton, Nat.mul_zero, Nat.add_zero, Nat.pow_succ]
              have h3 : 10 ^ dd.length * nn = 10 ^ dd.length * (nn % 10) + 10 ^ dd.length * (10 * (nn / 10)) := by rw [← Nat.mul_add, h2]
              rw [h3, Nat.mul_assoc]
              omega
            have hlen2 : 0 < nn / 10 → (dd ++ [nn % 10]).length ≤ 9 := fun h => by
              have h4 : 10 ^ (dd ++ [nn % 10]).length * 1 ≤ 10 ^ (dd ++ [nn % 10]).length * (nn / 10) := Nat.mul_le_mul_left _ h
              rcases Nat.lt_or_ge 9 (dd ++ [nn % 10]).length with h5 | h5
              · have h6 : 10 ^ 10 ≤ 10 ^ (dd ++ [nn % 10]).length := Nat.pow_le_pow_right (by decide) h5
                have h7 : (10 : Nat) ^ 10 = 10000000000 := by decide
                omega
              · exact h5
            have hlen3 : (dd ++ [nn % 10]).length ≤ 10 := by rw [List.length_append]; simp; omega
            have HS := Lib.hid hstep
            have HL2 := Lib.hid hlen2
            clear hstep hlen2 hl9 hl10
            go_wp2_with (at_builtin; refine wpList_append_own _ rfl _ _ 53 rfl B2 5 i0 (.int .u8 0) 1 1 Tryd.underlying53 hi hz0 hz1 hz2 rfl (by decide) _ _ _ rfl (hdd.alloc _) ⟨wr.heap.size, 0, none⟩ 1 1 [.int .u8 ((nn % 10 : Nat) : Int)] rfl rfl (one_news (int_eq (by omega))) one_cell (by rw [u8s_length]; unfold maxLen; omega) (by rw [u8s_length]; omega) (by rw [HB2.out]; simp; omega) ?_)
            intro v' w2 hown' hgrow' _
            have ho2 := own_app8 hown'
            have hb3 := below_app hbr hdd HB2 hgrow'
            clear hown' hgrow' hdd hbr
            go_wp2
            go_roundw
            case rel => exact ⟨dd ++ [nn % 10], nn / 10, by go_num, by omega, ho2, hlen3, HL2.out, ⟨small_snoc HD.out.1 (Nat.mod_lt _ (by decide)), HS.out⟩, hb3⟩
            case measure => first | (simp [intOf]; done) | (simp [intOf]; omega)
      · obtain ⟨ad, x, rfl, hcx, hx, hxm⟩ := (hr.below hb).dig (k := p) (by rw [← HN.out]; omega)
        have hxb := hd x hxm
        clear hxm
        have hpn : (p : Int) < n := by omega
        obtain ⟨ao, _, rfl, _⟩ := hro.byte (k := 0) hop
        go_wp2_with (at_make; refine wpList_make_full _ rfl _ _ 53 rfl wr.heap.size 5 i0 (.int .u8 0) 1 Tryd.underlying53 hi hz0 hz1 .i64 .i64 9 9 9 rfl rfl rfl rfl (by rw [hz2]; omega) (by unfold maxLen; omega) (Nat.le_refl _) ?_)
        intro w4 hown4 hgrow4
        have ho4 := own_zeros8 hown4
        have hb4 : Below wr.heap.size wr w4 := (Below.refl _ _).grown hgrow4 (Nat.le_refl _) (fun k h => by cases h)
        have hro4 := hro.below hb4
        clear hown4 hgrow4
        go_wp2_with (at_builtin; refine wpList_append_own _ rfl _ _ 53 rfl wr.heap.size 5 i0 (.int .u8 0) 1 1 Tryd.underlying53 hi hz0 hz1 hz2 rfl (by decide) _ _ _ rfl ho4 ao os.length c' (u8s os) rfl (by rw [u8s_length]; omega) (fun j u hj => by obtain ⟨ad', e', hc'⟩ := hro4 j u hj; injection e' with e'; subst e'; exact hc') (u8s_one os) (by rw [u8s_length]; unfold maxLen; simp; omega) (by rw [u8s_length]; simp; omega) (by have := hb4.size; omega) ?_)
        intro v' W2 hown5 hgrow5 _
        have ho5 : Own W2 wr.heap.size 5 v' (u8s (List.replicate 9 0 ++ os)) := by
          have := Own.mk_ hown5
          have e : u8s [0, 0, 0, 0, 0, 0, 0, 0, 0] ++ u8s os = u8s (List.replicate 9 0 ++ os) := rfl
          exact e ▸ this
        have hbW : Below w.heap.size w W2 := hb.trans ((hb4.grown hgrow5 (by have := hb4.size; omega) (fun k hk => ((show w4.ownsRow wr.heap.size 5 1 _ _ _ from ho4).lt k hk).1)).mono hsz)
        have hsW : w.heap.size ≤ W2.heap.size := hbW.size
        obtain ⟨A7, c7, rfl, hre, hc7, _⟩ := ho5.slice8
        obtain ⟨es, hes0⟩ : ∃ es, es = List.replicate 9 0 ++ os := ⟨_, rfl⟩
        rw [← hes0] at hre hc7 ⊢
        have hes : small 10 es := by
          rw [hes0]
          intro d hd
          rcases List.mem_append.1 hd with h | h
          · rw [(List.mem_replicate.1 h).2]; decide
          · exact hos.1 d h
        have hesl : es.length ≤ 20000 := by rw [hes0, List.length_append, List.length_replicate]; omega
        have HE : Hid (dval es = 1000000000 * dval os) := by show _ = _; rw [hes0, dval_append, List.length_replicate, zeros9]; simp
        have hcx2 : W2.cell? (ad.add p) = some (.int .u32 (x : Int)) := (((hb4.grown hgrow5 (by have := hb4.size; omega) (fun k hk => ((show w4.ownsRow wr.heap.size 5 1 _ _ _ from ho4).lt k hk).1)).cell (cell_lt hcx))).trans hcx
        clear hown5 hgrow5 ho5 hes0 ho4 hb4 hro4 hb hsz hro hcx
        go_wp2_with fail
        obtain ⟨B2, hB2⟩ : ∃ B2, B2 = W2.heap.size := ⟨_, rfl⟩
        have HB2 := Lib.hid hB2
        clear hB2
        go_loopw [5, 6] (fun dv nv wr => ∃ (dd : List Nat) (nn : Nat), nv = .int .u32 (nn : Int) ∧ nn < 4294967296 ∧ Own wr B2 5 dv (u8s dd) ∧ dd.length ≤ 10 ∧ (0 < nn → dd.length ≤ 9) ∧ Hid (small 10 dd ∧ dval dd + 10 ^ dd.length * nn = x) ∧ Below W2.heap.size W2 wr)
          (fun _ nv _ => (intOf nv).toNat)
        case atStart => exact ⟨[], x, rfl, hxb, Own.nil _ _ _, by simp, fun _ => by simp, ⟨small_nil _, by simp [dval]⟩, Below.refl _ _⟩
        case round =>
          obtain ⟨dd, nn, rfl, hnn, hdd, hl10, hl9, HD, hbr⟩ := hrel
          have hsr := hbr.size
          rcases Nat.eq_zero_or_pos nn with rfl | hnp
          · obtain ⟨A4, c4, rfl, hr4, hlc4, _⟩ := hdd.slice8
            have hpl := refPlus (c1 := c7) (c2 := c4) (hre.below hbr) hr4 hes HD.out.1 (by omega) (by omega)
            have HP := Lib.hid hpl
            have HV : Hid (dval es + dval dd = val (ds.drop p)) := by
              show _ = _
              have h2 := HD.out.2
              rw [Nat.mul_zero, Nat.add_zero] at h2
              rw [HE.out, h2, val_drop ds p (by rw [← HN.out]; omega), hx.out, ← HO.out]
              omega
            clear hpl hl10 hl9
            go_wp2_with fail
            refine HP.out.mono ?_
            rintro e w5 ⟨A5, c5, fs, rfl, hr5, hlc5, hf5, hv5, hb5⟩
            have hb6 : Below w.heap.size w w5 := (hbW.trans (hbr.mono hsW)).trans (hb5.mono (by omega))
            clear hb5 hbr
            go_wp2
            go_roundw
            case rel => exact ⟨p, A5, c5, fs, by omega, by go_num, rfl, hr5, hlc5, hf5, by rw [HV.out] at hv5; exact hv5.symm, hb6⟩
            case measure => first | (simp [intOf]; done) | (simp [intOf]; omega)
          · have hl9' := hl9 hnp
            have hstep : dval (dd ++ [nn % 10]) + 10 ^ (dd ++ [nn % 10]).length * (nn / 10) = x := by
              have h2 := Nat.mod_add_div nn 10
              rw [dval_append, List.length_append, ← HD.out.2]
              simp only [dval, List.length_singleton, Nat.mul_zero, Nat.add_zero, Nat.pow_succ]
              have h3 : 10 ^ dd.length * nn = 10 ^ dd.length * (nn % 10) + 10 ^ dd.length * (10 * (nn / 10)) := by rw [← Nat.mul_add, h2]
              rw [h3, Nat.mul_assoc]
              omega
            have hlen2 : 0 < nn / 10 → (dd ++ [nn % 10]).length ≤ 9 := fun h => by
              have h4 : 10 ^ (dd ++ [nn % 10]).length * 1 ≤ 10 ^ (dd ++ [nn % 10]).length * (nn / 10) := Nat.mul_le_mul_left _ h
              rcases Nat.lt_or_ge 9 (dd ++ [nn % 10]).length with h5 | h5
              · have h6 : 10 ^ 10 ≤ 10 ^ (dd ++ [nn % 10]).length := Nat.pow_le_pow_right (by decide) h5
                have h7 : (10 : Nat) ^ 10 = 10000000000 := by decide
                omega
              · exact h5
            have hlen3 : (dd ++ [nn % 10]).length ≤ 10 := by rw [List.length_append]; simp; omega
            have HS := Lib.hid hstep
            have HL2 := Lib.hid hlen2
            clear hstep hlen2 hl9 hl10
            go_wp2_with (at_builtin; refine wpList_append_own _ rfl _ _ 53 rfl B2 5 i0 (.int .u8 0) 1 1 Tryd.underlying53 hi hz0 hz1 hz2 rfl (by decide) _ _ _ rfl (hdd.alloc _) ⟨wr.heap.size, 0, none⟩ 1 1 [.int .u8 ((nn % 10 : Nat) : Int)] rfl rfl (one_news (int_eq (by omega))) one_cell (by rw [u8s_length]; unfold maxLen; omega) (by rw [u8s_length]; omega) (by rw [HB2.out]; simp; omega) ?_)
            intro v' w2 hown' hgrow' _
            have ho2 := own_app8 hown'
            have hb3 := below_app hbr hdd HB2 hgrow'
            clear hown' hgrow' hdd hbr
            go_wp2
            go_roundw
            case rel => exact ⟨dd ++ [nn % 10], nn / 10, by go_num, by omega, ho2, hlen3, HL2.out, ⟨small_snoc HD.out.1 (Nat.mod_lt _ (by decide)), HS.out⟩, hb3⟩
            case measure => first | (simp [intOf]; done) | (simp [intOf]; omega)
end Go.Proofs.YtffcacpffamjfaaDoor

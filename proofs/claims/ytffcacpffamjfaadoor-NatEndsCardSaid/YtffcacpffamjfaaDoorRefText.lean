/- Contract of whetstoneref01.Text: the decimal text of what a row of at most 1000 digits stands for. -/
import Derived.Test.YtffcacpffamjfaaDoorRefLess

import Derived.Laws.IdiomStrings
namespace Go.Proofs.YtffcacpffamjfaaDoor
open Go.RowKit

theorem add_at8 (g k : Nat) : (⟨g, 0, none⟩ : Addr).add k = ⟨g, k, none⟩ := by
  unfold Addr.add; split
  · rename_i h; subst h; rfl
  · simp

theorem dunique : ∀ {xs ys : List Nat}, dright xs → dright ys → dval xs = dval ys → xs = ys
  | [], ys, _, hy, h => by
    have := dlength_le hy (k := 0) (by rw [← h]; decide)
    exact (List.eq_nil_of_length_eq_zero (by omega)).symm
  | x :: xs, [], hx, _, h => by
    have := dlength_le hx (k := 0) (by rw [h]; decide)
    simp at this
  | x :: xs, y :: ys, hx, hy, h => by
    have tl : ∀ {a : Nat} {us : List Nat}, dright (a :: us) → dright us := fun {a us} h => by
      refine ⟨fun d hd => h.1 d (List.mem_cons_of_mem _ hd), ?_⟩
      rcases h.2 with h1 | h1
      · cases h1
      · cases us with
        | nil => exact .inl rfl
        | cons b bs => rw [List.getLast?_cons_cons] at h1; exact .inr h1
    have h1 := hx.1 x (List.mem_cons_self ..)
    have h2 := hy.1 y (List.mem_cons_self ..)
    simp only [dval] at h
    have e1 : x = y := by omega
    have e2 : dval xs = dval ys := by omega
    rw [e1, dunique (tl hx) (tl hy) e2]
theorem dgl_dright {n : Nat} (hn : 0 < n) : dright (dgl (Lib.decDigits n)) := by
  refine ⟨fun d hd => ?_, .inr ?_⟩
  · simp only [dgl, List.mem_reverse, List.mem_map] at hd
    obtain ⟨a, ⟨b, hb, rfl⟩, rfl⟩ := hd
    have := decDigits_digs n b hb
    omega
  · have h1 := decDigits_head n hn
    have h2 := decDigits_ne n
    rw [dgl, List.getLast?_reverse]
    cases hl : Lib.decDigits n with
    | nil => rw [hl] at h2; simp at h2
    | cons b bs =>
      rw [hl] at h1
      have h3 := decDigits_digs n b (by rw [hl]; exact List.mem_cons_self ..)
      simp at h1 ⊢
      omega
/-- The digits, the highest first, as bytes. -/
theorem digits_text {ds : List Nat} {n : Nat} (h : dright ds) (hv : dval ds = n) (hn : 0 < n) : ds.reverse.map (fun d => UInt8.ofNat (48 + d)) = Lib.decDigits n := by
  have e : ds = dgl (Lib.decDigits n) := dunique h (dgl_dright hn) (by rw [hv, dval_dgl])
  rw [e, dgl, List.reverse_reverse, List.map_map, List.map_map]
  have : ∀ b ∈ Lib.decDigits n, UInt8.ofNat (48 + (b.toNat - 48)) = b := fun b hb => by
    have h1 := decDigits_digs n b hb
    rw [show 48 + (b.toNat - 48) = b.toNat from by omega, UInt8.ofNat_toNat]
  rw [List.map_congr_left (g := id) (fun b hb => by simpa using this b hb), List.map_id]

set_option maxRecDepth 100000 in
set_option maxHeartbeats 1600000 in
theorem refText {w : World} {A : Option Addr} {c k : Nat} {xs : List Nat} (hr : Row w A (u32s xs)) (hd : small 4294967296 xs) (hlen : xs.length ≤ 1000) (hk : val xs < 1000000000 ^ k) (hk2 : k ≤ 2000) :
    Calls Tryd.prog 22 #[.slice A xs.length c] w fun e w' => e = .returned (.string (dtext (val xs))) ∧ Below w.heap.size w w' := by
  obtain ⟨i0, hi, hz0, hz1, hz2⟩ := info_parts info_u8
  have hrd := refRead (c := c) hr hd hlen
  have HRD := Lib.hid hrd
  have HK := Lib.hid hk
  clear hrd hk
  rcases Nat.eq_zero_or_pos (val xs) with hz | hpos
  · have HZ := Lib.hid hz
    clear hz
    go_enter Tryd.func22, Tryd.ntmps22
    go_wp2_with fail
    refine HRD.out.mono ?_
    rintro e w1 ⟨A1, c1, ds, rfl, h1, _, h3, h4, h5⟩
    obtain rfl : ds = [] := by
      have := dlength_le h3 (k := 0) (by rw [h4, HZ.out]; decide)
      exact List.eq_nil_of_length_eq_zero (by omega)
    clear h3 h4
    go_wp2
    go_ret
    refine ⟨?_, h5⟩
    rw [HZ.out, dtext, decDigits_small (by decide)]; rfl
  · have HP := Lib.hid hpos
    clear hpos
    go_enter Tryd.func22, Tryd.ntmps22
    go_wp2_with fail
    refine HRD.out.mono ?_
    rintro e w1 ⟨A1, c1, ds, rfl, h1, _, h3, h4, h5⟩
    have hl := dlen_of h3 h4 HK.out
    have hne : ((ds.length : Int) == 0) = false := by
      rw [beq_eq_false_iff_ne]
      intro h
      have h6 : ds = [] := List.eq_nil_of_length_eq_zero (by omega)
      have h7 := HP.out
      rw [← h4, h6] at h7
      simp [dval] at h7
    obtain ⟨n, hn⟩ : ∃ n, n = ds.length := ⟨_, rfl⟩
    have hn1 : n ≤ 18000 := by omega
    have hn0 : 0 < n := by
      rcases Nat.eq_zero_or_pos n with h | h
      · rw [← hn, h] at hne; simp at hne
      · exact h
    rw [← hn] at hne ⊢
    have HN := Lib.hid hn
    have HD4 := Lib.hid h4
    have hs1 := h5.size
    clear hn h4 hl
    go_wp2_with (at_make; refine wpList_make_full _ rfl _ _ 52 rfl w1.heap.size 5 i0 (.int .u8 0) 1 Tryd.underlying52 hi hz0 hz1 .i64 .i64 (n : Int) (n : Int) n rfl rfl rfl rfl ?b2 ?b3 ?b4 ?_)
    case b2 => first | omega | (rw [hz2]; omega)
    case b3 => unfold maxLen; omega
    case b4 => exact Nat.le_refl _
    intro w2 hown hgrow
    have ho2 := own_zeros8 hown
    have hb2 : Below w1.heap.size w1 w2 := (Below.refl _ _).grown hgrow (Nat.le_refl _) (fun k h => by cases h)
    obtain ⟨g, hg⟩ : ∃ g, g = w1.heap.size := ⟨_, rfl⟩
    rw [← hg] at ho2 ⊢
    have HG := Lib.hid hg
    have h1' := h1.below hb2
    have h1w := h1
    clear hown hgrow hne hg
    go_wp2_with fail
    go_loopw [5] (fun iv wr => ∃ (k : Nat) (bs : List Nat), k ≤ n ∧ iv = .int .i64 (k : Int) ∧ Own wr g 5 (.slice (some ⟨g, 0, none⟩) n n) (u8s bs) ∧ Hid (bs.length = n ∧ ∀ j, j < k → bs.getD (n - 1 - j) 0 = 48 + ds.getD j 0) ∧ Below g w1 wr) (fun iv _ => n - (intOf iv).toNat)
    case atStart => exact ⟨0, List.replicate n 0, Nat.zero_le _, rfl, ho2, ⟨by simp, fun j hj => by omega⟩, HG.out ▸ hb2⟩
    case round =>
      obtain ⟨k, bs, hk, rfl, hob, HO, hb⟩ := hrel
      have hbw : Below w1.heap.size w1 wr := HG.out ▸ hb
      by_cases hlt : k < n
      · obtain ⟨ad, x, rfl, hcx, hxe, hxm⟩ := (h1w.below hbw).byte (k := k) (by rw [← HN.out]; exact hlt)
        have hx10 := h3.1 x hxm
        obtain ⟨q, hq⟩ : ∃ q : Nat, q = n - 1 - k := ⟨_, rfl⟩
        have hqi : (n : Int) - 1 - (k : Int) = (q : Int) := by omega
        have hqn : q < n := by omega
        obtain ⟨hqc, hqf⟩ := own_cell hob (k := q) (by rw [u8s_length, HO.out.1]; exact hqn)
        have hset := own_set8 hob q (48 + x)
        have HSET := Lib.hid hset
        have HQ := Lib.hid hq
        clear hset hxm hq
        go_wp2
        go_roundw
        case rel => exact ⟨k + 1, bs.set q (48 + x), by omega, by go_num, HSET.out, ⟨by rw [List.length_set]; exact HO.out.1, fun j hj => by
          rcases Nat.lt_or_ge j k with h | h
          · rw [getD_set_ne (48 + x) (by have := HQ.out; omega)]; exact HO.out.2 j h
          · obtain rfl : j = k := by omega
            rw [← HQ.out, hxe.out, List.getD_eq_getElem?_getD, List.getElem?_set_self (by rw [HO.out.1]; exact hqn)]; rfl⟩, hb.setCell (Nat.le_refl _) _⟩
        case measure => simp [intOf]; omega
      · obtain rfl : k = n := by omega
        have hdt := digits_text h3 HD4.out HP.out
        have hll : (Lib.decDigits (val xs)).length = k := by rw [← hdt, List.length_map, List.length_reverse, ← HN.out]
        have hcv := run_convert_bytes_back (P := Tryd.prog) wr 52 9 5 ⟨g, 0, none⟩ k (Lib.decDigits (val xs)) Tryd.underlying52 Tryd.underlying5 Tryd.underlying9 (fun j hj => by
          have hjk : j < k := by rw [← hll]; exact hj
          have h7 := (own_cell hob (k := j) (by rw [u8s_length, HO.out.1]; exact hjk)).1
          have h8 := HO.out.2 (k - 1 - j) (by omega)
          rw [show k - 1 - (k - 1 - j) = j from by omega] at h8
          have h9 : ds.getD (k - 1 - j) 0 < 10 := small_getD h3.1 (by decide) _
          rw [add_at8, h7]
          simp only [u8s, List.getElem_map]
          have h10 : bs[j]'(by rw [HO.out.1]; exact hjk) = 48 + ds.getD (k - 1 - j) 0 := by
            rw [← h8, List.getD_eq_getElem?_getD, List.getElem?_eq_getElem (by rw [HO.out.1]; exact hjk)]; rfl
          have h11 : (Lib.decDigits (val xs))[j] = UInt8.ofNat (48 + ds.getD (k - 1 - j) 0) := by
            have h12 : (Lib.decDigits (val xs))[j]? = some (UInt8.ofNat (48 + ds.getD (k - 1 - j) 0)) := by
              rw [← hdt, List.getElem?_map, List.getElem?_reverse (by rw [← HN.out]; exact hjk), ← HN.out, List.getElem?_eq_getElem (by rw [← HN.out]; omega), List.getD_eq_getElem?_getD, List.getElem?_eq_getElem (by rw [← HN.out]; omega)]
              rfl
            rw [List.getElem?_eq_getElem hj] at h12
            injection h12
          rw [h10, h11, dig_toNat h9])
        rw [hll] at hcv
        have HLL := Lib.hid hll
        have HDT := Lib.hid hdt
        clear hll hdt
        go_wp2
        go_ret
        exact ⟨rfl, bstep h5 hbw⟩
end Go.Proofs.YtffcacpffamjfaaDoor

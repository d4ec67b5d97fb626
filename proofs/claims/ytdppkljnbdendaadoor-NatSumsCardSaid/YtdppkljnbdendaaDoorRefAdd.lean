/- Contract of whetstoneref01.Add: the right row of the sum of all; rows of at most 1000 digits. -/
import Derived.Test.YtdppkljnbdendaaDoorRefRead
import Derived.Test.YtdppkljnbdendaaDoorFold
namespace Go.Proofs.YtdppkljnbdendaaDoor
open Go.RowKit

theorem refWrite {w : World} {A : Option Addr} {c : Nat} {ds : List Nat} (hr : Row w A (u8s ds)) (hd : dright ds) (hlen : ds.length ≤ 1000000) :
    Calls Tryd.prog 40 #[.slice A ds.length c] w (RetNat w (dval ds)) :=
  (write_any (c := c) hr hd.1 hlen).mono fun _ _ ⟨v, n, he, ho, hb, h1, h2⟩ => ⟨v, he, ⟨chunks ds n, chunks_right hd h1 h2, chunks_all h1, ho⟩, hb⟩

theorem vals_take_succ {L : List Arow} {k : Nat} (hk : k < L.length) : (vals L).take (k + 1) = (vals L).take k ++ [val L[k].2.2] := by
  rw [List.take_add_one, List.getElem?_eq_getElem (by simpa [vals] using hk)]
  simp only [vals, List.getElem_map, Option.toList_some]

theorem dval_bound {ds : List Nat} (h : dright ds) {N : Nat} (hv : dval ds < 1000000000 ^ N) : ds.length ≤ 9 * N := by
  refine dright_length h ?_
  rw [Nat.pow_mul]; exact hv

set_option maxRecDepth 100000 in
set_option maxHeartbeats 4000000 in
theorem refAdd {w : World} {N : Nat} {A : Option Addr} {c : Nat} {L : List Arow} (hL : Rows_ w A L) (hrow : ∀ r ∈ L, r.2.2.length ≤ 1000) (hacc : ∀ k, k ≤ L.length → ((vals L).take k).foldl (fun a b => a + b) 0 < 1000000000 ^ N) (hN : N ≤ 10000) (hlen : L.length ≤ 100000) :
    Calls Tryd.prog 29 #[.slice A L.length c] w (RetNat w ((vals L).foldl (fun a b => a + b) 0)) := by
  have HAcc := Lib.hid hacc
  have HRow := Lib.hid hrow
  clear hacc hrow
  obtain ⟨n, hn⟩ : ∃ n : Nat, n = L.length := ⟨_, rfl⟩
  have hn1 : n ≤ 100000 := by omega
  rw [← hn]
  have HN := Lib.hid hn
  clear hn hlen
  go_enter Tryd.func29, Tryd.ntmps29
  go_wp2
  go_loopw [3, 4] (fun v iv wr => ∃ (k : Nat) (A' : Option Addr) (c' : Nat) (os : List Nat), k ≤ n ∧ iv = .int .i64 (k : Int) ∧ v = .slice A' os.length c' ∧ Row wr A' (u8s os) ∧ dright os ∧ Hid (dval os = ((vals L).take k).foldl (fun a b => a + b) 0) ∧ Below w.heap.size w wr)
    (fun _ iv _ => n - (intOf iv).toNat)
  case atStart => exact ⟨0, none, 0, [], Nat.zero_le _, rfl, rfl, Row.nil _ _, ⟨small_nil _, .inl rfl⟩, by simp [Hid, dval], Below.refl _ _⟩
  case round =>
    obtain ⟨k, A', c', os, hk, rfl, rfl, hro, hos, HO, hb⟩ := hrel
    have hsz := hb.size
    have hol : os.length ≤ 90000 := Nat.le_trans (dval_bound hos (by rw [HO.out]; exact HAcc.out k (by rw [← HN.out]; exact hk))) (by omega)
    by_cases hlt : k < n
    · have hkL : k < L.length := by rw [← HN.out]; exact hlt
      obtain ⟨ad, rfl, hce⟩ := (hL.1.below hb).at_ (k := k) (by rw [List.length_map]; exact hkL)
      rw [List.getElem_map] at hce
      have hT := vals_take_succ hkL
      obtain ⟨r, hr⟩ : ∃ r, r = L[k] := ⟨_, rfl⟩
      rw [← hr] at hce hT
      have hrm : r ∈ L := by rw [hr]; exact List.getElem_mem _
      have hrl := HRow.out r hrm
      obtain ⟨hrd0, hdsm, _⟩ := hL.2 _ hrm
      obtain ⟨Ar, cr, ds⟩ := r
      have hce' : wr.cell? (ad.add k) = some (.slice Ar ds.length cr) := hce
      have hrd : Row wr Ar (u32s ds) := Row.below hrd0 hb
      have hrl' : ds.length ≤ 1000 := hrl
      have hread := refRead (c := cr) hrd hdsm hrl'
      have HRD := Lib.hid hread
      have HT := Lib.hid hT
      obtain ⟨M, hM1, hM2⟩ : ∃ M, M ≤ 1001 ∧ 1001 ≤ M := ⟨1001, Nat.le_refl _, Nat.le_refl _⟩
      have hdl : val ds < 1000000000 ^ M := Nat.lt_of_lt_of_le (val_lt32 hdsm) (Nat.pow_le_pow_right (by decide) (by omega))
      have HDL := Lib.hid hdl
      clear hr hce hrm hrl hread hT hkL hrd0 hdl
      go_wp2_with fail
      refine HRD.out.mono ?_
      rintro e w2 ⟨A2, c2, es, rfl, hr2, hlc2, hes, hv2, hb2⟩
      have hel : es.length ≤ 9 * M := dval_bound hes (by rw [hv2]; exact HDL.out)
      have hpl := refPlus (c1 := c') (c2 := c2) (hro.below hb2) hr2 hos.1 hes.1 (by omega) (by omega)
      have HPL := Lib.hid hpl
      have hb2' := hb.trans (hb2.mono hsz)
      have HV2 := Lib.hid hv2
      clear hpl hb2 hb hv2 hrd hdsm
      go_wp2_with fail
      refine HPL.out.mono ?_
      rintro e w3 ⟨A3, c3, fs, rfl, hr3, hlc3, hfs, hv3, hb3⟩
      have hb3' := hb2'.trans (hb3.mono hb2'.size)
      have HV3 := Lib.hid hv3
      clear hb3 hb2' hv3
      go_wp2
      go_roundw
      case rel => exact ⟨k + 1, A3, c3, fs, by omega, by go_num, rfl, hr3, hfs, by
        show _ = _
        rw [HT.out, List.foldl_append, ← HO.out, HV3.out, HV2.out]; rfl, hb3'⟩
      case measure => simp [intOf]; omega
    · have hwr := refWrite (c := c') hro hos (by omega)
      have HW := Lib.hid hwr
      have hk' : k = n := by omega
      have HV : Hid (dval os = (vals L).foldl (fun a b => a + b) 0) := by
        show _ = _
        rw [HO.out, hk', HN.out, List.take_of_length_le (by simp [vals])]
      clear hwr
      go_wp2_with fail
      refine HW.out.mono ?_
      rintro e w4 ⟨v, rfl, ⟨rs, h1, h2, h3⟩, hb4⟩
      go_wp2
      go_ret
      exact ⟨_, rfl, ⟨rs, h1, by rw [h2]; exact HV.out, h3.mono hsz⟩, hb.trans (hb4.mono hsz)⟩
end Go.Proofs.YtdppkljnbdendaaDoor

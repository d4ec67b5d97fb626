/- whetstonekit.TermsOf: what it tells of a list of terms in memory, as far as 3000; TermOf and TermsOf together. No other condition. -/
import Derived.Test.YtlikpnaffpngiaaGreatDoorCountT
set_option linter.unusedVariables false
set_option linter.unusedSimpArgs false
namespace Go.Proofs.YtlikpnaffpngiaaGreatDoor
open Go.RowKit

theorem Reg.full {B : Nat} {W0 w : World} (h : Reg B W0 [] w) : Below W0.heap.size W0 w := ⟨h.below.os, h.below.tape, h.below.output, h.below.size, fun k hk => h.old k hk (by simp)⟩
theorem cTs_done {l : List Tm} {k m : Int} (h : ¬ k ≤ m) : cTs l k m = k := by
  cases l with
  | nil => rw [cTs_nil]
  | cons t l => rw [cTs_cons, if_neg h]

set_option maxRecDepth 100000 in
set_option maxHeartbeats 8000000 in
theorem termsOf_step {w : World} {l : List Tm} {A : Option Addr} {n c : Nat} {m : Int} (hl : TmsAt w A l) (hn : n = l.length) (hnl : n ≤ 140737488355328) (h0 : -1 ≤ m) (h3 : m ≤ 3000)
    (HT : Hid (∀ (W : World) (v : Value) (j : Nat) (t : Tm) (k : Int), Below w.heap.size w W → l[j]? = some t → TmV W v t → 0 ≤ k → k ≤ m → Calls Tryz.prog 29 #[v, .int .i64 k] W (SaysI W (cT t k)))) :
    Calls Tryz.prog 14 #[.slice A n c, .int .i64 m] w (SaysI w (cTs l 0 m)) := by
  have hf : FitsL l := fitsL_of fun j t hj => by
    obtain ⟨_, _, _, _, _, _, _, _, ht⟩ := hl j t hj
    exact ht.fits
  have HF := Lib.hid hf
  have HL := Lib.hid hl
  have HN := Lib.hid hn
  have HS := Lib.hid (show cTs l 0 m = cTs (l.drop 0) 0 m ∧ Cnt (wtL (l.take 0)) m 0 from ⟨rfl, by rw [List.take_zero, wtL_nil]; exact Cnt.nil h0⟩)
  obtain ⟨R, hR⟩ : ∃ R, R = cTs l 0 m := ⟨_, rfl⟩
  rw [← hR]
  have HR := Lib.hid hR
  clear hl hf hn hR
  go_enter Tryz.func14, Tryz.ntmps14
  go_wp2
  go_loopw [5, 6] (fun kv iv wr => ∃ (i : Nat) (k : Int), i ≤ n ∧ iv = .int .i64 (i : Int) ∧ kv = .int .i64 k ∧ Hid (cTs l 0 m = cTs (l.drop i) k m ∧ Cnt (wtL (l.take i)) m k) ∧ Hid (Below w.heap.size w wr)) (fun _ iv _ => n - (intOf iv).toNat)
  case atStart => exact ⟨0, 0, Nat.zero_le _, rfl, rfl, HS.out, Below.refl _ _⟩
  case round =>
    obtain ⟨i, k, hi7, rfl, rfl, HI, HW⟩ := hrel
    by_cases hi : i < n
    · have hlt' : decide ((i : Int) < (n : Int)) = true := decide_eq_true (by omega)
      by_cases hk : k ≤ m
      · have hil : i < l.length := by rw [← HN.out]; exact hi
        obtain ⟨t, ht⟩ : ∃ t, l[i]? = some t := ⟨_, List.getElem?_eq_getElem hil⟩
        obtain ⟨ad, u0, u1, u2, u3, u4, rfl, ⟨q0, q1, q2, q3, q4⟩, htm⟩ := (HL.out.below HW.out) i t ht
        have q1 : wr.cell? { block := (ad.add (i * 5)).block, off := (ad.add (i * 5)).off + 1 } = some u1 := q1
        have q2 : wr.cell? { block := (ad.add (i * 5)).block, off := (ad.add (i * 5)).off + 2 } = some u2 := q2
        have q3 : wr.cell? { block := (ad.add (i * 5)).block, off := (ad.add (i * 5)).off + 3 } = some u3 := q3
        have q4 : wr.cell? { block := (ad.add (i * 5)).block, off := (ad.add (i * 5)).off + 4 } = some u4 := q4
        have hk0 : 0 ≤ k := HI.out.2.1
        have hct := cnt_T t (m := m - k) (by omega) (by omega) (fitsL_at HF.out ht)
        have hmore := (HI.out.2.more hk hct).resolve_right (by omega)
        obtain ⟨r, hr⟩ : ∃ r, r = cT t (m - k) := ⟨_, rfl⟩
        have hT := HT.out wr _ i t (m - k) HW.out ht htm (by omega) (by omega)
        rw [← hr] at hmore hct hT
        have hc0 : 0 ≤ r := hct.1
        have hc1 := hmore.2
        have HT2 := Lib.hid hT
        have hdrop : cTs l 0 m = cTs (l.drop (i + 1)) (k + r) m := by
          rw [HI.out.1, List.drop_eq_getElem_cons hil, cTs_cons, if_pos hk]
          rw [List.getElem?_eq_getElem hil] at ht
          rw [Option.some.inj ht, hr]
        have HI2 := Lib.hid (show cTs l 0 m = cTs (l.drop (i + 1)) (k + r) m ∧ Cnt (wtL (l.take (i + 1))) m (k + r) from ⟨hdrop, by rw [wtL_snoc ht]; exact hmore.1⟩)
        clear hdrop hmore hct hT htm ht hil HI hr
        go_wp2_with fail
        refine HT2.out.mono ?_
        rintro e w' ⟨rfl, hb⟩
        have HW2 := Lib.hid (HW.out.trans (hb.mono HW.out.size))
        clear hb q0 q1 q2 q3 q4
        go_wp2
        go_roundw
        case rel => exact ⟨i + 1, k + r, by omega, by go_num, by go_num, HI2.out, HW2.out⟩
        case measure => simp [intOf]; omega
      · have hres : R = k := by rw [HR.out, HI.out.1, cTs_done hk]
        have hk' : decide (k ≤ m) = false := decide_eq_false hk
        clear HR
        subst hres
        go_wp2
        go_ret
        exact ⟨rfl, HW.out⟩
    · have hres : R = k := by rw [HR.out, HI.out.1, List.drop_eq_nil_of_le (by rw [← HN.out]; omega), cTs_nil]
      have hlt' : decide ((i : Int) < (n : Int)) = false := decide_eq_false (by omega)
      clear HR
      subst hres
      go_wp2
      go_ret
      exact ⟨rfl, HW.out⟩
/-- Both, by how far they are asked. -/
theorem count_both : ∀ (d : Nat), d ≤ 3000 → (∀ (w : World) (v : Value) (t : Tm), TmV w v t → Calls Tryz.prog 29 #[v, .int .i64 (d : Int)] w (SaysI w (cT t (d : Int)))) ∧
    ∀ (w : World) (A : Option Addr) (l : List Tm) (c : Nat), TmsAt w A l → l.length ≤ 140737488355328 → Calls Tryz.prog 14 #[.slice A l.length c, .int .i64 (d : Int)] w (SaysI w (cTs l 0 (d : Int))) := by
  intro d
  induction d using Nat.strongRecOn with
  | _ d ih =>
    intro hd
    have hT : ∀ (w : World) (v : Value) (t : Tm), TmV w v t → Calls Tryz.prog 29 #[v, .int .i64 (d : Int)] w (SaysI w (cT t (d : Int))) := fun w v t h => by
      have hfit := h.fits
      obtain ⟨A, K, c, c', rfl, _, hn, _, _, hdl, hkl, hts⟩ := h.parts
      cases t with
      | mk kind s neg ds l =>
        rw [fits_eq] at hfit
        have hcs := cnt_Ts l (Cnt.nil (m := (d : Int) - 1) (by omega)) (by omega) (by omega) hfit.2.2
        rw [cT_eq]
        refine termOf_step hfit.1 hfit.2.1 (by omega) (by omega) hcs.1 (by have := hcs.2.1; omega) (Lib.hid fun W hW => ?_)
        by_cases h0 : d = 0
        · subst h0
          exact termsOf_step (hts.below hW) rfl hkl (by decide) (by decide) (Lib.hid fun W' v' j t' k' _ _ _ h1 h2 => absurd h1 (by omega))
        · have e : (d : Int) - 1 = ((d - 1 : Nat) : Int) := by omega
          rw [e]
          exact (ih (d - 1) (by omega) (by omega)).2 W K l c' (hts.below hW) hkl
    refine ⟨hT, fun w A l c hl hll => termsOf_step hl rfl hll (by omega) (by omega) (Lib.hid fun W v j t k _ _ ht h1 h2 => ?_)⟩
    obtain ⟨k', rfl⟩ : ∃ k' : Nat, k = (k' : Int) := ⟨k.toNat, by omega⟩
    by_cases hk : k' = d
    · subst hk; exact hT W v t ht
    · exact (ih k' (by omega) (by omega)).1 W v t ht
/-- Whether a list is more than 3000. -/
theorem terms_great {w : World} {A : Option Addr} {l : List Tm} {c : Nat} (hl : TmsAt w A l) (hll : l.length ≤ 140737488355328) : ∃ k : Int, ((3000 : Int) < k ↔ 3000 < wtL l) ∧ ∀ (W : World), Below w.heap.size w W → Calls Tryz.prog 14 #[.slice A l.length c, .int .i64 3000] W (SaysI W k) := by
  have hf : FitsL l := fitsL_of fun j t hj => by
    obtain ⟨_, _, _, _, _, _, _, _, ht⟩ := hl j t hj
    exact ht.fits
  have h := cnt_Ts l (Cnt.nil (m := 3000) (by decide)) (by decide) (by decide) hf
  rw [Nat.zero_add] at h
  refine ⟨cTs l 0 3000, ⟨fun hk => ?_, fun hk => h.2.2.2 (by omega)⟩, fun W hW => (count_both 3000 (Nat.le_refl _)).2 W A l c (hl.below hW) hll⟩
  rcases Nat.lt_or_ge 3000 (wtL l) with h1 | h1
  · exact h1
  · have := h.2.2.1 (by omega)
    omega
end Go.Proofs.YtlikpnaffpngiaaGreatDoor

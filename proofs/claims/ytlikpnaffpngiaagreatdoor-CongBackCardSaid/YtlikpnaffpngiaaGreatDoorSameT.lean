/- whetstonekit.SameInt, SameTerm, SameTerms over numbers and terms in memory, whatever they are: whether they are the same. Condition: at most 1000000 digits a number of the first. -/
import Derived.Test.YtlikpnaffpngiaaGreatDoorCountL
import Derived.Test.YtlikpnaffpngiaaGreatDoorSame
set_option linter.unusedVariables false
set_option linter.unusedSimpArgs false
namespace Go.Proofs.YtlikpnaffpngiaaGreatDoor
open Go.RowKit

theorem bytes_is {a b : ByteArray} (h : a.toList = b.toList) : a = b := by
  rw [ByteArray.toList_eq, ByteArray.toList_eq] at h
  obtain ⟨⟨x⟩⟩ := a
  obtain ⟨⟨y⟩⟩ := b
  simp at h
  rw [h]
theorem bytes_no {a b : ByteArray} (h : ¬ a = b) : (a.toList == b.toList) = false := beq_eq_false_iff_ne.2 fun e => h (bytes_is e)
theorem bool_no {r : Bool} {p : Prop} (h : r = true ↔ p) (hp : ¬ p) : r = false := by
  cases r with
  | false => rfl
  | true => exact absurd (h.1 rfl) hp
set_option maxRecDepth 100000 in
set_option maxHeartbeats 1600000 in
theorem sameInt_t {w : World} {A1 A2 : Option Addr} {c1 c2 : Nat} {b1 b2 : Bool} {xs ys : List Nat} (r1 : Row w A1 (u32s xs)) (r2 : Row w A2 (u32s ys)) (hl : xs.length ≤ 1000000) (r : Bool) (hr : r = true ↔ b1 = b2 ∧ xs = ys) :
    Calls Tryz.prog 21 #[.agg #[.bool b1, .slice A1 xs.length c1], .agg #[.bool b2, .slice A2 ys.length c2]] w (SaysB w r) := by
  by_cases hb : b1 = b2
  · subst hb
    have hsm : ∀ (W : World), Below w.heap.size w W → Calls Tryz.prog 36 #[.slice A1 xs.length c1, .slice A2 ys.length c2] W fun e w' => e = .returned (.bool r) ∧ Drawn W w' := fun W hW => by
      by_cases hx : xs = ys
      · subst hx
        rw [hr.2 ⟨rfl, rfl⟩]
        exact same_yes0 (r1.below hW) (r2.below hW) hl
      · rw [bool_no hr fun h => hx h.2]
        exact same_no0 (r1.below hW) (r2.below hW) hl hx
    have HSM := Lib.hid hsm
    clear hsm r1 r2 hl hr
    go_enter Tryz.func21, Tryz.ntmps21
    go_wp2_with fail
    refine (HSM.out _ (bal (bal (Below.refl _ _) _) _)).mono ?_
    rintro e w1 ⟨rfl, hd⟩
    have hb := bstep (bal (bal (Below.refl w.heap.size w) _) _) hd.below
    clear hd
    go_wp2
    go_ret
    exact ⟨rfl, hb⟩
  · have hbf : (b1 == b2) = false := by simpa using hb
    have hrf := bool_no hr fun h => hb h.1
    subst hrf
    clear hr r1 r2 hl hb
    go_enter Tryz.func21, Tryz.ntmps21
    go_wp2_with fail
    go_ret
    exact ⟨rfl, bal (bal (Below.refl _ _) _) _⟩

set_option maxRecDepth 100000 in
set_option maxHeartbeats 3200000 in
theorem sameTerm_step {w : World} {k1 k2 : Int} {s1 s2 : ByteArray} {b1 b2 : Bool} {ds1 ds2 : List Nat} {l1 l2 : List Tm} {A1 A2 K1 K2 : Option Addr} {c1 c1' c2 c2' : Nat} (r1 : Row w A1 (u32s ds1)) (r2 : Row w A2 (u32s ds2)) (hl : ds1.length ≤ 1000000) (r4 : Bool)
    (H4 : Hid (∀ W, Below w.heap.size w W → Calls Tryz.prog 22 #[.slice K1 l1.length c1', .slice K2 l2.length c2'] W (SaysB W r4))) (r : Bool) (hr : r = true ↔ k1 = k2 ∧ s1 = s2 ∧ (b1 = b2 ∧ ds1 = ds2) ∧ r4 = true) :
    Calls Tryz.prog 7 #[.agg #[.int .u8 k1, .string s1, .bool b1, .slice A1 ds1.length c1, .slice K1 l1.length c1'], .agg #[.int .u8 k2, .string s2, .bool b2, .slice A2 ds2.length c2, .slice K2 l2.length c2']] w (SaysB w r) := by
  by_cases hk : k1 = k2
  · subst hk
    by_cases hs : s1 = s2
    · subst hs
      obtain ⟨q, hq⟩ : ∃ q : Bool, q = true ↔ b1 = b2 ∧ ds1 = ds2 := by
        by_cases h : b1 = b2 ∧ ds1 = ds2
        · exact ⟨true, fun _ => h, fun _ => rfl⟩
        · exact ⟨false, (by simp), fun h' => absurd h' h⟩
      have hin : ∀ (W : World), Below w.heap.size w W → Calls Tryz.prog 21 #[.agg #[.bool b1, .slice A1 ds1.length c1], .agg #[.bool b2, .slice A2 ds2.length c2]] W (SaysB W q) := fun W hW => sameInt_t (r1.below hW) (r2.below hW) hl q hq
      have HIN := Lib.hid hin
      clear hin r1 r2 hl
      by_cases hqt : q = true
      · have hr4 : r = r4 := by
          have h1 := hq.1 hqt
          cases r4 with
          | true => exact hr.2 ⟨rfl, rfl, h1, rfl⟩
          | false => exact bool_no hr fun h => by cases h.2.2.2
        subst hqt
        subst hr4
        clear hq hr
        go_enter Tryz.func7, Tryz.ntmps7
        go_wp2_with fail
        refine (HIN.out _ (bal (bal (Below.refl _ _) _) _)).mono ?_
        rintro e w1 ⟨rfl, hd⟩
        have g1 := (hd.block w.heap.size (by simp <;> omega)).trans ((Below.heap_alloc _ _ _ (by simp <;> omega)).trans (new_at (by simp)))
        have g2 := (hd.block (w.heap.size + 1) (by simp)).trans (new_at (by simp))
        have m4 : w1.cell? ⟨w.heap.size, 4, none⟩ = some (.slice K1 l1.length c1') := by simp [World.cell?, g1]
        have m5 : w1.cell? ⟨w.heap.size + 1, 4, none⟩ = some (.slice K2 l2.length c2') := by simp [World.cell?, g2]
        have HB := Lib.hid (bstep (bal (bal (Below.refl w.heap.size w) _) _) hd)
        clear hd g1 g2
        go_wp2_with fail
        refine (H4.out _ HB.out).mono ?_
        rintro e w2 ⟨rfl, hd⟩
        have HB2 := Lib.hid (bstep HB.out hd)
        clear hd m4 m5
        go_wp2
        go_ret
        exact ⟨rfl, HB2.out⟩
      · have hrf : r = false := bool_no hr fun h => hqt (hq.2 h.2.2.1)
        have hqf : q = false := by simpa using hqt
        subst hrf
        subst hqf
        clear hq hr hqt
        go_enter Tryz.func7, Tryz.ntmps7
        go_wp2_with fail
        refine (HIN.out _ (bal (bal (Below.refl _ _) _) _)).mono ?_
        rintro e w1 ⟨rfl, hd⟩
        have HB := Lib.hid (bstep (bal (bal (Below.refl w.heap.size w) _) _) hd)
        clear hd
        go_wp2
        go_ret
        exact ⟨rfl, HB.out⟩
    · have hsb := bytes_no hs
      have hrf := bool_no hr fun h => hs h.2.1
      have HSB := Lib.hid hsb
      subst hrf
      clear hr r1 r2 hl H4 hsb hs
      go_enter Tryz.func7, Tryz.ntmps7
      go_wp2_with fail
      · exfalso
        have hsb := HSB.out
        simp_all
      · go_ret
        exact ⟨rfl, bal (bal (Below.refl _ _) _) _⟩
  · have hkb : (k1 == k2) = false := by simpa using hk
    have hrf := bool_no hr fun h => hk h.1
    subst hrf
    clear hr r1 r2 hl H4
    go_enter Tryz.func7, Tryz.ntmps7
    go_wp2_with fail
    go_ret
    exact ⟨rfl, bal (bal (Below.refl _ _) _) _⟩
end Go.Proofs.YtlikpnaffpngiaaGreatDoor

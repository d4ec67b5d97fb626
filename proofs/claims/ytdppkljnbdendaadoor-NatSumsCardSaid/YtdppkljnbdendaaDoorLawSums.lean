/- The law NatSums, walked: of any list of rows nat.Add and the document's Add, nat.Mul and the document's Mul tell the same. Premises: the table of powers of ten reads as it is laid; DivMod's one example. -/
import Derived.Test.YtdppkljnbdendaaDoorAwake
import Derived.Test.YtdppkljnbdendaaDoorFew
import Derived.Test.YtdppkljnbdendaaDoorFoldMul
import Derived.Test.YtdppkljnbdendaaDoorAdd
import Derived.Test.YtdppkljnbdendaaDoorRefMul
namespace Go.Proofs.YtdppkljnbdendaaDoor
open Go.RowKit

theorem foldl_add_le {P : Nat} : ∀ (l : List Nat) (a : Nat), (∀ x ∈ l, x < P) → l.foldl (fun a b => a + b) a ≤ a + l.length * P := by
  intro l
  induction l with
  | nil => intro a _; simp
  | cons x l ih =>
    intro a h
    have h1 := ih (a + x) fun y hy => h y (List.mem_cons_of_mem _ hy)
    have h2 := h x (List.mem_cons_self ..)
    rw [List.foldl_cons, List.length_cons, Nat.add_mul, Nat.one_mul]
    omega
theorem foldl_mul_le {P : Nat} : ∀ (l : List Nat) (a : Nat), (∀ x ∈ l, x < P) → l.foldl (fun a b => a * b) a ≤ a * P ^ l.length := by
  intro l
  induction l with
  | nil => intro a _; simp
  | cons x l ih =>
    intro a h
    have h1 := ih (a * x) fun y hy => h y (List.mem_cons_of_mem _ hy)
    have h2 := h x (List.mem_cons_self ..)
    rw [List.foldl_cons, List.length_cons, Nat.pow_succ]
    refine Nat.le_trans h1 ?_
    rw [Nat.mul_assoc, Nat.mul_comm (P ^ l.length) P]
    exact Nat.mul_le_mul_left _ (Nat.mul_le_mul_right _ (Nat.le_of_lt h2))
theorem vals_lt {L : List Arow} {P : Nat} (h : ∀ r ∈ L, val r.2.2 < P) {k : Nat} : ∀ x ∈ (vals L).take k, x < P := fun x hx => by
  obtain ⟨r, hr, rfl⟩ := List.mem_map.1 (List.mem_of_mem_take hx)
  exact h r hr
theorem sums_bound {L : List Arow} {M : Nat} (h8 : L.length ≤ 8) (h : ∀ r ∈ L, val r.2.2 < 1000000000 ^ M) {k : Nat} : ((vals L).take k).foldl (fun a b => a + b) 0 < 1000000000 ^ (8 * M + 1) := by
  have h1 := foldl_add_le ((vals L).take k) 0 (vals_lt h)
  have hl : ((vals L).take k).length ≤ 8 := Nat.le_trans (by rw [List.length_take]; exact Nat.min_le_right _ _) (by simpa [vals] using h8)
  have h2 : ((vals L).take k).length * 1000000000 ^ M ≤ 8 * 1000000000 ^ M := Nat.mul_le_mul_right _ hl
  have h3 : (1000000000 : Nat) ^ M ≤ 1000000000 ^ (8 * M) := Nat.pow_le_pow_right (by decide) (by omega)
  have h4 : 0 < (1000000000 : Nat) ^ M := Nat.pow_pos (by decide)
  rw [Nat.pow_succ]
  omega
theorem prods_bound {L : List Arow} {M : Nat} (h8 : L.length ≤ 8) (h : ∀ r ∈ L, val r.2.2 < 1000000000 ^ M) {k : Nat} : ((vals L).take k).foldl (fun a b => a * b) 1 < 1000000000 ^ (8 * M + 1) := by
  have h1 := foldl_mul_le ((vals L).take k) 1 (vals_lt h)
  have hl : ((vals L).take k).length ≤ 8 := Nat.le_trans (by rw [List.length_take]; exact Nat.min_le_right _ _) (by simpa [vals] using h8)
  rw [Nat.one_mul, ← Nat.pow_mul] at h1
  refine Nat.lt_of_le_of_lt h1 (Nat.pow_lt_pow_right (by decide) ?_)
  have : M * ((vals L).take k).length ≤ M * 8 := Nat.mul_le_mul_left _ hl
  omega

set_option maxRecDepth 100000 in
set_option maxHeartbeats 8000000 in
theorem lawSums (hdm : DmEx) {A : Option Addr} {c : Nat} {L : List Arow} (w : World) (htab : Tab w) (hw : 3 ≤ w.heap.size) (hL : Row w A (L.map sl)) (hrs : ∀ r ∈ L, Row w r.1 (u32s r.2.2) ∧ small 4294967296 r.2.2) (hlen : L.length < 9223372036854775808) (hlens : ∀ r ∈ L, r.2.2.length < 9223372036854775808) :
    Calls Tryd.prog 4 #[.slice A L.length c] w fun e w' => e = .returned (.bool true) ∧ Below w.heap.size w w' := by
  have haw := awake_any hdm w htab hw
  have HA := Lib.hid haw
  clear haw hdm htab
  have hfew := fun (W : World) (hW : Below w.heap.size w W) => few_any (c := c) (hL.below hW) hlen hlens
  have HF := Lib.hid hfew
  clear hfew
  by_cases hsh : short L
  · have hR : Rows_ w A L := ⟨hL, fun r hr => ⟨(hrs r hr).1, (hrs r hr).2, by have := hsh.2 r hr; omega⟩⟩
    obtain ⟨M, hM1, hM2⟩ : ∃ M, M ≤ 41 ∧ 41 ≤ M := ⟨41, Nat.le_refl _, Nat.le_refl _⟩
    have hvl : ∀ r ∈ L, val r.2.2 < 1000000000 ^ M := fun r hr => Nat.lt_of_lt_of_le (val_lt32 (hrs r hr).2) (Nat.pow_le_pow_right (by decide) (by have := hsh.2 r hr; omega))
    have hrow : ∀ r ∈ L, r.2.2.length ≤ 1000 := fun r hr => by have := hsh.2 r hr; omega
    have hl := hsh.1
    have h1 := fun (W : World) (hW : Below w.heap.size w W) => add_any (c := c) (hR.below hW) (fun k _ => sums_bound hl hvl (k := k)) (by omega) (by omega)
    have h2 := fun (W : World) (hW : Below w.heap.size w W) => refAdd (c := c) (hR.below hW) hrow (fun k _ => sums_bound hl hvl (k := k)) (by omega) (by omega)
    have h3 := fun (W : World) (hW : Below w.heap.size w W) => mul_any (c := c) (hR.below hW) (fun k _ => prods_bound hl hvl (k := k)) (by omega) (by omega)
    have h4 := fun (W : World) (hW : Below w.heap.size w W) => refMul (c := c) (hR.below hW) hrow (fun k _ => prods_bound hl hvl (k := k)) (by omega) (by omega)
    have hs : (vals L).foldl (fun a b => a + b) 0 < 1000000000 ^ (8 * M + 1) := by
      have := sums_bound hl hvl (k := L.length)
      rwa [List.take_of_length_le (by simp [vals])] at this
    have hp : (vals L).foldl (fun a b => a * b) 1 < 1000000000 ^ (8 * M + 1) := by
      have := prods_bound hl hvl (k := L.length)
      rwa [List.take_of_length_le (by simp [vals])] at this
    obtain ⟨sv, hsv⟩ : ∃ sv, sv = (vals L).foldl (fun a b => a + b) 0 := ⟨_, rfl⟩
    obtain ⟨pv, hpv⟩ : ∃ pv, pv = (vals L).foldl (fun a b => a * b) 1 := ⟨_, rfl⟩
    rw [← hsv] at hs h1 h2
    rw [← hpv] at hp h3 h4
    have HSV := Lib.hid hs
    have HPV := Lib.hid hp
    have H1 := Lib.hid h1
    have H2 := Lib.hid h2
    have H3 := Lib.hid h3
    have H4 := Lib.hid h4
    have HSH := Lib.hid hsh
    have hM3 : 8 * M + 1 ≤ 1000000 := by omega
    clear h1 h2 h3 h4 hs hp hsv hpv hsh hrs hL hR hvl hrow hl hlen hlens hM1 hM2
    go_enter Tryd.func4, Tryd.ntmps4
    go_wp2_with fail
    refine HA.out.mono ?_
    rintro e w1 ⟨rfl, hb1⟩
    go_wp2_with fail
    refine (HF.out _ hb1).mono ?_
    rintro e w1' ⟨hf, rfl⟩
    rcases hf with ⟨_, rfl⟩ | ⟨hno, _⟩
    · go_wp2_with fail
      refine (H1.out _ hb1).mono ?_
      rintro e w2 ⟨v, rfl, ⟨ts, ht1, ht2, ht3⟩, hb2⟩
      have s1 := hb1.size
      have b2 := hb1.trans (hb2.mono s1)
      have htl : ts.length ≤ 1000000 := Nat.le_trans (right_length_le ht1 (by rw [ht2]; exact HSV.out)) hM3
      obtain ⟨A1, c1, rfl, hr1, _⟩ := ht3.slice32
      clear hb2
      go_wp2_with fail
      refine (H2.out _ b2).mono ?_
      rintro e w3 ⟨v, rfl, hu, hb3⟩
      obtain ⟨A2, c2, rfl, hr2⟩ := isNat_row hu ts ht1 ht2
      have s2 := b2.size
      have b3 := b2.trans (hb3.mono s2)
      have hr1' := hr1.below hb3
      clear hb3 hb1 hr1 ht3 hu b2
      go_wp2_with fail
      refine (same_yes hr1' hr2 htl).mono ?_
      rintro e w4 ⟨rfl, hd4⟩
      have b4 : Below w.heap.size w w4 := b3.trans (hd4.below.mono b3.size)
      clear hd4 b3 hr1' hr2
      go_wp2_with fail
      refine (H3.out _ b4).mono ?_
      rintro e w5 ⟨v, rfl, ⟨qs, hq1, hq2, hq3⟩, hb5⟩
      have s4 := b4.size
      have b5 := b4.trans (hb5.mono s4)
      have hql : qs.length ≤ 1000000 := Nat.le_trans (right_length_le hq1 (by rw [hq2]; exact HPV.out)) hM3
      obtain ⟨A3, c3, rfl, hr3, _⟩ := hq3.slice32
      clear hb5 b4
      go_wp2_with fail
      refine (H4.out _ b5).mono ?_
      rintro e w6 ⟨v, rfl, hu, hb6⟩
      obtain ⟨A4, c4, rfl, hr4⟩ := isNat_row hu qs hq1 hq2
      have s5 := b5.size
      have b6 := b5.trans (hb6.mono s5)
      have hr3' := hr3.below hb6
      clear hb6 hr3 hq3 hu b5
      go_wp2_with fail
      refine (same_yes hr3' hr4 hql).mono ?_
      rintro e w7 ⟨rfl, hd7⟩
      have b7 : Below w.heap.size w w7 := b6.trans (hd7.below.mono b6.size)
      clear hd7 b6 hr3' hr4
      go_wp2
      go_returns
      exact ⟨rfl, b7⟩
    · exact absurd HSH.out hno
  · have HSH := Lib.hid hsh
    clear hsh
    go_enter Tryd.func4, Tryd.ntmps4
    go_wp2_with fail
    refine HA.out.mono ?_
    rintro e w1 ⟨rfl, hb1⟩
    go_wp2_with fail
    refine (HF.out _ hb1).mono ?_
    rintro e w1' ⟨hf, rfl⟩
    rcases hf with ⟨hyes, _⟩ | ⟨_, rfl⟩
    · exact absurd hyes HSH.out
    · go_wp2
      go_returns
      exact ⟨rfl, hb1⟩
end Go.Proofs.YtdppkljnbdendaaDoor

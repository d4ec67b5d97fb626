/- Package term's leave: the sort of a part out of its kids', or what is thrown. No condition but of sizes. -/
import Derived.Test.YtponkpiahgoohaaGreatDoorSVar
import Derived.Test.YtponkpiahgoohaaGreatDoorSEnter
import Derived.Deep.RegionHeld2
set_option linter.unusedVariables false
set_option linter.unusedSimpArgs false
namespace Go.Proofs.YtponkpiahgoohaaGreatDoor
open Go.RowKit

theorem add_nought (p : Addr) : p.add 0 = p := by unfold Addr.add; simp
/-- Where the sorter reads: its datas and its scope. -/
structure SorterAt (w : World) (gs : Nat) (D : List DtT) (S : List (ByteArray × ByteArray)) : Prop where
  datas : ∃ v, w.cell? ⟨gs, 2, none⟩ = some v ∧ DatasV w v D
  scope : ∃ v, w.cell? ⟨gs, 3, none⟩ = some v ∧ ScopeV w v S
  few : DFew D
  fewS : S.length ≤ 1000000
theorem SorterAt.sub {w w' : World} {gs : Nat} {D : List DtT} {S : List (ByteArray × ByteArray)} (h : SorterAt w gs D S) (hb : Sub w w') : SorterAt w' gs D S := by
  obtain ⟨⟨v, h1, h2⟩, ⟨u, h3, h4⟩, h5, h6⟩ := h
  exact ⟨⟨v, hb _ _ h1, h2.sub hb⟩, ⟨u, hb _ _ h3, h4.sub hb⟩, h5, h6⟩
theorem lv_else {D : List DtT} {S : List (ByteArray × ByteArray)} {k : Int} {name : ByteArray} {kids : List ByteArray} (h1 : k ≠ 1) (h2 : ¬ (k = 2 ∨ k = 5 ∨ k = 6)) (h9 : k ≠ 9) (h8 : k ≠ 8) (h7 : k ≠ 7) : lvK D S k name kids = madeK sBool sBool kids := by
  unfold lvK
  rw [if_neg h1, if_neg h2, if_neg h9, if_neg h8, if_neg h7]
set_option maxRecDepth 100000 in
set_option maxHeartbeats 6400000 in
theorem leave_ok {w : World} {gs : Nat} {ad : Addr} {t : Tm} {K : Option Addr} {c : Nat} {kids : List ByteArray} {D : List DtT} {S : List (ByteArray × ByteArray)} (hs : SorterAt w gs D S) (h : PtrTm w ad t) (hr : Row w K (kids.map Value.string)) (hl : kids.length ≤ 1000000) (h78 : t.kind = 7 ∨ t.kind = 8 → kids ≠ []) :
    Calls Tryz.prog 67 #[.pointer (some ⟨gs, 0, none⟩), .pointer (some ad), .slice K kids.length c] w fun e w' => SortRet (lvK D S t.kind t.name kids) e ∧ Below w.heap.size w w' := by
  obtain ⟨A, K0, c0', c', c0, c1, -, -, -, -, -, -, -, hnm⟩ := ptr_cells h
  obtain ⟨kind, hkd⟩ : ∃ kind, kind = t.kind := ⟨_, rfl⟩
  obtain ⟨name, hname⟩ : ∃ name, name = t.name := ⟨_, rfl⟩
  obtain ⟨n, hn⟩ : ∃ n, n = kids.length := ⟨_, rfl⟩
  rw [← hkd] at c0 h78 ⊢
  rw [← hname] at c1 hnm ⊢
  rw [← hn]
  have HN := Lib.hid hn
  have HM := Lib.hid (fun (to frm : ByteArray) (W : World) (hW : Row W K (kids.map Value.string)) => by
    have := made_ok (w := W) (to := to) (frm := frm) (c := c) hW hl
    rw [← hn] at this
    exact this)
  have HR := Lib.hid hr
  have hn1 : n ≤ 1000000 := by omega
  obtain ⟨⟨vD, hg, hv⟩, ⟨vS, hs3, hS⟩, hf, hfS⟩ := hs
  clear hkd hname hn hl h
  by_cases h1 : kind = 1
  · subst h1
    have HE := Lib.hid (show lvK D S 1 name kids = varK D S name from by unfold lvK; rw [if_pos rfl])
    rw [HE.out]
    have HV := Lib.hid (variable_ok (x := name) hg hv hs3 hS hf.datas hfS)
    clear hg hv hs3 hS hf hfS hr
    go_enter Tryz.func67, Tryz.ntmps67
    go_wp2_with fail
    refine HV.out.mono ?_
    rintro e w1 ⟨⟨s, hs, rfl⟩ | ⟨hs, m, hm, rfl⟩, hb⟩
    · have HO := Lib.hid (show _ ∧ _ from ⟨hs, hb⟩)
      clear hs hb
      go_wp2
      go_returns
      exact ⟨.inl ⟨s, HO.out.1, rfl⟩, HO.out.2⟩
    · have HO := Lib.hid (show _ ∧ _ ∧ _ from ⟨hs, hm, hb⟩)
      clear hs hb hm
      go_wp2
      exact ⟨rfl, .inr ⟨HO.out.1, m, HO.out.2.1, rfl⟩, HO.out.2.2⟩
  have q1 : (kind == 1) = false := by rw [beq_eq_false_iff_ne]; exact h1
  by_cases h2 : kind = 2 ∨ kind = 5 ∨ kind = 6
  · have HE := Lib.hid (show lvK D S kind name kids = madeK sInt sInt kids from by unfold lvK; rw [if_neg h1, if_pos h2])
    rw [HE.out]
    have HV := Lib.hid (HM.out sInt sInt w hr)
    clear hg hv hs3 hS hf hfS hr
    rcases h2 with rfl | rfl | rfl
    all_goals go_enter Tryz.func67, Tryz.ntmps67
    all_goals go_wp2_with fail
    all_goals refine HV.out.mono ?_
    all_goals rintro e w1 ⟨rfl, ⟨s, hs, rfl⟩ | ⟨hs, m, hm, rfl⟩⟩
    all_goals have HO := Lib.hid hs
    all_goals clear hs
    all_goals try have HO2 := Lib.hid hm
    all_goals try clear hm
    all_goals go_wp2
    all_goals try go_returns
    all_goals first | exact ⟨.inl ⟨s, HO.out, rfl⟩, Below.refl _ _⟩ | exact ⟨rfl, .inr ⟨HO.out, m, HO2.out, rfl⟩, Below.refl _ _⟩
  have q2 : (kind == 2) = false := by rw [beq_eq_false_iff_ne]; omega
  have q5 : (kind == 5) = false := by rw [beq_eq_false_iff_ne]; omega
  have q6 : (kind == 6) = false := by rw [beq_eq_false_iff_ne]; omega
  by_cases h9 : kind = 9
  · subst h9
    have HE := Lib.hid (show lvK D S 9 name kids = madeK sBool sInt kids from by unfold lvK; rw [if_neg h1, if_neg h2, if_pos rfl])
    rw [HE.out]
    have HV := Lib.hid (HM.out sBool sInt w hr)
    clear hg hv hs3 hS hf hfS hr
    go_enter Tryz.func67, Tryz.ntmps67
    go_wp2_with fail
    refine HV.out.mono ?_
    rintro e w1 ⟨rfl, ⟨s, hs, rfl⟩ | ⟨hs, m, hm, rfl⟩⟩
    · have HO := Lib.hid hs
      clear hs
      go_wp2
      go_returns
      exact ⟨.inl ⟨s, HO.out, rfl⟩, Below.refl _ _⟩
    · have HO := Lib.hid (show _ ∧ _ from ⟨hs, hm⟩)
      clear hs hm
      go_wp2
      exact ⟨rfl, .inr ⟨HO.out.1, m, HO.out.2, rfl⟩, Below.refl _ _⟩
  have q9 : (kind == 9) = false := by rw [beq_eq_false_iff_ne]; exact h9
  by_cases h8 : kind = 8
  · subst h8
    obtain ⟨s0, rest, hk⟩ : ∃ s0 rest, kids = s0 :: rest := by
      cases kids with
      | nil => exact absurd rfl (h78 (.inr rfl))
      | cons s r => exact ⟨s, r, rfl⟩
    obtain ⟨ak, rfl, hc0⟩ := hr 0 (.string s0) (by rw [hk]; rfl)
    rw [add_nought] at hc0
    have i0 : (0 : Int) < n := by
      have := HN.out
      rw [hk, List.length_cons] at this
      omega
    have HE := Lib.hid (show lvK D S 8 name kids = if s0 = sBool then none else madeK sBool s0 kids from by
      unfold lvK; rw [if_neg h1, if_neg h2, if_neg h9, if_pos rfl, hk])
    have HV := Lib.hid (HM.out sBool s0 w hr)
    clear hg hv hs3 hS hf hfS hr hk h78
    by_cases hb : s0 = sBool
    · rw [HE.out, if_pos hb]
      have qb : (s0.toList == [98, 111, 111, 108]) = true := by rw [hb, bool_list]; rfl
      clear hb HV
      go_enter Tryz.func67, Tryz.ntmps67
      go_wp2_with fail
      refine need_no.mono ?_
      rintro e w1 ⟨rfl, rfl⟩
      go_wp2
      exact ⟨rfl, .inr ⟨rfl, 23, by decide, rfl⟩, Below.refl _ _⟩
    · rw [HE.out, if_neg hb]
      have qb : (s0.toList == [98, 111, 111, 108]) = false := by rw [← bool_list]; exact bytes_no hb
      clear hb HE
      go_enter Tryz.func67, Tryz.ntmps67
      go_wp2_with fail
      refine need_yes.mono ?_
      rintro e w1 ⟨rfl, rfl⟩
      go_wp2_with fail
      refine HV.out.mono ?_
      rintro e w1 ⟨rfl, ⟨s, hs, rfl⟩ | ⟨hs, m, hm, rfl⟩⟩
      · have HO := Lib.hid hs
        clear hs
        go_wp2
        go_returns
        exact ⟨.inl ⟨s, HO.out, rfl⟩, Below.refl _ _⟩
      · have HO := Lib.hid (show _ ∧ _ from ⟨hs, hm⟩)
        clear hs hm
        go_wp2
        exact ⟨rfl, .inr ⟨HO.out.1, m, HO.out.2, rfl⟩, Below.refl _ _⟩
  have q8 : (kind == 8) = false := by rw [beq_eq_false_iff_ne]; exact h8
  by_cases h7 : kind = 7
  · subst h7
    obtain ⟨s0, rest, hk⟩ : ∃ s0 rest, kids = s0 :: rest := by
      cases kids with
      | nil => exact absurd rfl (h78 (.inl rfl))
      | cons s r => exact ⟨s, r, rfl⟩
    obtain ⟨ak, rfl, hc0⟩ := hr 0 (.string s0) (by rw [hk]; rfl)
    rw [add_nought] at hc0
    have i0 : (0 : Int) < n := by
      have := HN.out
      rw [hk, List.length_cons] at this
      omega
    have HE := Lib.hid (show lvK D S 7 name kids = appK D name s0 from by
      unfold lvK; rw [if_neg h1, if_neg h2, if_neg h9, if_neg h8, if_pos rfl, hk])
    rw [HE.out]
    have HV := Lib.hid (fun W (hW : Below w.heap.size w W) => (applied_ok (w := W) (kid := s0) ((hW.cell (cell_lt hg)).trans hg) (hv.sub (sub_below hW)) hf hnm).mono fun e w' h => (show (_ ∨ _) ∧ Below w.heap.size w w' from ⟨Or.symm h.1, hW.trans (h.2.mono hW.size)⟩))
    have HKK := Lib.hid (fun w' (h : Below w.heap.size w w') => (show w'.cell? { block := ad.block, off := ad.off + 1 } = some (.string name) ∧ w'.cell? ak = some (.string s0) from ⟨(h.cell (cell_lt c1)).trans c1, (h.cell (cell_lt hc0)).trans hc0⟩))
    clear hg hv hs3 hS hf hfS hr hk h78
    go_enter Tryz.func67, Tryz.ntmps67
    go_wp2_with fail
    have i0n : 0 < n := by omega
    have i00 : (0 : Int) ≤ 0 := Int.le_refl _
    go_region_held2 (fun w' => w'.cell? { block := ad.block, off := ad.off + 1 } = some (.string name) ∧ w'.cell? ak = some (.string s0)) (first | exact HKK.out _ HO.out.2 | go_keep)
      ((go_at_call 83; refine (HV.out w.drew ((Below.refl w.heap.size w).drew)).mono ?_; rintro e w1 ⟨⟨hs, m, hm, rfl⟩ | ⟨s, hs, rfl⟩, hb⟩; exact ⟨rfl, Or.inr ⟨hs, m, hm, rfl⟩, hb⟩; have HO := Lib.hid (show _ ∧ _ from ⟨hs, hb⟩); clear hs hb))
    all_goals go_wp2
    all_goals go_returns
    all_goals exact ⟨.inl ⟨s, HO.out.1, rfl⟩, HO.out.2⟩
  have q7 : (kind == 7) = false := by rw [beq_eq_false_iff_ne]; exact h7
  have HE := Lib.hid (lv_else (D := D) (S := S) (name := name) (kids := kids) h1 h2 h9 h8 h7)
  rw [HE.out]
  have HV := Lib.hid (HM.out sBool sBool w hr)
  clear hg hv hs3 hS hf hfS hr h1 h2 h9 h8 h7
  go_enter Tryz.func67, Tryz.ntmps67
  go_wp2_with fail
  refine HV.out.mono ?_
  rintro e w1 ⟨rfl, ⟨s, hs, rfl⟩ | ⟨hs, m, hm, rfl⟩⟩
  · have HO := Lib.hid hs
    clear hs
    go_wp2
    go_returns
    exact ⟨.inl ⟨s, HO.out, rfl⟩, Below.refl _ _⟩
  · have HO := Lib.hid (show _ ∧ _ from ⟨hs, hm⟩)
    clear hs hm
    go_wp2
    exact ⟨rfl, .inr ⟨HO.out.1, m, HO.out.2, rfl⟩, Below.refl _ _⟩
end Go.Proofs.YtponkpiahgoohaaGreatDoor

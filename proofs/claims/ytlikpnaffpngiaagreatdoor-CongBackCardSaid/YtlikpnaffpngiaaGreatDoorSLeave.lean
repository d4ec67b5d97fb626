/- num.Right of any number; whether the sorter lets a part in. Condition: at most 1000000 digits. Package term's enter: is a part let in, or what is thrown. Condition: at most 1000000 digits, 1000000 kids. Package term's leave: the sort of a part out of its kids', or what is thrown. No condition but of sizes. -/
import Derived.Test.YtlikpnaffpngiaaGreatDoorSWords
import Derived.Test.YtlikpnaffpngiaaGreatDoorSVar
import Derived.Deep.RegionHeld2
set_option linter.unusedVariables false
set_option linter.unusedSimpArgs false
namespace Go.Proofs.YtlikpnaffpngiaaGreatDoor
open Go.RowKit

def RightRet (xs : List Nat) (e : Ending) : Prop := (right xs ∧ e = .returned (.bool true)) ∨ (¬ right xs ∧ e = .returned (.bool false))

set_option maxRecDepth 100000 in
set_option maxHeartbeats 1000000 in
theorem right_any {w : World} {A : Option Addr} {c : Nat} {xs : List Nat} (hr : Row w A (u32s xs)) (hd : small 4294967296 xs) (hlen : xs.length ≤ 1000000) :
    Calls Tryz.prog 90 #[.slice A xs.length c] w fun e w' => RightRet xs e ∧ w = w' := by
  obtain ⟨n, hn⟩ : ∃ n, n = xs.length := ⟨_, rfl⟩
  have hn1 : n ≤ 1000000 := by omega
  rw [← hn]
  have HN := Lib.hid hn
  clear hn hlen
  go_enter Tryz.func90, Tryz.ntmps90
  go_wp2
  go_loop [7] (fun iv => ∃ k : Nat, k ≤ n ∧ iv = .int .i64 (k : Int) ∧ Hid (small 1000000000 (xs.take k))) (fun iv => n - (intOf iv).toNat)
  case atStart => exact ⟨0, Nat.zero_le _, rfl, small_nil _⟩
  case round =>
    obtain ⟨k, hk, rfl, HS⟩ := hrel
    by_cases hlt : k < n
    · obtain ⟨ad, x, rfl, hc, hx, hm⟩ := hr.dig (k := k) (by rw [← HN.out]; exact hlt)
      have hx32 := hd x hm
      have HM := Lib.hid hm
      have HST : Hid (xs.take (k + 1) = xs.take k ++ [x]) := by
        have hkx : k < xs.length := by rw [← HN.out]; exact hlt
        show _ = _
        rw [List.take_add_one, List.getElem?_eq_getElem hkx, ← hx.out, List.getD_eq_getElem?_getD, List.getElem?_eq_getElem hkx]; rfl
      clear hm
      by_cases hb : 1000000000 ≤ x
      · have hbd : decide ((1000000000 : Int) ≤ (x : Int)) = true := by rw [decide_eq_true_eq]; omega
        have HB := Lib.hid hb
        clear hb
        go_wp2
        go_ret
        exact ⟨.inr ⟨fun h => by have := h.1 x HM.out; have := HB.out; omega, rfl⟩, rfl⟩
      · have hbd : decide ((1000000000 : Int) ≤ (x : Int)) = false := by rw [decide_eq_false_iff_not]; omega
        have HB := Lib.hid (Nat.lt_of_not_le hb)
        clear hb
        go_wp2
        go_round
        case rel => exact ⟨k + 1, by omega, by go_num, by
          show small 1000000000 (xs.take (k + 1))
          rw [HST.out]; exact small_snoc HS.out HB.out⟩
        case measure => simp [intOf]; omega
    · have hkn : k = n := by omega
      have hsm : small 1000000000 xs := by
        have := HS.out
        rw [hkn, HN.out, List.take_length] at this; exact this
      have HSM := Lib.hid hsm
      clear hkn hsm
      by_cases h0 : n = 0
      · have hl0 : ((n : Int) == 0) = true := by rw [h0]; rfl
        have hx0 : xs = [] := List.eq_nil_of_length_eq_zero (by rw [← HN.out]; exact h0)
        have HX := Lib.hid hx0
        clear h0 hx0
        go_wp2
        go_ret
        exact ⟨.inl ⟨⟨HSM.out, .inl HX.out⟩, rfl⟩, rfl⟩
      · have hl0 : ((n : Int) == 0) = false := by rw [beq_eq_false_iff_ne]; omega
        obtain ⟨ad, x, rfl, hc, hx, hm⟩ := hr.dig (k := n - 1) (by rw [← HN.out]; omega)
        have hx32 := hd x hm
        have hlast : xs.getLast? = some x := by
          rw [List.getLast?_eq_getElem?, ← HN.out, List.getElem?_eq_getElem (by rw [← HN.out]; omega), ← hx.out, List.getD_eq_getElem?_getD, List.getElem?_eq_getElem (by rw [← HN.out]; omega)]; rfl
        have HL := Lib.hid hlast
        have hne : xs ≠ [] := fun h => h0 (by rw [HN.out, h]; rfl)
        have HNE := Lib.hid hne
        have hn1' : 1 ≤ n := by omega
        clear hlast hne hm h0
        by_cases hx0 : x = 0
        · have ht : ((x : Int) != 0) = false := by rw [bne_eq_false_iff_eq]; omega
          have HX := Lib.hid hx0
          clear hx0
          go_wp2
          go_ret
          exact ⟨.inr ⟨fun h => by
            rcases h.2 with h1 | h1
            · exact HNE.out h1
            · exact h1 (by rw [HL.out, HX.out]), by simp [HX.out]⟩, rfl⟩
        · have ht : ((x : Int) != 0) = true := by rw [bne_iff_ne]; omega
          have HX := Lib.hid hx0
          clear hx0
          go_wp2
          go_ret
          exact ⟨.inl ⟨⟨HSM.out, .inr (fun h => HX.out (by rw [HL.out] at h; injection h))⟩, by simp⟩, rfl⟩
set_option maxRecDepth 100000 in
set_option maxHeartbeats 1600000 in
theorem numRight_ok {w : World} {A : Option Addr} {c : Nat} {xs : List Nat} {b : Bool} (hr : Row w A (u32s xs)) (hd : small 4294967296 xs) (hl : xs.length ≤ 1000000) :
    Calls Tryz.prog 76 #[.agg #[.bool b, .slice A xs.length c]] w fun e w' => e = .returned (.bool (rightK b xs)) ∧ Below w.heap.size w w' := by
  have hR := fun (W : World) (hW : Below w.heap.size w W) => right_any (c := c) (hr.below hW) hd (by omega)
  have HR := Lib.hid hR
  clear hR hr hd hl
  by_cases h1 : right xs
  · by_cases h2 : xs = [] ∧ b = true
    · obtain ⟨rfl, rfl⟩ := h2
      have H1 := Lib.hid h1
      have HK := Lib.hid (show rightK true [] = false from by unfold rightK; rw [decide_eq_false_iff_not]; rintro ⟨_, h⟩; exact absurd (h rfl) (by decide))
      rw [HK.out]
      clear h1
      go_enter Tryz.func76, Tryz.ntmps76
      go_wp2_with fail
      refine (HR.out _ (bal (Below.refl _ _) _)).mono ?_
      rintro e w1 ⟨he, rfl⟩
      obtain rfl : e = .returned (.bool true) := by
        rcases he with ⟨_, he⟩ | ⟨hn, _⟩
        · exact he
        · exact absurd H1.out hn
      clear he HK
      go_wp2
      go_ret
      exact ⟨rfl, bal (Below.refl _ _) _⟩
    · have HK := Lib.hid (show rightK b xs = true from by
        refine rightK_iff.2 ⟨h1, fun h => ?_⟩
        cases b with
        | false => rfl
        | true => exact absurd ⟨h, rfl⟩ h2)
      rw [HK.out]
      have H1 := Lib.hid h1
      have hbl : (b && ((xs.length : Int) == 0)) = false := by
        cases b with
        | false => rfl
        | true =>
          rw [Bool.true_and, beq_eq_false_iff_ne]
          intro h
          exact h2 ⟨List.length_eq_zero_iff.1 (by omega), rfl⟩
      clear h1 h2 HK
      cases b with
      | false =>
        clear hbl
        go_enter Tryz.func76, Tryz.ntmps76
        go_wp2_with fail
        refine (HR.out _ (bal (Below.refl _ _) _)).mono ?_
        rintro e w1 ⟨he, rfl⟩
        obtain rfl : e = .returned (.bool true) := by
          rcases he with ⟨_, he⟩ | ⟨hn, _⟩
          · exact he
          · exact absurd H1.out hn
        clear he
        go_wp2
        go_ret
        exact ⟨rfl, bal (Below.refl _ _) _⟩
      | true =>
        rw [Bool.true_and] at hbl
        go_enter Tryz.func76, Tryz.ntmps76
        go_wp2_with fail
        refine (HR.out _ (bal (Below.refl _ _) _)).mono ?_
        rintro e w1 ⟨he, rfl⟩
        obtain rfl : e = .returned (.bool true) := by
          rcases he with ⟨_, he⟩ | ⟨hn, _⟩
          · exact he
          · exact absurd H1.out hn
        clear he
        go_wp2
        go_ret
        exact ⟨rfl, bal (Below.refl _ _) _⟩
  · have HK := Lib.hid (show rightK b xs = false from by unfold rightK; rw [decide_eq_false_iff_not]; exact fun h => h1 h.1)
    rw [HK.out]
    have H1 := Lib.hid h1
    clear h1 HK
    go_enter Tryz.func76, Tryz.ntmps76
    go_wp2_with fail
    refine (HR.out _ (bal (Below.refl _ _) _)).mono ?_
    rintro e w1 ⟨he, rfl⟩
    obtain rfl : e = .returned (.bool false) := by
      rcases he with ⟨hn, _⟩ | ⟨_, he⟩
      · exact absurd hn H1.out
      · exact he
    clear he
    go_wp2
    go_ret
    exact ⟨rfl, bal (Below.refl _ _) _⟩
end Go.Proofs.YtlikpnaffpngiaaGreatDoor

namespace Go.Proofs.YtlikpnaffpngiaaGreatDoor
open Go.RowKit

/-- A part at an address, by its five cells. -/
theorem ptr_cells {w : World} {ad : Addr} {t : Tm} (h : PtrTm w ad t) : ∃ A K c c', w.cell? ad = some (.int .u8 t.kind) ∧ w.cell? { block := ad.block, off := ad.off + 1 } = some (.string t.name) ∧ w.cell? { block := ad.block, off := ad.off + 2 } = some (.bool t.neg) ∧ w.cell? { block := ad.block, off := ad.off + 2 + 1 } = some (.slice A t.ds.length c) ∧ w.cell? { block := ad.block, off := ad.off + 3 } = some (.slice A t.ds.length c) ∧ w.cell? { block := ad.block, off := ad.off + 4 } = some (.slice K t.kids.length c') ∧ Row w A (u32s t.ds) ∧ small 4294967296 t.ds ∧ TmsAt w K t.kids ∧ t.name.size ≤ 140737488355328 := by
  obtain ⟨u0, u1, u2, u3, u4, ⟨h0, h1, h2, h3, h4⟩, ht⟩ := h
  obtain ⟨A, K, c, c', e, hk, hn, hr, hs, hd, hl, hK⟩ := ht.parts
  simp only [Value.agg.injEq, Array.mk.injEq, List.cons.injEq, and_true] at e
  obtain ⟨rfl, rfl, rfl, rfl, rfl⟩ := e
  rw [add_posK _ (by decide)] at h1 h2 h3 h4
  exact ⟨A, K, c, c', h0, h1, h2, h3, h3, h4, hr, hs, hK, hn⟩
/-- Let in, or an error thrown. -/
def EntRet (b : Bool) (e : Ending) : Prop := (b = true ∧ e = .returned (.tuple #[])) ∨ (b = false ∧ ∃ n : Int, n ≠ 0 ∧ e = .panicked [{ v := .iface 32 (.int .i64 n), recovered := false }])
set_option maxRecDepth 100000 in
set_option maxHeartbeats 3200000 in
/-- Behind the question of how many kids there are. -/
theorem enter_some {w : World} {ad : Addr} {t : Tm} (h : PtrTm w ad t) (hd : t.ds.length ≤ 1000000) (hl : t.kids.length ≤ 1000000) {o : Option Nat} (ho : manyK t.kind = some o) :
    Calls Tryz.prog 62 #[.pointer (some ad)] w fun e w' => EntRet (entK t) e ∧ Below w.heap.size w w' := by
  obtain ⟨A, K, c, c', c0, c1, c2, c3, c3', c4, hr, hs, hK, hn⟩ := ptr_cells h
  have HR := Lib.hid (show ∀ W, Below w.heap.size w W → Calls Tryz.prog 76 #[.agg #[.bool t.neg, .slice A t.ds.length c]] W fun e w' => e = .returned (.bool (rightK t.neg t.ds)) ∧ Below W.heap.size W w' from fun W hW => numRight_ok (hr.below hW) hs hd)
  have HQ := Lib.hid (kidsOf_ok (w := w) (k := t.kind))
  have HE := Lib.hid (show ∀ b : Bool, entK t = b ↔ (fitsN o t.kids.length && (!(decide (t.kind = 2) || decide (t.kind = 6)) || rightK t.neg t.ds)) = b from fun b => by unfold entK; rw [ho])
  have hmm : manyV (manyK t.kind) = .tuple #[.int .i64 (manyI o), .bool true] := by rw [ho]; rcases o with _ | n <;> rfl
  rw [hmm] at HQ
  obtain ⟨kind, hkd⟩ : ∃ kind, kind = t.kind := ⟨_, rfl⟩
  obtain ⟨nk, hnk⟩ : ∃ nk, nk = t.kids.length := ⟨_, rfl⟩
  obtain ⟨rb, hrb⟩ : ∃ rb, rb = rightK t.neg t.ds := ⟨_, rfl⟩
  rw [← hkd] at c0 HQ HE
  rw [← hnk] at c4 HE hl
  rw [← hrb] at HR HE
  obtain ⟨eb, heb⟩ : ∃ eb, eb = entK t := ⟨_, rfl⟩
  rw [← heb]
  rw [← heb] at HE
  clear heb hmm ho hkd hnk hrb c3' hr hs hK hn hd h
  have fin2 : ∀ W, Below w.heap.size w W → W.cell? ad = some (.int .u8 kind) ∧ W.cell? { block := ad.block, off := ad.off + 2 } = some (.bool t.neg) ∧ W.cell? { block := ad.block, off := ad.off + 2 + 1 } = some (.slice A t.ds.length c) := fun W hW => ⟨(hW.cell (cell_lt c0)).trans c0, (hW.cell (cell_lt c2)).trans c2, (hW.cell (cell_lt c3)).trans c3⟩
  clear fin2
  have HN := Lib.hid (need_yes (w := w))
  by_cases hm : fitsN o nk = true
  · -- as many kids as there must be
    have hq : (manyI o != -1) = false ∨ ((manyI o != -1) = true ∧ (manyI o != (nk : Int)) = false) := by
      rcases o with _ | n
      · exact .inl rfl
      · right
        have := of_decide_eq_true hm
        subst this
        exact ⟨by rw [bne_iff_ne]; show (n : Int) ≠ -1; omega, by rw [bne_eq_false_iff_eq]; rfl⟩
    have HM := Lib.hid hm
    obtain ⟨mv, hmv⟩ : ∃ mv : Int, mv = manyI o := ⟨_, rfl⟩
    rw [← hmv] at hq HQ
    clear hm hmv
    by_cases h2 : kind = 2 ∨ kind = 6
    · have hbb : ((kind == 2) = true) ∨ ((kind == 2) = false ∧ (kind == 6) = true) := by
        rcases h2 with rfl | rfl
        · exact .inl rfl
        · exact .inr ⟨rfl, rfl⟩
      have HB := Lib.hid (show eb = rb from by
        have := (HE.out eb).1 rfl
        rw [HM.out] at this
        rcases h2 with rfl | rfl
        · rw [← this]; cases rb <;> rfl
        · rw [← this]; cases rb <;> rfl)
      clear h2 HE HM
      rcases hq with hq | ⟨hq1, hq2⟩
      all_goals rcases hbb with hb1 | ⟨hb1, hb2⟩
      all_goals go_enter Tryz.func62, Tryz.ntmps62
      all_goals go_wp2_with fail
      all_goals refine HQ.out.mono ?_
      all_goals rintro e w1 ⟨rfl, rfl⟩
      all_goals go_wp2_with fail
      all_goals refine HN.out.mono ?_
      all_goals rintro e w2 ⟨rfl, rfl⟩
      all_goals go_wp2_with fail
      all_goals refine (HR.out _ (Below.refl _ _)).mono ?_
      all_goals rintro e w3 ⟨rfl, hb3⟩
      all_goals have HB3 := Lib.hid hb3
      all_goals clear hb3
      all_goals go_wp2_with fail
      all_goals refine need_any.mono ?_
      all_goals rintro e w4 ⟨rfl, ⟨he, rfl⟩ | ⟨he, rfl⟩⟩
      all_goals have HF := Lib.hid (HB.out.trans he)
      all_goals clear he
      all_goals go_wp2
      all_goals try go_returns
      all_goals first | exact ⟨.inl ⟨HF.out, rfl⟩, HB3.out⟩ | exact ⟨rfl, .inr ⟨HF.out, 23, by decide, rfl⟩, HB3.out⟩
    · have hb1 : (kind == 2) = false := by rw [beq_eq_false_iff_ne]; omega
      have hb2 : (kind == 6) = false := by rw [beq_eq_false_iff_ne]; omega
      have HB := Lib.hid (show eb = true from by
        have := (HE.out eb).1 rfl
        rw [HM.out, decide_eq_false (by omega : ¬ kind = 2), decide_eq_false (by omega : ¬ kind = 6)] at this
        rw [← this]; rfl)
      clear h2 HE HM
      rcases hq with hq | ⟨hq1, hq2⟩
      all_goals go_enter Tryz.func62, Tryz.ntmps62
      all_goals go_wp2_with fail
      all_goals refine HQ.out.mono ?_
      all_goals rintro e w1 ⟨rfl, rfl⟩
      all_goals go_wp2_with fail
      all_goals refine HN.out.mono ?_
      all_goals rintro e w2 ⟨rfl, rfl⟩
      all_goals go_wp2
      all_goals go_returns
      all_goals exact ⟨.inl ⟨HB.out, rfl⟩, Below.refl _ _⟩
  · -- other than as many
    obtain ⟨n, rfl, hne⟩ : ∃ n, o = some n ∧ n ≠ nk := by
      rcases o with _ | n
      · exact absurd rfl hm
      · exact ⟨n, rfl, fun h => hm (decide_eq_true h)⟩
    have hq1 : ((n : Int) != -1) = true := by rw [bne_iff_ne]; omega
    have hq2 : ((n : Int) != (nk : Int)) = true := by rw [bne_iff_ne]; omega
    have HB := Lib.hid (show eb = false from by
      have := (HE.out eb).1 rfl
      rw [show fitsN (some n) nk = false from decide_eq_false hne] at this
      rw [← this]; rfl)
    rw [show manyI (some n) = (n : Int) from rfl] at HQ
    clear hm hne HE
    go_enter Tryz.func62, Tryz.ntmps62
    go_wp2_with fail
    refine HQ.out.mono ?_
    rintro e w1 ⟨rfl, rfl⟩
    go_wp2_with fail
    refine HN.out.mono ?_
    rintro e w2 ⟨rfl, rfl⟩
    go_wp2
    exact ⟨rfl, .inr ⟨HB.out, 24, by decide, rfl⟩, Below.refl _ _⟩
set_option maxRecDepth 100000 in
set_option maxHeartbeats 3200000 in
theorem enter_ok {w : World} {ad : Addr} {t : Tm} (h : PtrTm w ad t) (hd : t.ds.length ≤ 1000000) (hl : t.kids.length ≤ 1000000) :
    Calls Tryz.prog 62 #[.pointer (some ad)] w fun e w' => EntRet (entK t) e ∧ Below w.heap.size w w' := by
  cases ho : manyK t.kind with
  | some o => exact enter_some h hd hl ho
  | none =>
    obtain ⟨A, K, c, c', c0, -⟩ := ptr_cells h
    have HQ := Lib.hid (kidsOf_ok (w := w) (k := t.kind))
    rw [ho] at HQ
    have HQ : Hid (Calls Tryz.prog 74 #[.int .u8 t.kind] w fun e w' => e = .returned (.tuple #[.int .i64 0, .bool false]) ∧ w' = w) := HQ
    have HN := Lib.hid (need_no (w := w))
    have HB := Lib.hid (show entK t = false from by unfold entK; rw [ho]; rfl)
    clear h ho
    go_enter Tryz.func62, Tryz.ntmps62
    go_wp2_with fail
    refine HQ.out.mono ?_
    rintro e w1 ⟨rfl, rfl⟩
    go_wp2_with fail
    refine HN.out.mono ?_
    rintro e w2 ⟨rfl, rfl⟩
    go_wp2
    exact ⟨rfl, .inr ⟨HB.out, 23, by decide, rfl⟩, Below.refl _ _⟩
end Go.Proofs.YtlikpnaffpngiaaGreatDoor

namespace Go.Proofs.YtlikpnaffpngiaaGreatDoor
open Go.RowKit

theorem add_nought (p : Addr) : p.add 0 = p := by unfold Addr.add; simp
/-- Where the sorter reads: its datas and its scope. -/
structure SorterAt (w : World) (gs : Nat) (D : List DtT) (S : List (ByteArray × ByteArray)) : Prop where
  datas : ∃ v, w.cell? ⟨gs, 2, none⟩ = some v ∧ DatasV w v D
  scope : ∃ v, w.cell? ⟨gs, 3, none⟩ = some v ∧ ScopeV w v S
  few : DFew D
  fewS : S.length ≤ 1000000
theorem SorterAt.sub {w w' : World} {gs : Nat} {D : List DtT} {S : List (ByteArray × ByteArray)} (h : SorterAt w gs D S) (hb : Sub w w') : SorterAt w' gs D S := by
  obtain ⟨⟨v, h1, h2⟩, ⟨u, h3, h4⟩, h5, h6⟩ := h
  exact ⟨⟨v, hb _ _ h1, h2.sub hb⟩, ⟨u, hb _ _ h3, h4.sub hb⟩, h5, h6⟩
theorem lv_else {D : List DtT} {S : List (ByteArray × ByteArray)} {k : Int} {name : ByteArray} {kids : List ByteArray} (h1 : k ≠ 1) (h2 : ¬ (k = 2 ∨ k = 5 ∨ k = 6)) (h9 : k ≠ 9) (h8 : k ≠ 8) (h7 : k ≠ 7) : lvK D S k name kids = madeK sBool sBool kids := by
  unfold lvK
  rw [if_neg h1, if_neg h2, if_neg h9, if_neg h8, if_neg h7]
set_option maxRecDepth 100000 in
set_option maxHeartbeats 6400000 in
theorem leave_ok {w : World} {gs : Nat} {ad : Addr} {t : Tm} {K : Option Addr} {c : Nat} {kids : List ByteArray} {D : List DtT} {S : List (ByteArray × ByteArray)} (hs : SorterAt w gs D S) (h : PtrTm w ad t) (hr : Row w K (kids.map Value.string)) (hl : kids.length ≤ 1000000) (h78 : t.kind = 7 ∨ t.kind = 8 → kids ≠ []) :
    Calls Tryz.prog 63 #[.pointer (some ⟨gs, 0, none⟩), .pointer (some ad), .slice K kids.length c] w fun e w' => SortRet (lvK D S t.kind t.name kids) e ∧ Below w.heap.size w w' := by
  obtain ⟨A, K0, c0', c', c0, c1, -, -, -, -, -, -, -, hnm⟩ := ptr_cells h
  obtain ⟨kind, hkd⟩ : ∃ kind, kind = t.kind := ⟨_, rfl⟩
  obtain ⟨name, hname⟩ : ∃ name, name = t.name := ⟨_, rfl⟩
  obtain ⟨n, hn⟩ : ∃ n, n = kids.length := ⟨_, rfl⟩
  rw [← hkd] at c0 h78 ⊢
  rw [← hname] at c1 hnm ⊢
  rw [← hn]
  have HN := Lib.hid hn
  have HM := Lib.hid (fun (to frm : ByteArray) (W : World) (hW : Row W K (kids.map Value.string)) => by
    have := made_ok (w := W) (to := to) (frm := frm) (c := c) hW hl
    rw [← hn] at this
    exact this)
  have HR := Lib.hid hr
  have hn1 : n ≤ 1000000 := by omega
  obtain ⟨⟨vD, hg, hv⟩, ⟨vS, hs3, hS⟩, hf, hfS⟩ := hs
  clear hkd hname hn hl h
  by_cases h1 : kind = 1
  · subst h1
    have HE := Lib.hid (show lvK D S 1 name kids = varK D S name from by unfold lvK; rw [if_pos rfl])
    rw [HE.out]
    have HV := Lib.hid (variable_ok (x := name) hg hv hs3 hS hf.datas hfS)
    clear hg hv hs3 hS hf hfS hr
    go_enter Tryz.func63, Tryz.ntmps63
    go_wp2_with fail
    refine HV.out.mono ?_
    rintro e w1 ⟨⟨s, hs, rfl⟩ | ⟨hs, m, hm, rfl⟩, hb⟩
    · have HO := Lib.hid (show _ ∧ _ from ⟨hs, hb⟩)
      clear hs hb
      go_wp2
      go_returns
      exact ⟨.inl ⟨s, HO.out.1, rfl⟩, HO.out.2⟩
    · have HO := Lib.hid (show _ ∧ _ ∧ _ from ⟨hs, hm, hb⟩)
      clear hs hb hm
      go_wp2
      exact ⟨rfl, .inr ⟨HO.out.1, m, HO.out.2.1, rfl⟩, HO.out.2.2⟩
  have q1 : (kind == 1) = false := by rw [beq_eq_false_iff_ne]; exact h1
  by_cases h2 : kind = 2 ∨ kind = 5 ∨ kind = 6
  · have HE := Lib.hid (show lvK D S kind name kids = madeK sInt sInt kids from by unfold lvK; rw [if_neg h1, if_pos h2])
    rw [HE.out]
    have HV := Lib.hid (HM.out sInt sInt w hr)
    clear hg hv hs3 hS hf hfS hr
    rcases h2 with rfl | rfl | rfl
    all_goals go_enter Tryz.func63, Tryz.ntmps63
    all_goals go_wp2_with fail
    all_goals refine HV.out.mono ?_
    all_goals rintro e w1 ⟨rfl, ⟨s, hs, rfl⟩ | ⟨hs, m, hm, rfl⟩⟩
    all_goals have HO := Lib.hid hs
    all_goals clear hs
    all_goals try have HO2 := Lib.hid hm
    all_goals try clear hm
    all_goals go_wp2
    all_goals try go_returns
    all_goals first | exact ⟨.inl ⟨s, HO.out, rfl⟩, Below.refl _ _⟩ | exact ⟨rfl, .inr ⟨HO.out, m, HO2.out, rfl⟩, Below.refl _ _⟩
  have q2 : (kind == 2) = false := by rw [beq_eq_false_iff_ne]; omega
  have q5 : (kind == 5) = false := by rw [beq_eq_false_iff_ne]; omega
  have q6 : (kind == 6) = false := by rw [beq_eq_false_iff_ne]; omega
  by_cases h9 : kind = 9
  · subst h9
    have HE := Lib.hid (show lvK D S 9 name kids = madeK sBool sInt kids from by unfold lvK; rw [if_neg h1, if_neg h2, if_pos rfl])
    rw [HE.out]
    have HV := Lib.hid (HM.out sBool sInt w hr)
    clear hg hv hs3 hS hf hfS hr
    go_enter Tryz.func63, Tryz.ntmps63
    go_wp2_with fail
    refine HV.out.mono ?_
    rintro e w1 ⟨rfl, ⟨s, hs, rfl⟩ | ⟨hs, m, hm, rfl⟩⟩
    · have HO := Lib.hid hs
      clear hs
      go_wp2
      go_returns
      exact ⟨.inl ⟨s, HO.out, rfl⟩, Below.refl _ _⟩
    · have HO := Lib.hid (show _ ∧ _ from ⟨hs, hm⟩)
      clear hs hm
      go_wp2
      exact ⟨rfl, .inr ⟨HO.out.1, m, HO.out.2, rfl⟩, Below.refl _ _⟩
  have q9 : (kind == 9) = false := by rw [beq_eq_false_iff_ne]; exact h9
  by_cases h8 : kind = 8
  · subst h8
    obtain ⟨s0, rest, hk⟩ : ∃ s0 rest, kids = s0 :: rest := by
      cases kids with
      | nil => exact absurd rfl (h78 (.inr rfl))
      | cons s r => exact ⟨s, r, rfl⟩
    obtain ⟨ak, rfl, hc0⟩ := hr 0 (.string s0) (by rw [hk]; rfl)
    rw [add_nought] at hc0
    have i0 : (0 : Int) < n := by
      have := HN.out
      rw [hk, List.length_cons] at this
      omega
    have HE := Lib.hid (show lvK D S 8 name kids = if s0 = sBool then none else madeK sBool s0 kids from by
      unfold lvK; rw [if_neg h1, if_neg h2, if_neg h9, if_pos rfl, hk])
    have HV := Lib.hid (HM.out sBool s0 w hr)
    clear hg hv hs3 hS hf hfS hr hk h78
    by_cases hb : s0 = sBool
    · rw [HE.out, if_pos hb]
      have qb : (s0.toList == [98, 111, 111, 108]) = true := by rw [hb, bool_list]; rfl
      clear hb HV
      go_enter Tryz.func63, Tryz.ntmps63
      go_wp2_with fail
      refine need_no.mono ?_
      rintro e w1 ⟨rfl, rfl⟩
      go_wp2
      exact ⟨rfl, .inr ⟨rfl, 23, by decide, rfl⟩, Below.refl _ _⟩
    · rw [HE.out, if_neg hb]
      have qb : (s0.toList == [98, 111, 111, 108]) = false := by rw [← bool_list]; exact bytes_no hb
      clear hb HE
      go_enter Tryz.func63, Tryz.ntmps63
      go_wp2_with fail
      refine need_yes.mono ?_
      rintro e w1 ⟨rfl, rfl⟩
      go_wp2_with fail
      refine HV.out.mono ?_
      rintro e w1 ⟨rfl, ⟨s, hs, rfl⟩ | ⟨hs, m, hm, rfl⟩⟩
      · have HO := Lib.hid hs
        clear hs
        go_wp2
        go_returns
        exact ⟨.inl ⟨s, HO.out, rfl⟩, Below.refl _ _⟩
      · have HO := Lib.hid (show _ ∧ _ from ⟨hs, hm⟩)
        clear hs hm
        go_wp2
        exact ⟨rfl, .inr ⟨HO.out.1, m, HO.out.2, rfl⟩, Below.refl _ _⟩
  have q8 : (kind == 8) = false := by rw [beq_eq_false_iff_ne]; exact h8
  by_cases h7 : kind = 7
  · subst h7
    obtain ⟨s0, rest, hk⟩ : ∃ s0 rest, kids = s0 :: rest := by
      cases kids with
      | nil => exact absurd rfl (h78 (.inl rfl))
      | cons s r => exact ⟨s, r, rfl⟩
    obtain ⟨ak, rfl, hc0⟩ := hr 0 (.string s0) (by rw [hk]; rfl)
    rw [add_nought] at hc0
    have i0 : (0 : Int) < n := by
      have := HN.out
      rw [hk, List.length_cons] at this
      omega
    have HE := Lib.hid (show lvK D S 7 name kids = appK D name s0 from by
      unfold lvK; rw [if_neg h1, if_neg h2, if_neg h9, if_neg h8, if_pos rfl, hk])
    rw [HE.out]
    have HV := Lib.hid (fun W (hW : Below w.heap.size w W) => (applied_ok (w := W) (kid := s0) ((hW.cell (cell_lt hg)).trans hg) (hv.sub (sub_below hW)) hf hnm).mono fun e w' h => (show (_ ∨ _) ∧ Below w.heap.size w w' from ⟨Or.symm h.1, hW.trans (h.2.mono hW.size)⟩))
    have HKK := Lib.hid (fun w' (h : Below w.heap.size w w') => (show w'.cell? { block := ad.block, off := ad.off + 1 } = some (.string name) ∧ w'.cell? ak = some (.string s0) from ⟨(h.cell (cell_lt c1)).trans c1, (h.cell (cell_lt hc0)).trans hc0⟩))
    clear hg hv hs3 hS hf hfS hr hk h78
    go_enter Tryz.func63, Tryz.ntmps63
    go_wp2_with fail
    have i0n : 0 < n := by omega
    have i00 : (0 : Int) ≤ 0 := Int.le_refl _
    go_region_held2 (fun w' => w'.cell? { block := ad.block, off := ad.off + 1 } = some (.string name) ∧ w'.cell? ak = some (.string s0)) (first | exact HKK.out _ HO.out.2 | go_keep)
      ((go_at_call 79; refine (HV.out w.drew ((Below.refl w.heap.size w).drew)).mono ?_; rintro e w1 ⟨⟨hs, m, hm, rfl⟩ | ⟨s, hs, rfl⟩, hb⟩; exact ⟨rfl, Or.inr ⟨hs, m, hm, rfl⟩, hb⟩; have HO := Lib.hid (show _ ∧ _ from ⟨hs, hb⟩); clear hs hb))
    all_goals go_wp2
    all_goals go_returns
    all_goals exact ⟨.inl ⟨s, HO.out.1, rfl⟩, HO.out.2⟩
  have q7 : (kind == 7) = false := by rw [beq_eq_false_iff_ne]; exact h7
  have HE := Lib.hid (lv_else (D := D) (S := S) (name := name) (kids := kids) h1 h2 h9 h8 h7)
  rw [HE.out]
  have HV := Lib.hid (HM.out sBool sBool w hr)
  clear hg hv hs3 hS hf hfS hr h1 h2 h9 h8 h7
  go_enter Tryz.func63, Tryz.ntmps63
  go_wp2_with fail
  refine HV.out.mono ?_
  rintro e w1 ⟨rfl, ⟨s, hs, rfl⟩ | ⟨hs, m, hm, rfl⟩⟩
  · have HO := Lib.hid hs
    clear hs
    go_wp2
    go_returns
    exact ⟨.inl ⟨s, HO.out, rfl⟩, Below.refl _ _⟩
  · have HO := Lib.hid (show _ ∧ _ from ⟨hs, hm⟩)
    clear hs hm
    go_wp2
    exact ⟨rfl, .inr ⟨HO.out.1, m, HO.out.2, rfl⟩, Below.refl _ _⟩
end Go.Proofs.YtlikpnaffpngiaaGreatDoor

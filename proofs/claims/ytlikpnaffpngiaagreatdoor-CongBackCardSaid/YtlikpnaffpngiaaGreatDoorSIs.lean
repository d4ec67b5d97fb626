/- Package term's cutField. Condition: of the name's size. Package term's constructor and Function, of any datas. Condition: at most 1000000 of each. Package term's isData, isSort, over any datas. No condition but of sizes. -/
import Derived.Test.YtlikpnaffpngiaaGreatDoorSWords
set_option linter.unusedVariables false
set_option linter.unusedSimpArgs false
namespace Go.Proofs.YtlikpnaffpngiaaGreatDoor
open Go.RowKit

set_option maxRecDepth 100000 in
set_option maxHeartbeats 3200000 in
theorem cutField_ok {w : World} {s : ByteArray} (hs : s.size ≤ 140737488355328) :
    Calls Tryz.prog 108 #[.string s] w fun e w' => ((∃ c i, cutK s = some (c, i) ∧ e = .returned (.tuple #[.string c, .int .i64 (i : Int), .bool true])) ∨ (cutK s = none ∧ e = .returned (.tuple #[.string ⟨#[]⟩, .int .i64 0, .bool false]))) ∧ Drawn w w' := by
  rcases Nat.lt_or_ge s.size 2 with h2 | h2
  · have HK := Lib.hid (show cutK s = none from by unfold cutK; rw [if_neg]; omega)
    have i1 : (s.size : Int) - 2 < 0 := by omega
    have i2 : (s.size : Int) ≤ 140737488355328 := by omega
    have i3 : 0 ≤ (s.size : Int) := by omega
    go_enter Tryz.func108, Tryz.ntmps108
    go_wp2
    go_returns
    exact ⟨.inr ⟨HK.out, rfl⟩, Drawn.refl _⟩
  · have i1 : 0 ≤ (s.size : Int) - 2 := by omega
    have i2 : (s.size : Int) ≤ 140737488355328 := by omega
    have i3 : 0 ≤ (s.size : Int) := by omega
    have i4 : (s.size : Int) - 2 < (s.size : Int) := by omega
    have i5 : 0 ≤ (s.size : Int) - 2 + 1 := by omega
    have i6 : (s.size : Int) - 2 + 1 < (s.size : Int) := by omega
    have i7 : s.size - 2 < s.size := by omega
    have i8 : s.size - 2 + 1 < s.size := by omega
    have i9 : ((s.size : Int) - 2).toNat = s.size - 2 := by omega
    have hb0 : byteK s (s.size - 2) = (s[s.size - 2]).toNat := by unfold byteK; rw [dif_pos i7]
    have hb1 : byteK s (s.size - 1) = (s[s.size - 2 + 1]).toNat := by
      have e : s.size - 1 = s.size - 2 + 1 := by omega
      unfold byteK; rw [dif_pos (by omega)]
      congr 2
    have HK := Lib.hid (show cutK s = if (s[s.size - 2]).toNat = 46 ∧ 48 ≤ (s[s.size - 2 + 1]).toNat ∧ (s[s.size - 2 + 1]).toNat ≤ 57 then some (s.extract 0 (s.size - 2), (s[s.size - 2 + 1]).toNat - 48) else none from by
      unfold cutK
      rw [hb0, hb1]
      by_cases hc : (s[s.size - 2]).toNat = 46 ∧ 48 ≤ (s[s.size - 2 + 1]).toNat ∧ (s[s.size - 2 + 1]).toNat ≤ 57
      · rw [if_pos hc, if_pos ⟨h2, hc⟩]
      · rw [if_neg hc, if_neg fun h => hc h.2])
    clear hb0 hb1
    by_cases q1 : ((s[s.size - 2]).toNat : Int) = 46
    · by_cases q2 : (48 : Int) ≤ ((s[s.size - 2 + 1]).toNat : Int)
      · by_cases q3 : ((s[s.size - 2 + 1]).toNat : Int) ≤ 57
        · have HE := Lib.hid (show cutK s = some (s.extract 0 (s.size - 2), (s[s.size - 2 + 1]).toNat - 48) from by rw [HK.out, if_pos ⟨by omega, by omega, by omega⟩])
          have HD := Lib.hid (show (((s[s.size - 2 + 1]).toNat - 48 : Nat) : Int) = ((s[s.size - 2 + 1]).toNat : Int) - 48 from by omega)
          clear HK
          go_enter Tryz.func108, Tryz.ntmps108
          go_wp2
          go_quiet (fail)
          go_wp2
          go_returns
          exact ⟨.inl ⟨_, _, HE.out, by rw [HD.out]; rfl⟩, (Drawn.refl _).more nq⟩
        · have HE := Lib.hid (show cutK s = none from by rw [HK.out, if_neg]; omega)
          clear HK
          have q3 : (57 : Int) < ((s[s.size - 2 + 1]).toNat : Int) := by omega
          go_enter Tryz.func108, Tryz.ntmps108
          go_wp2
          all_goals go_returns
          all_goals exact ⟨.inr ⟨HE.out, rfl⟩, Drawn.refl _⟩
      · have HE := Lib.hid (show cutK s = none from by rw [HK.out, if_neg]; omega)
        clear HK
        have q2 : ((s[s.size - 2 + 1]).toNat : Int) < 48 := by omega
        go_enter Tryz.func108, Tryz.ntmps108
        go_wp2
        all_goals go_returns
        all_goals exact ⟨.inr ⟨HE.out, rfl⟩, Drawn.refl _⟩
    · have HE := Lib.hid (show cutK s = none from by rw [HK.out, if_neg]; omega)
      clear HK
      go_enter Tryz.func108, Tryz.ntmps108
      go_wp2
      all_goals go_returns
      all_goals exact ⟨.inr ⟨HE.out, rfl⟩, Drawn.refl _⟩
end Go.Proofs.YtlikpnaffpngiaaGreatDoor

namespace Go.Proofs.YtlikpnaffpngiaaGreatDoor
open Go.RowKit

theorem below_sub {a b : World} (h : Below a.heap.size a b) : Sub a b := sub_below h
theorem cell_newK {W : World} {cs : Array Value} {T : TypeId} {i : Nat} {u : Value} (h : cs[i]? = some u) : (W.alloc (.cells cs T)).cell? ⟨W.heap.size, i, none⟩ = some u := by
  unfold World.cell?
  rw [heap_alloc_new]
  exact h
theorem conK_step {D : List DtT} {c : ByteArray} {k : Nat} {d : DtT} (hd : D[k]? = some d) (h : conK D c = conK (D.drop k) c) (hn : (d.cons.find? fun x => decide (x.name = c)) = none) : conK D c = conK (D.drop (k + 1)) c := by
  rw [h]
  have hk := (List.getElem?_eq_some_iff.1 hd).1
  rw [List.drop_eq_getElem_cons hk, (List.getElem?_eq_some_iff.1 hd).2]
  simp only [conK, hn]
/-- Datas and names are few. -/
structure DFew (D : List DtT) : Prop where
  datas : D.length ≤ 1000000
  cons : ∀ d ∈ D, d.cons.length ≤ 1000000
def ConRet (D : List DtT) (c : ByteArray) (e : Ending) (w' : World) : Prop := (∃ d f u, conK D c = some (d, f) ∧ e = .returned (.tuple #[.string d, u, .bool true]) ∧ StrsV w' u f) ∨ (conK D c = none ∧ e = .returned (.tuple #[.string ⟨#[]⟩, .slice none 0 0, .bool false]))
set_option maxRecDepth 100000 in
set_option maxHeartbeats 3200000 in
theorem constructor_ok {w : World} {v : Value} {D : List DtT} {c : ByteArray} (hv : DatasV w v D) (hf : DFew D) :
    Calls Tryz.prog 109 #[v, .string c] w fun e w' => ConRet D c e w' ∧ Below w.heap.size w w' := by
  obtain ⟨K, cap, rfl, hr⟩ := hv
  obtain ⟨n, hn⟩ : ∃ n, n = D.length := ⟨_, rfl⟩
  rw [← hn]
  have hn1 : n ≤ 1000000 := by have := hf.datas; omega
  have HD := Lib.hid (show _ ∧ _ ∧ _ from ⟨hr, hf, hn⟩)
  clear hr hf hn
  go_enter Tryz.func109, Tryz.ntmps109
  go_wp2
  go_loopw [13] (fun a wr => ∃ k : Nat, k ≤ n ∧ a = .int .i64 (k : Int) ∧ Hid (Below w.heap.size w wr ∧ conK D c = conK (D.drop k) c)) (fun a _ => n - (intOf a).toNat)
  case atStart => exact ⟨0, Nat.zero_le _, rfl, Lib.hid ⟨Below.refl _ _, rfl⟩⟩
  case round =>
    obtain ⟨k, hk, rfl, HI⟩ := hrel
    rcases Nat.lt_or_ge k n with hlt | hge
    · have hi1 : (k : Int) < n := by omega
      have hi0 : 0 ≤ (k : Int) := by omega
      obtain ⟨hr, hf, hn⟩ := HD.out
      obtain ⟨x, hx⟩ : ∃ x, D[k]? = some x := ⟨_, List.getElem?_eq_getElem (by omega)⟩
      obtain ⟨ad, u, rfl, h0, h1, hC⟩ := hr k x hx
      obtain ⟨C, cc, rfl, hcr⟩ := hC
      have hb := HI.out.1
      have g0 : wr.cell? (ad.add (k * 2)) = some (.string x.name) := (hb.cell (cell_lt h0)).trans h0
      have g1 : wr.cell? { block := (ad.add (k * 2)).block, off := (ad.add (k * 2)).off + 1 } = some (.slice C x.cons.length cc) := by
        rw [add_posK _ (by decide)] at h1
        exact (hb.cell (cell_lt h1)).trans h1
      obtain ⟨m, hm⟩ : ∃ m, m = x.cons.length := ⟨_, rfl⟩
      rw [← hm] at g1
      have hm1 : m ≤ 1000000 := by have := hf.cons x (List.mem_of_getElem? hx); omega
      obtain ⟨W1, hW1⟩ : ∃ W1, W1 = wr.alloc (.cells #[.string x.name, .slice C m cc] 68) := ⟨_, rfl⟩
      have HB : Below wr.heap.size wr W1 := by rw [hW1]; exact (Below.refl _ _).alloc (Nat.le_refl _) _
      have b0 : W1.cell? ⟨wr.heap.size, 0, none⟩ = some (.string x.name) := by rw [hW1]; exact cell_newK rfl
      have b1 : W1.cell? ⟨wr.heap.size, 1, none⟩ = some (.slice C m cc) := by rw [hW1]; exact cell_newK rfl
      have b1' : (wr.alloc (.cells #[.string x.name, .slice C m cc] 68)).cell? ⟨wr.heap.size, 1, none⟩ = some (.slice C m cc) := by rw [← hW1]; exact b1
      have HF := Lib.hid (show _ ∧ _ ∧ _ ∧ _ ∧ _ ∧ _ from ⟨hcr, hb.trans (HB.mono hb.size), b0, b1, hm, hx⟩)
      have hwl : wr.heap.size < W1.heap.size := by rw [hW1]; simp
      clear h0 h1 hcr hr hf hn hb b0 b1 hm hx HB
      go_wp2
      rw [← hW1]
      clear b1' hW1 g0 g1
      go_loopw [20] (fun a W => ∃ j : Nat, j ≤ m ∧ a = .int .i64 (j : Int) ∧ Hid (Below W1.heap.size W1 W ∧ ((x.cons.take j).find? fun y => decide (y.name = c)) = none)) (fun a _ => m - (intOf a).toNat)
      case atStart => exact ⟨0, Nat.zero_le _, rfl, Lib.hid ⟨Below.refl _ _, rfl⟩⟩
      case round =>
        obtain ⟨j, hj, rfl, HJ⟩ := hrel
        rcases Nat.lt_or_ge j m with hlt2 | hge2
        · have hj1 : (j : Int) < m := by omega
          have hj0 : 0 ≤ (j : Int) := by omega
          obtain ⟨hcr, hb0, b0, b1, hm, hx⟩ := HF.out
          obtain ⟨y, hy⟩ : ∃ y, x.cons[j]? = some y := ⟨_, List.getElem?_eq_getElem (by omega)⟩
          obtain ⟨ac, uf, rfl, y0, y1, hS⟩ := hcr j y hy
          have hb := HJ.out.1
          have hbw : Below w.heap.size w wr := hb0.trans (hb.mono hb0.size)
          have z0 : wr.cell? (ac.add (j * 2)) = some (.string y.name) := (hbw.cell (cell_lt y0)).trans y0
          have z1 : wr.cell? { block := (ac.add (j * 2)).block, off := (ac.add (j * 2)).off + 1 } = some uf := by
            rw [add_posK _ (by decide)] at y1
            exact (hbw.cell (cell_lt y1)).trans y1
          have v0 := (hb.cell (cell_lt b0)).trans b0
          have HS := Lib.hid (show _ ∧ _ ∧ _ from ⟨hS.sub (sub_below hbw), hbw, hy⟩)
          clear hcr hb0 b0 b1 y0 y1 hS hbw hy hb hm hx
          obtain ⟨F, cf, rfl, -⟩ := HS.out.1
          obtain ⟨lf, hlf⟩ : ∃ lf, lf = y.fields.length := ⟨_, rfl⟩
          rw [← hlf] at z1
          have HL := Lib.hid hlf
          clear hlf
          have c0 : (wr.alloc (.cells #[.string y.name, .slice F lf cf] 65)).cell? ⟨wr.heap.size, 0, none⟩ = some (.string y.name) := cell_newK rfl
          by_cases hc : y.name = c
          · have c1 : (wr.alloc (.cells #[.string y.name, .slice F lf cf] 65)).cell? ⟨wr.heap.size, 1, none⟩ = some (.slice F lf cf) := cell_newK rfl
            have c2 := (Below.cell ((Below.refl wr.heap.size wr).alloc (Nat.le_refl _) (.cells #[.string y.name, .slice F lf cf] 65)) (cell_lt v0)).trans v0
            have HE := Lib.hid (show conK D c = some (x.name, y.fields) from by
              rw [HI.out.2]
              have hx := HF.out.2.2.2.2.2
              have hkk := (List.getElem?_eq_some_iff.1 hx).1
              rw [List.drop_eq_getElem_cons hkk, (List.getElem?_eq_some_iff.1 hx).2]
              have hfi : (x.cons.find? fun z => decide (z.name = c)) = some y := by
                have hjj := (List.getElem?_eq_some_iff.1 HS.out.2.2).1
                rw [← List.take_append_drop j x.cons, List.find?_append, HJ.out.2, List.drop_eq_getElem_cons hjj, (List.getElem?_eq_some_iff.1 HS.out.2.2).2]
                simp [hc]
              simp only [conK, hfi])
            have HSV := Lib.hid (show StrsV wr (.slice F lf cf) y.fields from by rw [HL.out]; exact HS.out.1)
            have hcb : (y.name.toList == c.toList) = true := by rw [hc]; exact beq_self_eq_true _
            clear hc
            go_wp2
            go_quiet (fail)
            go_wp2
            go_returns
            refine ⟨.inl ⟨x.name, y.fields, _, HE.out, rfl, HSV.out.sub (Sub.trans (sub_below ((Below.refl _ _).alloc (Nat.le_refl _) _)) (sub_below (below_drewN (Below.refl _ _) nq)))⟩, below_drewN (HS.out.2.1.alloc HS.out.2.1.size _) nq⟩
          · have hcb := bytes_no hc
            have HN := Lib.hid (show ((x.cons.take (j + 1)).find? fun z => decide (z.name = c)) = none from by
              have hjj := (List.getElem?_eq_some_iff.1 HS.out.2.2).1
              rw [List.take_add_one, HS.out.2.2, List.find?_append, HJ.out.2]
              simp [hc])
            clear hc v0
            go_wp2
            go_roundw
            case rel => exact ⟨j + 1, by omega, by go_num, Lib.hid ⟨HJ.out.1.alloc HJ.out.1.size _, HN.out⟩⟩
            case measure => simp [intOf]; omega
        · have ej : j = m := by omega
          subst ej
          have HN := Lib.hid (show conK D c = conK (D.drop (k + 1)) c from conK_step HF.out.2.2.2.2.2 HI.out.2 (by
            have h := HJ.out.2
            rw [HF.out.2.2.2.2.1, List.take_length] at h
            exact h))
          have HBB := Lib.hid (show Below w.heap.size w wr from HF.out.2.1.trans (HJ.out.1.mono HF.out.2.1.size))
          clear HI HJ HF
          go_wp2
          go_roundw
          case rel => exact ⟨k + 1, by omega, by go_num, Lib.hid ⟨HBB.out, HN.out⟩⟩
          case measure => simp [intOf]; omega
    · have ek : k = n := by omega
      subst ek
      have HN := Lib.hid (show conK D c = none ∧ Below w.heap.size w wr from ⟨by
        rw [HI.out.2, HD.out.2.2, List.drop_length]; rfl, HI.out.1⟩)
      clear HI
      go_wp2
      go_returns
      exact ⟨.inr ⟨HN.out.1, rfl⟩, HN.out.2⟩
def FunRet (D : List DtT) (name : ByteArray) (e : Ending) : Prop := (∃ a b, funK D name = some (a, b) ∧ e = .returned (.tuple #[.string a, .string b, .bool true])) ∨ (funK D name = none ∧ e = .returned (.tuple #[.string ⟨#[]⟩, .string ⟨#[]⟩, .bool false]))
set_option maxRecDepth 100000 in
set_option maxHeartbeats 3200000 in
theorem funAny_ok {w : World} {v : Value} {D : List DtT} {name : ByteArray} (hv : DatasV w v D) (hf : DFew D) (hs : name.size ≤ 140737488355328) :
    Calls Tryz.prog 93 #[v, .string name] w fun e w' => FunRet D name e ∧ Below w.heap.size w w' := by
  have HV := Lib.hid hv
  obtain ⟨K, cap, rfl, -⟩ := hv
  by_cases ht : name = sTag
  · have HE := Lib.hid (show funK D name = some (⟨#[]⟩, sInt) from by unfold funK; rw [if_pos ht])
    have htb : (name.toList == [116, 97, 103]) = true := by
      rw [show ([116, 97, 103] : List UInt8) = sTag.toList from by rw [ByteArray.toList_eq]; rfl, ht]
      exact beq_self_eq_true _
    clear ht hs hf
    go_enter Tryz.func93, Tryz.ntmps93
    go_wp2
    go_returns
    exact ⟨.inl ⟨_, _, HE.out, rfl⟩, Below.refl _ _⟩
  · have htb : (name.toList == [116, 97, 103]) = false := by
      rw [show ([116, 97, 103] : List UInt8) = sTag.toList from by rw [ByteArray.toList_eq]; rfl]
      exact bytes_no ht
    have HT := Lib.hid ht
    have HC := Lib.hid (cutField_ok (w := w) hs)
    have HF := Lib.hid hf
    clear ht hf hs
    go_enter Tryz.func93, Tryz.ntmps93
    go_wp2_with fail
    refine HC.out.mono ?_
    rintro e w1 ⟨⟨c, i, hc, rfl⟩ | ⟨hc, rfl⟩, hd1⟩
    · have HC1 := Lib.hid hc
      have HB1 := Lib.hid hd1.low
      clear hc hd1
      go_wp2_with fail
      refine (constructor_ok (c := c) (HV.out.sub (sub_below HB1.out)) HF.out).mono ?_
      rintro e w2 ⟨⟨d, f, u, hk, rfl, hS⟩ | ⟨hk, rfl⟩, hb2⟩
      · obtain ⟨F, cf, rfl, hr⟩ := hS
        have HK := Lib.hid hk
        have HB2 := Lib.hid (bstep HB1.out hb2)
        obtain ⟨m, hm⟩ : ∃ m, m = f.length := ⟨_, rfl⟩
        rw [← hm]
        rcases Nat.lt_or_ge i m with hlt | hge
        · obtain ⟨ad, rfl, hx⟩ := hr i (.string f[i]) (by rw [List.getElem?_map, List.getElem?_eq_getElem (by omega)]; rfl)
          obtain ⟨x, hx2⟩ : ∃ x, x = f[i] := ⟨_, rfl⟩
          rw [← hx2] at hx
          have HE := Lib.hid (show funK D name = some (d, x) from by
            unfold funK
            rw [if_neg HT.out, HC1.out]
            simp only [HK.out]
            rw [List.getElem?_eq_getElem (by omega : i < f.length), hx2])
          have i1 : (i : Int) < m := by omega
          have i0 : 0 ≤ (i : Int) := by omega
          have HM := Lib.hid hm
          clear hk hb2 hr hx2 hm
          go_wp2
          go_quiet (fail)
          go_wp2
          go_returns
          exact ⟨.inl ⟨_, _, HE.out, rfl⟩, below_drewN HB2.out nq⟩
        · have HE := Lib.hid (show funK D name = none from by
            unfold funK
            rw [if_neg HT.out, HC1.out]
            simp only [HK.out]
            rw [List.getElem?_eq_none (by omega)])
          have i1 : (m : Int) ≤ i := by omega
          clear hk hb2 hr hm
          go_wp2
          go_returns
          exact ⟨.inr ⟨HE.out, rfl⟩, HB2.out⟩
      · have HE := Lib.hid (show funK D name = none from by
          unfold funK
          rw [if_neg HT.out, HC1.out]
          simp only [hk])
        have HB2 := Lib.hid (bstep HB1.out hb2)
        clear hk hb2
        go_wp2
        go_returns
        exact ⟨.inr ⟨HE.out, rfl⟩, HB2.out⟩
    · have HE := Lib.hid (show funK D name = none from by
        unfold funK
        rw [if_neg HT.out, hc])
      have HB1 := Lib.hid hd1.low
      clear hc hd1
      go_wp2
      go_returns
      exact ⟨.inr ⟨HE.out, rfl⟩, HB1.out⟩
end Go.Proofs.YtlikpnaffpngiaaGreatDoor

namespace Go.Proofs.YtlikpnaffpngiaaGreatDoor
open Go.RowKit

set_option maxRecDepth 100000 in
set_option maxHeartbeats 3200000 in
theorem isData1_ok {w : World} {b : Nat} {name s : ByteArray} {u : Value} (hu : u.oneCell' = true) (hb : w.cell? ⟨b, 0, none⟩ = some (.string name)) :
    Calls Tryz.prog 111 #[.agg #[.string s, u], .pointer (some ⟨b, 0, none⟩)] w fun e w' => e = .returned (.bool (decide (s = name))) ∧ Below w.heap.size w w' := by
  have hbl := cell_lt hb
  have h2 : (w.alloc (.cells #[.string s, u] 68)).cell? ⟨b, 0, none⟩ = some (.string name) := (Below.cell ((Below.refl _ _).alloc (Nat.le_refl _) _) hbl).trans hb
  have h3 : (w.alloc (.cells #[.string s, u] 68)).cell? ⟨w.heap.size, 0, none⟩ = some (.string s) := cell_newK rfl
  by_cases hs : s = name
  · have hsb : (s.toList == name.toList) = true := by rw [hs]; exact beq_self_eq_true _
    have HE := Lib.hid (show decide (s = name) = true from decide_eq_true hs)
    rw [HE.out]
    clear hs hbl hb
    go_enter Tryz.func111, Tryz.ntmps111
    go_wp2
    go_returns
    exact ⟨rfl, (Below.refl _ _).alloc (Nat.le_refl _) _⟩
  · have hsb := bytes_no hs
    have HE := Lib.hid (show decide (s = name) = false from decide_eq_false hs)
    rw [HE.out]
    clear hs hbl hb
    go_enter Tryz.func111, Tryz.ntmps111
    go_wp2
    go_returns
    exact ⟨rfl, (Below.refl _ _).alloc (Nat.le_refl _) _⟩
def IdxRet (D : List DtT) (name : ByteArray) (e : Ending) : Prop := ∃ r : Int, e = .returned (.int .i64 r) ∧ (decide (0 ≤ r)) = (D.any fun d => decide (d.name = name))
set_option maxRecDepth 100000 in
set_option maxHeartbeats 3200000 in
theorem indexFunc_ok {w : World} {v : Value} {D : List DtT} {b : Nat} {name : ByteArray} (hv : DatasV w v D) (hf : D.length ≤ 1000000) (hb : w.cell? ⟨b, 0, none⟩ = some (.string name)) :
    Calls Tryz.prog 121 #[v, .func (.func 111) #[] #[.pointer (some ⟨b, 0, none⟩)] ] w fun e w' => IdxRet D name e ∧ Below w.heap.size w w' := by
  obtain ⟨K, cap, rfl, hr⟩ := hv
  obtain ⟨n, hn⟩ : ∃ n, n = D.length := ⟨_, rfl⟩
  rw [← hn]
  have hn1 : n ≤ 1000000 := by omega
  have HD := Lib.hid (show _ ∧ _ ∧ _ from ⟨hr, hb, hn⟩)
  have hen : ∀ (args : Array Value) (w : World), (callFunc 111 args).run Tryz.prog w = .ok (.enter 111 args) w := run_enters (by kernel_rfl)
  clear hr hf hn hb
  go_enter Tryz.func121, Tryz.ntmps121
  go_wp2
  go_loopw [8] (fun a wr => ∃ k : Nat, k ≤ n ∧ a = .int .i64 (k : Int) ∧ Hid (Below w.heap.size w wr ∧ ((D.take k).any fun d => decide (d.name = name)) = false)) (fun a _ => n - (intOf a).toNat)
  case atStart => exact ⟨0, Nat.zero_le _, rfl, Lib.hid ⟨Below.refl _ _, rfl⟩⟩
  case round =>
    obtain ⟨k, hk, rfl, HI⟩ := hrel
    rcases Nat.lt_or_ge k n with hlt | hge
    · have hi1 : (k : Int) < n := by omega
      have hi0 : 0 ≤ (k : Int) := by omega
      obtain ⟨hr, hcb, hn⟩ := HD.out
      obtain ⟨x, hx⟩ : ∃ x, D[k]? = some x := ⟨_, List.getElem?_eq_getElem (by omega)⟩
      obtain ⟨ad, u, rfl, h0, h1, hC⟩ := hr k x hx
      obtain ⟨C, cc, rfl, -⟩ := hC
      have hb := HI.out.1
      have g0 : wr.cell? (ad.add (k * 2)) = some (.string x.name) := (hb.cell (cell_lt h0)).trans h0
      have g1 : wr.cell? { block := (ad.add (k * 2)).block, off := (ad.add (k * 2)).off + 1 } = some (.slice C x.cons.length cc) := by
        rw [add_posK _ (by decide)] at h1
        exact (hb.cell (cell_lt h1)).trans h1
      have HC := Lib.hid (isData1_ok (w := wr) (b := b) (s := x.name) (u := .slice C x.cons.length cc) rfl ((hb.cell (cell_lt hcb)).trans hcb))
      have HX := Lib.hid (show _ ∧ _ from ⟨hx, hn⟩)
      clear h0 h1 hr hb hcb hx hn
      by_cases hs : x.name = name
      · have e : decide (x.name = name) = true := decide_eq_true hs
        rw [e] at HC
        have HE := Lib.hid (show (D.any fun d => decide (d.name = name)) = true from List.any_eq_true.2 ⟨x, List.mem_of_getElem? HX.out.1, e⟩)
        clear e hs
        go_wp2_with fail
        refine HC.out.mono ?_
        rintro e w1 ⟨rfl, hb1⟩
        have HB1 := Lib.hid (HI.out.1.trans (hb1.mono HI.out.1.size))
        clear hb1
        go_wp2
        go_returns
        exact ⟨⟨_, rfl, by rw [HE.out]; exact decide_eq_true hi0⟩, HB1.out⟩
      · have e : decide (x.name = name) = false := decide_eq_false hs
        rw [e] at HC
        have HE := Lib.hid (show ((D.take (k + 1)).any fun d => decide (d.name = name)) = false from by
          rw [List.take_add_one, HX.out.1, List.any_append, HI.out.2]
          simp [hs])
        clear e hs
        go_wp2_with fail
        refine HC.out.mono ?_
        rintro e w1 ⟨rfl, hb1⟩
        have HB1 := Lib.hid (HI.out.1.trans (hb1.mono HI.out.1.size))
        clear hb1
        go_wp2
        go_roundw
        case rel => exact ⟨k + 1, by omega, by go_num, Lib.hid ⟨HB1.out, HE.out⟩⟩
        case measure => simp [intOf]; omega
    · have ek : k = n := by omega
      subst ek
      have HE := Lib.hid (show (D.any fun d => decide (d.name = name)) = false from by
        have h := HI.out.2
        rw [HD.out.2.2, List.take_length] at h
        exact h)
      have HB := Lib.hid HI.out.1
      clear HI
      go_wp2
      go_returns
      exact ⟨⟨-1, rfl, by rw [HE.out]; rfl⟩, HB.out⟩
set_option maxRecDepth 100000 in
set_option maxHeartbeats 3200000 in
theorem isData_ok {w : World} {gs : Nat} {v : Value} {D : List DtT} {name : ByteArray} (hg : w.cell? ⟨gs, 2, none⟩ = some v) (hv : DatasV w v D) (hf : D.length ≤ 1000000) :
    Calls Tryz.prog 94 #[.pointer (some ⟨gs, 0, none⟩), .string name] w fun e w' => e = .returned (.bool (isDataK D name)) ∧ Below w.heap.size w w' := by
  have hmf : ∀ (fn : Fn) (first cap : Array Value) (w : World), (Instr.makeFunc fn first cap).run Tryz.prog w = .ok (.func fn first cap) w := fun _ _ _ _ => rfl
  have h3 : (w.alloc (.cells #[.string name] 9)).cell? ⟨w.heap.size, 0, none⟩ = some (.string name) := cell_newK rfl
  have h2 : (w.alloc (.cells #[.string name] 9)).cell? ⟨gs, 2, none⟩ = some v := (Below.cell ((Below.refl _ _).alloc (Nat.le_refl _) _) (cell_lt hg)).trans hg
  have hb : Below w.heap.size w (w.alloc (.cells #[.string name] 9)) := (Below.refl _ _).alloc (Nat.le_refl _) _
  by_cases hi : name = sInt ∨ name = sBool
  · have HE := Lib.hid (show isDataK D name = false from by
      unfold isDataK
      rcases hi with h | h
      · rw [decide_eq_false (not_not_intro h)]; rfl
      · rw [decide_eq_false (p := name ≠ sBool) (not_not_intro h), Bool.and_false]; rfl)
    rw [HE.out]
    have HB := Lib.hid hb
    have hq : (name.toList == [105, 110, 116]) = true ∨ ((name.toList == [105, 110, 116]) = false ∧ (name.toList == [98, 111, 111, 108]) = true) := by
      rw [show ([105, 110, 116] : List UInt8) = sInt.toList from by rw [ByteArray.toList_eq]; rfl, show ([98, 111, 111, 108] : List UInt8) = sBool.toList from by rw [ByteArray.toList_eq]; rfl]
      rcases hi with h | h
      · rw [h]; exact .inl (beq_self_eq_true _)
      · rw [h]; exact .inr ⟨bytes_no (by decide), beq_self_eq_true _⟩
    clear hi hb hv hg
    rcases hq with q | ⟨q, q2⟩
    all_goals go_enter Tryz.func94, Tryz.ntmps94
    all_goals go_wp2
    all_goals go_returns
    all_goals exact ⟨rfl, HB.out⟩
  · have hq1 : (name.toList == [105, 110, 116]) = false := by
      rw [show ([105, 110, 116] : List UInt8) = sInt.toList from by rw [ByteArray.toList_eq]; rfl]
      exact bytes_no fun h => hi (.inl h)
    have hq2 : (name.toList == [98, 111, 111, 108]) = false := by
      rw [show ([98, 111, 111, 108] : List UInt8) = sBool.toList from by rw [ByteArray.toList_eq]; rfl]
      exact bytes_no fun h => hi (.inr h)
    have HE := Lib.hid (show isDataK D name = D.any fun d => decide (d.name = name) from by
      unfold isDataK
      rw [decide_eq_true (p := name ≠ sInt) fun h => hi (.inl h), decide_eq_true (p := name ≠ sBool) fun h => hi (.inr h)]; rfl)
    rw [HE.out]
    obtain ⟨rb, hrb⟩ : ∃ rb, rb = D.any fun d => decide (d.name = name) := ⟨_, rfl⟩
    rw [← hrb]
    have HRB := Lib.hid hrb
    have HC := Lib.hid (indexFunc_ok (b := w.heap.size) (name := name) (hv.sub (sub_below hb)) hf h3)
    have HB := Lib.hid hb
    clear hi hb hv hg hrb
    go_enter Tryz.func94, Tryz.ntmps94
    go_wp2_with (first | (go_at_call 110; go_in) | fail)
    refine HC.out.mono ?_
    rintro e w1 ⟨⟨r, rfl, hr⟩, hb1⟩
    obtain rfl := hr.trans HRB.out.symm
    clear hr
    have HB1 := Lib.hid (HB.out.trans (hb1.mono HB.out.size))
    clear hb1
    go_wp2
    go_returns
    exact ⟨rfl, HB1.out⟩
theorem int_list : sInt.toList = [105, 110, 116] := by rw [ByteArray.toList_eq]; rfl
theorem bool_list : sBool.toList = [98, 111, 111, 108] := by rw [ByteArray.toList_eq]; rfl
theorem tag_list : sTag.toList = [116, 97, 103] := by rw [ByteArray.toList_eq]; rfl
set_option maxRecDepth 100000 in
set_option maxHeartbeats 3200000 in
theorem isSort_ok {w : World} {gs : Nat} {v : Value} {D : List DtT} {name : ByteArray} (hg : w.cell? ⟨gs, 2, none⟩ = some v) (hv : DatasV w v D) (hf : D.length ≤ 1000000) :
    Calls Tryz.prog 92 #[.pointer (some ⟨gs, 0, none⟩), .string name] w fun e w' => e = .returned (.bool (isSortK D name)) ∧ Below w.heap.size w w' := by
  have HC := Lib.hid (isData_ok (name := name) hg hv hf)
  clear hv hf hg
  by_cases h1 : name = sInt
  · have HE := Lib.hid (show isSortK D name = true from by unfold isSortK; rw [decide_eq_true h1]; rfl)
    rw [HE.out]
    have q1 : (name.toList == [105, 110, 116]) = true := by rw [h1, int_list]; rfl
    clear h1
    go_enter Tryz.func92, Tryz.ntmps92
    go_wp2
    go_returns
    exact ⟨rfl, Below.refl _ _⟩
  · have q1 : (name.toList == [105, 110, 116]) = false := by rw [← int_list]; exact bytes_no h1
    by_cases h2 : name = sBool
    · have HE := Lib.hid (show isSortK D name = true from by unfold isSortK; rw [decide_eq_true h2, Bool.or_true]; rfl)
      rw [HE.out]
      have q2 : (name.toList == [98, 111, 111, 108]) = true := by rw [h2, bool_list]; rfl
      clear h1 h2
      go_enter Tryz.func92, Tryz.ntmps92
      go_wp2
      go_returns
      exact ⟨rfl, Below.refl _ _⟩
    · have q2 : (name.toList == [98, 111, 111, 108]) = false := by rw [← bool_list]; exact bytes_no h2
      have HE := Lib.hid (show isSortK D name = isDataK D name from by unfold isSortK; rw [decide_eq_false h1, decide_eq_false h2]; rfl)
      rw [HE.out]
      obtain ⟨rb, hrb⟩ : ∃ rb, rb = isDataK D name := ⟨_, rfl⟩
      rw [← hrb]
      rw [← hrb] at HC
      clear h1 h2 hrb
      go_enter Tryz.func92, Tryz.ntmps92
      go_wp2_with (go_at_call 94; refine HC.out.mono ?_; rintro e w1 ⟨rfl, hb1⟩; have HB1 := Lib.hid hb1; clear hb1)
      go_wp2
      go_returns
      exact ⟨rfl, HB1.out⟩
set_option maxRecDepth 100000 in
set_option maxHeartbeats 3200000 in
theorem applied_ok {w : World} {gs : Nat} {v : Value} {D : List DtT} {name kid : ByteArray} (hg : w.cell? ⟨gs, 2, none⟩ = some v) (hv : DatasV w v D) (hf : DFew D) (hs : name.size ≤ 140737488355328) :
    Calls Tryz.prog 79 #[.pointer (some ⟨gs, 0, none⟩), .string name, .string kid] w fun e w' => SortRet (appK D name kid) e ∧ Below w.heap.size w w' := by
  have HF := Lib.hid (funAny_ok (name := name) hv hf hs)
  have HD := Lib.hid (show ∀ W nm, Below w.heap.size w W → Calls Tryz.prog 94 #[.pointer (some ⟨gs, 0, none⟩), .string nm] W fun e w' => e = .returned (.bool (isDataK D nm)) ∧ Below W.heap.size W w' from fun W nm hW => isData_ok ((hW.cell (cell_lt hg)).trans hg) (hv.sub (sub_below hW)) hf.datas)
  have HS := Lib.hid (show ∀ W nm, Below w.heap.size w W → Calls Tryz.prog 92 #[.pointer (some ⟨gs, 0, none⟩), .string nm] W fun e w' => e = .returned (.bool (isSortK D nm)) ∧ Below W.heap.size W w' from fun W nm hW => isSort_ok ((hW.cell (cell_lt hg)).trans hg) (hv.sub (sub_below hW)) hf.datas)
  clear hv hf hs
  obtain ⟨tb, htb⟩ : ∃ tb, tb = decide (name = sTag) := ⟨_, rfl⟩
  have hq : (name.toList == [116, 97, 103]) = tb := by
    rw [htb, ← tag_list]
    by_cases h : name = sTag
    · rw [decide_eq_true h, h]; exact beq_self_eq_true _
    · rw [decide_eq_false h]; exact bytes_no h
  have HT := Lib.hid htb
  clear htb
  go_enter Tryz.func79, Tryz.ntmps79
  go_wp2_with fail
  refine HF.out.mono ?_
  rintro e w1 ⟨⟨d, s, hfu, rfl⟩ | ⟨hfu, rfl⟩, hb1⟩
  · have HFU := Lib.hid hfu
    have HB1 := Lib.hid hb1
    clear hfu hb1
    have hcd : (kid.toList == d.toList) = decide (kid = d) := by
      by_cases h : kid = d
      · rw [decide_eq_true h, h]; exact beq_self_eq_true _
      · rw [decide_eq_false h]; exact bytes_no h
    have HA := Lib.hid (show appK D name kid = if isDataK D kid && isSortK D s && (tb || decide (kid = d)) then some s else none from by
      unfold appK
      rw [HFU.out, HT.out])
    obtain ⟨b3, hb3⟩ : ∃ b3, b3 = decide (kid = d) := ⟨_, rfl⟩
    rw [← hb3] at hcd HA
    clear hb3
    have HDk := Lib.hid (HD.out w1 kid HB1.out)
    have HSk := Lib.hid (fun W (hW : Below w.heap.size w W) => HS.out W s hW)
    obtain ⟨b1, hd1⟩ : ∃ b1, b1 = isDataK D kid := ⟨_, rfl⟩
    obtain ⟨b2, hd2⟩ : ∃ b2, b2 = isSortK D s := ⟨_, rfl⟩
    rw [← hd1] at HDk HA
    rw [← hd2] at HSk HA
    clear hd1 hd2 HD HS
    cases b1 with
    | false =>
      go_wp2_with (go_at_call 94; refine HDk.out.mono ?_; rintro e w2 ⟨rfl, hb2⟩; have HB2 := Lib.hid (bstep HB1.out hb2); clear hb2)
      refine need_no.mono ?_
      rintro e w3 ⟨rfl, rfl⟩
      go_wp2
      exact ⟨rfl, .inr ⟨HA.out, 23, by decide, rfl⟩, HB2.out⟩
    | true =>
      cases b2 with
      | false =>
        go_wp2_with (first | (go_at_call 94; refine HDk.out.mono ?_; rintro e w2 ⟨rfl, hb2⟩; have HB2 := Lib.hid (bstep HB1.out hb2); clear hb2) | (go_at_call 92; refine (HSk.out _ HB2.out).mono ?_; rintro e w3 ⟨rfl, hb3⟩; have HB3 := Lib.hid (bstep HB2.out hb3); clear hb3))
        refine need_no.mono ?_
        rintro e w4 ⟨rfl, rfl⟩
        go_wp2
        exact ⟨rfl, .inr ⟨HA.out, 23, by decide, rfl⟩, HB3.out⟩
      | true =>
        go_wp2_with (first | (go_at_call 94; refine HDk.out.mono ?_; rintro e w2 ⟨rfl, hb2⟩; have HB2 := Lib.hid (bstep HB1.out hb2); clear hb2) | (go_at_call 92; refine (HSk.out _ HB2.out).mono ?_; rintro e w3 ⟨rfl, hb3⟩; have HB3 := Lib.hid (bstep HB2.out hb3); clear hb3))
        refine need_yes.mono ?_
        rintro e w4 ⟨rfl, rfl⟩
        cases tb with
        | true =>
          go_wp2_with fail
          refine need_yes.mono ?_
          rintro e w5 ⟨rfl, rfl⟩
          go_wp2
          go_returns
          exact ⟨.inl ⟨s, HA.out, rfl⟩, HB3.out⟩
        | false =>
          cases b3 with
          | true =>
            go_wp2_with fail
            refine need_yes.mono ?_
            rintro e w5 ⟨rfl, rfl⟩
            go_wp2
            go_returns
            exact ⟨.inl ⟨s, HA.out, rfl⟩, HB3.out⟩
          | false =>
            go_wp2_with fail
            refine need_no.mono ?_
            rintro e w5 ⟨rfl, rfl⟩
            go_wp2
            exact ⟨rfl, .inr ⟨HA.out, 23, by decide, rfl⟩, HB3.out⟩
  · have HA := Lib.hid (show appK D name kid = none from by unfold appK; rw [hfu])
    have HB1 := Lib.hid hb1
    clear hfu hb1
    go_wp2_with fail
    refine need_no.mono ?_
    rintro e w3 ⟨rfl, rfl⟩
    go_wp2
    exact ⟨rfl, .inr ⟨HA.out, 23, by decide, rfl⟩, HB1.out⟩
end Go.Proofs.YtlikpnaffpngiaaGreatDoor
